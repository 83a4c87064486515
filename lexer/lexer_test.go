package lexer_test

import (
	"fmt"
	"math/rand"
	"regexp"
	"slices"
	"strconv"
	"strings"
	"testing"

	"shipyard/api"
	"shipyard/lexer"
)

// These are the lexemes of the chapter, but that a name may take the hyphen of an arrow.
var (
	gapForm    = regexp.MustCompile(`^(?:[ \t\n\r]|#[^\n]*)*`)
	nameForm   = regexp.MustCompile(`^[A-Za-z][A-Za-z0-9_-]*`)
	numberForm = regexp.MustCompile(`^[0-9]+`)
	stringForm = regexp.MustCompile(`^"(?:[ !#-\[\]-~]|\\["\\n])*`)
	markForm   = regexp.MustCompile(`^(?:->|[{}()\[\],;:=+\-*/.])`)
)

// marks are all marks.
func marks() []string {
	return []string{"->", "{", "}", "(", ")", "[", "]", ",", ";", ":", "=", "+", "-", "*", "/", "."}
}

// referenceScan is the definition of Scan by regular expressions.
func referenceScan(s string) (l []api.Lexeme, e api.Errno, at int) {
	if len(s) > api.MaxText {
		return nil, api.ErrLong, api.MaxText
	}
	for {
		at += len(gapForm.FindString(s[at:]))
		if at == len(s) {
			return append(l, api.Lexeme{At: at}), api.OK, 0
		}
		x, size, e, bad := referenceLexeme(s[at:])
		if e != api.OK {
			return nil, e, at + bad
		}
		x.At = at
		l = append(l, x)
		at += size
	}
}

// referenceLexeme returns the lexeme at the beginning of s and its length, or an error and its offset.
func referenceLexeme(s string) (x api.Lexeme, size int, e api.Errno, bad int) {
	if name := nameForm.FindString(s); name != "" {
		if strings.HasSuffix(name, "-") && strings.HasPrefix(s[len(name):], ">") {
			name = name[:len(name)-1]
		}
		if len(name) > 16 {
			return x, 0, api.ErrName, 0
		}
		return api.Lexeme{Kind: api.LxName, Text: name}, len(name), api.OK, 0
	}
	if number := numberForm.FindString(s); number != "" {
		if len(number) > 1 && number[0] == '0' {
			return x, 0, api.ErrSyntax, 0
		}
		n, err := strconv.Atoi(number)
		if err != nil || n > 1<<40 {
			return x, 0, api.ErrRange, 0
		}
		return api.Lexeme{Kind: api.LxNumber, Text: number, N: n}, len(number), api.OK, 0
	}
	if str := stringForm.FindString(s); str != "" {
		if !strings.HasPrefix(s[len(str):], `"`) {
			return x, 0, api.ErrSyntax, len(str)
		}
		text := strings.NewReplacer(`\"`, `"`, `\\`, `\`, `\n`, "\n").Replace(str[1:])
		return api.Lexeme{Kind: api.LxString, Text: text}, len(str) + 1, api.OK, 0
	}
	if mark := markForm.FindString(s); mark != "" {
		return api.Lexeme{Kind: api.LxMark, Text: mark}, len(mark), api.OK, 0
	}
	return x, 0, api.ErrSyntax, 0
}

// name, number, str, mark and end are lexemes.
func name(text string, at int) api.Lexeme {
	return api.Lexeme{Kind: api.LxName, Text: text, At: at}
}

func number(n, at int) api.Lexeme {
	return api.Lexeme{Kind: api.LxNumber, Text: strconv.Itoa(n), N: n, At: at}
}

func str(text string, at int) api.Lexeme {
	return api.Lexeme{Kind: api.LxString, Text: text, At: at}
}

func mark(text string, at int) api.Lexeme {
	return api.Lexeme{Kind: api.LxMark, Text: text, At: at}
}

func end(at int) api.Lexeme {
	return api.Lexeme{Kind: api.LxEnd, At: at}
}

// list returns a list of lexemes.
func list(l ...api.Lexeme) []api.Lexeme {
	return l
}

// texts returns many texts, with and without errors: all short ones, and longer ones of pieces chosen at random.
func texts() []string {
	l := short([]string{"a", "-", ">", "0", "7", "\"", "\\", "n", "#", "\n", " ", "\xe9"}, 4)
	random := rand.New(rand.NewSource(7))
	for range 20000 {
		l = append(l, randomText(random))
	}
	return l
}

// short returns all texts of at most n characters of an alphabet.
func short(alphabet []string, n int) []string {
	l := []string{""}
	begin := 0
	for range n {
		level := l[begin:]
		begin = len(l)
		for _, s := range level {
			for _, c := range alphabet {
				l = append(l, s+c)
			}
		}
	}
	return l
}

// randomText returns a text of pieces, which seldom has an error.
func randomText(random *rand.Rand) string {
	pieces := append(marks(), "a", "B12", "p-1_x", "z-", "Q--", "k->", "nnnnnnnnnnnnnnnn", "0", "7", "12a", "40 ", "1099511627776 ",
		`""`, `"x y"`, `"\"\\\n"`, `"# ~"`, `" \\"`, " ", "\t", "\n", "\r", "\r\n", "# remark \xff \"\n", "#\n", " ", "\n")
	wrong := []string{"?", "_", ">", "!", "\x00", "\x7f", "\u00e9", "\xff", `"`, `"a`, `"\x"`, "\"\n\"", "\\", "00", "007", "1099511627777", "n23456789012345678", "#"}
	var b strings.Builder
	for range random.Intn(12) {
		if random.Intn(60) == 0 {
			b.WriteString(wrong[random.Intn(len(wrong))])
		}
		b.WriteString(pieces[random.Intn(len(pieces))])
	}
	return b.String()
}

// brief returns the beginning of the text of a value.
func brief(x any) string {
	return fmt.Sprintf("%.200s", fmt.Sprint(x))
}

// checkScan checks that Scan returns these lexemes.
func checkScan(t *testing.T, s string, want []api.Lexeme) {
	t.Helper()
	if l, e, at := lexer.Scan(s); !slices.Equal(l, want) || e != api.OK || at != 0 {
		t.Fatalf("Scan(%.80q) is %s, %v, %d, not %s", s, brief(l), e, at, brief(want))
	}
}

// checkRefused checks that Scan returns this error.
func checkRefused(t *testing.T, s string, want api.Errno, offset int) {
	t.Helper()
	if l, e, at := lexer.Scan(s); len(l) != 0 || e != want || at != offset {
		t.Fatalf("Scan(%.80q) is %s, %v, %d, not %v, %d", s, brief(l), e, at, want, offset)
	}
}

func TestScan(t *testing.T) {
	checkScan(t, "a1 -> 5;", list(name("a1", 0), mark("->", 3), number(5, 6), mark(";", 7), end(8)))
	checkScan(t, `x= "a"`, list(name("x", 0), mark("=", 1), str("a", 3), end(6)))
	checkScan(t, "B12.p-1_x:{[(\t-7*2)/3,+y];}", list(name("B12", 0), mark(".", 3), name("p-1_x", 4), mark(":", 9), mark("{", 10), mark("[", 11), mark("(", 12),
		mark("-", 14), number(7, 15), mark("*", 16), number(2, 17), mark(")", 18), mark("/", 19), number(3, 20), mark(",", 21), mark("+", 22), name("y", 23), mark("]", 24), mark(";", 25), mark("}", 26), end(27)))
}

func TestScanOfGapsAlone(t *testing.T) {
	for _, s := range []string{"", " ", "\t", "\n", "\r", " \t\r\n ", "#", "# remark", "# remark\n", "##", "#\n#", "#\n\n", " # a\r\n\t# b ", "# \x00\x7f\xff\u00e9 \"a ? 007 \\ #", "#\r?", "# a -> 5;\n "} {
		checkScan(t, s, list(end(len(s))))
	}
	for _, c := range []string{"\v", "\f", "\x00", "\b", "\x1f", "\u00a0", "\u0085", "\u2028"} {
		checkRefused(t, " "+c, api.ErrSyntax, 1)
	}
	// A carriage return does not end a remark, a line feed does.
	checkScan(t, "# a\rb\nc", list(name("c", 6), end(7)))
	checkScan(t, "a# b\n# c\nd#", list(name("a", 0), name("d", 9), end(11)))
	checkRefused(t, "# ?\n?", api.ErrSyntax, 4)
}

func TestScanNames(t *testing.T) {
	for _, s := range []string{"a", "z", "A", "Z", "a0", "a9", "aA", "aZ", "az", "a_", "a__", "a-", "a--", "a-b", "a--b", "a-_-1", "p-1_x", "n234567890123456", "n-------------6-", "true", "nil"} {
		checkScan(t, s, list(name(s, 0), end(len(s))))
		checkScan(t, " "+s+";", list(name(s, 1), mark(";", len(s)+1), end(len(s)+2)))
	}
	checkScan(t, "a-b->c", list(name("a-b", 0), mark("->", 3), name("c", 5), end(6)))
	checkScan(t, "a->b", list(name("a", 0), mark("->", 1), name("b", 3), end(4)))
	checkScan(t, "a-->b", list(name("a-", 0), mark("->", 2), name("b", 4), end(5)))
	checkScan(t, "a--->", list(name("a--", 0), mark("->", 3), end(5)))
	checkRefused(t, "a- >b", api.ErrSyntax, 3)
	checkRefused(t, "a>b", api.ErrSyntax, 1)
	checkRefused(t, "a_>", api.ErrSyntax, 2)
	checkScan(t, "a ->b", list(name("a", 0), mark("->", 2), name("b", 4), end(5)))
	checkScan(t, "a -b", list(name("a", 0), mark("-", 2), name("b", 3), end(4)))
	checkScan(t, "a.b c", list(name("a", 0), mark(".", 1), name("b", 2), name("c", 4), end(5)))
}

func TestScanLongNames(t *testing.T) {
	const most = "n23456789012345-" // 16 bytes
	checkScan(t, most, list(name(most, 0), end(16)))
	checkScan(t, most+" "+most, list(name(most, 0), name(most, 17), end(33)))
	// The hyphen of an arrow does not count.
	checkScan(t, most+"->", list(name(most, 0), mark("->", 16), end(18)))
	for _, c := range []string{"a", "Z", "0", "_", "-", "-a", "-->", strings.Repeat("n", 1000)} {
		checkRefused(t, most+c, api.ErrName, 0)
		checkRefused(t, "x, "+most+c+"->?", api.ErrName, 3)
	}
	checkRefused(t, strings.Repeat("a", api.MaxText), api.ErrName, 0)
}

func TestScanNumbers(t *testing.T) {
	for _, n := range []int{0, 1, 7, 9, 10, 42, 100, 1234567890, api.MaxNumber - 1, api.MaxNumber} {
		s := strconv.Itoa(n)
		checkScan(t, s, list(number(n, 0), end(len(s))))
		checkScan(t, " -"+s+".", list(mark("-", 1), number(n, 2), mark(".", len(s)+2), end(len(s)+3)))
	}
	checkScan(t, "12a", list(number(12, 0), name("a", 2), end(3)))
	checkScan(t, "0a", list(number(0, 0), name("a", 1), end(2)))
	checkScan(t, "0 0", list(number(0, 0), number(0, 2), end(3)))
	checkScan(t, "1->2", list(number(1, 0), mark("->", 1), number(2, 3), end(4)))
	for _, s := range []string{"00", "007", "01", "000", "00000000000000000000000", "01099511627777", "0" + strings.Repeat("9", 1000)} {
		checkRefused(t, s, api.ErrSyntax, 0)
		checkRefused(t, "a "+s+"?", api.ErrSyntax, 2)
	}
	for _, s := range []string{"1099511627777", "1099511627780", "1099511627786", "2000000000000", "9999999999999", "10995116277760", "9223372036854775807", "9223372036854775808",
		"18446744073709551616", "18446744073709551617", "36893488147419103233", "340282366920938463463374607431768211457", strings.Repeat("1", api.MaxText-2)} {
		checkRefused(t, s, api.ErrRange, 0)
		checkRefused(t, "a "+s, api.ErrRange, 2)
	}
	checkRefused(t, "1_", api.ErrSyntax, 1)
	checkRefused(t, "\u0661", api.ErrSyntax, 0)
}

func TestScanStrings(t *testing.T) {
	for s, text := range map[string]string{
		`""`: "", `"a"`: "a", `" "`: " ", `"~"`: "~", `"!#[]"`: "!#[]", `"\""`: `"`, `"\\"`: `\`, `"\n"`: "\n", `"\"\\\n"`: "\"\\\n", `"\\n"`: `\n`, `"a\"b"`: `a"b`,
		`"# no remark"`: "# no remark", `"a -> 5;"`: "a -> 5;", `"?"`: "?", `"n"`: "n", `"  "`: "  ", `"n2345678901234567"`: "n2345678901234567", `"007"`: "007",
	} {
		checkScan(t, s, list(str(text, 0), end(len(s))))
		checkScan(t, "a "+s+"#", list(name("a", 0), str(text, 2), end(len(s)+3)))
		checkScan(t, s+s, list(str(text, 0), str(text, len(s)), end(2*len(s))))
	}
	long := strings.Repeat("x", api.MaxText-2)
	checkScan(t, `"`+long+`"`, list(str(long, 0), end(api.MaxText)))
}

// Each byte in a string stands for itself or is refused, except for the quotation mark and the backslash.
func TestScanStringsOfEachByte(t *testing.T) {
	for c := range 256 {
		b := string([]byte{byte(c)})
		if c == '"' || c == '\\' {
			continue
		}
		if c >= 32 && c <= 126 {
			checkScan(t, `"x`+b+`y"`, list(str("x"+b+"y", 0), end(5)))
		} else {
			checkRefused(t, `"x`+b+`y"`, api.ErrSyntax, 2)
			checkRefused(t, `; "`+b, api.ErrSyntax, 3)
		}
	}
}

// A backslash begins a character only before three bytes.
func TestScanBackslashes(t *testing.T) {
	for c := range 256 {
		s := `;"x\` + string([]byte{byte(c)}) + `y"`
		switch c {
		case '"':
			checkRefused(t, s[:5], api.ErrSyntax, 5)
			checkScan(t, s, list(mark(";", 0), str(`x"y`, 1), end(7)))
		case '\\':
			checkScan(t, s, list(mark(";", 0), str(`x\y`, 1), end(7)))
		case 'n':
			checkScan(t, s, list(mark(";", 0), str("x\ny", 1), end(7)))
		default:
			checkRefused(t, s, api.ErrSyntax, 3)
		}
	}
	checkRefused(t, `"a\x"`, api.ErrSyntax, 2)
	checkRefused(t, `"\`, api.ErrSyntax, 1)
	checkRefused(t, `"a\`, api.ErrSyntax, 2)
	checkRefused(t, `"\\\`, api.ErrSyntax, 3)
	checkRefused(t, `\`, api.ErrSyntax, 0)
	checkRefused(t, `a\n`, api.ErrSyntax, 1)
}

func TestScanStringsWithoutEnd(t *testing.T) {
	for _, s := range []string{`"`, `"a`, `"\"`, `"\n`, `"\\`, `a"`, `"""`, `"a"b"`, `"# remark`, `"` + strings.Repeat("x", api.MaxText-1)} {
		checkRefused(t, s, api.ErrSyntax, len(s))
	}
	checkRefused(t, "\"a\n", api.ErrSyntax, 2)
	checkRefused(t, "\"a\n\"", api.ErrSyntax, 2)
	checkRefused(t, "\"\r\n\"", api.ErrSyntax, 1)
	checkRefused(t, "\"a\tb\"", api.ErrSyntax, 2)
}

// Each byte that begins no lexeme is refused, wherever it stands.
func TestScanEachByte(t *testing.T) {
	for c := range 256 {
		b := string([]byte{byte(c)})
		_, _, want, _ := referenceLexeme(b)
		if gapForm.FindString(b) != "" || b == `"` || want == api.OK {
			continue
		}
		checkRefused(t, b, api.ErrSyntax, 0)
		checkRefused(t, "a "+b, api.ErrSyntax, 2)
		checkRefused(t, "->"+b, api.ErrSyntax, 2)
		checkRefused(t, "# a\n\"\""+b+"7", api.ErrSyntax, 6)
	}
	for _, s := range []string{"_", ">", "?", "!", "<", "@", "$", "%", "&", "'", "\\", "^", "`", "|", "~", "\x00", "\x7f", "\x80", "\xff", "\u00e9", "\u0141", "\u212a", "\u037e"} {
		checkRefused(t, s, api.ErrSyntax, 0)
		checkRefused(t, ";"+s, api.ErrSyntax, 1)
	}
	checkRefused(t, "a ?", api.ErrSyntax, 2)
}

func TestScanMarks(t *testing.T) {
	for _, m := range marks() {
		checkScan(t, m, list(mark(m, 0), end(len(m))))
		checkScan(t, m+" "+m, list(mark(m, 0), mark(m, len(m)+1), end(2*len(m)+1)))
		for _, next := range marks() {
			if m+next != "->" {
				checkScan(t, m+next, list(mark(m, 0), mark(next, len(m)), end(len(m)+len(next))))
			}
		}
	}
	checkScan(t, "-->", list(mark("-", 0), mark("->", 1), end(3)))
	checkScan(t, "->-", list(mark("->", 0), mark("-", 2), end(3)))
	checkScan(t, "--", list(mark("-", 0), mark("-", 1), end(2)))
	checkScan(t, "->->", list(mark("->", 0), mark("->", 2), end(4)))
	checkScan(t, "-1-a-", list(mark("-", 0), number(1, 1), mark("-", 2), name("a-", 3), end(5)))
	checkRefused(t, "- >", api.ErrSyntax, 2)
	checkRefused(t, "->>", api.ErrSyntax, 2)
	checkRefused(t, "=>", api.ErrSyntax, 1)
	checkRefused(t, "-#\n>", api.ErrSyntax, 3)
}

// The first error of the text is returned, whichever kinds of errors follow.
func TestScanFirstError(t *testing.T) {
	errors := []struct {
		s  string
		e  api.Errno
		at int
	}{
		{"n2345678901234567", api.ErrName, 0},
		{"007", api.ErrSyntax, 0},
		{"1099511627777", api.ErrRange, 0},
		{`"ab\x"`, api.ErrSyntax, 3},
		{"\"\n\"", api.ErrSyntax, 1},
		{`"\" \?"`, api.ErrSyntax, 4},
		{"?", api.ErrSyntax, 0},
		{"\xff", api.ErrSyntax, 0},
	}
	for _, first := range errors {
		for _, next := range errors {
			checkRefused(t, first.s+" "+next.s, first.e, first.at)
			checkRefused(t, "a = 1 # ?\n"+first.s+" ; "+next.s, first.e, first.at+10)
			checkRefused(t, first.s+" "+next.s+` "`, first.e, first.at)
		}
	}
}

func TestScanLongTexts(t *testing.T) {
	for _, c := range []string{" ", "\n", "#", ";", "a ", "7 ", "{}", `""`, "->", "a;#\n", "n23456789012345\n"} {
		s := strings.Repeat(c, api.MaxText/len(c))
		want, e, _ := referenceScan(s)
		if len(s) != api.MaxText || e != api.OK {
			t.Fatalf("%.20q has %d bytes, %v", s, len(s), e)
		}
		checkScan(t, s, want)
		checkRefused(t, s+" ", api.ErrLong, api.MaxText)
		checkRefused(t, "?"+s, api.ErrLong, api.MaxText)
		checkRefused(t, s+s, api.ErrLong, api.MaxText)
	}
	// The error of the length comes before all others.
	for _, c := range []string{"?", "\"", "\xff", "0", "9", "n"} {
		checkRefused(t, strings.Repeat(c, api.MaxText+1), api.ErrLong, api.MaxText)
		checkRefused(t, strings.Repeat(c, 1<<20), api.ErrLong, api.MaxText)
	}
	checkRefused(t, strings.Repeat(" ", api.MaxText-1)+"?", api.ErrSyntax, api.MaxText-1)
	checkRefused(t, strings.Repeat(" ", api.MaxText-1)+`"`, api.ErrSyntax, api.MaxText)
}

func TestScanIsReference(t *testing.T) {
	for _, s := range texts() {
		want, e, offset := referenceScan(s)
		if e == api.OK {
			checkScan(t, s, want)
		} else {
			checkRefused(t, s, e, offset)
		}
	}
}

// Two calls share no memory.
func TestScanIsNew(t *testing.T) {
	const s = `a = "x"`
	first, _, _ := lexer.Scan(s)
	second, _, _ := lexer.Scan(s)
	for i := range first {
		first[i] = api.Lexeme{Kind: 9, Text: "changed", N: 1, At: -1}
	}
	checkScan(t, s, second)
}

func TestIsMark(t *testing.T) {
	for _, s := range marks() {
		if !lexer.IsMark(s) {
			t.Errorf("IsMark(%q) is false", s)
		}
		for c := range 256 {
			b := string([]byte{byte(c)})
			if s+b != "->" && lexer.IsMark(s+b) {
				t.Errorf("IsMark(%q) is true", s+b)
			}
			if b+s != "->" && lexer.IsMark(b+s) {
				t.Errorf("IsMark(%q) is true", b+s)
			}
		}
	}
	for c := range 256 {
		b := string([]byte{byte(c)})
		if lexer.IsMark(b) != slices.Contains(marks(), b) {
			t.Errorf("IsMark(%q) is %v", b, lexer.IsMark(b))
		}
	}
	for _, s := range []string{"", " ", "->->", "- >", "-->", "->-", " ->", "-> ", ">-", "=>", "==", "()", "a", "7", `""`, "#", "{a", "\u2192", strings.Repeat("-", 1<<20)} {
		if lexer.IsMark(s) {
			t.Errorf("IsMark(%.80q) is true", s)
		}
	}
}
