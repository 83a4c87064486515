package lexer_test

import (
	"math"
	"slices"
	"strings"
	"testing"

	"shipyard/api"
	"shipyard/lexer"
)

// checkPrint checks that Print returns this text, and leaves its argument as it is.
func checkPrint(t *testing.T, want string, l ...api.Lexeme) {
	t.Helper()
	before := slices.Clone(l)
	if s := lexer.Print(l); s != want {
		t.Errorf("Print(%s) is %.80q, not %.80q", brief(l), s, want)
	}
	if !slices.Equal(l, before) {
		t.Errorf("Print has changed %s", brief(before))
	}
}

func TestPrint(t *testing.T) {
	checkPrint(t, `x = "a"`, name("x", 0), mark("=", 1), str("a", 3), end(6))
	checkPrint(t, "a1 -> 5 ;", name("a1", 0), mark("->", 3), number(5, 6), mark(";", 7), end(8))
	checkPrint(t, "")
	checkPrint(t, "", end(0))
	checkPrint(t, "a", name("a", 0))
	checkPrint(t, "- > -", mark("-", 9), mark(">", 3), mark("-", -1))
	if s := lexer.Print([]api.Lexeme{}); s != "" {
		t.Errorf("Print of no lexemes is %q", s)
	}
}

func TestPrintNumbers(t *testing.T) {
	for n, want := range map[int]string{
		0: "0", 1: "1", 9: "9", 10: "10", 99: "99", 100: "100", 101: "101", 1234567890: "1234567890", api.MaxNumber: "1099511627776", api.MaxNumber + 1: "1099511627777",
		-1: "-1", -9: "-9", -10: "-10", -11: "-11", -100: "-100", -1234567890: "-1234567890",
		math.MaxInt: "9223372036854775807", -math.MaxInt: "-9223372036854775807", math.MinInt: "-9223372036854775808",
	} {
		checkPrint(t, want, api.Lexeme{Kind: api.LxNumber, N: n})
		// The Text of a number does not matter.
		checkPrint(t, "- "+want+" a", mark("-", 0), api.Lexeme{Kind: api.LxNumber, Text: "007", N: n}, name("a", 0))
	}
}

// The number of a name, a string or a mark does not matter, and neither does it whether a name is one.
func TestPrintAnyTexts(t *testing.T) {
	for _, s := range []string{"", " ", "a b", "?", "007", "\"", "\n", "\xff", "# a", "nnnnnnnnnnnnnnnnn"} {
		for _, kind := range []int{api.LxName, api.LxMark} {
			x := api.Lexeme{Kind: kind, Text: s, N: 5, At: 7}
			checkPrint(t, s, x)
			checkPrint(t, s+" "+s+" a", x, x, name("a", 0))
			checkPrint(t, "a "+s, name("a", 0), x)
		}
	}
	checkPrint(t, `"" "a" "\""`, str("", 0), api.Lexeme{Kind: api.LxString, Text: "a", N: 3}, str(`"`, 0))
}

func TestPrintLeavesOut(t *testing.T) {
	a, b := name("a", 0), name("b", 2)
	for _, x := range []api.Lexeme{
		{}, {Kind: api.LxEnd, Text: "x", N: 1, At: 1}, {Kind: -1, Text: "x", N: 1}, {Kind: 5, Text: "x", N: 1}, {Kind: 6, Text: ";"}, {Kind: math.MaxInt, Text: "x"}, {Kind: math.MinInt, Text: "x"},
		{Kind: 256 + api.LxName, Text: "x"}, str("\t", 0), str("a\r", 0), str("\x00", 0), str("\x1fa", 0), str("\x7f", 0), str("a\xff", 0), str("\u00e9", 0),
	} {
		checkPrint(t, "", x)
		checkPrint(t, "", x, x)
		checkPrint(t, "a", x, a)
		checkPrint(t, "a", a, x)
		checkPrint(t, "a b", a, x, b)
		checkPrint(t, "a b", x, x, a, x, x, b, x)
	}
}

func TestPrintOfMany(t *testing.T) {
	l := make([]api.Lexeme, 1<<17)
	for i := range l {
		l[i] = mark(";", 0)
	}
	if s := lexer.Print(l); s != strings.Repeat("; ", len(l)-1)+";" {
		t.Errorf("Print of %d marks has %d bytes", len(l), len(s))
	}
}

func TestQuote(t *testing.T) {
	for s, want := range map[string]string{
		"": `""`, "a": `"a"`, " ": `" "`, "~": `"~"`, `"`: `"\""`, `\`: `"\\"`, "\n": `"\n"`, "\\n": `"\\n"`, "a\"b\\c\nd": `"a\"b\\c\nd"`, `""`: `"\"\""`, "# a": `"# a"`, "n": `"n"`,
		"n23456789012345678": `"n23456789012345678"`, strings.Repeat("\n", 1<<17): `"` + strings.Repeat(`\n`, 1<<17) + `"`,
	} {
		if out, e := lexer.Quote(s); out != want || e != api.OK {
			t.Errorf("Quote(%.80q) is %.80q, %v", s, out, e)
		}
	}
	for _, s := range []string{"\x00", "\t", "\r", "\v", "\x1f", "\x7f", "\x80", "\xff", "\u00e9", "\u2028", "\u010a", "\U0001f600", "a\x1f", "\x1fa", "a\xffb", "\"\\\n\r", "\n\t"} {
		if out, e := lexer.Quote(s); out != "" || e != api.ErrSyntax {
			t.Errorf("Quote(%q) is %q, %v", s, out, e)
		}
	}
}

// Quote and Scan are inverse, for all strings of one and two bytes.
func TestQuoteAndScan(t *testing.T) {
	for c := range 256 {
		for d := range 257 {
			s := string([]byte{byte(c), byte(d)}[:min(2, 257-d)])
			bad := func(r byte) bool { return r != '\n' && (r < 32 || r > 126) }
			out, e := lexer.Quote(s)
			if slices.ContainsFunc([]byte(s), bad) {
				if out != "" || e != api.ErrSyntax {
					t.Fatalf("Quote(%q) is %q, %v", s, out, e)
				}
				continue
			}
			if e != api.OK {
				t.Fatalf("Quote(%q) is %v", s, e)
			}
			checkScan(t, out, list(str(s, 0), end(len(out))))
		}
	}
}
