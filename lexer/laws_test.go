package lexer_test

import (
	"math/rand"
	"slices"
	"strings"
	"testing"

	"shipyard/api"
	"shipyard/lexer"
)

// shifted returns lexemes whose offsets are greater by n.
func shifted(l []api.Lexeme, n int) []api.Lexeme {
	l = slices.Clone(l)
	for i := range l {
		l[i].At += n
	}
	return l
}

// withoutOffsets returns lexemes at no offset.
func withoutOffsets(l []api.Lexeme) []api.Lexeme {
	l = slices.Clone(l)
	for i := range l {
		l[i].At = 0
	}
	return l
}

// accepted returns the texts that Scan accepts.
func accepted(t *testing.T) (l []string) {
	for _, s := range texts() {
		if _, e, _ := lexer.Scan(s); e == api.OK {
			l = append(l, s)
		}
	}
	if len(l) < 10000 {
		t.Fatalf("only %d texts are accepted", len(l))
	}
	return l
}

func TestScanOfPrint(t *testing.T) {
	l := append(accepted(t), strings.Repeat(";", api.MaxText/2), strings.Repeat(";", api.MaxText/2+1), strings.Repeat("a;", 10), strings.Repeat(`"\n"`, 3276))
	for _, s := range l {
		lexemes, _, _ := lexer.Scan(s)
		printed := lexer.Print(lexemes)
		again, e, at := lexer.Scan(printed)
		if len(printed) > api.MaxText {
			if e != api.ErrLong {
				t.Fatalf("Scan of %d bytes is %v", len(printed), e)
			}
			continue
		}
		if e != api.OK || !slices.Equal(withoutOffsets(again), withoutOffsets(lexemes)) {
			t.Fatalf("Scan(%.80q) is %s, %v, %d", printed, brief(again), e, at)
		}
		if lexer.Print(again) != printed {
			t.Fatalf("Print of the lexemes of %.80q is %.80q", printed, lexer.Print(again))
		}
	}
}

// joined checks that Scan of two texts with a line feed between them returns the lexemes of both.
func joined(t *testing.T, s, next string) {
	t.Helper()
	first, _, _ := lexer.Scan(s)
	second, e, _ := lexer.Scan(next)
	if e != api.OK || len(first) == 0 {
		t.Fatalf("%.80q or %.80q is refused", s, next)
	}
	checkScan(t, s+"\n"+next, append(first[:len(first)-1], shifted(second, len(s)+1)...))
}

func TestScanOfTwoTexts(t *testing.T) {
	l := accepted(t)
	random := rand.New(rand.NewSource(8))
	for range 20000 {
		joined(t, l[random.Intn(len(l))], l[random.Intn(len(l))])
	}
	few := []string{"", " ", "\n", "# a", "# a\n", "#", "a", "a-", "-", "->", "0", "12", "1099511627776", "n234567890123456", `""`, `"\\"`, ";", "# \xff", "b # c", strings.Repeat("x;", 4000)}
	for _, s := range few {
		for _, next := range few {
			joined(t, s, next)
		}
	}
	for _, n := range []int{0, 1, 8000, api.MaxText - 2, api.MaxText - 1} {
		joined(t, strings.Repeat(";", n), strings.Repeat("#", api.MaxText-1-n))
		checkRefused(t, strings.Repeat(";", n+1)+"\n"+strings.Repeat("#", api.MaxText-1-n), api.ErrLong, api.MaxText)
	}
	// Together with an error, the first one in the text is returned.
	checkRefused(t, "a\n?", api.ErrSyntax, 2)
	checkRefused(t, "\"a\nb\"", api.ErrSyntax, 2)
}

func TestOffsets(t *testing.T) {
	for _, s := range accepted(t) {
		l, _, _ := lexer.Scan(s)
		last := -1
		for i, x := range l {
			if x.At <= last || x.At > len(s) || (x.Kind == api.LxEnd) != (i == len(l)-1) {
				t.Fatalf("Scan(%q) is %v", s, l)
			}
			if x.Kind != api.LxString && !strings.HasPrefix(s[x.At:], x.Text) {
				t.Fatalf("%v does not stand in %q", x, s)
			}
			if x.Kind == api.LxString && s[x.At] != '"' {
				t.Fatalf("%v is no string in %q", x, s)
			}
			last = x.At
		}
		if l[len(l)-1] != end(len(s)) {
			t.Fatalf("Scan(%q) is %v", s, l)
		}
	}
}

// More blanks and remarks between lexemes change nothing but their offsets.
func TestGapsChangeOffsetsOnly(t *testing.T) {
	gaps := []string{" ", "\t", "\n", "\r", "\r\n", "# remark\n", "#\n", "#\xff\"?\n", " # a\n # b\n ", "\n\n"}
	random := rand.New(rand.NewSource(9))
	for _, s := range accepted(t) {
		l, _, _ := lexer.Scan(s)
		var b strings.Builder
		begin := 0
		var want []api.Lexeme
		for _, x := range l {
			b.WriteString(s[begin:x.At])
			b.WriteString(afterRemark(s[begin:x.At]))
			b.WriteString(gaps[random.Intn(len(gaps))])
			begin = x.At
			x.At = b.Len()
			want = append(want, x)
		}
		checkScan(t, b.String(), want)
	}
}

// afterRemark returns what ends a remark that could stand at the end of s.
func afterRemark(s string) string {
	if strings.Contains(s, "#") {
		return "\n"
	}
	return ""
}
