package num_test

import (
	"strconv"
	"strings"
	"testing"

	"shipyard/api"
	"shipyard/num"
)

func TestText(t *testing.T) {
	for _, c := range []struct {
		n int
		s string
	}{
		{0, "0"}, {7, "7"}, {-7, "-7"}, {10, "10"}, {-12, "-12"}, {1000, "1000"}, {-1090, "-1090"},
		{most, "9223372036854775807"}, {-most, "-9223372036854775807"}, {least, "-9223372036854775808"},
	} {
		if s := num.Text(c.n); s != c.s {
			t.Errorf("Text(%d) is %q", c.n, s)
		}
	}
	for _, n := range values() {
		if s := num.Text(n); s != strconv.Itoa(n) {
			t.Errorf("Text(%d) is %q", n, s)
		}
	}
}

func TestParse(t *testing.T) {
	for _, c := range []struct {
		s string
		n int
		e api.Errno
	}{
		{"0", 0, api.OK}, {"7", 7, api.OK}, {"12", 12, api.OK}, {"-12", -12, api.OK}, {"-1090", -1090, api.OK},
		{"1099511627776", api.MaxNumber, api.OK}, {"-1099511627776", -api.MaxNumber, api.OK}, {"999999999999", 999999999999, api.OK},
		{"", 0, api.ErrShort},
		{"-", 0, api.ErrSyntax}, {"--", 0, api.ErrSyntax}, {"--1", 0, api.ErrSyntax}, {"-0", 0, api.ErrSyntax}, {"00", 0, api.ErrSyntax}, {"-00", 0, api.ErrSyntax},
		{"012", 0, api.ErrSyntax}, {"-012", 0, api.ErrSyntax}, {"01099511627777", 0, api.ErrSyntax},
		{"+", 0, api.ErrSyntax}, {"+1", 0, api.ErrSyntax}, {"+0", 0, api.ErrSyntax}, {"1-", 0, api.ErrSyntax}, {"1-1", 0, api.ErrSyntax},
		{" ", 0, api.ErrSyntax}, {" 1", 0, api.ErrSyntax}, {"1 ", 0, api.ErrSyntax}, {"1\n", 0, api.ErrSyntax}, {"1\x00", 0, api.ErrSyntax}, {"1_000", 0, api.ErrSyntax},
		{"1.0", 0, api.ErrSyntax}, {"1e3", 0, api.ErrSyntax}, {"0x1", 0, api.ErrSyntax}, {"1a", 0, api.ErrSyntax}, {"a", 0, api.ErrSyntax}, {"1/", 0, api.ErrSyntax}, {"1:", 0, api.ErrSyntax}, {"\u0661", 0, api.ErrSyntax}, {"1\xff", 0, api.ErrSyntax},
		{"1099511627777", 0, api.ErrRange}, {"-1099511627777", 0, api.ErrRange}, {"9999999999999", 0, api.ErrRange},
		{"9223372036854775808", 0, api.ErrRange}, {"18446744073709551616", 0, api.ErrRange}, {"18446744073709551617", 0, api.ErrRange}, {"-18446744073709551617", 0, api.ErrRange},
		{strings.Repeat("9", 5000), 0, api.ErrRange}, {"-1" + strings.Repeat("0", 5000), 0, api.ErrRange},
		{strings.Repeat("9", 5000) + "x", 0, api.ErrSyntax}, {"1099511627777-", 0, api.ErrSyntax},
	} {
		if n, e := num.Parse(c.s); n != c.n || e != c.e {
			t.Errorf("Parse(%.40q) is %d, %v", c.s, n, e)
		}
	}
}

func TestParseOfText(t *testing.T) {
	l := values()
	for d := range 12 {
		l = append(l, api.MaxNumber-6+d, -api.MaxNumber-6+d)
	}
	for _, n := range l {
		want, f := n, api.OK
		if n > api.MaxNumber || n < -api.MaxNumber {
			want, f = 0, api.ErrRange
		}
		if x, e := num.Parse(num.Text(n)); x != want || e != f {
			t.Errorf("Parse of the text of %d is %d, %v", n, x, e)
		}
	}
}

// Of all short strings of a few characters, Parse accepts those that Text writes, and no others.
func TestTextOfParse(t *testing.T) {
	const characters = "-+019 "
	level := []string{""}
	for range 5 {
		var next []string
		for _, s := range level {
			for i := range len(characters) {
				next = append(next, s+characters[i:i+1])
			}
		}
		for _, s := range next {
			n, e := num.Parse(s)
			reference, err := strconv.Atoi(s)
			written := err == nil && strconv.Itoa(reference) == s
			if (e == api.OK) != written || e != api.OK && e != api.ErrSyntax {
				t.Errorf("Parse(%q) is %d, %v", s, n, e)
			}
			if e == api.OK && num.Text(n) != s {
				t.Errorf("Parse(%q) is %d", s, n)
			}
		}
		level = next
	}
}
