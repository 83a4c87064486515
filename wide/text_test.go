package wide_test

import (
	"math/big"
	"strings"
	"testing"

	"shipyard/api"
	"shipyard/wide"
)

const (
	greatest = "115792089237316195423570985008687907853269984665640564039457584007913129639935"
	beyond   = "115792089237316195423570985008687907853269984665640564039457584007913129639936"
)

func TestText(t *testing.T) {
	top := words(false, full, full, full, full)
	for _, c := range []struct {
		w api.Wide
		s string
	}{
		{words(false), "0"}, {negativeZero, "0"}, {wide.Of(7), "7"}, {wide.Of(-7), "-7"}, {wide.Of(10), "10"}, {wide.Of(-1090), "-1090"},
		{wide.Of(least), "-9223372036854775808"}, {words(false, full), "18446744073709551615"}, {at(64), "18446744073709551616"}, {wide.Neg(at(64)), "-18446744073709551616"},
		{at(128), "340282366920938463463374607431768211456"}, {at(192), "6277101735386680763835789423207666416102355444464034512896"},
		{top, greatest}, {wide.Neg(top), "-" + greatest},
	} {
		if s := wide.Text(c.w); s != c.s {
			t.Errorf("Text of %v is %q", c.w, s)
		}
	}
	for _, w := range append(edges(), random(3000)...) {
		if s := wide.Text(w); s != toBig(w).String() {
			t.Errorf("Text of %v is %q", w, s)
		}
	}
}

func TestParse(t *testing.T) {
	top := words(false, full, full, full, full)
	for _, c := range []struct {
		s string
		w api.Wide
		e api.Errno
	}{
		{"0", words(false), api.OK}, {"7", wide.Of(7), api.OK}, {"-7", wide.Of(-7), api.OK}, {"10", wide.Of(10), api.OK}, {"-1090", wide.Of(-1090), api.OK}, {"4294967296", at(32), api.OK}, {"18446744073709551616", at(64), api.OK}, {"-18446744073709551616", wide.Neg(at(64)), api.OK},
		{greatest, top, api.OK}, {"-" + greatest, wide.Neg(top), api.OK}, {"1" + strings.Repeat("0", 64), tenTo(64), api.OK},
		{beyond, api.Wide{}, api.ErrOverflow}, {"-" + beyond, api.Wide{}, api.ErrOverflow}, {"115792089237316195423570985008687907853269984665640564039457584007913129639940", api.Wide{}, api.ErrOverflow},
		{"1" + strings.Repeat("0", 78), api.Wide{}, api.ErrOverflow}, {strings.Repeat("9", 5000), api.Wide{}, api.ErrOverflow}, {"-1" + strings.Repeat("0", 5000), api.Wide{}, api.ErrOverflow},
		{"", api.Wide{}, api.ErrShort},
		{"-", api.Wide{}, api.ErrSyntax}, {"--", api.Wide{}, api.ErrSyntax}, {"--1", api.Wide{}, api.ErrSyntax}, {"-0", api.Wide{}, api.ErrSyntax}, {"00", api.Wide{}, api.ErrSyntax}, {"-00", api.Wide{}, api.ErrSyntax}, {"007", api.Wide{}, api.ErrSyntax}, {"-07", api.Wide{}, api.ErrSyntax}, {"0" + greatest, api.Wide{}, api.ErrSyntax}, {"-0" + beyond, api.Wide{}, api.ErrSyntax},
		{"+", api.Wide{}, api.ErrSyntax}, {"+1", api.Wide{}, api.ErrSyntax}, {"+0", api.Wide{}, api.ErrSyntax}, {"+" + greatest, api.Wide{}, api.ErrSyntax}, {"1-", api.Wide{}, api.ErrSyntax}, {"1-1", api.Wide{}, api.ErrSyntax}, {"-+1", api.Wide{}, api.ErrSyntax},
		{" ", api.Wide{}, api.ErrSyntax}, {" 1", api.Wide{}, api.ErrSyntax}, {"1 ", api.Wide{}, api.ErrSyntax}, {"1\n", api.Wide{}, api.ErrSyntax}, {"1\x00", api.Wide{}, api.ErrSyntax}, {"1_000", api.Wide{}, api.ErrSyntax}, {"1.0", api.Wide{}, api.ErrSyntax}, {"1e3", api.Wide{}, api.ErrSyntax}, {"0x1", api.Wide{}, api.ErrSyntax}, {"a", api.Wide{}, api.ErrSyntax}, {"1a", api.Wide{}, api.ErrSyntax}, {"1/", api.Wide{}, api.ErrSyntax}, {"1:", api.Wide{}, api.ErrSyntax}, {"/", api.Wide{}, api.ErrSyntax}, {":", api.Wide{}, api.ErrSyntax}, {"-a", api.Wide{}, api.ErrSyntax}, {"\u0661", api.Wide{}, api.ErrSyntax}, {"1\xff", api.Wide{}, api.ErrSyntax},
		{beyond + "x", api.Wide{}, api.ErrSyntax}, {strings.Repeat("9", 5000) + "-", api.Wide{}, api.ErrSyntax}, {"-" + strings.Repeat("9", 5000) + " ", api.Wide{}, api.ErrSyntax}, {strings.Repeat("0", 5000), api.Wide{}, api.ErrSyntax},
	} {
		if w, e := wide.Parse(c.s); w != c.w || e != c.e {
			t.Errorf("Parse(%.90q) is %v, %v", c.s, w, e)
		}
	}
}

// tenTo returns 10^n.
func tenTo(n int64) api.Wide {
	w, _ := fromBig(new(big.Int).Exp(big.NewInt(10), big.NewInt(n), nil))
	return w
}

func TestParseOfText(t *testing.T) {
	for _, w := range append(edges(), random(3000)...) {
		valid := w
		if w == negativeZero {
			valid = api.Wide{}
		}
		if v, e := wide.Parse(wide.Text(w)); v != valid || e != api.OK {
			t.Errorf("Parse of the text of %v is %v, %v", w, v, e)
		}
	}
	for n := range int64(78) {
		for d := int64(-1); d <= 1; d++ {
			for _, sign := range []string{"", "-"} {
				power := new(big.Int).Exp(big.NewInt(10), big.NewInt(n), nil)
				s := sign + power.Add(power, big.NewInt(d)).String()
				if s == "-0" {
					continue
				}
				if w, e := wide.Parse(s); e != api.OK || wide.Text(w) != s {
					t.Errorf("Parse(%q) is %v, %v", s, w, e)
				}
			}
		}
	}
}

// The integers around the limit are accepted below it, and none of them above it.
func TestParseAtTheLimit(t *testing.T) {
	limit := new(big.Int).Lsh(big.NewInt(1), 256)
	for d := int64(-50); d < 50; d++ {
		n := new(big.Int).Add(limit, big.NewInt(d))
		for range 2 {
			want, f := fromBig(n)
			w, e := wide.Parse(n.String())
			check(t, "Parse of "+n.String(), w, e, want, f)
			n.Neg(n)
		}
	}
}

// Of all short strings of a few characters, Parse accepts those that are written for an integer, and no others.
func TestTextOfParse(t *testing.T) {
	const characters = "-+019 "
	level := []string{""}
	for range 5 {
		var next []string
		for _, s := range level {
			for i := range len(characters) {
				next = append(next, s+characters[i:i+1])
			}
		}
		for _, s := range next {
			reference, ok := new(big.Int).SetString(s, 10)
			w, e := wide.Parse(s)
			if !ok || reference.String() != s {
				check(t, "Parse of "+s, w, e, api.Wide{}, api.ErrSyntax)
				continue
			}
			want, _ := fromBig(reference)
			check(t, "Parse of "+s, w, e, want, api.OK)
			if wide.Text(w) != s {
				t.Errorf("Text of Parse(%q) is %q", s, wide.Text(w))
			}
		}
		level = next
	}
}
