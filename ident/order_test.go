package ident_test

import (
	"cmp"
	"math/big"
	"strings"
	"testing"

	"shipyard/ident"
)

// piece is an element of a string: a number, or another byte.
type piece struct {
	number *big.Int
	first  byte
}

// pieces returns the elements of a string by the definition of the chapter.
func pieces(s string) (l []piece) {
	for at := 0; at < len(s); {
		end := at
		for end < len(s) && s[end] >= '0' && s[end] <= '9' {
			end++
		}
		if end == at {
			l = append(l, piece{first: s[at]})
			at++
			continue
		}
		n, _ := new(big.Int).SetString(s[at:end], 10)
		l = append(l, piece{n, s[at]})
		at = end
	}
	return l
}

// comparePieces is the reference for elements.
func comparePieces(a, b piece) int {
	if a.number != nil && b.number != nil {
		return a.number.Cmp(b.number)
	}
	return cmp.Compare(a.first, b.first)
}

// comparePrepared is the reference for strings whose elements are known.
func comparePrepared(a, b string, x, y []piece) int {
	for i := range min(len(x), len(y)) {
		if n := comparePieces(x[i], y[i]); n != 0 {
			return n
		}
	}
	if n := cmp.Compare(len(x), len(y)); n != 0 {
		return n
	}
	return cmp.Compare(a, b)
}

// ascending are lists of strings in natural order.
func ascending() [][]string {
	nines, zeros := strings.Repeat("9", 5000), strings.Repeat("0", 5000)
	return [][]string{
		{"A02", "A2", "A10"},
		{"", "A", "A0"},
		{"x09", "x9", "x10", "xa"},
		{"", "\x00", "-1", "/", "0", "00", "0x", "1", ":", "a"},
		{"A", "A.", "A/", "A0", "A1", "A01b", "A1b", "A002", "A02", "A2", "A:", "AA", "B", "a"},
		{"a", "a!", "a0", "a00", "a000", "a00b", "a0b", "a0b0", "a1", "ab"},
		{"a0", "a00", "a0!", "a00!", "a0!0", "a1"},
		{"01x", "1x", "1x0", "1y", "02x"},
		{"1a02b3", "1a2b03", "1a2b3", "1a02b10", "1a2b10"},
		{"9223372036854775806", "9223372036854775807", "9223372036854775808", "18446744073709551615", "18446744073709551616", "18446744073709551617", "36893488147419103232"},
		{"5", "0018446744073709551616", "18446744073709551616", "018446744073709551617", "36893488147419103233"},
		{zeros, zeros + "0", zeros + "1", "01", "1", zeros + nines, nines, "1" + zeros, "1" + zeros + "x"},
		{nines + "a1", nines + "a2", nines + "a10"},
		{"\u00c9", "\u00e9", "\u0141", "\uffff", "\U00010000", "\xfe", "\xff"},
		{"\x7f", "\x80", "\x81", "\xc3", "\xc3\xa8", "\xc3\xa9", "\xef\xbf\xbd", "\xf0\x90", "\xff"},
		{"\u00e92", "\u00e910", "\u00e9\u0661"},
		{"9", "\u0661", "\uff11"},
	}
}

func TestCompare(t *testing.T) {
	for _, l := range ascending() {
		for i, a := range l {
			for j, b := range l {
				if n := ident.Compare(a, b); n != cmp.Compare(i, j) {
					t.Errorf("Compare(%.40q, %.40q) is %d", a, b, n)
				}
			}
		}
	}
}

// Compare agrees with the definition, for all pairs of short strings of a few bytes.
func TestCompareAgainstReference(t *testing.T) {
	l := short([]string{"0", "1", "9", "/", ":", "a", "\xc3", "\xa9", "\xff"}, 3)
	l = append(l, short([]string{"0", "1", "a"}, 6)...)
	var known [][]piece
	for _, s := range l {
		known = append(known, pieces(s))
	}
	for i, a := range l {
		for j, b := range l {
			if n := ident.Compare(a, b); n != comparePrepared(a, b, known[i], known[j]) {
				t.Errorf("Compare(%q, %q) is %d", a, b, n)
			}
		}
	}
}

func TestCompareIsOpposite(t *testing.T) {
	l := short([]string{"0", "1", "2", "-", "a", "\xff"}, 4)
	for _, a := range l {
		for _, b := range l {
			n := ident.Compare(a, b)
			if n < -1 || n > 1 || (n == 0) != (a == b) {
				t.Errorf("Compare(%q, %q) is %d", a, b, n)
			}
			if m := ident.Compare(b, a); m != -n {
				t.Errorf("Compare(%q, %q) is %d, and of (%q, %q) %d", a, b, n, b, a, m)
			}
		}
	}
}

func TestCompareIsTransitive(t *testing.T) {
	l := short([]string{"0", "1", "-", "a"}, 4)
	order := make([][]int, len(l))
	for i, a := range l {
		for _, b := range l {
			order[i] = append(order[i], ident.Compare(a, b))
		}
	}
	for i := range l {
		for j := range l {
			if order[i][j] > 0 {
				continue
			}
			for k := range l {
				if order[j][k] <= 0 && order[i][k] > 0 {
					t.Errorf("Compare(%q, %q) is %d, of %q %d, and of (%q, %q) %d", l[i], l[j], order[i][j], l[k], order[j][k], l[i], l[k], order[i][k])
				}
			}
		}
	}
}

// Long strings are compared in one pass.
func TestCompareOfLongStrings(t *testing.T) {
	const n = 1 << 20
	for _, s := range []string{"0", "7", "a", "a1", "\xff", "\u00e9"} {
		long := strings.Repeat(s, n)
		for other, want := range map[string]int{long: 0, long + s: -1, long + "x": -1} {
			if got := ident.Compare(long, other); got != want {
				t.Errorf("Compare of %d and %d bytes of %q is %d", len(long), len(other), s, got)
			}
			if got := ident.Compare(other, long); got != -want {
				t.Errorf("Compare of %d and %d bytes of %q is %d", len(other), len(long), s, got)
			}
		}
	}
}
