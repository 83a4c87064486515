package ident_test

import (
	"fmt"
	"math/big"
	"strings"
	"testing"

	"shipyard/api"
	"shipyard/ident"
)

// digits returns the check digits of an identifier by the definition of the chapter.
func digits(s string) string {
	n := new(big.Int).SetBytes([]byte(s))
	n.Mul(n, big.NewInt(100))
	n.Mod(n, big.NewInt(97))
	return fmt.Sprintf("%02d", 98-n.Int64())
}

// everyDigits returns for each pair of check digits an identifier that has them.
func everyDigits() map[string]string {
	m := make(map[string]string)
	for _, a := range "abcdefghijklmnopqrstuvwxyz" {
		for _, b := range "ABCDEFGHIJKLMNOPQRSTUVWXYZ0123456789_-" {
			s := string([]rune{a, '.', a, b})
			m[digits(s)] = s
		}
	}
	return m
}

func TestSeal(t *testing.T) {
	for s, want := range map[string]string{"a": "a/98", "b": "b/95", "c": "c/92", "A": "A/97"} {
		if out, e := ident.Seal(s); out != want || e != api.OK {
			t.Errorf("Seal(%q) is %q, %v", s, out, e)
		}
	}
	for _, s := range ids() {
		if out, e := ident.Seal(s); out != s+"/"+digits(s) || e != api.OK {
			t.Errorf("Seal(%q) is %q, %v", s, out, e)
		}
	}
	for _, s := range noIds() {
		if out, e := ident.Seal(s); out != "" || e != api.ErrName {
			t.Errorf("Seal(%.80q) is %.80q, %v", s, out, e)
		}
	}
}

// All check digits from 02 to 98 occur, and of all pairs of digits only they are accepted.
func TestEveryCheckDigits(t *testing.T) {
	m := everyDigits()
	if len(m) != 97 || m["02"] == "" || m["98"] == "" {
		t.Fatalf("%d pairs of check digits", len(m))
	}
	for d, s := range m {
		if out, e := ident.Seal(s); out != s+"/"+d || e != api.OK {
			t.Errorf("Seal(%q) is %q, %v", s, out, e)
		}
		for n := range 100 {
			sealed, id, want := fmt.Sprintf("%s/%02d", s, n), "", api.ErrChecksum
			if sealed == s+"/"+d {
				id, want = s, api.OK
			}
			if out, e := ident.Open(sealed); out != id || e != want {
				t.Errorf("Open(%q) is %q, %v", sealed, out, e)
			}
		}
	}
}

func TestOpen(t *testing.T) {
	for _, c := range []struct {
		s, out string
		e      api.Errno
	}{
		{"a/98", "a", api.OK},
		{"b/95", "b", api.OK},
		{"b/96", "", api.ErrChecksum},
		{"a/01", "", api.ErrChecksum},
		{"A/00", "", api.ErrChecksum},
		{"A/97", "A", api.OK},
		{"b/9", "", api.ErrShort},
		{"", "", api.ErrShort},
		{"a", "", api.ErrShort},
		{"/95", "", api.ErrShort},
		{"///", "", api.ErrShort},
		{"\u00e9\u00e9", "", api.ErrSyntax},
		{"\u00e9", "", api.ErrShort},
		{"bb95", "", api.ErrSyntax},
		{"b.95", "", api.ErrSyntax},
		{"b\\95", "", api.ErrSyntax},
		{"/b95", "", api.ErrSyntax},
		{"b9/5", "", api.ErrSyntax},
		{"b95/", "", api.ErrSyntax},
		{"b/095", "", api.ErrSyntax},
		{"bb/5", "", api.ErrSyntax},
		{"b/195", "", api.ErrSyntax},
		{"b/9500", "", api.ErrSyntax},
		{"b//95", "", api.ErrSyntax},
		{"b/95/95", "", api.ErrSyntax},
		{"b/95 ", "", api.ErrSyntax},
		{" b/95", "", api.ErrSyntax},
		{"b/9x", "", api.ErrSyntax},
		{"b/x5", "", api.ErrSyntax},
		{"b/xx", "", api.ErrSyntax},
		{"b/-5", "", api.ErrSyntax},
		{"b/+5", "", api.ErrSyntax},
		{"b/ 5", "", api.ErrSyntax},
		{"b/9/", "", api.ErrSyntax},
		{"b/9:", "", api.ErrSyntax},
		{"b/:9", "", api.ErrSyntax},
		{"b/9\xff", "", api.ErrSyntax},
		{"b/\u0665", "", api.ErrSyntax},
		{"b/\u0669\u0665", "", api.ErrSyntax},
		{"b\u204495", "", api.ErrSyntax},
		{"//95", "", api.ErrSyntax},
		{"1/95", "", api.ErrSyntax},
		{"0000", "", api.ErrSyntax},
		{"////", "", api.ErrSyntax},
		{"1/9", "", api.ErrShort},
	} {
		if out, e := ident.Open(c.s); out != c.out || e != c.e {
			t.Errorf("Open(%q) is %q, %v", c.s, out, e)
		}
	}
}

// A string that is no identifier cannot have been sealed, even with the digits that it would have.
func TestOpenOfNoIds(t *testing.T) {
	for _, s := range noIds() {
		want := api.ErrSyntax
		if s == "" {
			want = api.ErrShort
		}
		for _, d := range []string{"02", "98", digits(s)} {
			if out, e := ident.Open(s + "/" + d); out != "" || e != want {
				t.Errorf("Open(%.80q) is %.80q, %v", s+"/"+d, out, e)
			}
		}
	}
}

func TestOpenOfSeal(t *testing.T) {
	for _, s := range append(ids(), short([]string{"a", "B1", ".", "_"}, 6)...) {
		sealed, e := ident.Seal(s)
		if (e == api.OK) != ident.IsId(s) {
			t.Errorf("Seal(%q) is %q, %v", s, sealed, e)
		}
		if e != api.OK {
			continue
		}
		if out, f := ident.Open(sealed); out != s || f != api.OK {
			t.Errorf("Open(%q) is %q, %v", sealed, out, f)
		}
	}
}

func TestOneByteIsReplaced(t *testing.T) {
	for _, s := range ids() {
		for i := range len(s) {
			for c := range 256 {
				if byte(c) == s[i] {
					continue
				}
				changed := []byte(s)
				changed[i] = byte(c)
				refused(t, string(changed), digits(s))
			}
		}
	}
}

func TestNeighboursChangePlaces(t *testing.T) {
	for _, s := range append(ids(), short([]string{"a", "z", "A", "0", "9", ".", "-"}, 4)...) {
		if !ident.IsId(s) {
			continue
		}
		for i := range len(s) - 1 {
			if s[i] == s[i+1] {
				continue
			}
			changed := []byte(s)
			changed[i], changed[i+1] = s[i+1], s[i]
			refused(t, string(changed), digits(s))
		}
	}
}

// refused checks that Open does not return an identifier that was changed after it had been sealed with these digits.
func refused(t *testing.T, changed, check string) {
	want := api.ErrSyntax
	if ident.IsId(changed) {
		want = api.ErrChecksum
	}
	if out, e := ident.Open(changed + "/" + check); out != "" || e != want {
		t.Errorf("Open(%q) is %q, %v", changed+"/"+check, out, e)
	}
}

// Identifiers of different lengths are sealed with the digits of all their bytes.
func TestSealOfLengths(t *testing.T) {
	for n := 1; n <= 15; n++ {
		for _, s := range []string{id(n), id(16, n), id(16, 16, 16, n)} {
			out, e := ident.Seal(s)
			if len(s) > 64 {
				if out != "" || e != api.ErrName {
					t.Errorf("Seal(%q) is %q, %v", s, out, e)
				}
				continue
			}
			if out != s+"/"+digits(s) || e != api.OK || strings.Count(out, "/") != 1 || len(out) != len(s)+3 {
				t.Errorf("Seal(%q) is %q, %v", s, out, e)
			}
		}
	}
}
