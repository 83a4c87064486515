package ident_test

import (
	"regexp"
	"slices"
	"strings"
	"testing"

	"shipyard/api"
	"shipyard/ident"
)

// isName and isId are the definitions of the chapter, without the limit of 64 bytes.
var (
	isName = regexp.MustCompile(`^[A-Za-z][A-Za-z0-9_-]{0,15}\z`)
	isId   = regexp.MustCompile(`^[A-Za-z][A-Za-z0-9_-]{0,15}(\.[A-Za-z][A-Za-z0-9_-]{0,15}){0,7}\z`)
)

// id returns an identifier of names of these lengths.
func id(lengths ...int) string {
	var l []string
	for _, n := range lengths {
		l = append(l, strings.Repeat("n", n))
	}
	return strings.Join(l, ".")
}

// ids are identifiers of one to eight names and of one to 64 bytes.
func ids() []string {
	return []string{
		"a", "Z", "b", "B12", "p-1_x", "B12.p-1_x", "B1.A2", "A--__", "a.b.c.d.e.f.g.h", "H7.B012.A3.p-0001",
		id(16), id(1, 16), id(16, 16, 16, 13), id(8, 7, 7, 7, 7, 7, 7, 7), id(16, 16, 15, 2, 1, 1, 1, 5),
	}
}

// noIds are strings that are no identifiers.
func noIds() []string {
	return []string{
		"", ".", "..", "a..b", ".a", "a.", ".a.b", "a.b.", "1B", "A.1B", "1B.A", "_", "-a", "a._b", "a.-", "a b", "a ", " a", "a. b", "a\n", "\na", "a\x00", "a/98", "a,b", "a:b", "a\u2024b",
		"\u00e9", "a\u00e9", "a.\u00e9", "\xe9", "a.b\xff", "\u0141", "a\u0130", "a\u066b", "A\u0661", "\u212a", "\uff21",
		id(17), id(17, 1), id(1, 17), "a.b.c.d.e.f.g.h.i", "a.b.c.d.e.f.g.h.", ".a.b.c.d.e.f.g", id(16, 16, 16, 14), id(8, 8, 7, 7, 7, 7, 7, 7), id(16, 16, 16, 16),
		strings.Repeat("a", 1<<20), strings.Repeat("a.", 1<<20), strings.Repeat(".", 1<<20),
	}
}

// short returns all strings of at most n characters of an alphabet.
func short(alphabet []string, n int) (l []string) {
	level := []string{""}
	l = append(l, level...)
	for range n {
		var next []string
		for _, s := range level {
			for _, c := range alphabet {
				next = append(next, s+c)
			}
		}
		l = append(l, next...)
		level = next
	}
	return l
}

func TestIsName(t *testing.T) {
	for s, want := range map[string]bool{
		"B12": true, "p-1_x": true, "a": true, "z": true, "A": true, "Z": true, "a-": true, "a_": true, "a0": true, "Z9": true, "a--": true,
		"nnnnnnnnnnnnnnn": true, "nnnnnnnnnnnnnnnn": true, "nnnnnnnnnnnnnnnnn": false, "A_-0123456789zZa": true, "A_-0123456789zZaa": false,
		"": false, "1B": false, "B12.p-1_x": false, "a.b": false, "a.": false, "0": false, "_a": false, "-a": false, "a b": false, "a\n": false, "a\x00": false,
		"\u00e9": false, "a\u00e9": false, "\u00e9a": false, "\xe9": false, "a\xff": false, "\u0141": false, "a\u0141": false, "a\u0130": false, "a\u0661": false, "\u212a": false, "\U00010041": false,
		"nnnnnnnnnnnnnnn\u00e9": false, "nnnnnnnnnnnnnn\u00e9": false,
	} {
		if ok := ident.IsName(s); ok != want {
			t.Errorf("IsName(%q) is %v", s, ok)
		}
	}
}

// Every byte is a name, a part of a name, or neither.
func TestIsNameOfBytes(t *testing.T) {
	for c := range 256 {
		b := string([]byte{byte(c)})
		for _, s := range []string{b, b + "a", "a" + b, "a" + b + "a", "nnnnnnnnnnnnnnn" + b, "nnnnnnnnnnnnnnnn" + b} {
			if ok := ident.IsName(s); ok != isName.MatchString(s) {
				t.Errorf("IsName(%q) is %v", s, ok)
			}
		}
	}
}

func TestIsId(t *testing.T) {
	for _, s := range ids() {
		if !ident.IsId(s) {
			t.Errorf("IsId(%q) is false", s)
		}
	}
	for _, s := range noIds() {
		if ident.IsId(s) {
			t.Errorf("IsId(%.80q) is true", s)
		}
	}
}

func TestIsIdOfNames(t *testing.T) {
	for n := range 12 {
		s := strings.Join(slices.Repeat([]string{"a"}, n), ".")
		if ok := ident.IsId(s); ok != (n >= 1 && n <= 8) {
			t.Errorf("IsId of %d names is %v", n, ok)
		}
		if ok := ident.IsName(s); ok != (n == 1) {
			t.Errorf("IsName of %d names is %v", n, ok)
		}
	}
}

func TestIsIdOfLengths(t *testing.T) {
	for n := 1; n <= 16; n++ {
		for _, s := range []string{id(n), id(1, n), id(16, 16, 16, n), id(7, 7, 7, 7, 7, 7, 7, n)} {
			if ok := ident.IsId(s); ok != (len(s) <= 64) {
				t.Errorf("IsId of %d bytes is %v", len(s), ok)
			}
		}
	}
}

// Of all short strings of a few characters, those are names and identifiers that the definitions say.
func TestDefinitions(t *testing.T) {
	for _, s := range short([]string{"a", "Z", "0", "-", ".", "\u00e9", "\xff"}, 5) {
		if ok := ident.IsName(s); ok != isName.MatchString(s) {
			t.Errorf("IsName(%q) is %v", s, ok)
		}
		if ok := ident.IsId(s); ok != isId.MatchString(s) {
			t.Errorf("IsId(%q) is %v", s, ok)
		}
	}
}

func TestSplit(t *testing.T) {
	for s, want := range map[string][]string{
		"B1.A2":           {"B1", "A2"},
		"a":               {"a"},
		"B12.p-1_x":       {"B12", "p-1_x"},
		"a.b.c.d.e.f.g.h": {"a", "b", "c", "d", "e", "f", "g", "h"},
		"h.g.h":           {"h", "g", "h"},
	} {
		if l, e := ident.Split(s); !slices.Equal(l, want) || e != api.OK {
			t.Errorf("Split(%q) is %q, %v", s, l, e)
		}
	}
	for _, s := range noIds() {
		if l, e := ident.Split(s); len(l) != 0 || e != api.ErrName {
			t.Errorf("Split(%.80q) is %.80q, %v", s, l, e)
		}
	}
}

func TestJoin(t *testing.T) {
	for _, c := range []struct {
		l []string
		s string
		e api.Errno
	}{
		{[]string{"B1", "A2"}, "B1.A2", api.OK},
		{[]string{"a"}, "a", api.OK},
		{[]string{"a", "b", "c", "d", "e", "f", "g", "h"}, "a.b.c.d.e.f.g.h", api.OK},
		{[]string{"h", "g", "h"}, "h.g.h", api.OK},
		{strings.Split(id(16, 16, 16, 13), "."), id(16, 16, 16, 13), api.OK},
		{strings.Split(id(16, 16, 16, 14), "."), "", api.ErrName},
		{strings.Split(id(16, 16, 16, 16, 16, 16, 16, 16), "."), "", api.ErrName},
		{strings.Split("a.b.c.d.e.f.g.h.i", "."), "", api.ErrName},
		{slices.Repeat([]string{"a"}, 1<<20), "", api.ErrName},
		{nil, "", api.ErrName},
		{[]string{}, "", api.ErrName},
		{[]string{""}, "", api.ErrName},
		{[]string{"", "a"}, "", api.ErrName},
		{[]string{"a", ""}, "", api.ErrName},
		{[]string{"a", "", "b"}, "", api.ErrName},
		{[]string{"B1", "2A"}, "", api.ErrName},
		{[]string{"2A", "B1"}, "", api.ErrName},
		{[]string{"a.b"}, "", api.ErrName},
		{[]string{"a", "b.c"}, "", api.ErrName},
		{[]string{"a."}, "", api.ErrName},
		{[]string{id(17)}, "", api.ErrName},
		{[]string{"a", "\u00e9"}, "", api.ErrName},
		{[]string{"a", "b\xff"}, "", api.ErrName},
	} {
		before := slices.Clone(c.l)
		if s, e := ident.Join(c.l); s != c.s || e != c.e {
			t.Errorf("Join(%.80q) is %q, %v", c.l, s, e)
		}
		if !slices.Equal(before, c.l) {
			t.Errorf("Join changed %.80q to %.80q", before, c.l)
		}
	}
}

func TestJoinOfSplit(t *testing.T) {
	for _, s := range append(ids(), short([]string{"a", "B1", ".", "_"}, 6)...) {
		l, e := ident.Split(s)
		if (e == api.OK) != ident.IsId(s) {
			t.Errorf("Split(%q) is %q, %v", s, l, e)
		}
		if e != api.OK {
			continue
		}
		if joined, f := ident.Join(l); joined != s || f != api.OK {
			t.Errorf("Join of the names of %q is %q, %v", s, joined, f)
		}
	}
}

func TestSplitOfJoin(t *testing.T) {
	names := []string{"a", "B1", "p-1_x", id(16), "1B", "", "a.b"}
	lists := [][]string{nil}
	for i := 0; i < len(lists); i++ {
		s, e := ident.Join(lists[i])
		if e == api.OK {
			if l, f := ident.Split(s); !slices.Equal(l, lists[i]) || f != api.OK {
				t.Errorf("Split of the identifier of %q is %q, %v", lists[i], l, f)
			}
		}
		if valid := len(lists[i]) > 0 && !slices.ContainsFunc(lists[i], func(name string) bool { return !isName.MatchString(name) }); (e == api.OK) != valid {
			t.Errorf("Join(%q) is %q, %v", lists[i], s, e)
		}
		if len(lists[i]) == 3 {
			continue
		}
		for _, name := range names {
			lists = append(lists, append(slices.Clone(lists[i]), name))
		}
	}
}

// The names that Split returns are the caller's.
func TestSplitIsNewMemory(t *testing.T) {
	const s = "B1.A2.p3"
	l, _ := ident.Split(s)
	l[0], l[2] = "X", "Y"
	if l, e := ident.Split(s); !slices.Equal(l, []string{"B1", "A2", "p3"}) || e != api.OK {
		t.Errorf("Split(%q) is %q, %v", s, l, e)
	}
}
