package digest_test

import (
	"encoding/binary"
	"math"
	"slices"
	"strconv"
	"strings"
	"testing"

	"shipyard/api"
	"shipyard/digest"
)

const (
	least    = math.MinInt
	greatest = math.MaxInt
)

// referencePair is the definition of Pair.
func referencePair(a, b uint64) uint64 {
	return referenceHash(string(binary.BigEndian.AppendUint64(binary.BigEndian.AppendUint64([]byte{1}, a), b)))
}

// referenceTree returns the levels of the tree of a list, from its elements up: a node without a neighbour goes up as it is.
func referenceTree(l []string) (levels [][]uint64) {
	var level []uint64
	for _, s := range l {
		level = append(level, referenceHash("\x00"+s))
	}
	for len(level) > 1 {
		levels = append(levels, level)
		var above []uint64
		for i := 0; i < len(level); i += 2 {
			if i+1 == len(level) {
				above = append(above, level[i])
			} else {
				above = append(above, referencePair(level[i], level[i+1]))
			}
		}
		level = above
	}
	return append(levels, level)
}

// referenceRoot is the root of that tree.
func referenceRoot(l []string) uint64 {
	if len(l) == 0 {
		return referenceHash("")
	}
	levels := referenceTree(l)
	return levels[len(levels)-1][0]
}

// referencePath is the path of an element: its neighbours in that tree, from below.
func referencePath(l []string, i int) (path []uint64) {
	for _, level := range referenceTree(l) {
		if i^1 < len(level) {
			path = append(path, level[i^1])
		}
		i /= 2
	}
	return path
}

// referenceFold returns the root that an element and a path give, from the element up; ok is whether the path has the right length.
func referenceFold(s string, i, n int, path []uint64) (root uint64, ok bool) {
	root = referenceHash("\x00" + s)
	for last := n - 1; last > 0; i, last = i/2, last/2 {
		if i%2 == 0 && i == last {
			continue
		}
		if len(path) == 0 {
			return 0, false
		}
		if i%2 == 0 {
			root = referencePair(root, path[0])
		} else {
			root = referencePair(path[0], root)
		}
		path = path[1:]
	}
	return root, len(path) == 0
}

// referenceVerify is Verify from the element up.
func referenceVerify(root uint64, s string, i, n int, path []uint64) bool {
	if i < 0 || n < 1 || i >= n {
		return false
	}
	given, ok := referenceFold(s, i, n, path)
	return ok && given == root
}

// numbered returns n different strings.
func numbered(n int) (l []string) {
	for i := range n {
		l = append(l, "P"+strconv.Itoa(i))
	}
	return l
}

// letters returns a list of single characters.
func letters(s string) []string {
	return strings.Split(s, "")
}

// counts are numbers of strings: small ones, and powers of two with their neighbours.
func counts() (l []int) {
	for n := range 34 {
		l = append(l, n)
	}
	return append(l, 63, 64, 65, 100, 127, 128, 129, 255, 256, 257, 511, 512, 513, 1023, 1024, 1025)
}

// lists are lists of different, equal, empty and strange strings.
func lists() (l [][]string) {
	for _, n := range counts() {
		l = append(l, numbered(n), slices.Repeat([]string{"a"}, n))
	}
	for n := 1; n <= 9; n++ {
		l = append(l, slices.Repeat([]string{""}, n), append(numbered(n), "", "", "P0"))
	}
	// These look like what is hashed for a node or for an element.
	node := "\x01" + string(make([]byte, 16))
	return append(l, strange(), []string{node}, []string{node, "\x00a"}, []string{"\x00", "\x01"}, []string{"a\x00", "a"}, []string{"", "a"}, []string{"a", ""})
}

// shortLists are the lists of at most n strings.
func shortLists(n int) (short [][]string) {
	for _, l := range lists() {
		if len(l) <= n {
			short = append(short, l)
		}
	}
	return short
}

// some are the indices of a list of n strings, or of a long list a few of them.
func some(n int) (l []int) {
	for i := range n {
		if n <= 70 || i < 3 || i > n-4 || i%61 == 0 || i&(i-1) == 0 || i&(i+1) == 0 {
			l = append(l, i)
		}
	}
	return l
}

func TestPair(t *testing.T) {
	const most = math.MaxUint64
	for _, c := range []struct{ a, b, want uint64 }{
		{0, 0, 0xff230907651f612c},
		{0, 1, 0xff230a07651f62df},
		{1, 0, 0x928d5e64f9ba573f},
		{most, 0, 0x7bf9e52c0f6020a4},
		{0, most, 0x065135cbe480e7a4},
		{most, most, 0xee46e92545ccb71c},
		{0x0102030405060708, 0x090a0b0c0d0e0f10, 0xff831e7c2565837c},
	} {
		if n := digest.Pair(c.a, c.b); n != c.want || n != referencePair(c.a, c.b) {
			t.Errorf("Pair(%x, %x) is %x", c.a, c.b, n)
		}
	}
	if n := digest.Pair(0x6162636465666768, 0x696a6b6c6d6e6f70); n != digest.Hash("\x01abcdefghijklmnop") {
		t.Errorf("Pair is %x", n)
	}
}

// Each byte of both hashes counts, in its place.
func TestPairOfSingleBits(t *testing.T) {
	known := map[uint64]bool{}
	for bit := range 64 {
		for _, p := range [][2]uint64{{1 << bit, 0}, {0, 1 << bit}, {1 << bit, math.MaxUint64}, {math.MaxUint64, 1 << bit}} {
			n := digest.Pair(p[0], p[1])
			if n != referencePair(p[0], p[1]) {
				t.Errorf("Pair(%x, %x) is %x", p[0], p[1], n)
			}
			known[n] = true
		}
	}
	if len(known) != 4*64 {
		t.Errorf("%d pairs have %d hashes", 4*64, len(known))
	}
}

func TestRoot(t *testing.T) {
	for _, c := range []struct {
		l    []string
		want uint64
	}{
		{nil, 0xcbf29ce484222325},
		{[]string{}, 0xcbf29ce484222325},
		{[]string{""}, 0xaf63bd4c8601b7df},
		{letters("a"), 0x08326707b4eb37da},
		{letters("b"), 0x08326607b4eb3627},
		{letters("ab"), 0x5aec51f9322a41cb},
		{letters("ba"), 0x34f330e66b405e1b},
		{letters("aa"), 0xd7af570725aabdec},
		{[]string{"", ""}, 0xb8386253fee20e6c},
		{letters("abc"), 0xb3df761833190597},
		{letters("abcd"), 0x32c465962e3336c9},
		{letters("abcde"), 0x24997fbf2f86a1e1},
		{letters("abcdefg"), 0x5e4ff8650d89ac34},
		{[]string{"B1.P1", "B1.P2"}, 0x812097720cf20174},
	} {
		if n := digest.Root(c.l); n != c.want {
			t.Errorf("Root(%q) is %x", c.l, n)
		}
	}
}

func TestRootOfExamples(t *testing.T) {
	a, b, c, d, e := digest.Hash("\x00a"), digest.Hash("\x00b"), digest.Hash("\x00c"), digest.Hash("\x00d"), digest.Hash("\x00e")
	for s, want := range map[string]uint64{
		"a":     a,
		"ab":    digest.Pair(a, b),
		"abc":   digest.Pair(digest.Pair(a, b), c),
		"abcd":  digest.Pair(digest.Pair(a, b), digest.Pair(c, d)),
		"abcde": digest.Pair(digest.Pair(digest.Pair(a, b), digest.Pair(c, d)), e),
	} {
		if n := digest.Root(letters(s)); n != want {
			t.Errorf("Root of %s is %x", s, n)
		}
	}
	if n := digest.Root(nil); n != digest.Hash("") {
		t.Errorf("Root of no strings is %x", n)
	}
}

func TestRootAgainstReference(t *testing.T) {
	for _, l := range lists() {
		if n := digest.Root(l); n != referenceRoot(l) {
			t.Errorf("Root(%.80q) of %d strings is %x", l, len(l), n)
		}
	}
}

// P6.8: the root of two parts, the first of which has a power of two of strings and is not the shorter one, is their pair.
func TestRootOfParts(t *testing.T) {
	for k := 1; k <= 64; k *= 2 {
		for m := 1; m <= k; m++ {
			l := numbered(k + m)
			if n := digest.Root(l); n != digest.Pair(digest.Root(l[:k]), digest.Root(l[k:])) {
				t.Errorf("Root of %d and %d strings is %x", k, m, n)
			}
		}
	}
}

// An element is not mistaken for a node, nor a list for another one.
func TestRootsDiffer(t *testing.T) {
	known := map[uint64][]string{}
	all := append(shortLists(9), letters("ab"), letters("ba"), []string{"ab"}, []string{"a", "b", ""}, []string{"", "a", "b"}, []string{"\x00a"})
	for _, l := range all {
		n := digest.Root(l)
		if other, found := known[n]; found && !slices.Equal(l, other) {
			t.Errorf("Root(%q) is Root(%q)", l, other)
		}
		known[n] = l
	}
}

func TestProof(t *testing.T) {
	a, b, c, d := digest.Hash("\x00a"), digest.Hash("\x00b"), digest.Hash("\x00c"), digest.Hash("\x00d")
	for _, x := range []struct {
		s    string
		i    int
		path []uint64
		e    api.Errno
	}{
		{"a", 0, nil, api.OK},
		{"ab", 0, []uint64{b}, api.OK},
		{"ab", 1, []uint64{a}, api.OK},
		{"abc", 0, []uint64{b, c}, api.OK},
		{"abc", 1, []uint64{a, c}, api.OK},
		{"abc", 2, []uint64{digest.Pair(a, b)}, api.OK},
		{"abcd", 0, []uint64{b, digest.Pair(c, d)}, api.OK},
		{"abcd", 2, []uint64{d, digest.Pair(a, b)}, api.OK},
		{"abcd", 3, []uint64{c, digest.Pair(a, b)}, api.OK},
		{"aa", 0, []uint64{a}, api.OK},
		{"abc", 3, nil, api.ErrRange},
		{"abc", 4, nil, api.ErrRange},
		{"abc", -1, nil, api.ErrRange},
		{"abc", greatest, nil, api.ErrRange},
		{"abc", least, nil, api.ErrRange},
		{"a", 1, nil, api.ErrRange},
		{"a", -1, nil, api.ErrRange},
		{"", 0, nil, api.ErrRange},
		{"", -1, nil, api.ErrRange},
		{"", 1, nil, api.ErrRange},
		{"", greatest, nil, api.ErrRange},
		{"", least, nil, api.ErrRange},
	} {
		if path, e := digest.Proof(letters(x.s), x.i); !slices.Equal(path, x.path) || e != x.e {
			t.Errorf("Proof of %q, %d is %x, %v", x.s, x.i, path, e)
		}
	}
	if path, e := digest.Proof([]string{""}, 0); len(path) != 0 || e != api.OK {
		t.Errorf("Proof of an empty string is %x, %v", path, e)
	}
}

func TestProofAgainstReference(t *testing.T) {
	for _, l := range lists() {
		for _, i := range some(len(l)) {
			if path, e := digest.Proof(l, i); !slices.Equal(path, referencePath(l, i)) || e != api.OK {
				t.Errorf("Proof of %d in %d strings is %x, %v", i, len(l), path, e)
			}
		}
		for _, i := range []int{-1, -2, -len(l) - 1, len(l), len(l) + 1, 2*len(l) + 1, least, greatest} {
			if path, e := digest.Proof(l, i); len(path) != 0 || e != api.ErrRange {
				t.Errorf("Proof of %d in %d strings is %x, %v", i, len(l), path, e)
			}
		}
	}
}

// P6.7: every element is verified by its proof, and not with another root or another length of the path.
func TestVerifyOfProofs(t *testing.T) {
	for _, l := range lists() {
		root := digest.Root(l)
		for _, i := range some(len(l)) {
			path, _ := digest.Proof(l, i)
			if !digest.Verify(root, l[i], i, len(l), path) {
				t.Errorf("the element %d of %d strings is not verified", i, len(l))
			}
			for bit := range 64 {
				if digest.Verify(root^1<<bit, l[i], i, len(l), path) {
					t.Errorf("the element %d of %d strings is verified with another root", i, len(l))
				}
			}
			for _, other := range otherLengths(path, root) {
				if digest.Verify(root, l[i], i, len(l), other) {
					t.Errorf("the element %d of %d strings is verified by %x instead of %x", i, len(l), other, path)
				}
			}
		}
	}
}

// otherLengths are paths that are longer or shorter than a path.
func otherLengths(path []uint64, root uint64) (l [][]uint64) {
	for _, h := range []uint64{0, root, digest.Hash("")} {
		l = append(l, slices.Insert(slices.Clone(path), 0, h), append(slices.Clone(path), h))
	}
	if len(path) > 0 {
		l = append(l, nil, path[1:], path[:len(path)-1], append(slices.Clone(path), path...))
	}
	return append(l, make([]uint64, len(path)+1000))
}

// Of what a proof says, every index, number, string and element of the path counts.
func TestVerifyAgainstReference(t *testing.T) {
	for _, l := range shortLists(17) {
		root := digest.Root(l)
		for i := range l {
			path, _ := digest.Proof(l, i)
			for n := -2; n <= 20; n++ {
				for k := -2; k <= 20; k++ {
					compareVerify(t, root, l[i], k, n, path)
				}
			}
			for _, s := range []string{"", "a", "b", "P0", "P1", "\x00", "\x00" + l[i], l[i] + "\x00"} {
				compareVerify(t, root, s, i, len(l), path)
			}
			for at := range path {
				for bit := range 64 {
					other := slices.Clone(path)
					other[at] ^= 1 << bit
					compareVerify(t, root, l[i], i, len(l), other)
				}
			}
			for _, other := range otherLengths(path, root) {
				compareVerify(t, root, l[i], i, len(l), other)
			}
		}
	}
}

// compareVerify compares Verify with the reference.
func compareVerify(t *testing.T, root uint64, s string, i, n int, path []uint64) {
	t.Helper()
	if ok := digest.Verify(root, s, i, n, path); ok != referenceVerify(root, s, i, n, path) {
		t.Errorf("Verify(%x, %q, %d, %d, %x) is %v", root, s, i, n, path, ok)
	}
}

func TestVerify(t *testing.T) {
	l := letters("abc")
	root := digest.Root(l)
	a, b, c := digest.Hash("\x00a"), digest.Hash("\x00b"), digest.Hash("\x00c")
	ab := digest.Pair(a, b)
	for _, x := range []struct {
		root uint64
		s    string
		i, n int
		path []uint64
		ok   bool
	}{
		{root, "c", 2, 3, []uint64{ab}, true},
		{root, "c", 2, 4, []uint64{ab}, false},
		{root, "c", 2, 4, []uint64{ab, ab}, false},
		{root, "c", 1, 2, []uint64{ab}, true}, // a path does not say how many strings there are
		{root, "c", 0, 2, []uint64{ab}, false},
		{root, "a", 0, 3, []uint64{b, c}, true},
		{root, "b", 1, 3, []uint64{a, c}, true},
		{root, "a", 0, 3, []uint64{c, b}, false},
		{root, "b", 0, 3, []uint64{b, c}, false},
		{root, "a", 1, 3, []uint64{b, c}, false},
		{root, "a", 0, 3, []uint64{b}, false},
		{root, "a", 0, 3, []uint64{b, c, c}, false},
		{root, "a", 0, 3, nil, false},
		{root, "a", -1, 3, []uint64{b, c}, false},
		{root, "a", 3, 3, []uint64{b, c}, false},
		{root, "c", 2, 2, []uint64{ab}, false},
		{root, "c", 3, 3, []uint64{ab}, false},
		{root, "c", 2, 0, []uint64{ab}, false},
		{root, "c", 2, -3, []uint64{ab}, false},
		{root, "c", -2, -1, []uint64{ab}, false},
		{ab, "c", 2, 3, []uint64{ab}, false},
		{a, "a", 0, 1, nil, true},
		{a, "a", 0, 1, []uint64{}, true},
		{a, "a", 0, 1, []uint64{a}, false},
		{a, "b", 0, 1, nil, false},
		{a, "a", 1, 1, nil, false},
		{a, "a", 0, 2, nil, false},
		{digest.Hash(""), "", 0, 0, nil, false},
		{digest.Hash(""), "", 0, 1, nil, false},
		{digest.Hash("\x00"), "", 0, 1, nil, true},
		{0, "a", 0, 2, nil, false},
	} {
		if ok := digest.Verify(x.root, x.s, x.i, x.n, x.path); ok != x.ok {
			t.Errorf("Verify(%x, %q, %d, %d, %x) is %v", x.root, x.s, x.i, x.n, x.path, ok)
		}
	}
}

// Without strings there is no element, whatever the index.
func TestVerifyWithoutStrings(t *testing.T) {
	for _, n := range []int{0, -1, -2, least, least + 1} {
		for _, i := range []int{0, 1, 2, -1, -2, least, least + 1, greatest, greatest - 1} {
			for _, root := range []uint64{0, digest.Root(nil), digest.Root([]string{"a"})} {
				for _, path := range [][]uint64{nil, {0}, make([]uint64, 63)} {
					if digest.Verify(root, "a", i, n, path) {
						t.Errorf("Verify of %d in %d with %d elements is true", i, n, len(path))
					}
				}
			}
		}
	}
}

// The number of strings can be any int.
func TestVerifyOfGreatNumbers(t *testing.T) {
	for _, n := range []int{1 << 31, 1<<31 + 1, 1<<32 - 1, 1 << 32, 1 << 40, 1<<61 + 1, 1<<62 - 1, 1 << 62, 1<<62 + 1, 1<<62 + 2, 3 << 61, greatest - 1, greatest} {
		for _, i := range []int{0, 1, 2, 12345, 1 << 30, 1<<31 - 1, n / 2, n/2 + 1, n - 3, n - 2, n - 1, 1 << 61, 1<<62 - 1, 1 << 62, n, greatest, -1, least} {
			for length := 0; length <= 64; length++ {
				checkLength(t, i, n, length)
			}
			checkLength(t, i, n, 1000)
		}
	}
	for _, n := range []int{1, 2, 3, greatest} {
		if digest.Verify(digest.Root([]string{"a"}), "a", greatest, n, nil) || digest.Verify(digest.Root([]string{"a"}), "a", least, n, nil) {
			t.Errorf("an index that is no index is verified in %d strings", n)
		}
	}
}

// checkLength compares Verify for a path of some length with the reference.
func checkLength(t *testing.T, i, n, length int) {
	t.Helper()
	var path []uint64
	for k := range length {
		path = append(path, uint64(k)*0x0101010101010101)
	}
	root, want := uint64(0), false
	if i >= 0 && i < n {
		root, want = referenceFold("a", i, n, path)
	}
	if ok := digest.Verify(root, "a", i, n, path); ok != want {
		t.Errorf("Verify of %d in %d with %d elements is %v", i, n, length, ok)
	}
	if digest.Verify(root+1, "a", i, n, path) {
		t.Errorf("Verify of %d in %d with %d elements and another root is true", i, n, length)
	}
}

// The audit paths of the first and the last element of the greatest number of strings have as many elements as the powers of two say.
func TestVerifyOfTheGreatestNumber(t *testing.T) {
	for i, length := range map[int]int{0: 63, 1: 63, 1<<62 - 1: 63, 1 << 62: 63, greatest - 1: 62} {
		path := make([]uint64, length)
		root, ok := referenceFold("a", i, greatest, path)
		if !ok || !digest.Verify(root, "a", i, greatest, path) || digest.Verify(root, "a", i, greatest, path[1:]) || digest.Verify(root, "a", i, greatest, append(path, 0)) {
			t.Errorf("Verify of %d with %d elements", i, length)
		}
	}
}

// R3: arguments stay as they are, also behind their length, and results are new memory.
func TestArguments(t *testing.T) {
	for _, n := range []int{1, 2, 3, 5, 8, 13} {
		whole := numbered(n + 3)
		l := whole[:n]
		root := digest.Root(l)
		for i := range l {
			path, _ := digest.Proof(l, i)
			long := append(slices.Clone(path), 7, 7)
			if !digest.Verify(root, l[i], i, n, long[:len(path)]) || !slices.Equal(long, append(slices.Clone(path), 7, 7)) {
				t.Errorf("Verify of %d in %d changed the path to %x", i, n, long)
			}
			again, _ := digest.Proof(l, i)
			for k := range path {
				path[k]++
			}
			if last, _ := digest.Proof(l, i); !slices.Equal(last, again) || !slices.Equal(again, referencePath(l, i)) {
				t.Errorf("Proof of %d in %d is %x after a change of an earlier one", i, n, last)
			}
		}
		if !slices.Equal(whole, numbered(n+3)) {
			t.Errorf("%d strings became %q", n, whole)
		}
	}
}
