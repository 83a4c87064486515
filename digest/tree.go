package digest

import "shipyard/api"

// The first byte of what is hashed, so that an element is not mistaken for an inner node.
const (
	elementMark = "\x00"
	pairMark    = "\x01"
)

// Pair returns the hash of an inner node.
func Pair(a, b uint64) (n uint64) {
	return Hash(pairMark + bytesOf(a) + bytesOf(b))
}

// Root returns the root of the Merkle tree of a list.
func Root(l []string) (n uint64) {
	switch len(l) {
	case 0:
		return Hash("")
	case 1:
		return element(l[0])
	}
	k := firstPart(len(l))
	return Pair(Root(l[:k]), Root(l[k:]))
}

// Proof returns the audit path of an element.
func Proof(l []string, i int) (path []uint64, e api.Errno) {
	if i < 0 || i >= len(l) {
		return nil, api.ErrRange
	}
	return pathOf(l, i), api.OK
}

// Verify reports whether a string is the element i of a list of n elements with this root.
func Verify(root uint64, s string, i, n int, path []uint64) (ok bool) {
	if i < 0 || i >= n {
		return false
	}
	given, ok := rootBy(s, i, n, path)
	return ok && given == root
}

// element returns the Root of a list of one string.
func element(s string) uint64 {
	// Not Hash of both, which would copy the string.
	return extend(Hash(elementMark), s)
}

// pathOf returns the audit path of an element that the list has.
func pathOf(l []string, i int) []uint64 {
	if len(l) == 1 {
		return nil
	}
	k := firstPart(len(l))
	if i < k {
		return append(pathOf(l[:k], i), Root(l[k:]))
	}
	return append(pathOf(l[k:], i-k), Root(l[:k]))
}

// rootBy returns the root that the element i of a list of n strings and a path give, if ok: if the path has the length of an audit path.
func rootBy(s string, i, n int, path []uint64) (root uint64, ok bool) {
	if n == 1 {
		return element(s), len(path) == 0
	}
	if len(path) == 0 {
		return 0, false
	}
	k, end := firstPart(n), len(path)-1
	if i < k {
		root, ok = rootBy(s, i, k, path[:end])
		return Pair(root, path[end]), ok
	}
	root, ok = rootBy(s, i-k, n-k, path[:end])
	return Pair(path[end], root), ok
}

// firstPart returns the greatest power of two that is less than n, which is above 1.
func firstPart(n int) int {
	k := 1
	// Not 2*k < n, since 2*k could overflow.
	for k < n-k {
		k *= 2
	}
	return k
}

// bytesOf returns the bytes of a hash.
func bytesOf(h uint64) string {
	var b [8]byte
	for i := range b {
		b[i] = byte(h >> (8 * (7 - i)))
	}
	return string(b[:])
}
