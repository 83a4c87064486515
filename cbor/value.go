package cbor

import "shipyard/api"

// greatest is the greatest argument that an integer of either sign can have.
const greatest = 1<<63 - 1

// readInt reads an integer at the beginning of s, and returns it and the number of its bytes.
func readInt(s string, low, high int) (n, size int, e api.Errno) {
	h, e := readHead(s, kindNatural, kindNegative)
	if e != api.OK {
		return 0, 0, e
	}
	if h.argument > greatest {
		return 0, 0, api.ErrSyntax
	}
	n = int(h.argument)
	if h.kind == kindNegative {
		n = -1 - n
	}
	if n < low || n > high {
		return 0, 0, api.ErrRange
	}
	return n, h.size, api.OK
}

// readText reads a byte string at the beginning of s, and returns it and the number of bytes of its encoding.
func readText(s string, most int) (t string, size int, e api.Errno) {
	n, begin, e := readCount(s, kindText, most)
	if e != api.OK {
		return "", 0, e
	}
	// The sum of begin and n could overflow.
	if n > len(s)-begin {
		return "", 0, api.ErrShort
	}
	return s[begin : begin+n], begin + n, api.OK
}

// readBool reads a boolean at the beginning of s, and returns it and the number of its bytes.
func readBool(s string) (b bool, size int, e api.Errno) {
	if s == "" {
		return false, 0, api.ErrShort
	}
	if s[0] != byteFalse && s[0] != byteTrue {
		return false, 0, api.ErrSyntax
	}
	return s[0] == byteTrue, 1, api.OK
}

// readCount reads the head of a byte string or a list at the beginning of s, and returns its argument and the number of its bytes.
func readCount(s string, kind byte, most int) (n, size int, e api.Errno) {
	h, e := readHead(s, kind, kind)
	if e != api.OK {
		return 0, 0, e
	}
	// Compared without a sign, a negative bound would be a great one.
	if most < 0 || h.argument > uint64(most) {
		return 0, 0, api.ErrLong
	}
	return int(h.argument), h.size, api.OK
}
