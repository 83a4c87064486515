package cbor

import "shipyard/api"

// lowBits is the part of the first byte of a head that is not its kind; from oneByte to eightBytes, it says how many bytes the argument has.
const (
	lowBits    = 31
	oneByte    = 24
	eightBytes = 27
)

// head is a head that was read, and the number of its bytes.
type head struct {
	kind     byte
	argument uint64
	size     int
}

// encodeHead returns the encoding of a head.
func encodeHead(kind byte, argument uint64) string {
	low := shortest(argument)
	b := []byte{kind<<5 | low}
	n := following(low)
	for i := range n {
		b = append(b, byte(argument>>(8*(n-1-i))))
	}
	return string(b)
}

// readHead reads a head of a kind from least to most at the beginning of s.
func readHead(s string, least, most byte) (h head, e api.Errno) {
	if s == "" {
		return head{}, api.ErrShort
	}
	kind, low := s[0]>>5, s[0]&lowBits
	if kind < least || kind > most || low > eightBytes {
		return head{}, api.ErrSyntax
	}
	size := 1 + following(low)
	if len(s) < size {
		return head{}, api.ErrShort
	}
	argument := argumentOf(low, s[1:size])
	// A value has one encoding only, the shortest one.
	if shortest(argument) != low {
		return head{}, api.ErrSyntax
	}
	return head{kind, argument, size}, api.OK
}

// argumentOf returns the argument of a head with these low bits, and with these bytes behind its first one.
func argumentOf(low byte, bytes string) uint64 {
	if bytes == "" {
		return uint64(low)
	}
	argument := uint64(0)
	for i := range len(bytes) {
		argument = argument<<8 | uint64(bytes[i])
	}
	return argument
}

// shortest returns the low bits of the shortest encoding of a head with this argument.
func shortest(argument uint64) byte {
	switch {
	case argument < oneByte:
		return byte(argument)
	case argument < 1<<8:
		return oneByte
	case argument < 1<<16:
		return oneByte + 1
	case argument < 1<<32:
		return oneByte + 2
	}
	return eightBytes
}

// following returns the number of bytes that follow a first byte with these low bits.
func following(low byte) int {
	if low < oneByte {
		return 0
	}
	return 1 << (low - oneByte)
}
