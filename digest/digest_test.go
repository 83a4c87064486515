package digest_test

import (
	"hash/crc32"
	"hash/fnv"
	"math/rand"
	"slices"
	"strings"
	"testing"

	"shipyard/digest"
)

// bytes returns a string of these bytes.
func bytes(l ...byte) string {
	return string(l)
}

// referenceCrc is the definition of Crc, bit by bit.
func referenceCrc(s string) uint32 {
	register := ^uint32(0)
	for _, c := range []byte(s) {
		register ^= uint32(c)
		for range 8 {
			out := register & 1
			register >>= 1
			if out == 1 {
				register ^= 0x82f63b78
			}
		}
	}
	return ^register
}

// libraryCrc is Crc by the library of Go.
func libraryCrc(s string) uint32 {
	return crc32.Checksum([]byte(s), crc32.MakeTable(crc32.Castagnoli))
}

// referenceHash is Hash by the library of Go.
func referenceHash(s string) uint64 {
	h := fnv.New64a()
	h.Write([]byte(s))
	return h.Sum64()
}

// ascending returns the bytes from 0 to n - 1.
func ascending(n int) []byte {
	b := make([]byte, n)
	for i := range b {
		b[i] = byte(i)
	}
	return b
}

// descending returns the bytes from n - 1 to 0.
func descending(n int) []byte {
	b := ascending(n)
	slices.Reverse(b)
	return b
}

// strange are strings of bytes that are no ordinary text.
func strange() []string {
	return []string{
		"\x00\x00", "\xff\xff", "\x00a", "a\x00", "\u00e9", "\u20ac", "\U0001f6a2", "\xe9", "\xc3", "a\xc3", "\xc3a", "\xed\xa0\x80", "\ufffd", "\x80\x80\x80", "a\nb", "\r\n", "P1 ",
		bytes(ascending(256)...), bytes(descending(256)...), strings.Repeat("\x00", 1000), strings.Repeat("\xff", 1001), strings.Repeat("ab\xf0", 40000),
	}
}

// samples are all strings of at most two bytes, strange strings and random ones.
func samples() []string {
	l := append([]string{""}, strange()...)
	for a := range 256 {
		l = append(l, bytes(byte(a)))
		for b := range 256 {
			l = append(l, bytes(byte(a), byte(b)))
		}
	}
	random := rand.New(rand.NewSource(6))
	for n := range 300 {
		b := make([]byte, n)
		random.Read(b)
		l = append(l, string(b))
	}
	return l
}

func TestCrc(t *testing.T) {
	for s, want := range map[string]uint32{
		"":                         0,
		"123456789":                0xe3069283,
		"a":                        0xc1d04330,
		"abc":                      0x364b3fb7,
		"\x00":                     0x527d5351,
		"\xff":                     0xff000000,
		"\u00e9":                   0x1bab8ddc,
		strings.Repeat("\x00", 32): 0x8a9136aa,
		strings.Repeat("\xff", 32): 0x62a8ab43,
		bytes(ascending(32)...):    0x46dd794e,
		bytes(descending(32)...):   0x113fdb5c,
	} {
		if n := digest.Crc(s); n != want {
			t.Errorf("Crc(%q) is %x", s, n)
		}
	}
}

func TestCrcAgainstReference(t *testing.T) {
	for _, s := range samples() {
		n := digest.Crc(s)
		if n != referenceCrc(s) || n != libraryCrc(s) {
			t.Errorf("Crc(%.40q) is %x", s, n)
		}
	}
}

func TestHash(t *testing.T) {
	for s, want := range map[string]uint64{
		"":         0xcbf29ce484222325,
		"a":        0xaf63dc4c8601ec8c,
		"abc":      0xe71fa2190541574b,
		"foobar":   0x85944171f73967e8,
		"\x00":     0xaf63bd4c8601b7df,
		"\x00\x00": 0x08328807b4eb6fed,
		"\xff":     0xaf64724c8602eb6e,
		"\u00e9":   0x0ac21707b7181e01,
	} {
		if n := digest.Hash(s); n != want {
			t.Errorf("Hash(%q) is %x", s, n)
		}
	}
}

func TestHashAgainstReference(t *testing.T) {
	for _, s := range samples() {
		if n := digest.Hash(s); n != referenceHash(s) {
			t.Errorf("Hash(%.40q) is %x", s, n)
		}
	}
}

// P6.9: two strings that differ in one byte have different hashes.
func TestHashOfOneOtherByte(t *testing.T) {
	for _, s := range []string{"a", "ab", "123456789", "\x00\x00\x00", "\xff\xff", "B1.A2.p-3", bytes(ascending(64)...)} {
		h := digest.Hash(s)
		for at := range len(s) {
			for d := 1; d < 256; d++ {
				b := []byte(s)
				b[at] ^= byte(d)
				if digest.Hash(string(b)) == h {
					t.Errorf("Hash(%q) is that of %q", b, s)
				}
			}
		}
	}
}

// withBurst returns a string of which the 32 bits behind at are changed by a pattern. Bits beyond its end do not count.
func withBurst(s string, at int, pattern uint32) string {
	b := []byte(s)
	for bit := range 32 {
		if place := at + bit; place < 8*len(b) && pattern>>bit&1 == 1 {
			b[place/8] ^= 1 << (place % 8)
		}
	}
	return string(b)
}

// P6.9: two strings that differ only within 32 consecutive bits have different checksums.
func TestCrcOfBursts(t *testing.T) {
	random := rand.New(rand.NewSource(32))
	patterns := []uint32{1, 3, 5, 1 << 31, 1<<31 | 1, 1<<32 - 1, 0x82f63b78, 0x05ec76f1, 0x80000003}
	for d := uint32(1); d < 1<<10; d++ {
		patterns = append(patterns, d, d<<22, random.Uint32())
	}
	for _, s := range []string{"a", "ab", "1234", "12345", "\x00\x00\x00\x00\x00\x00", "123456789"} {
		n := digest.Crc(s)
		for at := range 8 * len(s) {
			for _, pattern := range patterns {
				if other := withBurst(s, at, pattern); other != s && digest.Crc(other) == n {
					t.Errorf("Crc(%q) is that of %q", other, s)
				}
			}
		}
	}
}

// No more than 32 bits: a change of these 33 is not seen, where in each byte the least significant bit comes first.
func TestCrcOfItsDivisor(t *testing.T) {
	for _, s := range []string{"12345", "\x00\x00\x00\x00\x00", "123456789"} {
		for at := range 8*len(s) - 32 {
			// The constant of the chapter leaves out the first bit of the divisor, which is 1.
			other := withBurst(withBurst(s, at, 1), at+1, 0x82f63b78)
			if digest.Crc(other) != digest.Crc(s) {
				t.Errorf("Crc(%q) is not that of %q", other, s)
			}
		}
	}
}
