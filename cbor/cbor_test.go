package cbor_test

import (
	"encoding/binary"
	"math"
	"math/bits"
	"strings"
	"testing"

	"shipyard/cbor"
)

const (
	least    = math.MinInt
	greatest = math.MaxInt
)

// bytes returns a string of these bytes.
func bytes(l ...byte) string {
	return string(l)
}

// headOf returns the encoding of a head by the definition of the chapter.
func headOf(kind byte, argument uint64) string {
	switch {
	case argument <= 23:
		return bytes(32*kind + byte(argument))
	case argument <= 255:
		return bytes(32*kind+24, byte(argument))
	case argument <= 65535:
		return string(binary.BigEndian.AppendUint16([]byte{32*kind + 25}, uint16(argument)))
	case argument <= 4294967295:
		return string(binary.BigEndian.AppendUint32([]byte{32*kind + 26}, uint32(argument)))
	}
	return string(binary.BigEndian.AppendUint64([]byte{32*kind + 27}, argument))
}

// tails are the heads of some arguments but their kinds.
func tails() map[int]string {
	return map[int]string{
		0:                  bytes(0),
		1:                  bytes(1),
		10:                 bytes(10),
		22:                 bytes(22),
		23:                 bytes(23),
		24:                 bytes(24, 24),
		25:                 bytes(24, 25),
		127:                bytes(24, 127),
		128:                bytes(24, 128),
		254:                bytes(24, 254),
		255:                bytes(24, 255),
		256:                bytes(25, 1, 0),
		257:                bytes(25, 1, 1),
		1000:               bytes(25, 3, 232),
		65534:              bytes(25, 255, 254),
		65535:              bytes(25, 255, 255),
		65536:              bytes(26, 0, 1, 0, 0),
		16909060:           bytes(26, 1, 2, 3, 4),
		1<<32 - 2:          bytes(26, 255, 255, 255, 254),
		1<<32 - 1:          bytes(26, 255, 255, 255, 255),
		1 << 32:            bytes(27, 0, 0, 0, 1, 0, 0, 0, 0),
		1<<32 + 1:          bytes(27, 0, 0, 0, 1, 0, 0, 0, 1),
		1 << 40:            bytes(27, 0, 0, 1, 0, 0, 0, 0, 0),
		1<<56 - 1:          bytes(27, 0, 255, 255, 255, 255, 255, 255, 255),
		0x0102030405060708: bytes(27, 1, 2, 3, 4, 5, 6, 7, 8),
		greatest - 1:       bytes(27, 127, 255, 255, 255, 255, 255, 255, 254),
		greatest:           bytes(27, 127, 255, 255, 255, 255, 255, 255, 255),
	}
}

// withKind returns a head with another kind.
func withKind(kind byte, head string) string {
	return bytes(32*kind+head[0]) + head[1:]
}

// numbers are integers around all powers of two, of both signs.
func numbers() (l []int) {
	for i := range bits.UintSize - 1 {
		for d := -2; d <= 2; d++ {
			n := 1<<i + d
			l = append(l, n, -n, -1-n)
		}
	}
	return append(l, least, least+1, greatest-1, greatest, 0, 22, 23, 24, 25, -23, -24, -25, -26, 1000, -1000, 1<<40, -1<<40)
}

// texts are byte strings of different lengths and contents.
func texts() (l []string) {
	for _, n := range []int{0, 1, 2, 22, 23, 24, 25, 64, 255, 256, 257, 16384, 65535, 65536, 65537, 1 << 20} {
		l = append(l, strings.Repeat("x", n))
	}
	for c := range 256 {
		l = append(l, bytes(byte(c)), bytes(byte(c), 'a'), bytes('a', byte(c)))
	}
	return append(l, "a", "P1", "B1.A2.p-3", "\u00e9", "\U0001f6a2", "\xff\xfe", "\x00\x00", strings.Repeat("\xff", 300), strings.Repeat("\u00e9", 12))
}

func TestInt(t *testing.T) {
	for n, tail := range tails() {
		if s := cbor.Int(n); s != tail {
			t.Errorf("Int(%d) is %v", n, []byte(s))
		}
		if s := cbor.Int(-1 - n); s != withKind(1, tail) {
			t.Errorf("Int(%d) is %v", -1-n, []byte(s))
		}
	}
}

func TestIntOfExamples(t *testing.T) {
	for n, want := range map[int]string{
		24:    bytes(24, 24),
		-1:    bytes(32),
		23:    bytes(23),
		255:   bytes(24, 255),
		256:   bytes(25, 1, 0),
		0:     bytes(0),
		-24:   bytes(55),
		-25:   bytes(56, 24),
		-256:  bytes(56, 255),
		-257:  bytes(57, 1, 0),
		least: bytes(59, 127, 255, 255, 255, 255, 255, 255, 255),
	} {
		if s := cbor.Int(n); s != want {
			t.Errorf("Int(%d) is %v", n, []byte(s))
		}
	}
}

func TestIntAgainstReference(t *testing.T) {
	for _, n := range numbers() {
		want := headOf(0, uint64(n))
		if n < 0 {
			want = headOf(1, ^uint64(n))
		}
		if s := cbor.Int(n); s != want {
			t.Errorf("Int(%d) is %v", n, []byte(s))
		}
	}
}

func TestText(t *testing.T) {
	for s, want := range map[string]string{
		"":                           bytes(64),
		"a":                          bytes(65, 97),
		"P1":                         bytes(66, 80, 49),
		"\u00e9":                     bytes(66, 195, 169),
		"\xff":                       bytes(65, 255),
		"\x00":                       bytes(65, 0),
		"12345678901234567890123":    bytes(87) + "12345678901234567890123",
		"123456789012345678901234":   bytes(88, 24) + "123456789012345678901234",
		strings.Repeat("x", 255):     bytes(88, 255) + strings.Repeat("x", 255),
		strings.Repeat("x", 256):     bytes(89, 1, 0) + strings.Repeat("x", 256),
		strings.Repeat("x", 65535):   bytes(89, 255, 255) + strings.Repeat("x", 65535),
		strings.Repeat("x", 65536):   bytes(90, 0, 1, 0, 0) + strings.Repeat("x", 65536),
		strings.Repeat("\xff", 256):  bytes(89, 1, 0) + strings.Repeat("\xff", 256),
		strings.Repeat("\u00e9", 12): bytes(88, 24) + strings.Repeat("\u00e9", 12),
	} {
		if out := cbor.Text(s); out != want {
			t.Errorf("Text(%.40q) is %.40q", s, out)
		}
	}
	for _, s := range texts() {
		if out := cbor.Text(s); out != headOf(2, uint64(len(s)))+s {
			t.Errorf("Text(%.40q) is %.40q", s, out)
		}
	}
}

func TestBool(t *testing.T) {
	if s := cbor.Bool(false); s != bytes(244) {
		t.Errorf("Bool(false) is %v", []byte(s))
	}
	if s := cbor.Bool(true); s != bytes(245) {
		t.Errorf("Bool(true) is %v", []byte(s))
	}
}

func TestList(t *testing.T) {
	for n, tail := range tails() {
		if s := cbor.List(n); s != withKind(4, tail) {
			t.Errorf("List(%d) is %v", n, []byte(s))
		}
	}
	if s := cbor.List(3); s != bytes(131) {
		t.Errorf("List(3) is %v", []byte(s))
	}
	for _, n := range numbers() {
		want := ""
		if n >= 0 {
			want = headOf(4, uint64(n))
		}
		if s := cbor.List(n); s != want {
			t.Errorf("List(%d) is %v", n, []byte(s))
		}
	}
	for _, n := range []int{-1, -24, -256, least} {
		if s := cbor.List(n); s != "" {
			t.Errorf("List(%d) is %v", n, []byte(s))
		}
	}
}

// Different values have different encodings, and none is the beginning of another one.
func TestEncodingsDiffer(t *testing.T) {
	known := map[string]bool{cbor.Bool(false): true, cbor.Bool(true): true}
	want := 2
	for n := range tails() {
		known[cbor.Int(n)], known[cbor.Int(-1-n)], known[cbor.List(n)] = true, true, true
		want += 3
	}
	for n := range 300 {
		s := cbor.Text(strings.Repeat("x", n))
		if known[s] {
			t.Errorf("Text of %d bytes is the encoding of another value", n)
		}
		known[s] = true
		want++
	}
	if len(known) != want {
		t.Errorf("%d values have %d encodings", want, len(known))
	}
	for s := range known {
		for end := range len(s) {
			if known[s[:end]] {
				t.Errorf("%.40q begins with another encoding", s)
			}
		}
	}
}
