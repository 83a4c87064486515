package cbor_test

import (
	"encoding/binary"
	"math/rand"
	"slices"
	"strconv"
	"strings"
	"testing"

	"shipyard/api"
	"shipyard/cbor"
)

// value is a value, its encoding, a read with bounds that it meets exactly, and a read with wide bounds.
type value struct {
	v           any
	s           string
	exact, wide read
}

// values are values of all kinds.
func values() (l []value) {
	for _, n := range numbers() {
		l = append(l, value{n, cbor.Int(n), intFrom(n, n), intFrom(least, greatest)})
		if n >= 0 {
			l = append(l, value{n, cbor.List(n), listTo(n), listTo(greatest)})
		}
	}
	for _, s := range texts() {
		l = append(l, value{s, cbor.Text(s), textTo(len(s)), textTo(greatest)})
	}
	for _, b := range []bool{false, true} {
		l = append(l, value{b, cbor.Bool(b), boolean(), boolean()})
	}
	return l
}

// encoding returns the encoding of what a read of this kind returned.
func encoding(op read, v any) string {
	switch v := v.(type) {
	case string:
		return cbor.Text(v)
	case bool:
		return cbor.Bool(v)
	case int:
		if strings.HasPrefix(op.name, "List") {
			return cbor.List(v)
		}
		return cbor.Int(v)
	}
	return "none"
}

// shortStrings are all strings of at most two bytes, and strings of some bytes behind each first one.
func shortStrings() []string {
	l := []string{""}
	for a := range 256 {
		l = append(l, bytes(byte(a)))
		for b := range 256 {
			l = append(l, bytes(byte(a), byte(b)))
		}
		for n := 2; n <= 10; n++ {
			for _, c := range []byte{0, 1, 23, 24, 127, 128, 255} {
				for _, last := range []byte{0, 23, 24, 255} {
					l = append(l, bytes(byte(a))+strings.Repeat(bytes(c), n-1)+bytes(last))
					l = append(l, bytes(byte(a), c)+strings.Repeat(bytes(0), n-2)+bytes(last))
					l = append(l, bytes(byte(a))+strings.Repeat(bytes(0), n-2)+bytes(c, last))
				}
			}
		}
	}
	return l
}

// P5.4: what was encoded is read again, whatever bytes follow.
func TestRoundTrip(t *testing.T) {
	for _, x := range values() {
		for _, behind := range []string{"", "\x00", "\xff", "\x18", "a\xf5", x.s} {
			for _, op := range []read{x.exact, x.wide} {
				reading{x.s + behind, op, x.v, len(behind), api.OK}.check(t)
			}
		}
	}
}

// P5.4: values one behind the other are read one after the other.
func TestRoundTripOfAll(t *testing.T) {
	l := values()
	var all strings.Builder
	for _, x := range l {
		all.WriteString(x.s)
	}
	r := cbor.NewReader(all.String())
	left := all.Len()
	for _, x := range l {
		v := x.exact.do(r)
		left -= len(x.s)
		if v != x.v || r.Left() != left || r.Err() != api.OK {
			t.Fatalf("%s returns %.40v, leaves %d with %v", x.exact.name, v, r.Left(), r.Err())
		}
	}
	if r.End() != api.OK {
		t.Errorf("End is %v", r.End())
	}
}

// P5.5: what was read has exactly the bytes that are its encoding.
func TestOneEncoding(t *testing.T) {
	accepted := map[string]int{}
	for _, s := range shortStrings() {
		for _, op := range reads() {
			r := cbor.NewReader(s)
			v := op.do(r)
			if r.Err() != api.OK {
				continue
			}
			accepted[op.name]++
			if have, want := s[:len(s)-r.Left()], encoding(op, v); have != want {
				t.Errorf("%s returns %.40v of %.40q, whose encoding is %.40q", op.name, v, have, want)
			}
		}
	}
	for _, op := range []read{intFrom(least, greatest), textTo(greatest), boolean(), listTo(greatest)} {
		if accepted[op.name] < 2 {
			t.Errorf("%s accepts %d strings", op.name, accepted[op.name])
		}
	}
}

// P5.6: after an error every read returns the zero value, and neither the place nor the error changes.
func TestErrorsRemain(t *testing.T) {
	failing := []reading{
		{"", intFrom(least, greatest), nil, 0, api.ErrShort},
		{bytes(5), intFrom(0, 4), nil, 0, api.ErrRange},
		{bytes(245), intFrom(least, greatest), nil, 0, api.ErrSyntax},
		{cbor.Text("abc"), textTo(2), nil, 0, api.ErrLong},
		{cbor.Text("abc"), listTo(9), nil, 0, api.ErrSyntax},
		{cbor.List(3) + bytes(1, 2, 3), listTo(2), nil, 0, api.ErrLong},
		{cbor.List(3) + bytes(1, 2, 3), boolean(), nil, 0, api.ErrSyntax},
		{bytes(67, 1, 2), textTo(3), nil, 0, api.ErrShort},
		{bytes(25, 1), intFrom(least, greatest), nil, 0, api.ErrShort},
	}
	for _, c := range failing {
		for _, before := range []string{"", cbor.Int(7)} {
			r := cbor.NewReader(before + c.s)
			skip(r, before)
			c.op.do(r)
			for _, op := range append(reads(), c.op) {
				if v := op.do(r); v != op.zero || r.Left() != len(c.s) || r.Err() != c.e || r.End() != c.e {
					t.Errorf("%v after %v: %s returns %v, leaves %d with %v and %v", []byte(c.s), c.e, op.name, v, r.Left(), r.Err(), r.End())
				}
			}
		}
	}
}

// P5.6: an error is final even where the next read would have been accepted.
func TestErrorsRemainForAllReads(t *testing.T) {
	for _, s := range []string{cbor.Int(5), cbor.Int(-300), cbor.Text("a"), cbor.Bool(true), cbor.List(2), bytes(255), bytes(24, 5)} {
		for _, first := range reads() {
			r := cbor.NewReader(s)
			first.do(r)
			e := r.Err()
			if e == api.OK {
				continue
			}
			for _, op := range reads() {
				if v := op.do(r); v != op.zero || r.Left() != len(s) || r.Err() != e || r.End() != e {
					t.Errorf("%v: %s after %s returns %v, leaves %d with %v and %v", []byte(s), op.name, first.name, v, r.Left(), r.Err(), r.End())
				}
			}
		}
	}
}

// P5.7: the encoding of a list of integers that ends too early is short, wherever it ends.
func TestBeginningsOfLists(t *testing.T) {
	lists := [][]int{nil, {0}, {23, 24}, {-1, -24, -25}, {255, 256, 65535, 65536}, {least, greatest, 1 << 32, -1 << 32}, numbers()[:30], slices.Repeat([]int{1000}, 300)}
	for _, l := range lists {
		s := cbor.List(len(l))
		for _, n := range l {
			s += cbor.Int(n)
		}
		out, r := readList(s, len(l))
		if !slices.Equal(out, l) || r.End() != api.OK {
			t.Errorf("the list %v is read as %v with %v", l, out, r.End())
		}
		for cut := range len(s) {
			if _, r := readList(s[:cut], len(l)); r.Err() != api.ErrShort || r.End() != api.ErrShort {
				t.Errorf("%d of %d bytes of a list are read with %v and %v", cut, len(s), r.Err(), r.End())
			}
		}
	}
}

// readList reads a list of at most most integers.
func readList(s string, most int) (l []int, r *cbor.Reader) {
	r = cbor.NewReader(s)
	for range r.List(most) {
		l = append(l, r.Int(least, greatest))
	}
	return l, r
}

// P5.2: reads in any sequence do what the definition says.
func TestSequencesAgainstReference(t *testing.T) {
	random := rand.New(rand.NewSource(5))
	ops := reads()
	for range 20000 {
		s := mixture(random)
		r, m := cbor.NewReader(s), &model{rest: s}
		trail := ""
		for range 8 {
			op := ops[random.Intn(len(ops))]
			trail += op.name + " "
			if v, want := op.do(r), m.read(op); v != want || r.Left() != len(m.rest) || r.Err() != m.first || r.End() != end(m.first, len(m.rest)) {
				t.Fatalf("%v: %sreturns %v, leaves %d with %v and %v instead of %v, %d, %v", []byte(s), trail, v, r.Left(), r.Err(), r.End(), want, len(m.rest), m.first)
			}
		}
	}
}

// P5.2: one read of any short string does what the definition says.
func TestReadsAgainstReference(t *testing.T) {
	for _, s := range shortStrings() {
		for _, op := range reads() {
			r, m := cbor.NewReader(s), &model{rest: s}
			if v, want := op.do(r), m.read(op); v != want || r.Left() != len(m.rest) || r.Err() != m.first {
				t.Fatalf("%v: %s returns %v, leaves %d with %v instead of %v, %d, %v", []byte(s), op.name, v, r.Left(), r.Err(), want, len(m.rest), m.first)
			}
		}
	}
}

// mixture returns encodings of values, and sometimes other bytes.
func mixture(random *rand.Rand) (s string) {
	for range random.Intn(8) {
		n := int(random.Uint64() >> random.Intn(64))
		switch random.Intn(8) {
		case 0, 1:
			s += cbor.Int(n)
		case 2:
			s += cbor.Int(random.Intn(60) - 30)
		case 3:
			s += cbor.Text(strings.Repeat("t", random.Intn(70)))
		case 4:
			s += cbor.Bool(n%2 == 0)
		case 5:
			s += cbor.List(random.Intn(5))
		case 6:
			s += headOf(byte(random.Intn(8)), uint64(n))
		case 7:
			s += bytes(byte(n))
		}
	}
	return s[:len(s)-random.Intn(2)*random.Intn(len(s)+1)]
}

// model is the reference of a reader: the bytes that are left, and the first error.
type model struct {
	rest  string
	first api.Errno
}

// read does what a read does.
func (m *model) read(op read) any {
	if m.first != api.OK {
		return op.zero
	}
	name, bounds, _ := strings.Cut(strings.TrimSuffix(op.name, ")"), "(")
	var v any
	var size int
	switch name {
	case "Int":
		low, high, _ := strings.Cut(bounds, ", ")
		v, size, m.first = referenceInt(m.rest, number(low), number(high))
	case "Text":
		v, size, m.first = referenceText(m.rest, number(bounds))
	case "List":
		v, size, m.first = referenceCount(m.rest, 4, number(bounds))
	case "Bool":
		v, size, m.first = referenceBool(m.rest)
	}
	if m.first != api.OK {
		return op.zero
	}
	m.rest = m.rest[size:]
	return v
}

func number(s string) int {
	n, _ := strconv.Atoi(s)
	return n
}

func referenceHead(s string, kinds ...byte) (argument uint64, size int, e api.Errno) {
	if len(s) == 0 {
		return 0, 0, api.ErrShort
	}
	low := s[0] % 32
	if !slices.Contains(kinds, s[0]/32) || low >= 28 {
		return 0, 0, api.ErrSyntax
	}
	size = map[byte]int{24: 2, 25: 3, 26: 5, 27: 9}[low]
	if size == 0 {
		return uint64(low), 1, api.OK
	}
	if len(s) < size {
		return 0, 0, api.ErrShort
	}
	word := make([]byte, 8)
	copy(word[9-size:], s[1:size])
	argument = binary.BigEndian.Uint64(word)
	if headOf(s[0]/32, argument) != s[:size] {
		return 0, 0, api.ErrSyntax
	}
	return argument, size, api.OK
}

func referenceInt(s string, low, high int) (any, int, api.Errno) {
	argument, size, e := referenceHead(s, 0, 1)
	if e != api.OK {
		return 0, 0, e
	}
	if argument >= 1<<63 {
		return 0, 0, api.ErrSyntax
	}
	n := int(argument)
	if s[0] >= 32 {
		n = ^n
	}
	if low <= n && n <= high {
		return n, size, api.OK
	}
	return 0, 0, api.ErrRange
}

func referenceCount(s string, kind byte, most int) (any, int, api.Errno) {
	argument, size, e := referenceHead(s, kind)
	if e != api.OK {
		return 0, 0, e
	}
	if argument > greatest || int(argument) > most {
		return 0, 0, api.ErrLong
	}
	return int(argument), size, api.OK
}

func referenceText(s string, most int) (any, int, api.Errno) {
	n, size, e := referenceCount(s, 2, most)
	if e != api.OK {
		return "", 0, e
	}
	if n.(int) > len(s[size:]) {
		return "", 0, api.ErrShort
	}
	return s[size:][:n.(int)], size + n.(int), api.OK
}

func referenceBool(s string) (any, int, api.Errno) {
	if s == "" {
		return false, 0, api.ErrShort
	}
	if s[0] == 244 || s[0] == 245 {
		return s[0] == 245, 1, api.OK
	}
	return false, 0, api.ErrSyntax
}
