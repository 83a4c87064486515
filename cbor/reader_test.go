package cbor_test

import (
	"strconv"
	"strings"
	"testing"

	"shipyard/api"
	"shipyard/cbor"
)

// read is the reading of one value; zero is what it returns with an error.
type read struct {
	name string
	do   func(r *cbor.Reader) any
	zero any
}

func intFrom(low, high int) read {
	name := "Int(" + strconv.Itoa(low) + ", " + strconv.Itoa(high) + ")"
	return read{name, func(r *cbor.Reader) any { return r.Int(low, high) }, 0}
}

func textTo(most int) read {
	return read{"Text(" + strconv.Itoa(most) + ")", func(r *cbor.Reader) any { return r.Text(most) }, ""}
}

func boolean() read {
	return read{"Bool()", func(r *cbor.Reader) any { return r.Bool() }, false}
}

func listTo(most int) read {
	return read{"List(" + strconv.Itoa(most) + ")", func(r *cbor.Reader) any { return r.List(most) }, 0}
}

// reads are reads of all kinds, with wide, narrow, exact and empty bounds.
func reads() []read {
	return []read{
		intFrom(least, greatest), intFrom(0, 23), intFrom(1, 0), intFrom(-24, -1), intFrom(24, 24), intFrom(greatest, least), intFrom(least, least), intFrom(greatest, greatest), intFrom(-300, 300),
		textTo(greatest), textTo(0), textTo(1), textTo(64), textTo(-1), textTo(least),
		boolean(),
		listTo(greatest), listTo(0), listTo(3), listTo(-1), listTo(least),
	}
}

// reading is a read of the first value of some bytes, and what it does.
type reading struct {
	s    string
	op   read
	want any
	left int
	e    api.Errno
}

// check reads a value from a reader of s at the beginning, behind another value, and checks all that is known of the reader.
func (c reading) check(t *testing.T) {
	t.Helper()
	for _, before := range []string{"", cbor.Int(7), cbor.Text("\x18") + cbor.Bool(true)} {
		r := cbor.NewReader(before + c.s)
		skip(r, before)
		want, left := c.want, c.left
		if c.e != api.OK {
			want, left = c.op.zero, len(c.s)
		}
		if v := c.op.do(r); v != want || r.Left() != left || r.Err() != c.e || r.End() != end(c.e, left) {
			t.Errorf("%.40q, %d bytes: %s returns %.40v, leaves %d with %v and %v", c.s, len(c.s), c.op.name, v, r.Left(), r.Err(), r.End())
		}
	}
}

// skip moves a reader behind what check lays before its bytes.
func skip(r *cbor.Reader, before string) {
	switch len(before) {
	case 1:
		r.Int(7, 7)
	case 3:
		r.Text(1)
		r.Bool()
	}
}

// end is what End returns for a first error and a number of bytes left.
func end(e api.Errno, left int) api.Errno {
	if e == api.OK && left > 0 {
		return api.ErrLong
	}
	return e
}

func TestNewReader(t *testing.T) {
	for _, s := range []string{"", "\x01", "a", "\xff", strings.Repeat("\xff", 1000)} {
		r := cbor.NewReader(s)
		if r == nil {
			t.Fatalf("NewReader(%q) is nil", s)
		}
		if r.Left() != len(s) || r.Err() != api.OK || r.End() != end(api.OK, len(s)) {
			t.Errorf("a new reader of %q leaves %d with %v and %v", s, r.Left(), r.Err(), r.End())
		}
	}
}

func TestReadersAreApart(t *testing.T) {
	const s = "\x01\x02"
	a, b := cbor.NewReader(s), cbor.NewReader(s)
	if n := a.Int(0, 9); n != 1 || b.Left() != 2 {
		t.Errorf("Int is %d, and the other reader leaves %d", n, b.Left())
	}
	if a.Bool() || a.Err() != api.ErrSyntax || b.Err() != api.OK || b.Int(0, 9) != 1 || b.Int(0, 9) != 2 || b.End() != api.OK {
		t.Errorf("the errors are %v and %v", a.Err(), b.Err())
	}
}

func TestReaderOfExamples(t *testing.T) {
	r := cbor.NewReader(bytes(1))
	if r.Left() != 1 || r.End() != api.ErrLong {
		t.Errorf("a reader of 1 leaves %d with %v", r.Left(), r.End())
	}
	if n := r.Int(0, 9); n != 1 || r.Left() != 0 || r.End() != api.OK {
		t.Errorf("Int of 1 is %d, leaves %d with %v", n, r.Left(), r.End())
	}
	for _, c := range []reading{
		{bytes(24, 23), intFrom(0, 100), 0, 0, api.ErrSyntax},
		{bytes(246), boolean(), false, 0, api.ErrSyntax},
		{bytes(66, 97), textTo(9), "", 0, api.ErrShort},
		{bytes(66, 97), textTo(1), "", 0, api.ErrLong},
		{bytes(59, 127, 255, 255, 255, 255, 255, 255, 255), intFrom(least, greatest), least, 0, api.OK},
	} {
		c.check(t)
	}
}

func TestReadInt(t *testing.T) {
	for n, tail := range tails() {
		for _, m := range []int{n, -1 - n} {
			s := tail
			if m < 0 {
				s = withKind(1, tail)
			}
			for _, c := range []reading{
				{s, intFrom(least, greatest), m, 0, api.OK},
				{s, intFrom(m, m), m, 0, api.OK},
				{s, intFrom(least, m), m, 0, api.OK},
				{s, intFrom(m, greatest), m, 0, api.OK},
				{s + "\xff", intFrom(m, m), m, 1, api.OK},
				{s + s, intFrom(m, m), m, len(s), api.OK},
				{s, intFrom(greatest, least), nil, 0, api.ErrRange},
				{s[:len(s)-1], intFrom(least, greatest), nil, 0, api.ErrShort},
			} {
				c.check(t)
			}
			if m > least {
				reading{s, intFrom(least, m-1), nil, 0, api.ErrRange}.check(t)
				reading{s, intFrom(m, m-1), nil, 0, api.ErrRange}.check(t)
			}
			if m < greatest {
				reading{s, intFrom(m+1, greatest), nil, 0, api.ErrRange}.check(t)
				reading{s, intFrom(m+1, m), nil, 0, api.ErrRange}.check(t)
			}
		}
	}
}

func TestReadText(t *testing.T) {
	for _, text := range texts() {
		s := headOf(2, uint64(len(text))) + text
		for _, c := range []reading{
			{s, textTo(greatest), text, 0, api.OK},
			{s, textTo(len(text)), text, 0, api.OK},
			{s, textTo(len(text) + 1), text, 0, api.OK},
			{s + "\xff", textTo(len(text)), text, 1, api.OK},
			{s + "abc", textTo(greatest), text, 3, api.OK},
			{s, textTo(len(text) - 1), nil, 0, api.ErrLong},
			{s, textTo(-1), nil, 0, api.ErrLong},
			{s, textTo(least), nil, 0, api.ErrLong},
			{s[:len(s)-1], textTo(greatest), nil, 0, api.ErrShort},
		} {
			c.check(t)
		}
	}
}

func TestReadBool(t *testing.T) {
	for c := range 256 {
		b := bytes(byte(c))
		for _, rest := range []string{"", "\xf4", "\xf5", "abc"} {
			switch c {
			case 244:
				reading{b + rest, boolean(), false, len(rest), api.OK}.check(t)
			case 245:
				reading{b + rest, boolean(), true, len(rest), api.OK}.check(t)
			default:
				reading{b + rest, boolean(), nil, 0, api.ErrSyntax}.check(t)
			}
		}
	}
	reading{"", boolean(), nil, 0, api.ErrShort}.check(t)
}

func TestReadList(t *testing.T) {
	for n, tail := range tails() {
		s := withKind(4, tail)
		for _, c := range []reading{
			{s, listTo(greatest), n, 0, api.OK},
			{s, listTo(n), n, 0, api.OK},
			{s + "\xff", listTo(n), n, 1, api.OK},
			{s + s, listTo(n), n, len(s), api.OK},
			{s, listTo(n - 1), nil, 0, api.ErrLong},
			{s, listTo(-1), nil, 0, api.ErrLong},
			{s, listTo(least), nil, 0, api.ErrLong},
			{s[:len(s)-1], listTo(greatest), nil, 0, api.ErrShort},
		} {
			c.check(t)
		}
	}
}

// No byte is left.
func TestReadNothing(t *testing.T) {
	for _, op := range reads() {
		reading{"", op, nil, 0, api.ErrShort}.check(t)
	}
}

// The first byte decides before all that follows, even if nothing does.
func TestReadAnotherKind(t *testing.T) {
	ops := map[byte][]read{
		0: {intFrom(least, greatest), intFrom(1, 0)},
		2: {textTo(greatest), textTo(-1)},
		4: {listTo(greatest), listTo(-1)},
	}
	for first := range 256 {
		kind, low := byte(first/32), first%32
		for own, l := range ops {
			if low < 28 && (kind == own || own == 0 && kind == 1) {
				continue
			}
			for _, op := range l {
				for _, rest := range []string{"", "\x00", "\x18\x18", strings.Repeat("\xff", 8), strings.Repeat("\x00", 20), strings.Repeat("x", 300)} {
					reading{bytes(byte(first)) + rest, op, nil, 0, api.ErrSyntax}.check(t)
				}
			}
		}
	}
}

// Too few bytes behind a head come before a longer encoding and before the bounds.
func TestReadShortHeads(t *testing.T) {
	for low, n := range map[byte]int{24: 1, 25: 2, 26: 4, 27: 8} {
		for have := range n {
			for _, rest := range []string{strings.Repeat("\x00", have), strings.Repeat("\xff", have)} {
				for _, op := range []read{intFrom(least, greatest), intFrom(1, 0)} {
					reading{bytes(low) + rest, op, nil, 0, api.ErrShort}.check(t)
					reading{bytes(32+low) + rest, op, nil, 0, api.ErrShort}.check(t)
				}
				for _, op := range []read{textTo(greatest), textTo(0), textTo(-1)} {
					reading{bytes(64+low) + rest, op, nil, 0, api.ErrShort}.check(t)
				}
				for _, op := range []read{listTo(greatest), listTo(0), listTo(-1)} {
					reading{bytes(128+low) + rest, op, nil, 0, api.ErrShort}.check(t)
				}
			}
		}
	}
}

// A longer encoding comes before the bounds, and before the bytes that a string lacks.
func TestReadLongHeads(t *testing.T) {
	for _, tail := range []string{
		bytes(24, 0), bytes(24, 1), bytes(24, 22), bytes(24, 23),
		bytes(25, 0, 0), bytes(25, 0, 23), bytes(25, 0, 24), bytes(25, 0, 255),
		bytes(26, 0, 0, 0, 0), bytes(26, 0, 0, 0, 24), bytes(26, 0, 0, 1, 0), bytes(26, 0, 0, 255, 255),
		bytes(27, 0, 0, 0, 0, 0, 0, 0, 0), bytes(27, 0, 0, 0, 0, 0, 0, 0, 255), bytes(27, 0, 0, 0, 0, 0, 1, 0, 0), bytes(27, 0, 0, 0, 0, 255, 255, 255, 255),
	} {
		for _, rest := range []string{"", strings.Repeat("x", 300)} {
			for _, op := range []read{intFrom(least, greatest), intFrom(1, 0)} {
				reading{tail + rest, op, nil, 0, api.ErrSyntax}.check(t)
				reading{withKind(1, tail) + rest, op, nil, 0, api.ErrSyntax}.check(t)
			}
			for _, op := range []read{textTo(greatest), textTo(0), textTo(-1)} {
				reading{withKind(2, tail) + rest, op, nil, 0, api.ErrSyntax}.check(t)
			}
			for _, op := range []read{listTo(greatest), listTo(0), listTo(-1)} {
				reading{withKind(4, tail) + rest, op, nil, 0, api.ErrSyntax}.check(t)
			}
		}
	}
}

// Arguments of 2^63 or more are no integers of either sign, whatever the bounds, but numbers of bytes and elements that are too great.
func TestReadGreatArguments(t *testing.T) {
	for _, tail := range []string{
		bytes(27, 128, 0, 0, 0, 0, 0, 0, 0), bytes(27, 128, 0, 0, 0, 0, 0, 0, 1), bytes(27, 255, 255, 255, 255, 255, 255, 255, 255), bytes(27, 255, 255, 255, 255, 255, 255, 255, 254), bytes(27, 192, 0, 0, 0, 0, 0, 0, 5),
	} {
		for _, op := range []read{intFrom(least, greatest), intFrom(greatest, least), intFrom(0, 9), intFrom(-9, -1)} {
			reading{tail, op, nil, 0, api.ErrSyntax}.check(t)
			reading{withKind(1, tail), op, nil, 0, api.ErrSyntax}.check(t)
		}
		for _, most := range []int{greatest, 64, 0, -1, least} {
			reading{withKind(2, tail) + "abc", textTo(most), nil, 0, api.ErrLong}.check(t)
			reading{withKind(4, tail) + "abc", listTo(most), nil, 0, api.ErrLong}.check(t)
		}
	}
}

// A string that ends too early is refused after its bound.
func TestReadTextThatEndsTooEarly(t *testing.T) {
	for _, n := range []int{1, 2, 23, 24, 255, 256, 65536, 1<<32 - 1, 1 << 32, greatest - 9, greatest - 1, greatest} {
		for _, have := range []int{0, 1, n - 1} {
			if have >= n || have > 1<<20 {
				continue
			}
			s := headOf(2, uint64(n)) + strings.Repeat("x", have)
			reading{s, textTo(greatest), nil, 0, api.ErrShort}.check(t)
			reading{s, textTo(n), nil, 0, api.ErrShort}.check(t)
			reading{s, textTo(n - 1), nil, 0, api.ErrLong}.check(t)
			reading{s, textTo(-1), nil, 0, api.ErrLong}.check(t)
		}
	}
}

func TestEndStoresNothing(t *testing.T) {
	r := cbor.NewReader(cbor.List(2) + cbor.Bool(true) + cbor.Text("a"))
	for _, op := range []read{listTo(2), boolean(), textTo(1)} {
		if e := r.End(); e != api.ErrLong || r.Err() != api.OK {
			t.Errorf("End is %v, and then the error %v", e, r.Err())
		}
		if v := op.do(r); v == op.zero {
			t.Errorf("%s returns %v", op.name, v)
		}
	}
	if r.End() != api.OK || r.Err() != api.OK || r.Left() != 0 {
		t.Errorf("at the end %d bytes are left with %v and %v", r.Left(), r.Err(), r.End())
	}
	if n := r.Int(0, 9); n != 0 || r.Err() != api.ErrShort || r.End() != api.ErrShort {
		t.Errorf("Int behind the end is %d with %v and %v", n, r.Err(), r.End())
	}
}

func TestNilReader(t *testing.T) {
	var r *cbor.Reader
	for range 2 {
		for _, op := range reads() {
			if v := op.do(r); v != op.zero {
				t.Errorf("%s of a nil reader is %v", op.name, v)
			}
		}
		if r.Left() != 0 || r.Err() != api.ErrNil || r.End() != api.ErrNil {
			t.Errorf("a nil reader leaves %d with %v and %v", r.Left(), r.Err(), r.End())
		}
	}
}
