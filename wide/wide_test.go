package wide_test

import (
	"math/big"
	"math/rand/v2"
	"testing"

	"shipyard/api"
	"shipyard/wide"
)

const (
	most  = 1<<63 - 1
	least = -1 << 63
	full  = 1<<64 - 1
)

var negativeZero = api.Wide{Neg: true}

// at returns 2^n.
func at(n int) api.Wide {
	var w api.Wide
	w.Mag[n/64] = 1 << (n % 64)
	return w
}

// words returns an integer by its magnitude, the least significant word first.
func words(neg bool, mag ...uint64) (w api.Wide) {
	w.Neg = neg
	copy(w.Mag[:], mag)
	return w
}

// toBig returns the value of w, by the definition of the chapter.
func toBig(w api.Wide) *big.Int {
	n := new(big.Int)
	for i := range 4 {
		n.Lsh(n, 64).Add(n, new(big.Int).SetUint64(w.Mag[3-i]))
	}
	if w.Neg {
		n.Neg(n)
	}
	return n
}

// fromBig is the reference for a result: the valid integer with this value, or ErrOverflow.
func fromBig(n *big.Int) (w api.Wide, e api.Errno) {
	if n.BitLen() > 256 {
		return api.Wide{}, api.ErrOverflow
	}
	w.Neg = n.Sign() < 0
	rest := new(big.Int).Abs(n)
	word := new(big.Int).SetUint64(full)
	for i := range 4 {
		w.Mag[i] = new(big.Int).And(rest, word).Uint64()
		rest.Rsh(rest, 64)
	}
	return w, api.OK
}

// edges are integers next to powers of 2, especially to the ends of words and half words, of both signs, and both zeros.
func edges() (l []api.Wide) {
	one := big.NewInt(1)
	for _, n := range []uint{1, 2, 3, 31, 32, 33, 63, 64, 65, 96, 127, 128, 129, 160, 191, 192, 193, 224, 254, 255, 256} {
		power := new(big.Int).Lsh(one, n)
		for d := int64(-2); d <= 2; d++ {
			w, e := fromBig(new(big.Int).Add(power, big.NewInt(d)))
			if e == api.OK {
				l = append(l, w)
			}
		}
	}
	l = append(l, words(false), words(false, 6, 0, 0, 15), words(false, 0, full), words(false, 0, 0, 0, full), words(false, full, 0, full), words(false, 0, full, 0, full), words(false, full, 0, 0, 1<<63))
	for _, w := range l {
		l = append(l, words(true, w.Mag[:]...))
	}
	return l
}

// random returns integers of different lengths, with many words that are 0 or full, always the same ones.
func random(count int) (l []api.Wide) {
	g := rand.New(rand.NewPCG(1, 2))
	for range count {
		w := api.Wide{Neg: g.IntN(2) == 0}
		for i := range 1 + g.IntN(4) {
			switch g.IntN(6) {
			case 0:
				w.Mag[i] = 0
			case 1:
				w.Mag[i] = full
			case 2:
				w.Mag[i] = g.Uint64() >> g.IntN(64)
			default:
				w.Mag[i] = g.Uint64()
			}
		}
		l = append(l, w)
	}
	return l
}

// pairs calls f with pairs of edges and of random integers.
func pairs(f func(a, b api.Wide)) {
	l := edges()
	for _, a := range l {
		for _, b := range l {
			f(a, b)
		}
	}
	l = random(20000)
	for i := range len(l) / 2 {
		f(l[2*i], l[2*i+1])
	}
}

// check reports a result that is not the expected one. Expected integers are valid.
func check(t *testing.T, name string, w api.Wide, e api.Errno, want api.Wide, f api.Errno) {
	t.Helper()
	if w != want || e != f {
		t.Errorf("%s is %v, %v instead of %v, %v", name, w, e, want, f)
	}
}

func TestOf(t *testing.T) {
	for _, c := range []struct {
		n int
		w api.Wide
	}{
		{0, words(false)}, {1, words(false, 1)}, {-1, words(true, 1)}, {-5, words(true, 5)}, {1 << 40, words(false, 1<<40)},
		{most, words(false, most)}, {-most, words(true, most)}, {least, words(true, 1<<63)},
	} {
		if w := wide.Of(c.n); w != c.w {
			t.Errorf("Of(%d) is %v", c.n, w)
		}
		if n, ok := wide.Int(c.w); n != c.n || !ok {
			t.Errorf("Int of %v is %d, %v", c.w, n, ok)
		}
	}
}

func TestInt(t *testing.T) {
	for _, c := range []struct {
		w  api.Wide
		n  int
		ok bool
	}{
		{negativeZero, 0, true},
		{words(false, 1<<63), 0, false},
		{words(true, 1<<63), least, true},
		{words(true, 1<<63+1), 0, false},
		{words(false, full), 0, false},
		{words(true, full), 0, false},
		{words(false, 0, 1), 0, false},
		{words(true, 0, 1), 0, false},
		{words(false, 5, 0, 1), 0, false},
		{words(true, 5, 0, 1), 0, false},
		{words(false, 7, 0, 0, 1), 0, false},
		{words(true, 1<<63, 0, 0, 1<<63), 0, false},
		{words(true, full, full, full, full), 0, false},
	} {
		if n, ok := wide.Int(c.w); n != c.n || ok != c.ok {
			t.Errorf("Int of %v is %d, %v", c.w, n, ok)
		}
	}
	for _, w := range append(edges(), random(1000)...) {
		want := toBig(w)
		n, ok := wide.Int(w)
		if ok != want.IsInt64() || ok && int64(n) != want.Int64() || !ok && n != 0 {
			t.Errorf("Int of %v is %d, %v", w, n, ok)
		}
	}
}

func TestValid(t *testing.T) {
	for _, w := range edges() {
		if wide.Valid(w) != (w != negativeZero) {
			t.Errorf("Valid of %v is %v", w, wide.Valid(w))
		}
	}
	for _, w := range []api.Wide{words(true, 1), words(true, 0, 1), words(true, 0, 0, 1), words(true, 0, 0, 0, 1), words(false)} {
		if !wide.Valid(w) {
			t.Errorf("%v is not valid", w)
		}
	}
	if wide.Valid(negativeZero) {
		t.Error("a negative zero is valid")
	}
}

func TestNeg(t *testing.T) {
	for _, c := range [][2]api.Wide{
		{negativeZero, words(false)}, {words(false), words(false)}, {words(false, 5), words(true, 5)}, {words(true, 5), words(false, 5)},
		{words(true, 0, 1), words(false, 0, 1)}, {words(false, 0, 0, 0, 1), words(true, 0, 0, 0, 1)}, {words(false, full, full, full, full), words(true, full, full, full, full)},
	} {
		if w := wide.Neg(c[0]); w != c[1] {
			t.Errorf("Neg of %v is %v", c[0], w)
		}
	}
	for _, w := range edges() {
		want, _ := fromBig(new(big.Int).Neg(toBig(w)))
		check(t, "Neg", wide.Neg(w), api.OK, want, api.OK)
	}
}

func TestCmp(t *testing.T) {
	zero, top := words(false), words(false, full, full, full, full)
	for _, c := range []struct {
		a, b api.Wide
		n    int
	}{
		{negativeZero, zero, 0}, {zero, negativeZero, 0}, {negativeZero, negativeZero, 0},
		{negativeZero, words(false, 1), -1}, {words(false, 1), negativeZero, 1}, {negativeZero, words(true, 1), 1}, {words(true, 1), negativeZero, -1},
		{words(true, 5), words(true, 4), -1}, {words(true, 4), words(true, 5), 1}, {words(false, 5), words(false, 4), 1},
		{words(true, 0, 0, 0, 1), words(false, 1), -1}, {words(false, 1), words(true, 0, 0, 0, 1), 1},
		{words(false, full), words(false, 0, 1), -1}, {words(false, 1, 2), words(false, 2, 1), 1}, {words(false, 0, 2, 1), words(false, 0, 1, 1), 1},
		{top, top, 0}, {top, wide.Neg(top), 1}, {wide.Neg(top), top, -1},
	} {
		if n := wide.Cmp(c.a, c.b); n != c.n {
			t.Errorf("Cmp of %v and %v is %d", c.a, c.b, n)
		}
	}
	pairs(func(a, b api.Wide) {
		if n := wide.Cmp(a, b); n != toBig(a).Cmp(toBig(b)) {
			t.Errorf("Cmp of %v and %v is %d", a, b, n)
		}
	})
}
