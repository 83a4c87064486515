package ratio_test

import (
	"math/big"
	"math/rand/v2"
	"testing"

	"shipyard/api"
	"shipyard/ratio"
	"shipyard/wide"
)

const (
	most  = 1<<63 - 1
	least = -1 << 63
	full  = 1<<64 - 1
)

// negativeZero is not valid, and counts as 0.
var negativeZero = api.Wide{Neg: true}

// at returns 2^n + d.
func at(n uint, d int64) api.Wide {
	power := new(big.Int).Lsh(big.NewInt(1), n)
	w, _ := fromBig(power.Add(power, big.NewInt(d)))
	return w
}

// top is 2^256 - 1.
func top() api.Wide { return at(256, -1) }

// raw returns a fraction as it is written, valid or not.
func raw(num, den int) api.Ratio {
	return api.Ratio{Num: wide.Of(num), Den: wide.Of(den)}
}

// over returns num / 1.
func over(num api.Wide) api.Ratio {
	return api.Ratio{Num: num, Den: wide.Of(1)}
}

// under returns 1 / den.
func under(den api.Wide) api.Ratio {
	return api.Ratio{Num: wide.Of(1), Den: den}
}

// toBig returns the value of w.
func toBig(w api.Wide) *big.Int {
	n, _ := new(big.Int).SetString(wide.Text(w), 10)
	return n
}

// fromBig returns the integer with this value, or ErrOverflow.
func fromBig(n *big.Int) (w api.Wide, e api.Errno) {
	return wide.Parse(n.String())
}

// isValid tells by the definition of the chapter whether r is valid.
func isValid(r api.Ratio) bool {
	if r.Num == negativeZero || r.Den.Neg || r.Den == (api.Wide{}) {
		return false
	}
	num := toBig(r.Num)
	g := new(big.Int).GCD(nil, nil, num.Abs(num), toBig(r.Den))
	return g.IsInt64() && g.Int64() == 1
}

// value returns the value of r: 0 if r is not valid.
func value(r api.Ratio) *big.Rat {
	if !isValid(r) {
		return new(big.Rat)
	}
	return new(big.Rat).SetFrac(toBig(r.Num), toBig(r.Den))
}

// fromRat is the reference for a result: the valid fraction with this value, or ErrOverflow.
func fromRat(x *big.Rat) (r api.Ratio, e api.Errno) {
	num, e := fromBig(x.Num())
	den, f := fromBig(x.Denom())
	if e != api.OK || f != api.OK {
		return api.Ratio{}, api.ErrOverflow
	}
	return api.Ratio{Num: num, Den: den}, api.OK
}

// check reports a result that is not the expected one.
func check(t *testing.T, name string, r api.Ratio, e api.Errno, want api.Ratio, f api.Errno) {
	t.Helper()
	if r != want || e != f {
		t.Errorf("%s is %v, %v instead of %v, %v", name, r, e, want, f)
	}
}

// integers are numbers next to 0 and to powers of 2, of both signs, -0 among them.
func integers() (l []api.Wide) {
	for n := range 8 {
		l = append(l, wide.Of(n))
	}
	for _, n := range []uint{32, 63, 64, 127, 128, 129, 192, 254, 255} {
		l = append(l, at(n, -1), at(n, 0), at(n, 1))
	}
	l = append(l, at(256, -1), at(256, -2), at(256, -3))
	for _, w := range l {
		w.Neg = true
		l = append(l, w)
	}
	return l
}

// invalid are fractions that count as 0.
func invalid() []api.Ratio {
	return []api.Ratio{
		{}, raw(2, 4), raw(1, -2), raw(-1, -2), raw(0, 2), raw(0, -1), raw(3, 0), raw(-3, 3), raw(6, -4),
		{Num: negativeZero, Den: wide.Of(1)}, {Num: wide.Of(5), Den: negativeZero}, {Num: negativeZero, Den: negativeZero},
		{Num: top(), Den: top()}, {Num: at(255, 0), Den: at(254, 0)}, {Num: wide.Of(2), Den: wide.Neg(top())},
	}
}

// fractions are valid ones of small and great numbers, and those that count as 0.
func fractions() (l []api.Ratio) {
	nums := []api.Wide{wide.Of(0), wide.Of(1), wide.Of(2), wide.Of(3), wide.Of(10), at(64, -1), at(128, -1), at(192, 1), at(255, 0), at(256, -2), top()}
	dens := []api.Wide{wide.Of(1), wide.Of(2), wide.Of(6), at(64, -1), at(128, 1), at(255, 0), top()}
	for _, num := range nums {
		for _, den := range dens {
			if r := (api.Ratio{Num: num, Den: den}); isValid(r) {
				l = append(l, r, api.Ratio{Num: wide.Neg(num), Den: den})
			}
		}
	}
	return append(l, invalid()...)
}

// source returns random numbers, always the same ones.
func source() *rand.Rand { return rand.New(rand.NewPCG(3, 4)) }

// number returns a positive integer below 2^bits, often with words that are full.
func number(g *rand.Rand, bits int) *big.Int {
	n := new(big.Int)
	for range 4 {
		word := g.Uint64()
		if g.IntN(4) == 0 {
			word = full
		}
		n.Lsh(n, 64).Or(n, new(big.Int).SetUint64(word))
	}
	n.Rsh(n, uint(256-bits))
	if n.Sign() == 0 {
		n.SetInt64(1)
	}
	return n
}

// random returns valid fractions, whose numbers have up to so many bits.
func random(count, bits int) (l []api.Ratio) {
	g := source()
	for range count {
		x := new(big.Rat).SetFrac(number(g, 1+g.IntN(bits)), number(g, 1+g.IntN(bits)))
		if g.IntN(2) == 0 {
			x.Neg(x)
		}
		r, _ := fromRat(x)
		l = append(l, r)
	}
	return l
}

// pairs calls f with pairs of all kinds of fractions.
func pairs(f func(a, b api.Ratio)) {
	l := fractions()
	for _, a := range l {
		for _, b := range l {
			f(a, b)
		}
	}
	for _, bits := range []int{4, 60, 128, 160, 256} {
		l := random(1600, bits)
		for i := range len(l) / 2 {
			f(l[2*i], l[2*i+1])
		}
	}
}

func TestMake(t *testing.T) {
	for _, c := range []struct {
		num, den api.Wide
		r        api.Ratio
		e        api.Errno
	}{
		{wide.Of(6), wide.Of(-4), raw(-3, 2), api.OK},
		{wide.Of(-6), wide.Of(4), raw(-3, 2), api.OK},
		{wide.Of(-6), wide.Of(-4), raw(3, 2), api.OK},
		{wide.Of(6), wide.Of(4), raw(3, 2), api.OK},
		{wide.Of(0), wide.Of(-5), raw(0, 1), api.OK},
		{negativeZero, wide.Of(5), raw(0, 1), api.OK},
		{negativeZero, wide.Of(-5), raw(0, 1), api.OK},
		{wide.Of(-8), wide.Of(-2), raw(4, 1), api.OK},
		{top(), wide.Neg(top()), raw(-1, 1), api.OK},
		{wide.Of(3), top(), under(third()), api.OK},
		{wide.Neg(top()), at(255, 0), api.Ratio{Num: wide.Neg(top()), Den: at(255, 0)}, api.OK},
		{at(255, 0), wide.Neg(at(254, 0)), raw(-2, 1), api.OK},
		{wide.Of(5), wide.Of(0), api.Ratio{}, api.ErrDivide},
		{wide.Of(5), negativeZero, api.Ratio{}, api.ErrDivide},
		{wide.Of(0), wide.Of(0), api.Ratio{}, api.ErrDivide},
		{negativeZero, negativeZero, api.Ratio{}, api.ErrDivide},
		{top(), wide.Of(0), api.Ratio{}, api.ErrDivide},
	} {
		r, e := ratio.Make(c.num, c.den)
		check(t, "Make", r, e, c.r, c.e)
	}
}

// third returns a third of 2^256 - 1.
func third() api.Wide {
	w, _, _ := wide.Div(top(), wide.Of(3))
	return w
}

func TestMakeAgainstBig(t *testing.T) {
	for _, num := range integers() {
		for _, den := range integers() {
			r, e := ratio.Make(num, den)
			if toBig(den).Sign() == 0 {
				check(t, "Make", r, e, api.Ratio{}, api.ErrDivide)
				continue
			}
			want, f := fromRat(new(big.Rat).SetFrac(toBig(num), toBig(den)))
			check(t, "Make", r, e, want, f)
		}
	}
}

func TestOf(t *testing.T) {
	for _, c := range []struct {
		num, den int
		r        api.Ratio
		e        api.Errno
	}{
		{6, -4, raw(-3, 2), api.OK},
		{0, -5, raw(0, 1), api.OK},
		{0, 5, raw(0, 1), api.OK},
		{12, 18, raw(2, 3), api.OK},
		{-7, 1, raw(-7, 1), api.OK},
		{least, -1, over(at(63, 0)), api.OK},
		{1, least, api.Ratio{Num: wide.Of(-1), Den: at(63, 0)}, api.OK},
		{least, least, raw(1, 1), api.OK},
		{most, least, api.Ratio{Num: wide.Of(-most), Den: at(63, 0)}, api.OK},
		{5, 0, api.Ratio{}, api.ErrDivide},
		{0, 0, api.Ratio{}, api.ErrDivide},
		{least, 0, api.Ratio{}, api.ErrDivide},
	} {
		r, e := ratio.Of(c.num, c.den)
		check(t, "Of", r, e, c.r, c.e)
	}
}

func TestValid(t *testing.T) {
	for _, r := range []api.Ratio{raw(0, 1), raw(1, 1), raw(-1, 1), raw(1, 2), raw(-3, 2), raw(4, 9), over(top()), under(top()), over(wide.Neg(top())), {Num: top(), Den: at(255, 0)}} {
		if !ratio.Valid(r) {
			t.Errorf("%v is not valid", r)
		}
	}
	for _, r := range invalid() {
		if ratio.Valid(r) {
			t.Errorf("%v is valid", r)
		}
	}
	for _, num := range integers() {
		for _, den := range integers() {
			if r := (api.Ratio{Num: num, Den: den}); ratio.Valid(r) != isValid(r) {
				t.Errorf("Valid of %v is %v", r, ratio.Valid(r))
			}
		}
	}
}

func TestScale(t *testing.T) {
	for _, bits := range []int{3, 20, 100, 200} {
		for _, r := range random(300, bits) {
			for _, k := range []int{1, -1, 2, -2, 6, -35, 1 << 40, least} {
				num, e := wide.Mul(r.Num, wide.Of(k))
				den, f := wide.Mul(r.Den, wide.Of(k))
				if e != api.OK || f != api.OK {
					continue
				}
				scaled, e := ratio.Make(num, den)
				check(t, "the scaled fraction", scaled, e, r, api.OK)
			}
		}
	}
	for k := -9; k <= 9; k++ {
		if k != 0 {
			r, e := ratio.Of(-4*k, 6*k)
			check(t, "the scaled fraction", r, e, raw(-2, 3), api.OK)
		}
	}
}
