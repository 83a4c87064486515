package ratio_test

import (
	"math/big"
	"testing"

	"shipyard/api"
	"shipyard/ratio"
	"shipyard/wide"
)

func TestAddAndSub(t *testing.T) {
	h, p := over(at(255, 0)), under(top())
	minus := over(wide.Neg(at(255, 0)))
	for _, c := range []struct {
		a, b, r api.Ratio
		e       api.Errno
	}{
		{raw(1, 6), raw(1, 10), raw(4, 15), api.OK},
		{raw(1, 6), raw(-1, 10), raw(1, 15), api.OK},
		{raw(-1, 6), raw(1, 10), raw(-1, 15), api.OK},
		{raw(-1, 6), raw(-1, 10), raw(-4, 15), api.OK},
		{raw(1, 2), raw(1, 2), raw(1, 1), api.OK},
		{raw(1, 6), raw(5, 6), raw(1, 1), api.OK},
		{raw(3, 4), raw(-3, 4), raw(0, 1), api.OK},
		{raw(0, 1), raw(-3, 4), raw(-3, 4), api.OK},
		{raw(0, 1), raw(0, 1), raw(0, 1), api.OK},
		{raw(2, 4), raw(1, 2), raw(1, 2), api.OK},
		{raw(1, 2), raw(1, -2), raw(1, 2), api.OK},
		{raw(3, 0), api.Ratio{}, raw(0, 1), api.OK},
		{h, h, api.Ratio{}, api.ErrOverflow},
		{minus, minus, api.Ratio{}, api.ErrOverflow},
		{h, minus, raw(0, 1), api.OK},
		{h, over(at(255, -1)), over(top()), api.OK},
		{minus, over(wide.Neg(at(255, -1))), over(wide.Neg(top())), api.OK},
		{p, p, api.Ratio{Num: wide.Of(2), Den: top()}, api.OK},
		{over(top()), raw(1, 1), api.Ratio{}, api.ErrOverflow},
		{over(top()), raw(-1, 1), over(at(256, -2)), api.OK},
		{over(top()), raw(1, 2), api.Ratio{}, api.ErrOverflow},
		{over(top()), p, api.Ratio{}, api.ErrOverflow},
		{p, under(at(256, -2)), api.Ratio{}, api.ErrOverflow},
		{under(at(255, 0)), under(at(255, 0)), under(at(254, 0)), api.OK},
		{under(at(255, 0)), api.Ratio{Num: top(), Den: at(255, 0)}, raw(2, 1), api.OK},
	} {
		r, e := ratio.Add(c.a, c.b)
		check(t, "Add", r, e, c.r, c.e)
		r, e = ratio.Add(c.b, c.a)
		check(t, "Add", r, e, c.r, c.e)
		if ratio.Valid(c.b) {
			r, e = ratio.Sub(c.a, api.Ratio{Num: wide.Neg(c.b.Num), Den: c.b.Den})
			check(t, "Sub", r, e, c.r, c.e)
		}
	}
	r, e := ratio.Sub(h, h)
	check(t, "Sub", r, e, raw(0, 1), api.OK)
	r, e = ratio.Sub(p, p)
	check(t, "Sub", r, e, raw(0, 1), api.OK)
	r, e = ratio.Sub(raw(1, 2), raw(2, 4))
	check(t, "Sub", r, e, raw(1, 2), api.OK)
	r, e = ratio.Sub(raw(2, 4), raw(1, 2))
	check(t, "Sub", r, e, raw(-1, 2), api.OK)
}

func TestMul(t *testing.T) {
	h, zero := over(at(255, 0)), raw(0, 1)
	for _, c := range []struct {
		a, b, r api.Ratio
		e       api.Errno
	}{
		{raw(2, 3), raw(9, 4), raw(3, 2), api.OK},
		{raw(-2, 3), raw(9, 4), raw(-3, 2), api.OK},
		{raw(-2, 3), raw(-9, 4), raw(3, 2), api.OK},
		{zero, raw(-9, 4), zero, api.OK},
		{raw(2, 4), raw(9, 4), zero, api.OK},
		{api.Ratio{}, over(top()), zero, api.OK},
		{raw(5, 0), raw(1, -2), zero, api.OK},
		{h, raw(2, 1), api.Ratio{}, api.ErrOverflow},
		{h, raw(-2, 1), api.Ratio{}, api.ErrOverflow},
		{h, raw(2, 3), api.Ratio{}, api.ErrOverflow},
		{h, raw(1, 2), over(at(254, 0)), api.OK},
		{h, under(at(255, 0)), raw(1, 1), api.OK},
		{under(at(255, 0)), raw(1, 2), api.Ratio{}, api.ErrOverflow},
		{under(at(128, 0)), under(at(128, 0)), api.Ratio{}, api.ErrOverflow},
		{under(at(128, -1)), under(at(128, 1)), under(top()), api.OK},
		{over(at(128, -1)), over(at(128, 1)), over(top()), api.OK},
		{api.Ratio{Num: top(), Den: at(255, 0)}, api.Ratio{Num: at(255, 0), Den: top()}, raw(1, 1), api.OK},
		{api.Ratio{Num: top(), Den: at(255, 0)}, api.Ratio{Num: at(254, 0), Den: third()}, raw(3, 2), api.OK},
		{over(third()), raw(-3, 1), over(wide.Neg(top())), api.OK},
		{over(third()), raw(4, 1), api.Ratio{}, api.ErrOverflow},
	} {
		r, e := ratio.Mul(c.a, c.b)
		check(t, "Mul", r, e, c.r, c.e)
		r, e = ratio.Mul(c.b, c.a)
		check(t, "Mul", r, e, c.r, c.e)
	}
}

func TestDiv(t *testing.T) {
	h, none := over(at(255, 0)), api.Ratio{}
	for _, c := range []struct {
		a, b, r api.Ratio
		e       api.Errno
	}{
		{raw(2, 3), raw(4, 9), raw(3, 2), api.OK},
		{raw(2, 3), raw(-4, 9), raw(-3, 2), api.OK},
		{raw(-2, 3), raw(-4, 9), raw(3, 2), api.OK},
		{raw(0, 1), raw(-4, 9), raw(0, 1), api.OK},
		{raw(2, 4), raw(-4, 9), raw(0, 1), api.OK},
		{h, h, raw(1, 1), api.OK},
		{h, raw(-2, 1), over(wide.Neg(at(254, 0))), api.OK},
		{h, raw(1, 2), none, api.ErrOverflow},
		{h, raw(-3, 2), none, api.ErrOverflow},
		{raw(1, 1), over(wide.Neg(top())), api.Ratio{Num: wide.Of(-1), Den: top()}, api.OK},
		{raw(1, 2), over(at(255, 0)), none, api.ErrOverflow},
		{raw(2, 1), raw(0, 1), none, api.ErrDivide},
		{raw(0, 1), raw(0, 1), none, api.ErrDivide},
		{h, raw(2, 4), none, api.ErrDivide},
		{h, raw(1, -2), none, api.ErrDivide},
		{h, none, none, api.ErrDivide},
		{h, api.Ratio{Num: negativeZero, Den: wide.Of(1)}, none, api.ErrDivide},
	} {
		r, e := ratio.Div(c.a, c.b)
		check(t, "Div", r, e, c.r, c.e)
	}
}

func TestFieldAgainstBig(t *testing.T) {
	pairs(func(a, b api.Ratio) {
		x, y := value(a), value(b)
		want, f := fromRat(new(big.Rat).Add(x, y))
		r, e := ratio.Add(a, b)
		check(t, "Add", r, e, want, f)
		want, f = fromRat(new(big.Rat).Sub(x, y))
		r, e = ratio.Sub(a, b)
		check(t, "Sub", r, e, want, f)
		want, f = fromRat(new(big.Rat).Mul(x, y))
		r, e = ratio.Mul(a, b)
		check(t, "Mul", r, e, want, f)
		want, f = api.Ratio{}, api.ErrDivide
		if y.Sign() != 0 {
			want, f = fromRat(new(big.Rat).Quo(x, y))
		}
		r, e = ratio.Div(a, b)
		check(t, "Div", r, e, want, f)
	})
}

// The sums of x / (d * p) and y / (d * q) have numerators far beyond 2^256, until they are divided by d.
func TestAddBeyondTheLimit(t *testing.T) {
	g := source()
	beyond, fitting := 0, 0
	for range 6000 {
		bits := 60 + g.IntN(130)
		d, p, q := number(g, bits), number(g, 1+g.IntN(256-bits)), number(g, 1+g.IntN(256-bits))
		x := number(g, 256)
		inverse := new(big.Int).ModInverse(p, d)
		if inverse == nil {
			continue
		}
		y := new(big.Int).Mul(x, q)
		y.Neg(y.Mul(y, inverse)).Mod(y, d)
		if steps := new(big.Int).Quo(toBig(top()), d); g.IntN(2) == 0 {
			y.Add(y, steps.Sub(steps, big.NewInt(1)).Mul(steps, d))
		}
		if g.IntN(2) == 0 {
			x.Neg(x)
			y.Neg(y)
		}
		a, e := fromRat(new(big.Rat).SetFrac(x, p.Mul(p, d)))
		b, f := fromRat(new(big.Rat).SetFrac(y, q.Mul(q, d)))
		if e != api.OK || f != api.OK {
			continue
		}
		want, f := fromRat(new(big.Rat).Add(value(a), value(b)))
		r, e := ratio.Add(a, b)
		check(t, "Add", r, e, want, f)
		if cross := new(big.Int).Mul(toBig(a.Num), toBig(b.Den)); cross.BitLen() > 450 {
			beyond++
			if f == api.OK {
				fitting++
			}
		}
	}
	if beyond < 500 || fitting < 500 {
		t.Errorf("only %d sums are beyond the limit, and %d of them fit", beyond, fitting)
	}
}

// Sums and differences with a known result of 2^256 or next to it.
func TestResultsNextToTheLimit(t *testing.T) {
	one := big.NewInt(1)
	limit := new(big.Int).Lsh(one, 256)
	for d := int64(-2); d <= 2; d++ {
		size := new(big.Int).Add(limit, big.NewInt(d))
		for _, x := range []*big.Rat{new(big.Rat).SetInt(size), new(big.Rat).SetFrac(size, big.NewInt(5)), new(big.Rat).SetFrac(one, size)} {
			for _, k := range []int64{2, 3, 7, 1 << 40} {
				want, f := fromRat(x)
				part, e := fromRat(new(big.Rat).Mul(x, big.NewRat(1, k)))
				if e == api.OK {
					r, e := ratio.Mul(part, raw(int(k), 1))
					check(t, "Mul", r, e, want, f)
				}
				rest, e := fromRat(new(big.Rat).Sub(x, big.NewRat(k, 5)))
				if e == api.OK {
					r, e := ratio.Add(rest, raw(int(k), 5))
					check(t, "Add", r, e, want, f)
				}
			}
		}
	}
}

// triples calls f with three fractions, often with sums and products that do not overflow.
func triples(f func(a, b, c api.Ratio)) {
	for _, bits := range []int{3, 20, 40, 90} {
		l := random(3000, bits)
		for i := range len(l) / 3 {
			f(l[3*i], l[3*i+1], l[3*i+2])
		}
	}
	l := []api.Ratio{raw(0, 1), raw(-3, 2), raw(1, 6), raw(2, 4), under(top()), over(top()), over(at(255, 0)), over(wide.Neg(at(254, 0)))}
	for _, a := range l {
		for _, b := range l {
			for _, c := range l {
				f(a, b, c)
			}
		}
	}
}

// operation is one of the four.
type operation func(a, b api.Ratio) (api.Ratio, api.Errno)

// grouped returns (a inner b) outer c, where both are defined.
func grouped(inner, outer operation, a, b, c api.Ratio) (r api.Ratio, ok bool) {
	first, e := inner(a, b)
	if e != api.OK {
		return api.Ratio{}, false
	}
	r, e = outer(first, c)
	return r, e == api.OK
}

func TestSumsAndProductsInAnyOrder(t *testing.T) {
	triples(func(a, b, c api.Ratio) {
		for name, op := range map[string]operation{"Add": ratio.Add, "Mul": ratio.Mul} {
			r, e := op(a, b)
			s, f := op(b, a)
			check(t, name, r, e, s, f)
			left, ok := grouped(op, op, a, b, c)
			right, fine := grouped(op, op, b, c, a)
			if ok && fine && left != right {
				t.Errorf("%s of %v, %v and %v is %v and %v", name, a, b, c, left, right)
			}
		}
	})
}

func TestProductsOfSums(t *testing.T) {
	compared := 0
	triples(func(a, b, c api.Ratio) {
		left, ok := grouped(ratio.Add, ratio.Mul, a, b, c)
		x, e := ratio.Mul(a, c)
		y, f := ratio.Mul(b, c)
		right, g := ratio.Add(x, y)
		if !ok || e != api.OK || f != api.OK || g != api.OK {
			return
		}
		compared++
		check(t, "the sum of products", right, g, left, api.OK)
	})
	if compared < 1000 {
		t.Errorf("only %d were compared", compared)
	}
}

func TestInverseOperations(t *testing.T) {
	pairs(func(a, b api.Ratio) {
		back, ok := grouped(ratio.Add, ratio.Sub, a, b, b)
		if ok && value(back).Cmp(value(a)) != 0 {
			t.Errorf("%v plus and less %v is %v", a, b, back)
		}
		back, ok = grouped(ratio.Mul, ratio.Div, a, b, b)
		if ok && value(back).Cmp(value(a)) != 0 {
			t.Errorf("%v times and by %v is %v", a, b, back)
		}
	})
}
