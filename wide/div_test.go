package wide_test

import (
	"math/big"
	"testing"

	"shipyard/api"
	"shipyard/wide"
)

func TestDiv(t *testing.T) {
	zero, one, top := words(false), words(false, 1), words(false, full, full, full, full)
	for _, c := range []struct {
		a, b, q, r api.Wide
		e          api.Errno
	}{
		{wide.Of(7), wide.Of(2), wide.Of(3), wide.Of(1), api.OK},
		{wide.Of(-7), wide.Of(2), wide.Of(-4), wide.Of(1), api.OK},
		{wide.Of(7), wide.Of(-2), wide.Of(-4), wide.Of(-1), api.OK},
		{wide.Of(-7), wide.Of(-2), wide.Of(3), wide.Of(-1), api.OK},
		{wide.Of(6), wide.Of(-2), wide.Of(-3), zero, api.OK},
		{wide.Of(-6), wide.Of(2), wide.Of(-3), zero, api.OK},
		{wide.Of(-6), wide.Of(-2), wide.Of(3), zero, api.OK},
		{wide.Of(1), wide.Of(5), zero, wide.Of(1), api.OK},
		{wide.Of(-1), wide.Of(5), wide.Of(-1), wide.Of(4), api.OK},
		{wide.Of(1), wide.Of(-5), wide.Of(-1), wide.Of(-4), api.OK},
		{wide.Of(-1), wide.Of(-5), zero, wide.Of(-1), api.OK},
		{zero, wide.Of(-5), zero, zero, api.OK},
		{negativeZero, wide.Of(5), zero, zero, api.OK},
		{negativeZero, wide.Of(-5), zero, zero, api.OK},
		{top, one, top, zero, api.OK},
		{top, wide.Of(-1), wide.Neg(top), zero, api.OK},
		{wide.Neg(top), wide.Of(-1), top, zero, api.OK},
		{top, top, one, zero, api.OK},
		{top, wide.Neg(top), wide.Of(-1), zero, api.OK},
		{one, wide.Neg(top), wide.Of(-1), words(true, full-1, full, full, full), api.OK},
		{wide.Of(-1), top, wide.Of(-1), words(false, full-1, full, full, full), api.OK},
		{wide.Neg(top), wide.Of(2), words(true, 0, 0, 0, 1<<63), one, api.OK},
		{top, at(255), one, words(false, full, full, full, most), api.OK},
		{top, at(128), words(false, full, full), words(false, full, full), api.OK},
		{words(false, 0, 1), words(false, full), one, one, api.OK},
		{wide.Of(least), wide.Of(-1), words(false, 1<<63), zero, api.OK},
		{wide.Of(7), zero, zero, zero, api.ErrDivide},
		{wide.Of(7), negativeZero, zero, zero, api.ErrDivide},
		{zero, zero, zero, zero, api.ErrDivide},
		{negativeZero, negativeZero, zero, zero, api.ErrDivide},
		{top, zero, zero, zero, api.ErrDivide},
	} {
		q, r, e := wide.Div(c.a, c.b)
		check(t, "the quotient", q, e, c.q, c.e)
		check(t, "the remainder", r, e, c.r, c.e)
	}
}

func TestDivAgainstBig(t *testing.T) {
	pairs(func(a, b api.Wide) {
		x, y := toBig(a), toBig(b)
		if y.Sign() == 0 {
			return
		}
		q, r := new(big.Int).QuoRem(x, y, new(big.Int))
		if r.Sign() != 0 && r.Sign() != y.Sign() {
			q.Sub(q, big.NewInt(1))
			r.Add(r, y)
		}
		quotient, rest, e := wide.Div(a, b)
		want, f := fromBig(q)
		check(t, "the quotient", quotient, e, want, f)
		want, f = fromBig(r)
		check(t, "the remainder", rest, e, want, f)
	})
}

func TestDivLaws(t *testing.T) {
	pairs(func(a, b api.Wide) {
		if wide.Cmp(b, wide.Of(0)) == 0 {
			return
		}
		q, r, e := wide.Div(a, b)
		if e != api.OK || !wide.Valid(q) || !wide.Valid(r) {
			t.Errorf("Div of %v and %v is %v, %v, %v", a, b, q, r, e)
		}
		// Where the quotient is rounded up in magnitude, q * b can be beyond 2^256.
		back := new(big.Int).Mul(toBig(q), toBig(b))
		if back.Add(back, toBig(r)).Cmp(toBig(a)) != 0 {
			t.Errorf("Div of %v and %v is %v, %v", a, b, q, r)
		}
		if wide.Cmp(r, wide.Of(0)) == 0 {
			return
		}
		less := wide.Cmp(r, b)
		if r.Neg != b.Neg || b.Neg && less != 1 || !b.Neg && less != -1 {
			t.Errorf("Div of %v and %v leaves %v", a, b, r)
		}
	})
}

func TestGcd(t *testing.T) {
	zero, top := words(false), words(false, full, full, full, full)
	for _, c := range [][3]api.Wide{
		{wide.Of(-12), wide.Of(18), wide.Of(6)},
		{wide.Of(12), wide.Of(-18), wide.Of(6)},
		{wide.Of(-18), wide.Of(-12), wide.Of(6)},
		{wide.Of(7), wide.Of(9), wide.Of(1)},
		{zero, wide.Of(-5), wide.Of(5)},
		{wide.Of(-5), zero, wide.Of(5)},
		{negativeZero, wide.Of(-5), wide.Of(5)},
		{wide.Of(5), negativeZero, wide.Of(5)},
		{zero, zero, zero},
		{negativeZero, negativeZero, zero},
		{negativeZero, zero, zero},
		{wide.Neg(top), zero, top},
		{zero, top, top},
		{wide.Neg(top), wide.Neg(top), top},
		{top, wide.Of(1), wide.Of(1)},
		{wide.Of(least), wide.Of(least), words(false, 1<<63)},
		{wide.Neg(at(255)), at(200), at(200)},
		{top, words(false, full, full), words(false, full, full)},
		{words(false, 0, 0, 0, 6), words(true, 0, 0, 9), words(false, 0, 0, 3)},
	} {
		if g := wide.Gcd(c[0], c[1]); g != c[2] {
			t.Errorf("Gcd of %v and %v is %v", c[0], c[1], g)
		}
	}
}

func TestGcdAgainstBig(t *testing.T) {
	pairs(func(a, b api.Wide) {
		x, y := toBig(a), toBig(b)
		want, _ := fromBig(new(big.Int).GCD(nil, nil, x.Abs(x), y.Abs(y)))
		check(t, "Gcd", wide.Gcd(a, b), api.OK, want, api.OK)
	})
}

// The quotients of neighbours in the sequence of Fibonacci are all 1, so that their Gcd needs the most divisions.
func TestGcdOfFibonacci(t *testing.T) {
	a, b := wide.Of(1), wide.Of(1)
	for {
		next, e := wide.Add(a, b)
		if e != api.OK {
			break
		}
		a, b = b, next
		if g := wide.Gcd(a, b); g != wide.Of(1) {
			t.Errorf("Gcd of %v and %v is %v", a, b, g)
		}
	}
	if b.Mag[3] == 0 {
		t.Errorf("the greatest of them is %v", b)
	}
}

// divides reports whether g divides w without a remainder.
func divides(g, w api.Wide) bool {
	_, r, e := wide.Div(w, g)
	return e == api.OK && r == wide.Of(0)
}

func TestGcdLaws(t *testing.T) {
	pairs(func(a, b api.Wide) {
		g := wide.Gcd(a, b)
		if g == wide.Of(0) {
			if wide.Cmp(a, g) != 0 || wide.Cmp(b, g) != 0 {
				t.Errorf("Gcd of %v and %v is 0", a, b)
			}
			return
		}
		if g.Neg || !divides(g, a) || !divides(g, b) {
			t.Errorf("%v does not divide %v and %v", g, a, b)
		}
		for d := 2; d < 40; d++ {
			if w := wide.Of(d); divides(w, a) && divides(w, b) && !divides(w, g) {
				t.Errorf("%d divides %v and %v, but not %v", d, a, b, g)
			}
		}
	})
}

// Common factors are found, however great they are.
func TestGcdOfMultiples(t *testing.T) {
	l := random(4000)
	for i, d := range l {
		if d.Mag[2] != 0 || d.Mag[3] != 0 || wide.Cmp(d, wide.Of(0)) == 0 {
			continue
		}
		x, y := l[(3*i+1)%len(l)].Mag[0], l[(5*i+2)%len(l)].Mag[0]
		a, e := wide.Mul(d, words(false, x))
		b, f := wide.Mul(d, words(true, y))
		if e != api.OK || f != api.OK {
			t.Fatal(e, f)
		}
		if g := wide.Gcd(a, b); x|y != 0 && !divides(d, g) {
			t.Errorf("%v does not divide the Gcd %v of %v and %v", d, g, a, b)
		}
	}
}
