package wide_test

import (
	"math/big"
	"testing"

	"shipyard/api"
	"shipyard/wide"
)

func TestAdd(t *testing.T) {
	zero, one, top := words(false), words(false, 1), words(false, full, full, full, full)
	for _, c := range []struct {
		a, b, w api.Wide
		e       api.Errno
	}{
		{words(false, 2), words(false, 3), words(false, 5), api.OK},
		{words(true, 2), words(true, 3), words(true, 5), api.OK},
		{words(false, 2), words(true, 3), words(true, 1), api.OK},
		{words(true, 2), words(false, 3), one, api.OK},
		{words(true, 3), words(false, 3), zero, api.OK},
		{negativeZero, negativeZero, zero, api.OK},
		{negativeZero, zero, zero, api.OK},
		{negativeZero, words(true, 3), words(true, 3), api.OK},
		{negativeZero, words(false, 3), words(false, 3), api.OK},
		{words(false, full), one, words(false, 0, 1), api.OK},
		{words(false, full, full, full), one, words(false, 0, 0, 0, 1), api.OK},
		{words(false, 0, 0, 0, 1), words(true, 1), words(false, full, full, full), api.OK},
		{words(false, full, full), words(false, full, full), words(false, full-1, full, 1), api.OK},
		{words(false, full-1, full, full, full), one, top, api.OK},
		{top, words(true, 1), words(false, full-1, full, full, full), api.OK},
		{top, zero, top, api.OK},
		{top, negativeZero, top, api.OK},
		{top, wide.Neg(top), zero, api.OK},
		{top, one, zero, api.ErrOverflow},
		{one, top, zero, api.ErrOverflow},
		{top, top, zero, api.ErrOverflow},
		{wide.Neg(top), words(true, 1), zero, api.ErrOverflow},
		{at(255), at(255), zero, api.ErrOverflow},
		{at(255), words(false, full, full, full, most), top, api.OK},
	} {
		w, e := wide.Add(c.a, c.b)
		check(t, "Add", w, e, c.w, c.e)
		w, e = wide.Sub(c.a, wide.Neg(c.b))
		check(t, "Sub", w, e, c.w, c.e)
	}
}

func TestSub(t *testing.T) {
	zero, top := words(false), words(false, full, full, full, full)
	for _, c := range []struct {
		a, b, w api.Wide
		e       api.Errno
	}{
		{words(false, 2), words(false, 3), words(true, 1), api.OK},
		{words(true, 2), words(true, 3), words(false, 1), api.OK},
		{zero, zero, zero, api.OK},
		{zero, negativeZero, zero, api.OK},
		{negativeZero, zero, zero, api.OK},
		{negativeZero, negativeZero, zero, api.OK},
		{negativeZero, words(false, 7), words(true, 7), api.OK},
		{words(true, 7), negativeZero, words(true, 7), api.OK},
		{top, top, zero, api.OK},
		{wide.Neg(top), wide.Neg(top), zero, api.OK},
		{zero, top, wide.Neg(top), api.OK},
		{top, words(true, 1), zero, api.ErrOverflow},
		{wide.Neg(top), words(false, 1), zero, api.ErrOverflow},
		{top, wide.Neg(top), zero, api.ErrOverflow},
	} {
		w, e := wide.Sub(c.a, c.b)
		check(t, "Sub", w, e, c.w, c.e)
	}
}

func TestMul(t *testing.T) {
	zero, top := words(false), words(false, full, full, full, full)
	for _, c := range []struct {
		a, b, w api.Wide
		e       api.Errno
	}{
		{wide.Of(4294967296), wide.Of(4294967296), words(false, 0, 1), api.OK},
		{wide.Of(-6), wide.Of(7), wide.Of(-42), api.OK},
		{wide.Of(6), wide.Of(-7), wide.Of(-42), api.OK},
		{wide.Of(-6), wide.Of(-7), wide.Of(42), api.OK},
		{zero, wide.Of(-7), zero, api.OK},
		{wide.Of(-7), zero, zero, api.OK},
		{negativeZero, negativeZero, zero, api.OK},
		{negativeZero, wide.Of(7), zero, api.OK},
		{negativeZero, wide.Neg(top), zero, api.OK},
		{wide.Of(least), wide.Of(least), words(false, 0, 1<<62), api.OK},
		{words(false, full), words(false, full), words(false, 1, full-1), api.OK},
		{words(false, full, full), words(false, full, full), words(false, 1, 0, full-1, full), api.OK},
		{words(false, full, full), words(false, 1, 0, 1), top, api.OK},
		{top, wide.Of(1), top, api.OK},
		{top, wide.Of(-1), wide.Neg(top), api.OK},
		{at(128), words(false, full, full), words(false, 0, 0, full, full), api.OK},
		{at(255), wide.Of(1), at(255), api.OK},
		{at(128), at(128), zero, api.ErrOverflow},
		{at(128), wide.Neg(at(128)), zero, api.ErrOverflow},
		{at(255), wide.Of(2), zero, api.ErrOverflow},
		{at(192), at(64), zero, api.ErrOverflow},
		{at(255), at(255), zero, api.ErrOverflow},
		{top, wide.Of(2), zero, api.ErrOverflow},
		{top, top, zero, api.ErrOverflow},
		{wide.Neg(top), wide.Neg(top), zero, api.ErrOverflow},
	} {
		w, e := wide.Mul(c.a, c.b)
		check(t, "Mul", w, e, c.w, c.e)
	}
}

func TestRingAgainstBig(t *testing.T) {
	pairs(func(a, b api.Wide) {
		x, y := toBig(a), toBig(b)
		want, f := fromBig(new(big.Int).Add(x, y))
		w, e := wide.Add(a, b)
		check(t, "Add", w, e, want, f)
		want, f = fromBig(new(big.Int).Sub(x, y))
		w, e = wide.Sub(a, b)
		check(t, "Sub", w, e, want, f)
		want, f = fromBig(new(big.Int).Mul(x, y))
		w, e = wide.Mul(a, b)
		check(t, "Mul", w, e, want, f)
	})
}

// The products of shortened numbers come near to 2^256 from both sides.
func TestMulNearTheLimit(t *testing.T) {
	for _, a := range random(3000) {
		x := toBig(a)
		if x.Sign() == 0 {
			continue
		}
		limit := new(big.Int).Lsh(big.NewInt(1), 256)
		below, _ := fromBig(new(big.Int).Quo(limit.Sub(limit, big.NewInt(1)), x))
		w, e := wide.Mul(a, below)
		want, f := fromBig(new(big.Int).Mul(x, toBig(below)))
		check(t, "Mul", w, e, want, f)
		if e != api.OK {
			t.Errorf("Mul of %v and %v is %v", a, below, e)
		}
		next, e := wide.Add(below, words(below.Neg, 1))
		if e != api.OK {
			continue
		}
		w, e = wide.Mul(a, next)
		check(t, "Mul", w, e, api.Wide{}, api.ErrOverflow)
	}
}

func TestRingOfTwo(t *testing.T) {
	pairs(func(a, b api.Wide) {
		w, e := wide.Add(a, b)
		v, f := wide.Add(b, a)
		check(t, "Add", w, e, v, f)
		if e == api.OK {
			w, e = wide.Sub(w, b)
			check(t, "Sub of Add", w, e, wide.Neg(wide.Neg(a)), api.OK)
		}
		w, e = wide.Mul(a, b)
		v, f = wide.Mul(b, a)
		check(t, "Mul", w, e, v, f)
	})
}

// sum and product return false after an error.
func sum(a, b api.Wide, ok bool) (api.Wide, bool) {
	w, e := wide.Add(a, b)
	return w, ok && e == api.OK
}

func product(a, b api.Wide, ok bool) (api.Wide, bool) {
	w, e := wide.Mul(a, b)
	return w, ok && e == api.OK
}

func TestRingOfThree(t *testing.T) {
	l := append(edges(), random(3000)...)
	groups, distributed := 0, 0
	for i := range l {
		a, b, c := l[i], l[(7*i+3)%len(l)], l[(11*i+5)%len(l)]
		left, ok := sum(a, b, true)
		left, ok = sum(left, c, ok)
		right, fine := sum(b, c, true)
		right, fine = sum(a, right, fine)
		if ok && fine {
			check(t, "a sum of three", left, api.OK, right, api.OK)
			groups++
		}
		left, ok = sum(b, c, true)
		left, ok = product(a, left, ok)
		first, fine := product(a, b, true)
		second, fine := product(a, c, fine)
		right, fine = sum(first, second, fine)
		if ok && fine {
			check(t, "a product with a sum", left, api.OK, right, api.OK)
			distributed++
		}
	}
	if groups < 1000 || distributed < 200 {
		t.Errorf("only %d sums and %d products without an error", groups, distributed)
	}
}
