package ratio_test

import (
	"math/big"
	"strings"
	"testing"

	"shipyard/api"
	"shipyard/ratio"
	"shipyard/wide"
)

func TestCmp(t *testing.T) {
	p := under(top())
	for _, c := range []struct {
		a, b api.Ratio
		n    int
	}{
		{raw(1, 3), raw(2, 5), -1},
		{raw(-1, 3), raw(-2, 5), 1},
		{raw(-1, 3), raw(2, 5), -1},
		{raw(1, 2), raw(1, 2), 0},
		{raw(0, 1), raw(-1, 7), 1},
		{raw(0, 1), raw(1, 7), -1},
		{raw(0, 1), raw(0, 1), 0},
		{raw(2, 4), raw(0, 1), 0},
		{raw(2, 4), raw(1, 2), -1},
		{raw(1, -2), raw(-1, 2), 1},
		{api.Ratio{}, raw(5, 0), 0},
		{over(top()), over(at(256, -2)), 1},
		{over(wide.Neg(top())), over(at(256, -2)), -1},
		{over(wide.Neg(top())), over(top()), -1},
		{over(top()), over(wide.Neg(top())), 1},
		{p, under(at(256, -2)), -1},
		{p, over(top()), -1},
		{over(top()), p, 1},
		{api.Ratio{Num: at(256, -2), Den: top()}, api.Ratio{Num: at(256, -3), Den: at(256, -2)}, 1},
		{api.Ratio{Num: wide.Neg(at(256, -2)), Den: top()}, api.Ratio{Num: wide.Neg(at(256, -3)), Den: at(256, -2)}, -1},
		{api.Ratio{Num: top(), Den: at(256, -2)}, api.Ratio{Num: at(256, -2), Den: at(256, -3)}, -1},
	} {
		if n := ratio.Cmp(c.a, c.b); n != c.n {
			t.Errorf("Cmp of %v and %v is %d", c.a, c.b, n)
		}
		if n := ratio.Cmp(c.b, c.a); n != -c.n {
			t.Errorf("Cmp of %v and %v is %d", c.b, c.a, n)
		}
	}
}

func TestCmpAgainstBig(t *testing.T) {
	pairs(func(a, b api.Ratio) {
		if n := ratio.Cmp(a, b); n != value(a).Cmp(value(b)) {
			t.Errorf("Cmp of %v and %v is %d", a, b, n)
		}
	})
}

func TestFloorAndRound(t *testing.T) {
	for _, c := range []struct {
		r            api.Ratio
		floor, round int
	}{
		{raw(-5, 2), -3, -2}, {raw(5, 2), 2, 3}, {raw(-1, 2), -1, 0}, {raw(1, 2), 0, 1}, {raw(-3, 2), -2, -1}, {raw(3, 2), 1, 2},
		{raw(7, 3), 2, 2}, {raw(-7, 3), -3, -2}, {raw(8, 3), 2, 3}, {raw(-8, 3), -3, -3}, {raw(1, 3), 0, 0}, {raw(-1, 3), -1, 0},
		{raw(0, 1), 0, 0}, {raw(4, 1), 4, 4}, {raw(-4, 1), -4, -4},
		{under(top()), 0, 0}, {api.Ratio{Num: wide.Of(-1), Den: top()}, -1, 0},
		{api.Ratio{Num: at(255, -1), Den: top()}, 0, 0}, {api.Ratio{Num: at(255, 0), Den: top()}, 0, 1},
		{api.Ratio{Num: wide.Neg(at(255, -1)), Den: top()}, -1, 0}, {api.Ratio{Num: wide.Neg(at(255, 0)), Den: top()}, -1, -1},
		{raw(2, 4), 0, 0}, {raw(-5, -2), 0, 0}, {raw(5, -2), 0, 0}, {raw(7, 0), 0, 0}, {api.Ratio{}, 0, 0},
	} {
		if w := ratio.Floor(c.r); w != wide.Of(c.floor) {
			t.Errorf("Floor of %v is %v", c.r, w)
		}
		if w := ratio.Round(c.r); w != wide.Of(c.round) {
			t.Errorf("Round of %v is %v", c.r, w)
		}
	}
	half := api.Ratio{Num: top(), Den: wide.Of(2)}
	if w := ratio.Floor(half); w != at(255, -1) {
		t.Errorf("Floor of %v is %v", half, w)
	}
	if w := ratio.Round(half); w != at(255, 0) {
		t.Errorf("Round of %v is %v", half, w)
	}
	half.Num.Neg = true
	if w := ratio.Floor(half); w != wide.Neg(at(255, 0)) {
		t.Errorf("Floor of %v is %v", half, w)
	}
	if w := ratio.Round(half); w != wide.Neg(at(255, -1)) {
		t.Errorf("Round of %v is %v", half, w)
	}
	for _, w := range []api.Wide{top(), wide.Neg(top())} {
		if ratio.Floor(over(w)) != w || ratio.Round(over(w)) != w {
			t.Errorf("%v is rounded", w)
		}
	}
}

// floorOf is the reference for rounding down.
func floorOf(x *big.Rat) *big.Int {
	// Euclid's division rounds down, as denominators are positive.
	return new(big.Int).Div(x.Num(), x.Denom())
}

// roundOf is the reference for rounding to the nearest integer: x + 1/2 rounded down.
func roundOf(x *big.Rat) *big.Int {
	return floorOf(new(big.Rat).Add(x, big.NewRat(1, 2)))
}

// single calls f with all kinds of fractions.
func single(f func(r api.Ratio)) {
	for _, r := range fractions() {
		f(r)
	}
	for _, bits := range []int{4, 16, 64, 128, 256} {
		for _, r := range random(600, bits) {
			f(r)
		}
	}
}

func TestRoundingAgainstBig(t *testing.T) {
	single(func(r api.Ratio) {
		x := value(r)
		if w := ratio.Floor(r); !wide.Valid(w) || toBig(w).Cmp(floorOf(x)) != 0 {
			t.Errorf("Floor of %v is %v", r, w)
		}
		if w := ratio.Round(r); !wide.Valid(w) || toBig(w).Cmp(roundOf(x)) != 0 {
			t.Errorf("Round of %v is %v", r, w)
		}
	})
}

func TestRoundingLaws(t *testing.T) {
	half := raw(1, 2)
	single(func(r api.Ratio) {
		down, near := over(ratio.Floor(r)), over(ratio.Round(r))
		if ratio.Cmp(down, r) > 0 {
			t.Errorf("Floor of %v is %v", r, down)
		}
		if up, e := ratio.Add(down, raw(1, 1)); e == api.OK && ratio.Cmp(r, up) >= 0 {
			t.Errorf("Floor of %v is %v", r, down)
		}
		difference, e := ratio.Sub(r, near)
		if e != api.OK || ratio.Cmp(difference, half) >= 0 || ratio.Cmp(difference, raw(-1, 2)) < 0 {
			t.Errorf("Round of %v is %v", r, near)
		}
	})
	pairs(func(a, b api.Ratio) {
		if difference, e := ratio.Sub(a, b); e == api.OK && ratio.Cmp(a, b) != toBig(difference.Num).Sign() {
			t.Errorf("Cmp of %v and %v is %d", a, b, ratio.Cmp(a, b))
		}
	})
}

func TestText(t *testing.T) {
	const longest = "115792089237316195423570985008687907853269984665640564039457584007913129639935"
	for _, c := range []struct {
		r api.Ratio
		s string
	}{
		{raw(-3, 2), "-3/2"}, {raw(3, 2), "3/2"}, {raw(0, 1), "0/1"}, {raw(-7, 1), "-7/1"}, {raw(1, 1000), "1/1000"},
		{over(wide.Neg(top())), "-" + longest + "/1"}, {under(top()), "1/" + longest},
		{raw(2, 4), "0/1"}, {raw(1, -2), "0/1"}, {raw(5, 0), "0/1"}, {api.Ratio{}, "0/1"}, {api.Ratio{Num: negativeZero, Den: wide.Of(1)}, "0/1"},
	} {
		if s := ratio.Text(c.r); s != c.s {
			t.Errorf("Text of %v is %q", c.r, s)
		}
	}
	single(func(r api.Ratio) {
		if s := ratio.Text(r); s != value(r).String() {
			t.Errorf("Text of %v is %q", r, s)
		}
	})
}

func TestDecimal(t *testing.T) {
	for _, c := range []struct {
		r      api.Ratio
		places int
		s      string
	}{
		{raw(-3, 2), 0, "-1"}, {raw(3, 2), 0, "2"}, {raw(2, 3), 3, "0.667"}, {raw(-2, 3), 3, "-0.667"}, {raw(-1, 1000), 2, "0.00"},
		{raw(1, 8), 2, "0.13"}, {raw(-1, 8), 2, "-0.12"}, {raw(1, 8), 3, "0.125"}, {raw(-1, 8), 3, "-0.125"}, {raw(1, 8), 5, "0.12500"},
		{raw(1, 2), 0, "1"}, {raw(-1, 2), 0, "0"}, {raw(1, 3), 0, "0"}, {raw(-2, 3), 0, "-1"},
		{raw(0, 1), 0, "0"}, {raw(0, 1), 3, "0.000"}, {raw(12, 1), 0, "12"}, {raw(-12, 1), 2, "-12.00"},
		{raw(1, 200), 2, "0.01"}, {raw(-1, 200), 2, "0.00"}, {raw(-3, 200), 2, "-0.01"}, {raw(-1, 100), 2, "-0.01"}, {raw(1, 201), 2, "0.00"}, {raw(-1, 199), 2, "-0.01"},
		{raw(10007, 1000), 3, "10.007"}, {raw(10007, 1000), 2, "10.01"}, {raw(10007, 1000), 1, "10.0"}, {raw(-10007, 1000), 3, "-10.007"},
		{raw(999, 1000), 2, "1.00"}, {raw(199, 200), 2, "1.00"}, {raw(-199, 200), 2, "-0.99"}, {raw(-1999, 2000), 2, "-1.00"}, {raw(9999, 1000), 2, "10.00"}, {raw(-9999, 1000), 1, "-10.0"},
		{raw(7, 2), -1, "4"}, {raw(-7, 2), least, "-3"}, {raw(1, 3), -7, "0"},
		{raw(1, 3), 18, "0.333333333333333333"}, {raw(2, 3), 18, "0.666666666666666667"}, {raw(2, 3), 19, "0.666666666666666667"}, {raw(-2, 3), most, "-0.666666666666666667"}, {raw(5, 1), 40, "5.000000000000000000"},
		{over(at(64, 0)), 1, "18446744073709551616.0"}, {under(top()), 18, "0.000000000000000000"}, {api.Ratio{Num: wide.Of(-1), Den: top()}, 18, "0.000000000000000000"},
		{api.Ratio{Num: at(256, -2), Den: top()}, 18, "1.000000000000000000"},
		{over(wide.Neg(top())), 18, "-" + wide.Text(top()) + ".000000000000000000"},
		{raw(2, 4), 2, "0.00"}, {raw(1, -2), 0, "0"}, {raw(5, 0), 1, "0.0"}, {api.Ratio{}, 0, "0"},
	} {
		if s := ratio.Decimal(c.r, c.places); s != c.s {
			t.Errorf("Decimal of %v with %d places is %q", c.r, c.places, s)
		}
	}
}

// decimal is the reference for Decimal with 0 to 18 places.
func decimal(x *big.Rat, places int) string {
	scale := new(big.Int).Exp(big.NewInt(10), big.NewInt(int64(places)), nil)
	n := roundOf(new(big.Rat).Mul(x, new(big.Rat).SetInt(scale)))
	sign := ""
	if n.Sign() < 0 {
		sign = "-"
		n.Neg(n)
	}
	s := n.String()
	if len(s) <= places {
		s = strings.Repeat("0", places+1-len(s)) + s
	}
	if places == 0 {
		return sign + s
	}
	return sign + s[:len(s)-places] + "." + s[len(s)-places:]
}

func TestDecimalAgainstBig(t *testing.T) {
	single(func(r api.Ratio) {
		for places := range 19 {
			if s := ratio.Decimal(r, places); s != decimal(value(r), places) {
				t.Errorf("Decimal of %v with %d places is %q", r, places, s)
			}
		}
		if ratio.Decimal(r, -3) != decimal(value(r), 0) || ratio.Decimal(r, 25) != decimal(value(r), 18) {
			t.Errorf("the places of Decimal of %v", r)
		}
	})
}

// Halves of the last place are rounded up for both signs.
func TestDecimalOfHalves(t *testing.T) {
	den := 2
	for places := range 18 {
		for n := -25; n <= 25; n += 2 {
			r, e := ratio.Of(n, den)
			if s := ratio.Decimal(r, places); e != api.OK || s != decimal(big.NewRat(int64(n), int64(den)), places) {
				t.Errorf("Decimal of %d / %d with %d places is %q", n, den, places, s)
			}
		}
		den *= 10
	}
}
