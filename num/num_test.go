package num_test

import (
	"math/big"
	"slices"
	"testing"

	"shipyard/api"
	"shipyard/num"
)

const (
	most  = 1<<63 - 1
	least = -1 << 63
)

// values are integers at the edges of words and half words, and ordinary ones, of both signs.
func values() (l []int) {
	for _, n := range []int{0, 1, 2, 3, 5, 6, 7, 10, 12, 99, 1000, 1<<31 - 1, 1 << 31, 1<<32 - 1, 1 << 32, 1<<32 + 1, 3037000499, 1<<40 + 1, 123456789012345678, 1<<62 - 1, 1 << 62, 1<<62 + 1, most - 1, most} {
		l = append(l, n, -n)
	}
	return append(l, least)
}

// floor is the reference: a / b rounded down, where b is not 0.
func floor(a, b *big.Int) *big.Int {
	q, r := new(big.Int).QuoRem(a, b, new(big.Int))
	if r.Sign() != 0 && r.Sign() != b.Sign() {
		q.Sub(q, big.NewInt(1))
	}
	return q
}

// asInt is the reference for results that are not an int.
func asInt(n *big.Int) (int, api.Errno) {
	if !n.IsInt64() {
		return 0, api.ErrOverflow
	}
	return int(n.Int64()), api.OK
}

func TestDivision(t *testing.T) {
	for _, c := range []struct {
		a, b, floor, ceil, round int
		e                        api.Errno
	}{
		{7, -2, -4, -3, -3, api.OK},
		{7, 2, 3, 4, 4, api.OK},
		{5, 2, 2, 3, 3, api.OK},
		{-5, 2, -3, -2, -2, api.OK},
		{-5, -2, 2, 3, 3, api.OK},
		{5, -2, -3, -2, -2, api.OK},
		{7, 3, 2, 3, 2, api.OK},
		{8, 3, 2, 3, 3, api.OK},
		{-7, 3, -3, -2, -2, api.OK},
		{-8, 3, -3, -2, -3, api.OK},
		{1, 2, 0, 1, 1, api.OK},
		{-1, 2, -1, 0, 0, api.OK},
		{-12, 4, -3, -3, -3, api.OK},
		{0, -4, 0, 0, 0, api.OK},
		{least, 1, least, least, least, api.OK},
		{least, 2, -1 << 62, -1 << 62, -1 << 62, api.OK},
		{most, least, -1, 0, -1, api.OK},
		{-1 << 62, least, 0, 1, 1, api.OK},
		{1<<62 + 1, least, -1, 0, -1, api.OK},
		{1 << 62, least, -1, 0, 0, api.OK},
		{least, -1, 0, 0, 0, api.ErrOverflow},
		{5, 0, 0, 0, 0, api.ErrDivide},
		{0, 0, 0, 0, 0, api.ErrDivide},
		{least, 0, 0, 0, 0, api.ErrDivide},
	} {
		if q, e := num.Floor(c.a, c.b); q != c.floor || e != c.e {
			t.Errorf("Floor(%d, %d) is %d, %v", c.a, c.b, q, e)
		}
		if q, e := num.Ceil(c.a, c.b); q != c.ceil || e != c.e {
			t.Errorf("Ceil(%d, %d) is %d, %v", c.a, c.b, q, e)
		}
		if q, e := num.Round(c.a, c.b); q != c.round || e != c.e {
			t.Errorf("Round(%d, %d) is %d, %v", c.a, c.b, q, e)
		}
	}
}

func TestDivisionAgainstBig(t *testing.T) {
	two := big.NewInt(2)
	for _, a := range values() {
		for _, b := range values() {
			if b == 0 {
				continue
			}
			x, y := big.NewInt(int64(a)), big.NewInt(int64(b))
			down, e := asInt(floor(x, y))
			if q, f := num.Floor(a, b); q != down || f != e {
				t.Errorf("Floor(%d, %d) is %d, %v", a, b, q, f)
			}
			// The least integer that is at least a / b is the opposite of -a / b rounded down.
			up, e := asInt(new(big.Int).Neg(floor(new(big.Int).Neg(x), y)))
			if q, f := num.Ceil(a, b); q != up || f != e {
				t.Errorf("Ceil(%d, %d) is %d, %v", a, b, q, f)
			}
			// a / b + 1/2 is (2 * a + b) / (2 * b).
			sum := new(big.Int).Add(new(big.Int).Lsh(x, 1), y)
			near, e := asInt(floor(sum, new(big.Int).Mul(two, y)))
			if q, f := num.Round(a, b); q != near || f != e {
				t.Errorf("Round(%d, %d) is %d, %v", a, b, q, f)
			}
		}
	}
}

func TestRoundingLaws(t *testing.T) {
	for _, a := range values() {
		for _, b := range values() {
			down, e := num.Floor(a, b)
			near, f := num.Round(a, b)
			up, g := num.Ceil(a, b)
			if e != f || f != g {
				t.Errorf("%d / %d: errors %v, %v, %v", a, b, e, f, g)
			}
			if e != api.OK {
				if down != 0 || near != 0 || up != 0 {
					t.Errorf("%d / %d: results with the error %v", a, b, e)
				}
				continue
			}
			if down > near || near > up {
				t.Errorf("%d / %d: %d, %d, %d", a, b, down, near, up)
			}
			want := down
			if a%b != 0 {
				want++
			}
			if up != want {
				t.Errorf("Ceil(%d, %d) is %d, and Floor %d", a, b, up, down)
			}
		}
	}
}

func TestMulDiv(t *testing.T) {
	for _, c := range []struct {
		a, b, c, q int
		e          api.Errno
	}{
		{1 << 62, 6, 8, 3 << 60, api.OK},
		{-7, 1, 2, -4, api.OK},
		{7, 1, -2, -4, api.OK},
		{7, -1, -2, 3, api.OK},
		{-7, -1, -2, -4, api.OK},
		{0, -3, 5, 0, api.OK},
		{0, 3, -5, 0, api.OK},
		{1 << 62, 4, 1, 0, api.ErrOverflow},
		{1 << 62, 2, 1, 0, api.ErrOverflow},
		{1 << 62, 2, -1, least, api.OK},
		{1 << 62, -2, 1, least, api.OK},
		{least, least, least, least, api.OK},
		{least, least, 1, 0, api.ErrOverflow},
		{least, -1, 1, 0, api.ErrOverflow},
		{least, -1, -1, least, api.OK},
		{most, most, most, most, api.OK},
		{most, most, -most, -most, api.OK},
		{-1, 1, most, -1, api.OK},
		{1 << 61, 9, -2, 0, api.ErrOverflow},
		{-3 << 60, 33, 10, 0, api.ErrOverflow},
		{5, 5, 0, 0, api.ErrDivide},
		{most, most, 0, 0, api.ErrDivide},
		{0, 0, 0, 0, api.ErrDivide},
	} {
		if q, e := num.MulDiv(c.a, c.b, c.c); q != c.q || e != c.e {
			t.Errorf("MulDiv(%d, %d, %d) is %d, %v", c.a, c.b, c.c, q, e)
		}
	}
}

func TestMulDivAgainstBig(t *testing.T) {
	for _, a := range values() {
		for _, b := range values() {
			product := new(big.Int).Mul(big.NewInt(int64(a)), big.NewInt(int64(b)))
			for _, c := range values() {
				q, e := num.MulDiv(a, b, c)
				if c == 0 {
					if q != 0 || e != api.ErrDivide {
						t.Errorf("MulDiv(%d, %d, 0) is %d, %v", a, b, q, e)
					}
					continue
				}
				if want, f := asInt(floor(product, big.NewInt(int64(c)))); q != want || e != f {
					t.Errorf("MulDiv(%d, %d, %d) is %d, %v", a, b, c, q, e)
				}
			}
		}
	}
}

// Rounding down can lead just out of the range, or just to its end.
func TestMulDivAtTheLeastInt(t *testing.T) {
	for _, c := range []struct {
		a, b, c, q int
		e          api.Errno
	}{
		{-most, most, most - 1, 0, api.ErrOverflow},
		{most, most, 1 - most, 0, api.ErrOverflow},
		{least, most, most - 1, 0, api.ErrOverflow},
		{least, 1<<62 + 1, 1 << 62, 0, api.ErrOverflow},
		{-3 << 61, 3074457345618258605, 2305843009213693954, least, api.OK},
		{3 << 61, 3074457345618258605, -2305843009213693954, least, api.OK},
		{3 << 61, 3074457345618258605, 2305843009213693954, most, api.OK},
		{least, 3, 3, least, api.OK},
	} {
		if q, e := num.MulDiv(c.a, c.b, c.c); q != c.q || e != c.e {
			t.Errorf("MulDiv(%d, %d, %d) is %d, %v", c.a, c.b, c.c, q, e)
		}
	}
}

func TestMulDivLaws(t *testing.T) {
	for _, a := range values() {
		for _, c := range values() {
			if c == 0 {
				continue
			}
			if q, e := num.MulDiv(a, c, c); q != a || e != api.OK {
				t.Errorf("MulDiv(%d, %d, %d) is %d, %v", a, c, c, q, e)
			}
			q, e := num.MulDiv(a, 1, c)
			if down, f := num.Floor(a, c); q != down || e != f {
				t.Errorf("MulDiv(%d, 1, %d) is %d, %v, and Floor %d, %v", a, c, q, e, down, f)
			}
		}
	}
}

func TestMulDivRemainder(t *testing.T) {
	for _, a := range values() {
		for _, b := range values() {
			for _, c := range values() {
				q, e := num.MulDiv(a, b, c)
				if e != api.OK {
					continue
				}
				z := big.NewInt(int64(c))
				rest := new(big.Int).Mul(big.NewInt(int64(a)), big.NewInt(int64(b)))
				rest.Sub(rest, new(big.Int).Mul(big.NewInt(int64(q)), z))
				if rest.Sign() != 0 && (rest.Sign() != z.Sign() || rest.CmpAbs(z) >= 0) {
					t.Errorf("MulDiv(%d, %d, %d) is %d and leaves %v", a, b, c, q, rest)
				}
			}
		}
	}
}

func TestGcd(t *testing.T) {
	for _, c := range [][3]int{
		{-12, 18, 6}, {12, 18, 6}, {12, -18, 6}, {-12, -18, 6}, {18, 12, 6}, {7, 9, 1}, {1, most, 1},
		{0, -5, 5}, {-5, 0, 5}, {0, 5, 5}, {0, 0, 0}, {6, 6, 6}, {1 << 62, 3 << 60, 1 << 60},
		{least, 0, 0}, {0, least, 0}, {least, least, 0}, {least, 6, 2}, {6, least, 2}, {least, -1 << 62, 1 << 62}, {most, least, 1}, {most, -most, most},
	} {
		if g := num.Gcd(c[0], c[1]); g != c[2] {
			t.Errorf("Gcd(%d, %d) is %d", c[0], c[1], g)
		}
	}
}

func TestGcdAgainstBig(t *testing.T) {
	for _, a := range values() {
		for _, b := range values() {
			x, y := big.NewInt(int64(a)), big.NewInt(int64(b))
			want, _ := asInt(new(big.Int).GCD(nil, nil, x.Abs(x), y.Abs(y)))
			if g := num.Gcd(a, b); g != want {
				t.Errorf("Gcd(%d, %d) is %d", a, b, g)
			}
		}
	}
}

func TestRoot(t *testing.T) {
	for _, c := range [][2]int{
		{99, 9}, {100, 10}, {101, 10}, {0, 0}, {1, 1}, {2, 1}, {3, 1}, {4, 2}, {-1, 0}, {-4, 0}, {-100, 0}, {least, 0},
		{1 << 62, 1 << 31}, {1<<62 - 1, 1<<31 - 1}, {most, 3037000499}, {3037000499 * 3037000499, 3037000499}, {3037000499*3037000499 - 1, 3037000498},
	} {
		if r := num.Root(c[0]); r != c[1] {
			t.Errorf("Root(%d) is %d", c[0], r)
		}
	}
}

func TestRootOfSquares(t *testing.T) {
	for r := 1; r <= 3037000499; r += 1 + r/3 {
		for n, want := range map[int]int{r*r - 1: r - 1, r * r: r, r*r + r: r} {
			if n <= most && n >= 0 && num.Root(n) != want {
				t.Errorf("Root(%d) is %d", n, num.Root(n))
			}
		}
	}
}

func TestSum(t *testing.T) {
	for _, c := range []struct {
		l []int
		n int
		e api.Errno
	}{
		{nil, 0, api.OK},
		{[]int{}, 0, api.OK},
		{[]int{-7}, -7, api.OK},
		{[]int{1, 2, 3, -10}, -4, api.OK},
		{[]int{most, 1, -1}, most, api.OK},
		{[]int{least, -1, 1}, least, api.OK},
		{[]int{most, most, most, least, least, least}, -3, api.OK},
		{[]int{least, least, least, most, most, most}, -3, api.OK},
		{[]int{most, least}, -1, api.OK},
		{[]int{most, 1}, 0, api.ErrOverflow},
		{[]int{1, most}, 0, api.ErrOverflow},
		{[]int{least, -1}, 0, api.ErrOverflow},
		{[]int{most, most}, 0, api.ErrOverflow},
		{[]int{least, least}, 0, api.ErrOverflow},
		{[]int{most, 1, most, 1}, 0, api.ErrOverflow},
		{[]int{least, least, least, least}, 0, api.ErrOverflow},
		{[]int{most, most, -1}, 0, api.ErrOverflow},
	} {
		before := slices.Clone(c.l)
		if n, e := num.Sum(c.l); n != c.n || e != c.e {
			t.Errorf("Sum(%v) is %d, %v", c.l, n, e)
		}
		if !slices.Equal(before, c.l) {
			t.Errorf("Sum changed %v to %v", before, c.l)
		}
	}
}
