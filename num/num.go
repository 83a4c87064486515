// Package num is layer 1: exact division, rounding, and numbers in texts; see shared/doc/01-num.md.
package num

import "shipyard/api"

const (
	most  = 1<<63 - 1
	least = -1 << 63
)

// Floor returns a / b rounded down.
func Floor(a, b int) (q int, e api.Errno) {
	q, _, e = divide(a, b)
	return q, e
}

// Ceil returns a / b rounded up.
func Ceil(a, b int) (q int, e api.Errno) {
	q, r, e := divide(a, b)
	if r != 0 {
		q++
	}
	return q, e
}

// Round returns a / b rounded to the nearest integer, halves up.
func Round(a, b int) (q int, e api.Errno) {
	q, r, e := divide(a, b)
	// Twice the remainder could be too great for a word, so what it leaves of b is compared.
	if r != 0 && magnitude(r) >= magnitude(b)-magnitude(r) {
		q++
	}
	return q, e
}

// MulDiv returns a * b / c rounded down, where the product is exact.
func MulDiv(a, b, c int) (q int, e api.Errno) {
	if c == 0 {
		return 0, api.ErrDivide
	}
	high, low := multiply(magnitude(a), magnitude(b))
	d := magnitude(c)
	// Then the quotient needs more than one word, whatever its sign.
	if high >= d {
		return 0, api.ErrOverflow
	}
	size, rest := divideLong(high, low, d)
	below := (a < 0) != (b < 0)
	if below == (c < 0) {
		return positive(size)
	}
	return negative(size, rest)
}

// Gcd returns the greatest common divisor.
func Gcd(a, b int) (g int) {
	x, y := magnitude(a), magnitude(b)
	for y != 0 {
		x, y = y, x%y
	}
	if x > most {
		return 0
	}
	return int(x)
}

// Root returns the integer square root.
func Root(n int) (r int) {
	if n < 0 {
		return 0
	}
	root := uint64(0)
	// Squares of 32 bits can be too great for an int, but not for its unsigned counterpart.
	for i := range 32 {
		next := root | 1<<(31-i)
		if next*next <= uint64(n) {
			root = next
		}
	}
	return int(root)
}

// Sum returns the exact sum.
func Sum(l []int) (n int, e api.Errno) {
	// The exact sum is n plus 2^64 for each of the wraps.
	wraps := 0
	for _, x := range l {
		next := n + x
		if x > 0 && next < n {
			wraps++
		}
		if x < 0 && next > n {
			wraps--
		}
		n = next
	}
	if wraps != 0 {
		return 0, api.ErrOverflow
	}
	return n, api.OK
}

// divide returns the quotient of a and b rounded down, and the remainder, which is 0 or has the sign of b.
func divide(a, b int) (q, r int, e api.Errno) {
	if b == 0 {
		return 0, 0, api.ErrDivide
	}
	if a == least && b == -1 {
		return 0, 0, api.ErrOverflow
	}
	q, r = a/b, a%b
	if r != 0 && (a < 0) != (b < 0) {
		q--
		r += b
	}
	return q, r, api.OK
}

// magnitude returns the magnitude of n, which is not always an int.
func magnitude(n int) uint64 {
	if n < 0 {
		return -uint64(n)
	}
	return uint64(n)
}

// multiply returns the two words of a * b.
func multiply(a, b uint64) (high, low uint64) {
	const half = 1<<32 - 1
	a1, a0 := a>>32, a&half
	b1, b0 := b>>32, b&half
	// Neither of the middle sums can exceed a word.
	middle := a1*b0 + a0*b0>>32
	other := a0*b1 + middle&half
	return a1*b1 + middle>>32 + other>>32, a * b
}

// divideLong returns the quotient and the remainder of two words and d, where the high word is less than d.
func divideLong(high, low, d uint64) (q, rest uint64) {
	rest = high
	for i := range 64 {
		// The bit that the shift pushes out still counts: with it, rest is above d.
		over := rest >> 63
		rest = rest<<1 | low>>(63-i)&1
		q <<= 1
		if over == 1 || rest >= d {
			rest -= d
			q |= 1
		}
	}
	return q, rest
}

// positive returns a quotient that is not negative.
func positive(size uint64) (q int, e api.Errno) {
	if size > most {
		return 0, api.ErrOverflow
	}
	return int(size), api.OK
}

// negative returns a quotient that is not positive, rounded down.
func negative(size, rest uint64) (q int, e api.Errno) {
	if size > most+1 || size == most+1 && rest != 0 {
		return 0, api.ErrOverflow
	}
	q = -int(size)
	if rest != 0 {
		q--
	}
	return q, api.OK
}
