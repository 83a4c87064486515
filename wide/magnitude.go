package wide

// magnitude is an integer from 0 to 2^256 - 1, its least significant word first.
type magnitude [4]uint64

// halves is a magnitude in half words: with a product of two of them, a word still has room for carries.
type halves [8]uint64

// half is the greatest half word.
const half = 1<<32 - 1

// compare returns -1, 0 or 1.
func compare(a, b magnitude) int {
	for i := len(a) - 1; i >= 0; i-- {
		if a[i] < b[i] {
			return -1
		}
		if a[i] > b[i] {
			return 1
		}
	}
	return 0
}

// add returns the sum, and whether it is above 2^256 - 1 and has lost 2^256.
func add(a, b magnitude) (sum magnitude, over bool) {
	carry := uint64(0)
	for i := range sum {
		word := a[i] + carry
		sum[i] = word + b[i]
		// If the carry wraps, it leaves 0, and b[i] does not wrap any more.
		if word < carry || sum[i] < b[i] {
			carry = 1
		} else {
			carry = 0
		}
	}
	return sum, carry == 1
}

// subtract returns a - b, where b is at most a.
func subtract(a, b magnitude) (difference magnitude) {
	borrow := uint64(0)
	for i := range difference {
		word := a[i] - borrow
		difference[i] = word - b[i]
		// If the borrow wraps, it leaves the greatest word, and b[i] does not wrap any more.
		if a[i] < borrow || word < b[i] {
			borrow = 1
		} else {
			borrow = 0
		}
	}
	return difference
}

// multiply returns the product, and whether it is above 2^256 - 1 and has lost its upper half.
func multiply(a, b magnitude) (m magnitude, over bool) {
	x, y := split(a), split(b)
	var product [16]uint64
	for i := range x {
		carry := uint64(0)
		for j := range y {
			// The greatest half words make 2^64 - 1, so the sum does not wrap.
			sum := x[i]*y[j] + product[i+j] + carry
			product[i+j] = sum & half
			carry = sum >> 32
		}
		product[i+len(y)] = carry
	}
	var low, high halves
	copy(low[:], product[:])
	copy(high[:], product[len(low):])
	return join(low), high != halves{}
}

// divide returns the quotient and the remainder, where b is not 0. Most divisors are small, and need no long division.
func divide(a, b magnitude) (q, rest magnitude) {
	if a == (magnitude{a[0]}) && b == (magnitude{b[0]}) {
		return magnitude{a[0] / b[0]}, magnitude{a[0] % b[0]}
	}
	if b == (magnitude{b[0] & half}) {
		short, last := divideShort(split(a), b[0])
		return join(short), magnitude{last}
	}
	return divideLong(a, b)
}

// divideShort returns the quotient and the remainder, where the divisor is a half word other than 0.
func divideShort(h halves, by uint64) (q halves, rest uint64) {
	for i := len(h) - 1; i >= 0; i-- {
		part := rest<<32 | h[i]
		q[i], rest = part/by, part%by
	}
	return q, rest
}

// divideLong returns the quotient and the remainder, where b is not 0: a bit of the quotient at a time.
func divideLong(a, b magnitude) (q, rest magnitude) {
	// The divisor is doubled as long as it stays at most a, so that it cannot overflow.
	limit := halve(a)
	bits := 1
	for compare(b, limit) <= 0 {
		b = double(b)
		bits++
	}
	for range bits {
		q = double(q)
		if compare(a, b) >= 0 {
			a = subtract(a, b)
			q[0]++
		}
		b = halve(b)
	}
	return q, a
}

// double returns 2 * m, where m is below 2^255.
func double(m magnitude) magnitude {
	return magnitude{m[0] << 1, m[1]<<1 | m[0]>>63, m[2]<<1 | m[1]>>63, m[3]<<1 | m[2]>>63}
}

// halve returns m / 2 rounded down.
func halve(m magnitude) magnitude {
	return magnitude{m[0]>>1 | m[1]<<63, m[1]>>1 | m[2]<<63, m[2]>>1 | m[3]<<63, m[3] >> 1}
}

// split returns the half words of m.
func split(m magnitude) (h halves) {
	for i, word := range m {
		h[2*i] = word & half
		h[2*i+1] = word >> 32
	}
	return h
}

// join returns the magnitude with these half words.
func join(h halves) (m magnitude) {
	for i := range m {
		m[i] = h[2*i] | h[2*i+1]<<32
	}
	return m
}
