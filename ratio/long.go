package ratio

import (
	"shipyard/api"
	"shipyard/wide"
)

// long is an integer in two's complement, its least significant word first: it has room for the sum of two products of wide integers, with its sign.
type long [9]uint64

// place returns the magnitude of w times 2^64 for each word that it is moved up.
func place(w api.Wide, up int) (l long) {
	copy(l[up:], w.Mag[:])
	return l
}

// narrow returns l as a wide integer, if it is from 0 to 2^256 - 1.
func narrow(l long) (w api.Wide, fits bool) {
	copy(w.Mag[:], l[:])
	if place(w, 0) != l {
		return api.Wide{}, false
	}
	return w, true
}

// negative reports whether l is below 0.
func negative(l long) bool {
	return l[len(l)-1]>>63 == 1
}

// opposite returns -l.
func opposite(l long) long {
	for i := range l {
		l[i] = ^l[i]
	}
	return plus(l, long{1})
}

// plus returns a + b.
func plus(a, b long) (sum long) {
	carry := uint64(0)
	for i := range sum {
		sum[i] = a[i] + b[i] + carry
		// A carry leaves a word if both top bits are set, or if one is and that of the sum is not.
		carry = (a[i]&b[i] | (a[i]|b[i])&^sum[i]) >> 63
	}
	return sum
}

// product returns a * b.
func product(a, b api.Wide) (l long) {
	for i, x := range halves(a) {
		for j, y := range halves(b) {
			// Magnitudes below 2^128 make less than 2^256.
			part, _ := wide.Mul(x, y)
			l = plus(l, place(part, 2*(i+j)))
		}
	}
	if a.Neg != b.Neg {
		return opposite(l)
	}
	return l
}

// halves returns the magnitude of w in two parts of two words, the less significant one first.
func halves(w api.Wide) [2]api.Wide {
	low := api.Wide{Mag: [4]uint64{w.Mag[0], w.Mag[1]}}
	high := api.Wide{Mag: [4]uint64{w.Mag[2], w.Mag[3]}}
	return [2]api.Wide{low, high}
}

// divide returns the quotient and the remainder, where l is not negative and the divisor is positive.
func divide(l long, by api.Wide) (q long, rest api.Wide) {
	if w, fits := narrow(l); fits {
		short, rest, _ := wide.Div(w, by)
		return place(short, 0), rest
	}
	var part long
	less := opposite(place(by, 0))
	// Bit by bit, the number leaves l at its upper end, and the quotient enters at the lower one.
	for range 64 * len(l) {
		part = plus(part, part)
		part[0] |= l[len(l)-1] >> 63
		l = plus(l, l)
		if reduced := plus(part, less); !negative(reduced) {
			part = reduced
			l[0] |= 1
		}
	}
	rest, _ = narrow(part)
	return l, rest
}
