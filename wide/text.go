package wide

import "shipyard/api"

// Text returns w in decimal.
func Text(w api.Wide) (s string) {
	const longest = 78 // the digits of 2^256 - 1
	var digits [longest]byte
	at, rest := longest, split(w.Mag)
	for range longest {
		at--
		digit := uint64(0)
		rest, digit = divideShort(rest, 10)
		digits[at] = byte('0' + digit)
		if rest == (halves{}) {
			break
		}
	}
	s = string(digits[at:])
	if w.Neg && s != "0" {
		return "-" + s
	}
	return s
}

// Parse returns the wide integer that a string denotes.
func Parse(s string) (w api.Wide, e api.Errno) {
	if s == "" {
		return api.Wide{}, api.ErrShort
	}
	neg := s[0] == '-'
	digits := s
	if neg {
		digits = s[1:]
	}
	if !decimal(digits) || s == "-0" {
		return api.Wide{}, api.ErrSyntax
	}
	m, over := value(digits)
	return checked(neg, m, over)
}

// decimal reports whether digits are those of an integer without leading zeros, however many they are.
func decimal(digits string) bool {
	for i := range len(digits) {
		if digits[i] < '0' || digits[i] > '9' {
			return false
		}
	}
	return digits == "0" || digits != "" && digits[0] != '0'
}

// value returns the magnitude that digits denote, and whether it is above 2^256 - 1.
func value(digits string) (m magnitude, over bool) {
	var h halves
	for i := range len(digits) {
		carry := uint64(digits[i] - '0')
		for j := range h {
			sum := 10*h[j] + carry
			h[j], carry = sum&half, sum>>32
		}
		// More digits cannot make the magnitude less.
		if carry != 0 {
			return magnitude{}, true
		}
	}
	return join(h), false
}
