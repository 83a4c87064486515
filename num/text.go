package num

import "shipyard/api"

// Text returns a number in decimal.
func Text(n int) (s string) {
	const longest = 19 // the digits of 2^63
	var digits [longest]byte
	at, rest := longest, magnitude(n)
	for range longest {
		at--
		digits[at] = byte('0' + rest%10)
		rest /= 10
		if rest == 0 {
			break
		}
	}
	if n < 0 {
		return "-" + string(digits[at:])
	}
	return string(digits[at:])
}

// Parse returns the number that a string denotes.
func Parse(s string) (n int, e api.Errno) {
	if s == "" {
		return 0, api.ErrShort
	}
	if s == "0" {
		return 0, api.OK
	}
	digits := s
	if s[0] == '-' {
		digits = s[1:]
	}
	if !natural(digits) {
		return 0, api.ErrSyntax
	}
	n, e = value(digits)
	if s[0] == '-' {
		n = -n
	}
	return n, e
}

// natural reports whether s is the text of an integer above 0.
func natural(s string) bool {
	if s == "" || s[0] == '0' {
		return false
	}
	for i := range len(s) {
		if s[i] < '0' || s[i] > '9' {
			return false
		}
	}
	return true
}

// value returns the number that digits denote, if it is at most MaxNumber.
func value(digits string) (n int, e api.Errno) {
	for i := range len(digits) {
		n = n*10 + int(digits[i]-'0')
		// More digits could overflow, and cannot make the number less.
		if n > api.MaxNumber {
			return 0, api.ErrRange
		}
	}
	return n, api.OK
}
