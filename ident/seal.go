package ident

import "shipyard/api"

// tail is the number of bytes behind the identifier in a sealed one: a slash and two digits.
const tail = 3

// Seal returns an identifier with its check digits.
func Seal(s string) (out string, e api.Errno) {
	if !IsId(s) {
		return "", api.ErrName
	}
	return s + "/" + checkDigits(s), api.OK
}

// Open returns the identifier that was sealed.
func Open(s string) (out string, e api.Errno) {
	if len(s) < 1+tail {
		return "", api.ErrShort
	}
	end := len(s) - tail
	id, slash, digits := s[:end], s[end], s[end+1:]
	if !IsId(id) || slash != '/' || !areDigits(digits) {
		return "", api.ErrSyntax
	}
	// The digits themselves are compared: 00, 01 and 99 have the remainders of 97, 98 and 02, and are no check digits.
	if digits != checkDigits(id) {
		return "", api.ErrChecksum
	}
	return id, api.OK
}

// areDigits reports whether s consists of digits.
func areDigits(s string) bool {
	for _, c := range s {
		if !isDigit(c) {
			return false
		}
	}
	return true
}

// checkDigits returns the check digits of an identifier.
func checkDigits(id string) string {
	const modulus = 97
	rest := 0
	// An identifier is ASCII, so that each character is a byte.
	for _, c := range id {
		rest = (rest*256 + int(c)) % modulus
	}
	n := modulus + 1 - 100*rest%modulus
	return string([]byte{byte('0' + n/10), byte('0' + n%10)})
}
