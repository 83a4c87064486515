package ident

// Compare compares strings in natural order.
func Compare(a, b string) (n int) {
	x, y := a, b
	for x != "" && y != "" {
		endX, endY := element(x), element(y)
		if n := compareElements(x[:endX], y[:endY]); n != 0 {
			return n
		}
		x, y = x[endX:], y[endY:]
	}
	if x != "" {
		return 1
	}
	if y != "" {
		return -1
	}
	return compareBytes(a, b)
}

// element returns the length of the first element of s, which is not empty.
func element(s string) int {
	for at, c := range s {
		if !isDigit(c) {
			// The element of another byte is that byte, even if it begins a character of several bytes.
			return max(at, 1)
		}
	}
	return len(s)
}

// compareElements compares two elements: numbers by their values.
func compareElements(x, y string) int {
	if !isDigit(rune(x[0])) || !isDigit(rune(y[0])) {
		// The first bytes of a number and of another element differ, and decide.
		return compareBytes(x, y)
	}
	// Numbers may have too many digits for an integer; without leading zeros, the longer one is the greater one.
	x, y = significant(x), significant(y)
	if len(x) < len(y) {
		return -1
	}
	if len(x) > len(y) {
		return 1
	}
	return compareBytes(x, y)
}

// significant returns digits without their leading zeros.
func significant(digits string) string {
	for at, c := range digits {
		if c != '0' {
			return digits[at:]
		}
	}
	return ""
}

// compareBytes compares strings byte by byte.
func compareBytes(a, b string) int {
	if a < b {
		return -1
	}
	if a > b {
		return 1
	}
	return 0
}
