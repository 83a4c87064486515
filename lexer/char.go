package lexer

// noChar is what stands behind the end of a text, and for a character that does not exist.
const noChar = -1

// charAt returns the character at an offset, which can be the length of the text.
// Each byte is one: outside of remarks a text has ASCII characters only, and its offsets are those of bytes.
func charAt(s string, at int) rune {
	if at >= len(s) {
		return noChar
	}
	return rune(s[at])
}

// skip returns the offset behind the blanks and remarks that begin at an offset.
func skip(s string, at int) int {
	for {
		c := charAt(s, at)
		switch {
		case isBlank(c):
			at++
		case c == '#':
			at = remarkEnd(s, at)
		default:
			return at
		}
	}
}

// remarkEnd returns the offset behind the remark at an offset.
func remarkEnd(s string, at int) int {
	for charAt(s, at) != noChar && charAt(s, at) != '\n' {
		at++
	}
	return at
}

// markAt returns the mark at an offset, or an empty string.
func markAt(s string, at int) string {
	if isArrow(s, at) {
		return s[at : at+2]
	}
	switch charAt(s, at) {
	case '{', '}', '(', ')', '[', ']', ',', ';', ':', '=', '+', '-', '*', '/', '.':
		return s[at : at+1]
	}
	return ""
}

// isArrow reports whether the mark of two characters is at an offset.
func isArrow(s string, at int) bool {
	return charAt(s, at) == '-' && charAt(s, at+1) == '>'
}

// stringChar returns the character of a string at an offset and the number of its bytes, which is 0 if there is none.
func stringChar(s string, at int) (c rune, size int) {
	c = charAt(s, at)
	if isPlain(c) {
		return c, 1
	}
	if c != '\\' {
		return 0, 0
	}
	c = escaped(charAt(s, at+1))
	if c == noChar {
		return 0, 0
	}
	return c, 2
}

// escaped returns what a backslash and c stand for in a string.
func escaped(c rune) rune {
	switch c {
	case '"', '\\':
		return c
	case 'n':
		return '\n'
	}
	return noChar
}

// escape returns what stands behind a backslash for c in a string.
func escape(c rune) rune {
	switch c {
	case '"', '\\':
		return c
	case '\n':
		return 'n'
	}
	return noChar
}

// isPlain reports whether c stands for itself in a string.
func isPlain(c rune) bool {
	return ' ' <= c && c <= '~' && c != '"' && c != '\\'
}

// isBlank reports whether c is a blank.
func isBlank(c rune) bool {
	return c == ' ' || c == '\t' || c == '\n' || c == '\r'
}

// isInName reports whether c can stand in a name behind its first letter.
func isInName(c rune) bool {
	return isLetter(c) || isDigit(c) || c == '_' || c == '-'
}

// isLetter reports whether c is an ASCII letter.
func isLetter(c rune) bool {
	return 'A' <= c && c <= 'Z' || 'a' <= c && c <= 'z'
}

// isDigit reports whether c is an ASCII digit.
func isDigit(c rune) bool {
	return '0' <= c && c <= '9'
}
