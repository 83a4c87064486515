package lexer

import "shipyard/api"

// Print returns a text with these lexemes.
func Print(l []api.Lexeme) (s string) {
	var out []byte
	first := true
	for _, x := range l {
		text, ok := written(x)
		if !ok {
			continue
		}
		// The length of out does not tell whether a lexeme is the first one: the text of the one before can be empty.
		if !first {
			out = append(out, ' ')
		}
		first = false
		out = append(out, text...)
	}
	return string(out)
}

// Quote returns the lexeme of a string.
func Quote(s string) (out string, e api.Errno) {
	quoted := []byte{'"'}
	for at := range len(s) {
		c := charAt(s, at)
		if !isPlain(c) {
			c = escape(c)
			quoted = append(quoted, '\\')
		}
		if c == noChar {
			return "", api.ErrSyntax
		}
		quoted = append(quoted, byte(c))
	}
	return string(append(quoted, '"')), api.OK
}

// written returns the text of a lexeme, unless it has none.
func written(x api.Lexeme) (text string, ok bool) {
	switch x.Kind {
	case api.LxName, api.LxMark:
		return x.Text, true
	case api.LxNumber:
		return decimal(x.N), true
	case api.LxString:
		quoted, e := Quote(x.Text)
		return quoted, e == api.OK
	}
	return "", false
}

// decimal returns a number in decimal.
func decimal(n int) string {
	if n < 0 {
		return "-" + string(digits(n))
	}
	// The number below 0, since the least int has none of its magnitude above 0.
	return string(digits(-n))
}

// digits returns the digits of the magnitude of n, which is not above 0.
func digits(n int) []byte {
	var l []byte
	if n <= -10 {
		l = digits(n / 10)
	}
	return append(l, byte('0'-n%10))
}
