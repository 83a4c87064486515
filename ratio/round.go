package ratio

import (
	"shipyard/api"
	"shipyard/wide"
)

// Floor returns the greatest integer that is at most r.
func Floor(r api.Ratio) (w api.Wide) {
	r = known(r)
	w, _, _ = wide.Div(r.Num, r.Den)
	return w
}

// Round returns the nearest integer, halves up.
func Round(r api.Ratio) (w api.Wide) {
	r = known(r)
	w, rest, _ := wide.Div(r.Num, r.Den)
	if toHalf(rest, r.Den) >= 0 {
		return next(w)
	}
	return w
}

// Text returns num/den.
func Text(r api.Ratio) (s string) {
	r = known(r)
	return wide.Text(r.Num) + "/" + wide.Text(r.Den)
}

// Decimal returns r as a decimal number with so many places.
func Decimal(r api.Ratio, places int) (s string) {
	r = known(r)
	scale := power(min(places, 18))
	whole, part := scaled(r, scale)
	s = wide.Text(whole)
	if places > 0 {
		// The power before the digits keeps their leading zeros.
		digits, _ := wide.Add(scale, part)
		s += "." + wide.Text(digits)[1:]
	}
	if r.Num.Neg && (whole != wide.Of(0) || part != wide.Of(0)) {
		return "-" + s
	}
	return s
}

// scaled returns the magnitude of r times scale, rounded as r is, in units of scale and what is beyond them.
func scaled(r api.Ratio, scale api.Wide) (whole, part api.Wide) {
	size := api.Wide{Mag: r.Num.Mag}
	whole, rest, _ := wide.Div(size, r.Den)
	q, rest := divide(product(rest, scale), r.Den)
	part, _ = narrow(q)
	half := toHalf(rest, r.Den)
	// A half is rounded up, which is towards 0 below it.
	if half > 0 || half == 0 && !r.Num.Neg {
		part = next(part)
	}
	if part == scale {
		return next(whole), wide.Of(0)
	}
	return whole, part
}

// toHalf compares rest / den with 1/2, where rest is from 0 to den - 1. Twice the rest could overflow.
func toHalf(rest, den api.Wide) int {
	other, _ := wide.Sub(den, rest)
	return wide.Cmp(rest, other)
}

// next returns w + 1. What is rounded up is a quotient by 2 or more, so that it has room for it.
func next(w api.Wide) api.Wide {
	w, _ = wide.Add(w, wide.Of(1))
	return w
}

// power returns 10^n, where n below 0 counts as 0.
func power(n int) api.Wide {
	p := 1
	for range n {
		p *= 10
	}
	return wide.Of(p)
}
