package span_test

import (
	"math/big"
	"math/rand"
	"slices"
	"testing"

	"shipyard/api"
	"shipyard/span"
)

// isCanonical reports whether a list is in canonical form.
func isCanonical(l []api.Span) bool {
	for i, s := range l {
		if s.A >= s.B || i > 0 && l[i-1].B >= s.A {
			return false
		}
	}
	return true
}

// edges are integers in and around spans of small numbers, and at the ends of the range of int.
func edges() []int {
	l := []int{least, least + 1, least + 2, -1 << 62, 1<<62 - 1, 1 << 62, greatest - 2, greatest - 1, greatest}
	for n := -12; n <= 12; n++ {
		l = append(l, n)
	}
	slices.Sort(l)
	return l
}

// pairs returns pairs of lists whose spans begin and end at edges, some of them near one another.
func pairs() (l [][2][]api.Span) {
	random := rand.New(rand.NewSource(6))
	axis := edges()
	small := axis[4 : len(axis)-5]
	for range 4000 {
		for _, part := range [][]int{axis, small} {
			l = append(l, [2][]api.Span{randomList(random, part, 7), randomList(random, part, 7)})
		}
	}
	return append(l, [2][]api.Span{}, [2][]api.Span{of(least, greatest), of(least, greatest)}, [2][]api.Span{of(1, 2, 2, 3), nil})
}

func TestMembers(t *testing.T) {
	numbers := edges()
	for _, p := range pairs() {
		a, b := p[0], p[1]
		normal, union, inter, minus := span.Normal(a), span.Union(a, b), span.Inter(a, b), span.Minus(a, b)
		for _, n := range numbers {
			inA, inB := span.Has(a, n), span.Has(b, n)
			if span.Has(normal, n) != inA || span.Has(union, n) != (inA || inB) || span.Has(inter, n) != (inA && inB) || span.Has(minus, n) != (inA && !inB) {
				t.Fatalf("%v and %v: %d is wrong in %v, %v, %v or %v", a, b, n, normal, union, inter, minus)
			}
		}
		for _, l := range [][]api.Span{normal, union, inter, minus} {
			if !isCanonical(l) {
				t.Fatalf("%v and %v: %v is not in canonical form", a, b, l)
			}
			check(t, span.Normal(l), l, "Normal", l)
		}
	}
}

// What a law says of two lists does not depend on their order and form.
func TestOrderAndForm(t *testing.T) {
	random := rand.New(rand.NewSource(7))
	for _, p := range pairs() {
		a, b := p[0], p[1]
		c := append(slices.Clone(a), of(5, 5, greatest, least, 3, 2)...)
		c = append(c, a...)
		random.Shuffle(len(c), func(i, k int) { c[i], c[k] = c[k], c[i] })
		check(t, span.Normal(c), span.Normal(a), "Normal", c)
		check(t, span.Union(c, b), span.Union(a, b), "Union", c, b)
		check(t, span.Union(b, a), span.Union(a, b), "Union", b, a)
		check(t, span.Inter(c, b), span.Inter(a, b), "Inter", c, b)
		check(t, span.Inter(b, a), span.Inter(a, b), "Inter", b, a)
		check(t, span.Minus(c, b), span.Minus(a, b), "Minus", c, b)
		check(t, span.Minus(b, c), span.Minus(b, a), "Minus", b, c)
		check(t, span.Union(span.Inter(a, b), span.Minus(a, b)), span.Normal(a), "Union", "Inter", "Minus", a, b)
		check(t, span.Inter(b, span.Minus(a, b)), nil, "Inter", b, "Minus", a, b)
		within := api.Span{A: random.Intn(30) - 15, B: random.Intn(30) - 15}
		check(t, span.Gaps(a, within), span.Minus([]api.Span{within}, a), "Gaps", a, within)
	}
}

func TestNumbers(t *testing.T) {
	// Totals up to the greatest one add up; those beyond it are that one, so that their exact numbers are compared.
	exact := func(l []api.Span) *big.Int {
		n := number(span.Normal(l))
		total := big.NewInt(int64(span.Total(l)))
		if n.Cmp(total) != 0 && (n.Cmp(total) < 0 || span.Total(l) != greatest) {
			t.Fatalf("Total(%v) is %v, not %v", l, total, n)
		}
		return n
	}
	sum := func(a, b []api.Span) *big.Int {
		return new(big.Int).Add(exact(a), exact(b))
	}
	for _, p := range pairs() {
		a, b := p[0], p[1]
		union, inter, minus := span.Union(a, b), span.Inter(a, b), span.Minus(a, b)
		if sum(a, b).Cmp(sum(union, inter)) != 0 {
			t.Fatalf("%v and %v: the numbers of %v and %v are wrong", a, b, union, inter)
		}
		if exact(a).Cmp(sum(inter, minus)) != 0 {
			t.Fatalf("%v and %v: the numbers of %v and %v are wrong", a, b, inter, minus)
		}
	}
}

func TestFirstFit(t *testing.T) {
	random := rand.New(rand.NewSource(8))
	numbers := edges()
	for _, p := range pairs() {
		l := p[0]
		from, length := numbers[random.Intn(len(numbers))], 1+random.Intn(6)
		if random.Intn(4) == 0 {
			length = max(1, numbers[random.Intn(len(numbers))])
		}
		start, ok := span.Fit(l, from, length)
		if ok && (start < from || start >= fitEnd || !isFree(l, start, length)) {
			t.Fatalf("Fit(%v, %d, %d) is %d", l, from, length, start)
		}
		if !ok && start != 0 {
			t.Fatalf("Fit(%v, %d, %d) is %d, false", l, from, length, start)
		}
		for _, n := range numbers {
			if n >= from && n < fitEnd && (!ok || n < start) && isFree(l, n, length) {
				t.Fatalf("Fit(%v, %d, %d) is %d, %v, but %d is free", l, from, length, start, ok, n)
			}
		}
	}
}

// Arguments are not changed, not even behind their ends, and results share no memory with them.
func TestArguments(t *testing.T) {
	spare := of(40, 50, 60, 70, 80, 90, 41, 42)
	for _, given := range [][]api.Span{nil, of(4, 8), of(1, 2, 4, 8), of(4, 8, 1, 2, 2, 5, 7, 7), of(1, 3, 3, 5)} {
		whole := append(slices.Clone(given), spare...)
		before := slices.Clone(whole)
		a := whole[:len(given)]
		other := of(3, 6, 5, 9, 20, 30)
		wantOther := slices.Clone(other)
		span.Has(a, 4)
		span.Total(a)
		span.Fit(a, 0, 3)
		for _, result := range [][]api.Span{
			span.Normal(a), span.Union(a, other), span.Union(other, a), span.Union(a, nil), span.Union(nil, a), span.Union(a, a),
			span.Inter(a, other), span.Inter(other, a), span.Inter(a, a), span.Minus(a, other), span.Minus(other, a), span.Minus(a, nil),
			span.Gaps(a, api.Span{A: 0, B: 9}),
		} {
			for i := range result {
				result[i] = api.Span{A: -1, B: -1}
			}
			_ = append(result, api.Span{A: -2, B: -2})
			if !slices.Equal(whole, before) || !slices.Equal(other, wantOther) {
				t.Fatalf("the arguments %v and %v are %v and %v now", before, wantOther, whole, other)
			}
		}
	}
}
