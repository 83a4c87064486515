package span_test

import (
	"fmt"
	"math"
	"math/big"
	"math/rand"
	"slices"
	"testing"

	"shipyard/api"
	"shipyard/span"
)

const (
	least    = math.MinInt
	greatest = math.MaxInt
)

// of returns spans, given by their ends.
func of(ends ...int) (l []api.Span) {
	for i := 0; i < len(ends); i += 2 {
		l = append(l, api.Span{A: ends[i], B: ends[i+1]})
	}
	return l
}

// check checks that a function returned these spans.
func check(t *testing.T, got, want []api.Span, call string, arguments ...any) {
	t.Helper()
	if !slices.Equal(got, want) {
		t.Fatalf("%s of %s is %s, not %s", call, brief(arguments), brief(got), brief(want))
	}
}

// brief returns the beginning of the text of a value.
func brief(x any) string {
	return fmt.Sprintf("%.300s", fmt.Sprint(x))
}

// axes are lists of integers at which spans begin and end: between two neighbours of an axis, all integers are alike.
func axes() [][]int {
	return [][]int{
		{0, 1, 2, 3, 4},
		{-7, -3, 2, 10, 11},
		{least, least + 1, 0, greatest - 1, greatest},
		{least, -1 << 62, 1<<62 - 1, 1 << 62, greatest},
		{-1, 1<<62 - 2, 1<<62 - 1, 1 << 62, 1<<62 + 1},
	}
}

// spansOn returns all spans that begin and end on an axis, those that are empty too.
func spansOn(axis []int) (l []api.Span) {
	for _, a := range axis {
		for _, b := range axis {
			l = append(l, api.Span{A: a, B: b})
		}
	}
	return l
}

// listsOn returns all lists of at most n spans that begin and end on an axis.
func listsOn(axis []int, n int) [][]api.Span {
	l := [][]api.Span{nil}
	begin := 0
	for range n {
		level := l[begin:]
		begin = len(l)
		for _, list := range level {
			for _, s := range spansOn(axis) {
				l = append(l, append(slices.Clone(list), s))
			}
		}
	}
	return l
}

// longerAxis returns n integers, ascending, chosen at random among close ones and those near the edges.
func longerAxis(random *rand.Rand, n int) (axis []int) {
	for len(axis) < n {
		p := random.Intn(60) - 30
		switch random.Intn(4) {
		case 0:
			p = least + random.Intn(5)
		case 1:
			p = greatest - random.Intn(5)
		case 2:
			p = 1<<62 - 3 + random.Intn(6)
		}
		axis = append(axis, p)
	}
	slices.Sort(axis)
	return slices.Compact(axis)
}

// randomList returns up to n spans that begin and end on an axis.
func randomList(random *rand.Rand, axis []int, n int) (l []api.Span) {
	for range random.Intn(n + 1) {
		l = append(l, api.Span{A: axis[random.Intn(len(axis))], B: axis[random.Intn(len(axis))]})
	}
	return l
}

// covered is the reference for sets: for each integer of an axis but the last one, whether it is in the set of spans that begin and end on the axis. So are the integers up to the next one of the axis.
func covered(axis []int, l []api.Span) []bool {
	in := make([]bool, len(axis)-1)
	for i := range in {
		in[i] = slices.ContainsFunc(l, func(s api.Span) bool { return s.A <= axis[i] && axis[i] < s.B })
	}
	return in
}

// runs is the reference for canonical forms: the spans of what is covered.
func runs(axis []int, in []bool) (l []api.Span) {
	for i := 0; i < len(in); i++ {
		begin := i
		for i < len(in) && in[i] {
			i++
		}
		if begin < i {
			l = append(l, api.Span{A: axis[begin], B: axis[i]})
		}
	}
	return l
}

// combined returns what is covered by two sets.
func combined(a, b []bool, is func(inA, inB bool) bool) []bool {
	in := make([]bool, len(a))
	for i := range in {
		in[i] = is(a[i], b[i])
	}
	return in
}

// number returns the number of integers of spans in canonical form.
func number(l []api.Span) *big.Int {
	sum := new(big.Int)
	for _, s := range l {
		sum.Add(sum, big.NewInt(int64(s.B)))
		sum.Sub(sum, big.NewInt(int64(s.A)))
	}
	return sum
}

// checkAlone checks the functions of one list against the reference.
func checkAlone(t *testing.T, axis []int, l []api.Span) {
	t.Helper()
	want := runs(axis, covered(axis, l))
	check(t, span.Normal(l), want, "Normal", l)
	check(t, span.Normal(want), want, "Normal", want)
	total := greatest
	if n := number(want); n.IsInt64() {
		total = int(n.Int64())
	}
	if n := span.Total(l); n != total {
		t.Fatalf("Total(%v) is %d, not %d", l, n, total)
	}
	for _, p := range axis {
		// At the ends of the range of int the neighbours wrap around, which does no harm.
		for _, n := range []int{p - 1, p, p + 1} {
			has := slices.ContainsFunc(want, func(s api.Span) bool { return s.A <= n && n < s.B })
			if span.Has(l, n) != has {
				t.Fatalf("Has(%v, %d) is %v", l, n, !has)
			}
		}
	}
}

// checkPair checks the functions of two lists against the reference.
func checkPair(t *testing.T, axis []int, a, b []api.Span) {
	t.Helper()
	inA, inB := covered(axis, a), covered(axis, b)
	either := combined(inA, inB, func(x, y bool) bool { return x || y })
	both := combined(inA, inB, func(x, y bool) bool { return x && y })
	rest := combined(inA, inB, func(x, y bool) bool { return x && !y })
	check(t, span.Union(a, b), runs(axis, either), "Union", a, b)
	check(t, span.Inter(a, b), runs(axis, both), "Inter", a, b)
	check(t, span.Minus(a, b), runs(axis, rest), "Minus", a, b)
}

func TestNormal(t *testing.T) {
	for _, c := range [][2][]api.Span{
		{of(5, 9, 1, 3, 3, 4, 7, 7), of(1, 4, 5, 9)},
		{of(3, 1), nil},
		{nil, nil},
		{{}, nil},
		{of(7, 7), nil},
		{of(greatest, least), nil},
		{of(least, least, greatest, greatest), nil},
		{of(1, 2), of(1, 2)},
		{of(1, 3, 3, 4), of(1, 4)},
		{of(3, 4, 1, 3), of(1, 4)},
		{of(1, 3, 4, 5), of(1, 3, 4, 5)},
		{of(4, 5, 1, 3), of(1, 3, 4, 5)},
		{of(1, 5, 3, 8), of(1, 8)},
		{of(3, 8, 1, 5), of(1, 8)},
		{of(1, 9, 3, 5), of(1, 9)},
		{of(3, 5, 1, 9), of(1, 9)},
		{of(1, 9, 1, 5), of(1, 9)},
		{of(1, 5, 1, 9), of(1, 9)},
		{of(1, 9, 5, 9), of(1, 9)},
		{of(5, 9, 1, 9), of(1, 9)},
		{of(2, 4, 2, 4, 2, 4), of(2, 4)},
		{of(1, 9, 2, 3, 4, 5, 9, 10), of(1, 10)},
		{of(0, 1, 4, 5, 2, 3, 1, 2, 3, 4), of(0, 5)},
		{of(1, 2, 2, 2, 3, 4), of(1, 2, 3, 4)},
		{of(1, 2, 3, 2, 3, 4), of(1, 2, 3, 4)},
		{of(2, 2, 1, 4, 3, 3), of(1, 4)},
		{of(-9, -5, -5, -1), of(-9, -1)},
		{of(least, greatest), of(least, greatest)},
		{of(0, greatest, least, 0), of(least, greatest)},
		{of(0, greatest, least, -1), of(least, -1, 0, greatest)},
		{of(greatest-1, greatest, least, least+1), of(least, least+1, greatest-1, greatest)},
	} {
		check(t, span.Normal(c[0]), c[1], "Normal", c[0])
	}
}

func TestSets(t *testing.T) {
	for _, c := range []struct{ a, b, union, inter, minus []api.Span }{
		{of(0, 2), of(2, 4), of(0, 4), nil, of(0, 2)},
		{of(2, 4), of(0, 2), of(0, 4), nil, of(2, 4)},
		{of(0, 10), of(2, 3, 9, 20), of(0, 20), of(2, 3, 9, 10), of(0, 2, 3, 9)},
		{of(2, 3, 9, 20), of(0, 10), of(0, 20), of(2, 3, 9, 10), of(10, 20)},
		{nil, nil, nil, nil, nil},
		{of(5, 5), of(3, 1), nil, nil, nil},
		{of(4, 8, 1, 4), nil, of(1, 8), nil, of(1, 8)},
		{of(4, 8, 1, 4), of(6, 6, 9, 2), of(1, 8), nil, of(1, 8)},
		{nil, of(4, 8, 1, 4), of(1, 8), nil, nil},
		{of(6, 6, 9, 2), of(4, 8, 1, 4), of(1, 8), nil, nil},
		{of(1, 5), of(1, 5), of(1, 5), of(1, 5), nil},
		{of(1, 3, 3, 5), of(2, 4), of(1, 5), of(2, 4), of(1, 2, 4, 5)},
		{of(2, 4), of(1, 3, 3, 5), of(1, 5), of(2, 4), nil},
		{of(0, 4), of(6, 9), of(0, 4, 6, 9), nil, of(0, 4)},
		{of(0, 4), of(2, 9), of(0, 9), of(2, 4), of(0, 2)},
		{of(0, 9), of(0, 4), of(0, 9), of(0, 4), of(4, 9)},
		{of(0, 9), of(4, 9), of(0, 9), of(4, 9), of(0, 4)},
		{of(0, 9), of(3, 4, 5, 6, 3, 4), of(0, 9), of(3, 4, 5, 6), of(0, 3, 4, 5, 6, 9)},
		{of(1, 2, 3, 4, 5, 6), of(2, 3, 4, 5), of(1, 6), nil, of(1, 2, 3, 4, 5, 6)},
		{of(least, greatest), of(0, 1), of(least, greatest), of(0, 1), of(least, 0, 1, greatest)},
		{of(0, 1), of(least, greatest), of(least, greatest), of(0, 1), nil},
		{of(least, greatest), of(least, greatest), of(least, greatest), of(least, greatest), nil},
		{of(least, greatest), nil, of(least, greatest), nil, of(least, greatest)},
		{of(least, greatest), of(least, least+1, greatest-1, greatest), of(least, greatest), of(least, least+1, greatest-1, greatest), of(least+1, greatest-1)},
		{of(least, 5), of(3, greatest), of(least, greatest), of(3, 5), of(least, 3)},
		{of(3, greatest), of(least, 5), of(least, greatest), of(3, 5), of(5, greatest)},
		{of(least, 0), of(0, greatest), of(least, greatest), nil, of(least, 0)},
	} {
		check(t, span.Union(c.a, c.b), c.union, "Union", c.a, c.b)
		check(t, span.Inter(c.a, c.b), c.inter, "Inter", c.a, c.b)
		check(t, span.Minus(c.a, c.b), c.minus, "Minus", c.a, c.b)
	}
}

func TestHas(t *testing.T) {
	for _, c := range []struct {
		l   []api.Span
		yes []int
		no  []int
	}{
		{nil, nil, []int{least, -1, 0, 1, greatest}},
		{of(0, 5), []int{0, 1, 4}, []int{least, -1, 5, 6, greatest}},
		{of(5, 5), nil, []int{4, 5, 6}},
		{of(5, 3), nil, []int{2, 3, 4, 5, 6}},
		{of(6, 8, 1, 3, 2, 4), []int{1, 2, 3, 6, 7}, []int{0, 4, 5, 8, 9}},
		{of(3, 5, 1, 3), []int{1, 2, 3, 4}, []int{0, 5}},
		{of(9, 2, 4, 5), []int{4}, []int{2, 3, 5, 8, 9}},
		{of(least, greatest), []int{least, 0, greatest - 1}, []int{greatest}},
		{of(least, least+1), []int{least}, []int{least + 1, greatest}},
		{of(greatest-1, greatest), []int{greatest - 1}, []int{greatest, greatest - 2, least}},
		{of(greatest, least), nil, []int{least, 0, greatest}},
	} {
		for _, n := range c.yes {
			if !span.Has(c.l, n) {
				t.Errorf("Has(%v, %d) is false", c.l, n)
			}
		}
		for _, n := range c.no {
			if span.Has(c.l, n) {
				t.Errorf("Has(%v, %d) is true", c.l, n)
			}
		}
	}
}

func TestTotal(t *testing.T) {
	for _, c := range []struct {
		l []api.Span
		n int
	}{
		{of(1, 4, 2, 6), 5},
		{nil, 0},
		{of(3, 3, 5, 1), 0},
		{of(greatest, least), 0},
		{of(0, 2, 2, 4), 4},
		{of(7, 9, 1, 2, 7, 9), 3},
		{of(-5, -2), 3},
		{of(least, greatest), greatest},
		{of(0, greatest), greatest},
		{of(1, greatest), greatest - 1},
		{of(-1, greatest), greatest},
		{of(-1, greatest-1), greatest},
		{of(-1, greatest-2), greatest - 1},
		{of(least, 0), greatest},
		{of(least, -1), greatest},
		{of(least, -2), greatest - 1},
		{of(-1, 0, 1, greatest), greatest},
		{of(-2, 0, 1, greatest), greatest},
		{of(-1, 0, 2, greatest), greatest - 1},
		{of(least, -1, 0, greatest), greatest},
		{of(0, greatest, 0, greatest, 1, greatest), greatest},
		{of(least, least+1, greatest-1, greatest), 2},
	} {
		if n := span.Total(c.l); n != c.n {
			t.Errorf("Total(%v) is %d, not %d", c.l, n, c.n)
		}
	}
}

func TestAllShortLists(t *testing.T) {
	for _, axis := range axes() {
		for _, l := range listsOn(axis, 3) {
			checkAlone(t, axis, l)
		}
	}
}

func TestAllShortPairs(t *testing.T) {
	for _, axis := range axes() {
		for begin := range 2 {
			part := axis[begin : begin+4]
			lists := listsOn(part, 2)
			for _, a := range lists {
				for _, b := range lists {
					checkPair(t, part, a, b)
				}
			}
		}
	}
}

func TestLongerLists(t *testing.T) {
	random := rand.New(rand.NewSource(1))
	for range 20000 {
		axis := longerAxis(random, 16)
		a, b := randomList(random, axis, 9), randomList(random, axis, 9)
		checkAlone(t, axis, a)
		checkPair(t, axis, a, b)
	}
}

func TestManySpans(t *testing.T) {
	const many = 200000
	var apart, touching, between []api.Span
	for i := range many {
		apart = append(apart, api.Span{A: 4 * i, B: 4*i + 2})
		touching = append(touching, api.Span{A: 4 * i, B: 4*i + 4})
		between = append(between, api.Span{A: 4*i + 2, B: 4*i + 4})
	}
	all := of(0, 4*many)
	shuffled := func(l []api.Span) []api.Span {
		l = slices.Clone(l)
		rand.New(rand.NewSource(2)).Shuffle(many, func(i, k int) { l[i], l[k] = l[k], l[i] })
		return l
	}
	check(t, span.Normal(apart), apart, "Normal", apart)
	check(t, span.Normal(shuffled(apart)), apart, "Normal", "shuffled", apart)
	check(t, span.Normal(shuffled(touching)), all, "Normal", "shuffled", touching)
	check(t, span.Union(shuffled(apart), shuffled(between)), all, "Union", apart, between)
	check(t, span.Inter(shuffled(apart), touching), apart, "Inter", apart, touching)
	check(t, span.Minus(shuffled(touching), shuffled(apart)), between, "Minus", touching, apart)
	check(t, span.Gaps(shuffled(between), all[0]), apart, "Gaps", between, all)
	if n := span.Total(shuffled(apart)); n != 2*many {
		t.Errorf("Total is %d", n)
	}
	if n, ok := span.Fit(shuffled(apart), 1, 3); n != 4*many-2 || !ok {
		t.Errorf("Fit is %d, %v", n, ok)
	}
}
