package span_test

import (
	"math/big"
	"math/rand"
	"slices"
	"testing"

	"shipyard/api"
	"shipyard/span"
)

// fitEnd is where the starts that Fit can return end.
const fitEnd = 1 << 62

// isFree is the reference for free intervals: it reports whether a set has none of the integers from start on, whose number is length.
func isFree(l []api.Span, start, length int) bool {
	end := new(big.Int).Add(big.NewInt(int64(start)), big.NewInt(int64(length)))
	return !slices.ContainsFunc(l, func(s api.Span) bool {
		return s.A < s.B && start < s.B && big.NewInt(int64(s.A)).Cmp(end) < 0
	})
}

// firstFit is the reference for Fit: the least start is from or the end of a span, since the integer before any other start is free, too.
func firstFit(l []api.Span, from, length int) (start int, ok bool) {
	starts := []int{from}
	for _, s := range l {
		starts = append(starts, s.B)
	}
	slices.Sort(starts)
	for _, n := range starts {
		if from <= n && n < fitEnd && length >= 1 && isFree(l, n, length) {
			return n, true
		}
	}
	return 0, false
}

// checkFit checks Fit against the reference.
func checkFit(t *testing.T, l []api.Span, from, length int) {
	t.Helper()
	start, ok := span.Fit(l, from, length)
	if want, is := firstFit(l, from, length); start != want || ok != is {
		t.Fatalf("Fit(%v, %d, %d) is %d, %v, not %d, %v", l, from, length, start, ok, want, is)
	}
}

// lengths returns lengths of intervals: invalid ones, short ones, those of the gaps of an axis with their neighbours, and great ones.
func lengths(axis []int) []int {
	l := []int{least, -1, 0, 1, 2, 3, fitEnd - 1, fitEnd, fitEnd + 1, greatest - 1, greatest}
	for i, a := range axis {
		for _, b := range axis[i+1:] {
			// The difference can wrap around; it is a length like any other then.
			l = append(l, b-a-1, b-a, b-a+1)
		}
	}
	slices.Sort(l)
	return slices.Compact(l)
}

func TestGaps(t *testing.T) {
	for _, c := range []struct {
		l      []api.Span
		within api.Span
		want   []api.Span
	}{
		{of(2, 4, 8, 12), api.Span{A: 0, B: 10}, of(0, 2, 4, 8)},
		{of(8, 12, 2, 4), api.Span{A: 0, B: 10}, of(0, 2, 4, 8)},
		{nil, api.Span{A: 3, B: 7}, of(3, 7)},
		{of(5, 5, 6, 4), api.Span{A: 3, B: 7}, of(3, 7)},
		{nil, api.Span{A: 3, B: 3}, nil},
		{nil, api.Span{A: 7, B: 3}, nil},
		{of(2, 4), api.Span{A: 3, B: 3}, nil},
		{of(4, 5), api.Span{A: 7, B: 3}, nil},
		{of(0, 1, 9, 10), api.Span{A: 7, B: 3}, nil},
		{of(3, 7), api.Span{A: 3, B: 7}, nil},
		{of(0, 9), api.Span{A: 3, B: 7}, nil},
		{of(5, 9, 0, 5), api.Span{A: 3, B: 7}, nil},
		{of(0, 3, 7, 9), api.Span{A: 3, B: 7}, of(3, 7)},
		{of(-9, -4, 20, 30), api.Span{A: 3, B: 7}, of(3, 7)},
		{of(0, 4), api.Span{A: 3, B: 7}, of(4, 7)},
		{of(6, 9), api.Span{A: 3, B: 7}, of(3, 6)},
		{of(4, 5, 5, 6), api.Span{A: 3, B: 7}, of(3, 4, 6, 7)},
		{of(4, 5, 10, 12), api.Span{A: 3, B: 7}, of(3, 4, 5, 7)},
		{of(least, greatest), api.Span{A: least, B: greatest}, nil},
		{nil, api.Span{A: least, B: greatest}, of(least, greatest)},
		{nil, api.Span{A: greatest, B: least}, nil},
		{of(least, 0, 1, greatest), api.Span{A: least, B: greatest}, of(0, 1)},
		{of(0, 1), api.Span{A: least, B: greatest}, of(least, 0, 1, greatest)},
		{of(least+1, greatest-1), api.Span{A: least, B: greatest}, of(least, least+1, greatest-1, greatest)},
	} {
		check(t, span.Gaps(c.l, c.within), c.want, "Gaps", c.l, c.within)
	}
}

func TestAllShortGaps(t *testing.T) {
	random := rand.New(rand.NewSource(3))
	for _, axis := range axes() {
		lists := listsOn(axis, 2)
		for range 2000 {
			lists = append(lists, randomList(random, axis, 6))
		}
		for _, l := range lists {
			in := covered(axis, l)
			for _, s := range spansOn(axis) {
				rest := combined(covered(axis, []api.Span{s}), in, func(x, y bool) bool { return x && !y })
				check(t, span.Gaps(l, s), runs(axis, rest), "Gaps", l, s)
			}
		}
	}
}

func TestFit(t *testing.T) {
	for _, c := range []struct {
		l                   []api.Span
		from, length, start int
		ok                  bool
	}{
		{of(2, 4, 8, 12), 0, 3, 4, true},
		{of(2, 4, 8, 12), 0, 5, 12, true},
		{of(8, 12, 2, 4), 0, 5, 12, true},
		{nil, -5, 1, -5, true},
		{nil, -5, 0, 0, false},
		{nil, -5, -1, 0, false},
		{nil, -5, least, 0, false},
		{of(2, 4), 7, 0, 0, false},
		{nil, fitEnd, 1, 0, false},
		{nil, fitEnd - 1, 1, fitEnd - 1, true},
		{nil, greatest, 1, 0, false},
		{nil, greatest, greatest, 0, false},
		{nil, least, greatest, least, true},
		// Before the spans, with lengths of less than the gap, of exactly the gap and of one more.
		{of(2, 4, 8, 12), 0, 1, 0, true},
		{of(2, 4, 8, 12), 0, 2, 0, true},
		{of(2, 4, 8, 12), 1, 1, 1, true},
		{of(2, 4, 8, 12), 1, 2, 4, true},
		{of(2, 4, 8, 12), -100, 102, -100, true},
		{of(2, 4, 8, 12), -100, 103, 12, true},
		// Within a span, within a gap, and behind the spans.
		{of(2, 4, 8, 12), 2, 1, 4, true},
		{of(2, 4, 8, 12), 3, 4, 4, true},
		{of(2, 4, 8, 12), 3, 5, 12, true},
		{of(2, 4, 8, 12), 4, 4, 4, true},
		{of(2, 4, 8, 12), 5, 3, 5, true},
		{of(2, 4, 8, 12), 5, 4, 12, true},
		{of(2, 4, 8, 12), 7, 1, 7, true},
		{of(2, 4, 8, 12), 8, 1, 12, true},
		{of(2, 4, 8, 12), 11, 9, 12, true},
		{of(2, 4, 8, 12), 12, 1, 12, true},
		{of(2, 4, 8, 12), 40, greatest, 40, true},
		// Spans that touch, overlap or are empty.
		{of(4, 6, 2, 4), 0, 3, 6, true},
		{of(2, 9, 3, 4), 0, 3, 9, true},
		{of(3, 3, 5, 2), 0, 9, 0, true},
		// Numbers near the ends of the range.
		{of(least, 0), least, 1, 0, true},
		{of(least+5, 0), least, 5, least, true},
		{of(least+5, 0), least, 6, 0, true},
		{of(0, 1), least, greatest, least, true},
		{of(-1, 0), least, greatest, least, true},
		{of(-2, 0), least, greatest, 0, true},
		{of(0, 1), 0, greatest, 1, true},
		{of(0, 1), -1, greatest - 1, 1, true},
		{of(greatest-1, greatest), 0, greatest - 1, 0, true},
		{of(greatest-1, greatest), 0, greatest, 0, false},
		{of(greatest-1, greatest), 1, greatest - 2, 1, true},
		{of(greatest-1, greatest), 1, greatest - 1, 0, false},
		{of(least, greatest), least, 1, 0, false},
		{of(least, fitEnd-1), least, greatest, fitEnd - 1, true},
		{of(least, fitEnd), least, 1, 0, false},
		{of(0, fitEnd+1), 0, 1, 0, false},
		{of(0, fitEnd), -1, 1, -1, true},
		{of(0, fitEnd), -1, 2, 0, false},
		{of(0, fitEnd-1), 0, 1, fitEnd - 1, true},
		{of(0, fitEnd-1, fitEnd, greatest), 0, 1, fitEnd - 1, true},
		{of(0, fitEnd-1, fitEnd, greatest), 0, 2, 0, false},
		{of(fitEnd, greatest), fitEnd - 1, 1, fitEnd - 1, true},
		{of(fitEnd, greatest), fitEnd - 1, 2, 0, false},
		{of(fitEnd, greatest), fitEnd, 1, 0, false},
	} {
		if start, ok := span.Fit(c.l, c.from, c.length); start != c.start || ok != c.ok {
			t.Errorf("Fit(%v, %d, %d) is %d, %v, not %d, %v", c.l, c.from, c.length, start, ok, c.start, c.ok)
		}
		checkFit(t, c.l, c.from, c.length)
	}
}

func TestAllShortFits(t *testing.T) {
	random := rand.New(rand.NewSource(4))
	for _, axis := range axes() {
		lists := listsOn(axis, 1)
		for range 200 {
			lists = append(lists, randomList(random, axis, 5))
		}
		for _, l := range lists {
			for _, length := range lengths(axis) {
				for _, p := range axis {
					for _, from := range []int{p - 1, p, p + 1} {
						checkFit(t, l, from, length)
					}
				}
			}
		}
	}
}

// Of every start in a small range, from the first one on, Fit returns the first one whose integers are free one by one.
func TestFitStartByStart(t *testing.T) {
	random := rand.New(rand.NewSource(5))
	for range 20000 {
		var l []api.Span
		for range random.Intn(6) {
			l = append(l, api.Span{A: random.Intn(30) - 15, B: random.Intn(30) - 15})
		}
		from, length := random.Intn(40)-20, 1+random.Intn(9)
		want := from
		for n := from; n < want+length; n++ {
			if span.Has(l, n) {
				want = n + 1
			}
		}
		if start, ok := span.Fit(l, from, length); start != want || !ok {
			t.Fatalf("Fit(%v, %d, %d) is %d, %v, not %d", l, from, length, start, ok, want)
		}
	}
}
