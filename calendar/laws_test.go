package calendar_test

import (
	"cmp"
	"math/rand"
	"strings"
	"testing"

	"shipyard/api"
	"shipyard/calendar"
)

// numberNear returns a number that is a time, or near one.
func numberNear(random *rand.Rand) int {
	return random.Intn(maxTime+1000) - 500
}

func TestSums(t *testing.T) {
	each(t, func(t *testing.T, _ sample, c *calendar.Calendar, random *rand.Rand) {
		for range 20000 {
			a := numberNear(random)
			b := max(a, numberNear(random))
			d := max(b, numberNear(random))
			if c.Between(a, b)+c.Between(b, d) != c.Between(a, d) {
				t.Fatalf("Between %d, %d and %d: %d and %d are not %d", a, b, d, c.Between(a, b), c.Between(b, d), c.Between(a, d))
			}
			if n := c.Between(a, a+1); (n == 1) != c.Works(a) || n < 0 || n > 1 {
				t.Fatalf("Between(%d, %d) is %d", a, a+1, n)
			}
		}
	})
}

func TestAddAndBetween(t *testing.T) {
	each(t, func(t *testing.T, _ sample, c *calendar.Calendar, random *rand.Rand) {
		for range 20000 {
			at, n := random.Intn(maxTime+1), random.Intn(1+random.Intn(100000))
			end, e := c.Add(at, n)
			if e == api.ErrTime && c.Between(at, maxTime) < n {
				continue
			}
			if e != api.OK || c.Between(at, end) != n || n > 0 && !c.Works(end-1) || n == 0 && end != at {
				t.Fatalf("Add(%d, %d) is %d, %v; Between is %d", at, n, end, e, c.Between(at, end))
			}
		}
	})
}

func TestSteps(t *testing.T) {
	each(t, func(t *testing.T, _ sample, c *calendar.Calendar, random *rand.Rand) {
		for range 20000 {
			at, m, n := random.Intn(maxTime+1), random.Intn(1000), random.Intn(1000)
			middle, e := c.Add(at, m)
			if e == api.OK {
				two, e2 := c.Add(middle, n)
				one, e1 := c.Add(at, m+n)
				if two != one || e2 != e1 {
					t.Fatalf("Add(%d, %d + %d) is %d, %v, and in two steps %d, %v", at, m, n, one, e1, two, e2)
				}
			}
			next, e := c.Next(at)
			after, afterError := c.Add(at, 1)
			if e == api.OK && next < maxTime && (after != next+1 || afterError != api.OK) {
				t.Fatalf("Next(%d) is %d, and Add of 1 is %d, %v", at, next, after, afterError)
			}
			if (e == api.ErrNone || next == maxTime) && afterError != api.ErrTime {
				t.Fatalf("Next(%d) is %d, %v, and Add of 1 is %d, %v", at, next, e, after, afterError)
			}
		}
	})
}

func TestWeeks(t *testing.T) {
	random := rand.New(rand.NewSource(11))
	for _, s := range samples() {
		c := made(t, s.shifts, nil)
		for range 50000 {
			at := random.Intn(maxTime + 1)
			for _, other := range []int{at % 168, at%168 + 168*random.Intn(maxTime/168)} {
				if c.Works(at) != c.Works(other) {
					t.Fatalf("%s: Works(%d) is %v, but Works(%d) is %v", s.name, at, c.Works(at), other, c.Works(other))
				}
			}
		}
	}
}

// field returns a number in a text, behind the first occurrence of a mark.
func field(s, mark string) (n int) {
	_, rest, _ := strings.Cut(s, mark)
	for _, r := range rest {
		if r < '0' || r > '9' {
			break
		}
		n = n*10 + int(r-'0')
	}
	return n
}

// compareDates compares two dates by week, day and hour.
func compareDates(a, b string) int {
	hour := func(s string) string { return s[len(s)-3:] }
	return cmp.Or(cmp.Compare(field(a, "w"), field(b, "w")), cmp.Compare(field(a, "d"), field(b, "d")), cmp.Compare(hour(a), hour(b)))
}

func TestDatesInOrder(t *testing.T) {
	random := rand.New(rand.NewSource(12))
	for range 200000 {
		a := random.Intn(maxTime + 1)
		b := random.Intn(maxTime + 1)
		if random.Intn(2) == 0 {
			b = min(a+random.Intn(200), maxTime)
		}
		if compareDates(calendar.Date(a), calendar.Date(b)) != cmp.Compare(a, b) {
			t.Fatalf("%d has the date %s, and %d has %s", a, calendar.Date(a), b, calendar.Date(b))
		}
	}
}

// What Parse accepts is the date of its result.
func TestDatesAccepted(t *testing.T) {
	random := rand.New(rand.NewSource(13))
	accepted := 0
	for range 300000 {
		b := []byte("w 0 d1 00h")
		for i, set := range []string{"w", "0123456789", "0123456789 ", " ", "d", "0123456789", " ", "0123 ", "0123456789:", "h"} {
			b[i] = set[random.Intn(len(set))]
		}
		s := strings.Replace(string(b), "  ", " ", 1)
		at, e := calendar.Parse(s)
		if e == api.OK {
			accepted++
		}
		if e == api.OK && calendar.Date(at) != s {
			t.Fatalf("Parse(%q) is %d, whose date is %q", s, at, calendar.Date(at))
		}
	}
	if accepted < 1000 {
		t.Errorf("only %d dates were accepted", accepted)
	}
}
