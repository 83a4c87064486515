package calendar_test

import (
	"math"
	"math/rand"
	"slices"
	"testing"

	"shipyard/api"
	"shipyard/calendar"
)

const (
	least    = math.MinInt
	greatest = math.MaxInt
	maxTime  = api.MaxTime
	lastDay  = 43690
)

// of returns shifts, given by their hours.
func of(hours ...int) (l []api.Span) {
	for i := 0; i < len(hours); i += 2 {
		l = append(l, api.Span{A: hours[i], B: hours[i+1]})
	}
	return l
}

// every returns n numbers from the first one on, in equal steps.
func every(first, step, n int) (l []int) {
	for i := range n {
		l = append(l, first+i*step)
	}
	return l
}

// hourly returns n shifts of one hour, with a pause of the same length between them.
func hourly(n int) (l []api.Span) {
	for i := range n {
		l = append(l, api.Span{A: 2 * i, B: 2*i + 1})
	}
	return l
}

// made returns a calendar that New accepts.
func made(t *testing.T, shifts []api.Span, closed []int) *calendar.Calendar {
	t.Helper()
	c, e := calendar.New(shifts, closed)
	if c == nil || e != api.OK {
		t.Fatalf("New(%v, %v) is %v, %v", shifts, closed, c, e)
	}
	return c
}

// model is the reference for calendars: the yard is looked at hour by hour.
type model struct {
	works  []bool // of each time
	times  []int  // those at which the yard works
	before []int  // the number of these before each time and before the end of all times
}

// modelOf returns the model of a calendar.
func modelOf(shifts []api.Span, closed []int) *model {
	m := &model{before: []int{0}}
	isClosed := map[int]bool{}
	for _, day := range closed {
		isClosed[day] = true
	}
	for t := range maxTime + 1 {
		inShift := slices.ContainsFunc(shifts, func(s api.Span) bool { return s.A <= t%168 && t%168 < s.B })
		works := inShift && !isClosed[t/24]
		m.works = append(m.works, works)
		if works {
			m.times = append(m.times, t)
		}
		m.before = append(m.before, len(m.times))
	}
	return m
}

// next returns the result of Next for a time.
func (m *model) next(at int) (int, api.Errno) {
	if i := m.before[at]; i < len(m.times) {
		return m.times[i], api.OK
	}
	return 0, api.ErrNone
}

// between returns the result of Between.
func (m *model) between(from, until int) int {
	from, until = max(from, 0), min(until, maxTime+1)
	if from >= until {
		return 0
	}
	return m.before[until] - m.before[from]
}

// add returns the result of Add for a time and hours that are not negative.
func (m *model) add(at, hours int) (int, api.Errno) {
	if hours == 0 {
		return at, api.OK
	}
	if hours > len(m.times)-m.before[at] {
		return 0, api.ErrTime
	}
	t := m.times[m.before[at]+hours-1] + 1
	if t > maxTime {
		return 0, api.ErrTime
	}
	return t, api.OK
}

// sample is what a calendar is made of.
type sample struct {
	name   string
	shifts []api.Span
	closed []int
}

// samples returns calendars of many kinds.
func samples() []sample {
	week := of(6, 14, 14, 22, 30, 46, 54, 70, 78, 94, 102, 118)
	return []sample{
		{"all hours", of(0, 168), nil},
		{"all hours in two shifts", of(0, 80, 80, 168), []int{0, lastDay}},
		{"one shift and one closed day", of(8, 16), []int{7}},
		{"five days with pauses", week, []int{0, 3, 4, 5, 6, 358, 359, 365, lastDay - 1}},
		{"a shift over midnight", of(20, 30, 44, 54), []int{1, 9, 15, 16}},
		{"the ends of the week", of(0, 1, 167, 168), []int{6, 7, 20, 28}},
		{"weeks without a working day", of(3, 5, 50, 60, 140, 144), every(14, 1, 28)},
		{"a whole year without a working day", of(0, 24, 30, 168), every(0, 1, 400)},
		{"the only day closed in 400 weeks", of(0, 24), every(0, 7, 400)},
		{"the only day closed in the last 400 weeks", of(72, 96), every(lastDay-399*7, 7, 400)},
		{"the last days", of(0, 168), every(lastDay-399, 1, 400)},
		{"no hour in the last week", of(89, 168), nil},
		{"the last hour", of(88, 89), nil},
		{"the hour before the last one", of(87, 88), nil},
		{"21 shifts", hourly(21), []int{1}},
		{"all days of other shifts closed", of(0, 2, 24, 26), every(1, 7, 400)},
	}
}

// each checks the calendars of all samples.
func each(t *testing.T, check func(t *testing.T, s sample, c *calendar.Calendar, random *rand.Rand)) {
	for i, s := range samples() {
		t.Run(s.name, func(t *testing.T) {
			t.Parallel()
			check(t, s, made(t, s.shifts, s.closed), rand.New(rand.NewSource(int64(i))))
		})
	}
}

// checkAt checks the methods at one number, with some hours and ends.
func checkAt(t *testing.T, c *calendar.Calendar, m *model, at int) {
	t.Helper()
	isTime := at >= 0 && at <= maxTime
	if ok := c.Works(at); ok != (isTime && m.works[at]) {
		t.Fatalf("Works(%d) is %v", at, ok)
	}
	want, wantError := 0, api.ErrRange
	if isTime {
		want, wantError = m.next(at)
	}
	if n, e := c.Next(at); n != want || e != wantError {
		t.Fatalf("Next(%d) is %d, %v, not %d, %v", at, n, e, want, wantError)
	}
}

// checkSpan checks Between for two numbers, in both orders.
func checkSpan(t *testing.T, c *calendar.Calendar, m *model, from, until int) {
	t.Helper()
	if n := c.Between(from, until); n != m.between(from, until) {
		t.Fatalf("Between(%d, %d) is %d, not %d", from, until, n, m.between(from, until))
	}
	if n := c.Between(until, from); n != m.between(until, from) {
		t.Fatalf("Between(%d, %d) is %d, not %d", until, from, n, m.between(until, from))
	}
}

// checkAdd checks Add.
func checkAdd(t *testing.T, c *calendar.Calendar, m *model, at, hours int) {
	t.Helper()
	want, wantError := 0, api.ErrRange
	if at >= 0 && at <= maxTime && hours >= 0 {
		want, wantError = m.add(at, hours)
	}
	if n, e := c.Add(at, hours); n != want || e != wantError {
		t.Fatalf("Add(%d, %d) is %d, %v, not %d, %v", at, hours, n, e, want, wantError)
	}
}

// edges returns numbers around the ends of the times, of days and of weeks, and at the ends of the range of int.
func edges() []int {
	l := []int{least, least + 1, -maxTime, -168, -24, 1 << 32, greatest - 1, greatest}
	for _, n := range []int{0, 24, 168, 400 * 24, 400 * 168, maxTime - 16, maxTime - 88, maxTime, maxTime + 168} {
		l = append(l, n-2, n-1, n, n+1, n+2)
	}
	return l
}

func TestAllTimes(t *testing.T) {
	each(t, func(t *testing.T, s sample, c *calendar.Calendar, _ *rand.Rand) {
		m := modelOf(s.shifts, s.closed)
		for at := -200; at < maxTime+200; at++ {
			checkAt(t, c, m, at)
		}
		for _, at := range edges() {
			checkAt(t, c, m, at)
		}
	})
}

func TestSpansOfTime(t *testing.T) {
	each(t, func(t *testing.T, s sample, c *calendar.Calendar, random *rand.Rand) {
		m := modelOf(s.shifts, s.closed)
		for _, from := range edges() {
			for _, until := range edges() {
				checkSpan(t, c, m, from, until)
			}
			for range 500 {
				checkSpan(t, c, m, from, random.Intn(maxTime+1))
			}
		}
		for range 50000 {
			from := random.Intn(maxTime + 1)
			checkSpan(t, c, m, from, random.Intn(maxTime+1))
			checkSpan(t, c, m, from, from+random.Intn(400))
		}
	})
}

func TestSumsOfHours(t *testing.T) {
	each(t, func(t *testing.T, s sample, c *calendar.Calendar, random *rand.Rand) {
		m := modelOf(s.shifts, s.closed)
		check := func(at int) {
			// As many hours as there are left, and those beside them; the last hour cannot be added if nothing follows it.
			left := m.between(at, maxTime)
			for _, hours := range []int{least, -1, 0, 1, 2, left - 1, left, left + 1, left + 2, maxTime, maxTime + 1, greatest - 1, greatest, random.Intn(left + 2)} {
				checkAdd(t, c, m, at, hours)
			}
		}
		for _, at := range edges() {
			check(at)
		}
		for range 20000 {
			at := random.Intn(maxTime + 1)
			check(at)
			checkAdd(t, c, m, at, random.Intn(200))
		}
	})
}

func TestRandomCalendars(t *testing.T) {
	random := rand.New(rand.NewSource(9))
	for range 40 {
		var shifts []api.Span
		for hour := random.Intn(30); hour < 168 && len(shifts) < 21; hour += random.Intn(20) {
			b := min(hour+1+random.Intn(20), 168)
			shifts = append(shifts, api.Span{A: hour, B: b})
			hour = b
		}
		var closed []int
		for day := random.Intn(9); day <= lastDay && len(closed) < 400; day += 1 + random.Intn(1+random.Intn(200)) {
			closed = append(closed, day)
		}
		c, m := made(t, shifts, closed), modelOf(shifts, closed)
		for range 3000 {
			at := random.Intn(maxTime + 1)
			checkAt(t, c, m, at)
			checkSpan(t, c, m, at, at+random.Intn(300))
			checkSpan(t, c, m, at, random.Intn(maxTime+1))
			checkAdd(t, c, m, at, random.Intn(300))
			checkAdd(t, c, m, at, random.Intn(maxTime))
		}
	}
}
