package calendar_test

import (
	"slices"
	"testing"

	"shipyard/api"
	"shipyard/calendar"
)

func TestNew(t *testing.T) {
	for _, c := range []struct {
		name   string
		shifts []api.Span
		closed []int
		want   api.Errno
	}{
		{"one shift", of(8, 16), nil, api.OK},
		{"shifts that touch", of(8, 16, 16, 20), nil, api.OK},
		{"shifts with a pause", of(8, 12, 13, 17), []int{}, api.OK},
		{"the whole week", of(0, 168), nil, api.OK},
		{"the ends of the week", of(0, 1, 167, 168), nil, api.OK},
		{"21 shifts", hourly(21), nil, api.OK},
		{"400 closed days", of(8, 16), every(0, 1, 400), api.OK},
		{"both limits", hourly(21), every(lastDay-399, 1, 400), api.OK},
		{"the day 0", of(8, 16), []int{0}, api.OK},
		{"the last day", of(8, 16), []int{lastDay}, api.OK},
		{"both ends of the days", of(8, 16), []int{0, 1, lastDay - 1, lastDay}, api.OK},

		{"no shifts", nil, nil, api.ErrShort},
		{"an empty list", []api.Span{}, nil, api.ErrShort},
		{"22 shifts", hourly(22), nil, api.ErrLong},
		{"100 shifts", hourly(100), nil, api.ErrLong},
		{"401 closed days", of(8, 16), every(0, 1, 401), api.ErrLong},
		{"both lists too long", hourly(22), every(0, 1, 401), api.ErrLong},

		{"below 0", of(-1, 16), nil, api.ErrRange},
		{"far below 0", of(least, 16), nil, api.ErrRange},
		{"below 0 and empty", of(-1, -1), nil, api.ErrRange},
		{"at 168", of(167, 169), nil, api.ErrRange},
		{"beyond 168", of(168, 169), nil, api.ErrRange},
		{"far beyond 168", of(8, greatest), nil, api.ErrRange},
		{"empty", of(8, 8), nil, api.ErrRange},
		{"empty at 0", of(0, 0), nil, api.ErrRange},
		{"empty at 168", of(168, 168), nil, api.ErrRange},
		{"from above until", of(16, 8), nil, api.ErrRange},
		{"around the week", of(160, 8), nil, api.ErrRange},
		{"the ends of the numbers", of(least, greatest), nil, api.ErrRange},
		{"the ends of the numbers, exchanged", of(greatest, least), nil, api.ErrRange},
		{"the second shift", of(8, 16, 20, 20), nil, api.ErrRange},

		{"shifts that overlap", of(8, 16, 15, 20), nil, api.ErrOrder},
		{"the same shift twice", of(8, 16, 8, 16), nil, api.ErrOrder},
		{"a shift within another one", of(8, 16, 10, 12), nil, api.ErrOrder},
		{"descending shifts", of(20, 24, 8, 16), nil, api.ErrOrder},
		{"the third shift", of(8, 16, 20, 24, 23, 30), nil, api.ErrOrder},
		{"the shift before the one before", of(8, 16, 20, 24, 16, 20), nil, api.ErrOrder},

		{"the day -1", of(8, 16), []int{-1}, api.ErrRange},
		{"the day behind the last one", of(8, 16), []int{lastDay + 1}, api.ErrRange},
		{"the least day", of(8, 16), []int{least}, api.ErrRange},
		{"the greatest day", of(8, 16), []int{greatest}, api.ErrRange},
		{"the third day", of(8, 16), []int{0, 1, lastDay + 1}, api.ErrRange},
		{"a day twice", of(8, 16), []int{7, 7}, api.ErrOrder},
		{"the day 0 twice", of(8, 16), []int{0, 0}, api.ErrOrder},
		{"descending days", of(8, 16), []int{8, 7}, api.ErrOrder},
		{"a day later that is less", of(8, 16), []int{5, 9, 7}, api.ErrOrder},
		{"the last of 400 days", of(8, 16), append(every(0, 1, 399), 398), api.ErrOrder},

		// Of several errors, the first one counts.
		{"no shifts and too many days", nil, every(0, 1, 401), api.ErrShort},
		{"no shifts and no day", nil, []int{-1}, api.ErrShort},
		{"too many shifts, and a bad one", append(of(9, 8), hourly(21)...), nil, api.ErrLong},
		{"too many days, and a bad shift", of(9, 8), every(0, 1, 401), api.ErrLong},
		{"too many days, and a bad one", of(8, 16), every(lastDay, 1, 401), api.ErrLong},
		{"a shift out of range and of order", of(8, 16, 15, 15), nil, api.ErrRange},
		{"a shift out of order before one out of range", of(8, 16, 15, 20, 9, 8), nil, api.ErrOrder},
		{"a shift out of range before one out of order", of(8, 16, 9, 8, 7, 9), nil, api.ErrRange},
		{"a shift out of order before a day out of range", of(8, 16, 15, 20), []int{-1}, api.ErrOrder},
		{"a shift out of range before a day out of order", of(8, 8), []int{7, 7}, api.ErrRange},
		{"a day out of range and of order", of(8, 16), []int{7, -1}, api.ErrRange},
		{"a day out of order before one out of range", of(8, 16), []int{7, 6, -1}, api.ErrOrder},
		{"a day out of range before one out of order", of(8, 16), []int{7, lastDay + 1, 3}, api.ErrRange},
	} {
		got, e := calendar.New(c.shifts, c.closed)
		if e != c.want || (got == nil) != (e != api.OK) {
			t.Errorf("%s: New(%v, %v) is %v, %v, not %v", c.name, c.shifts, c.closed, got, e, c.want)
		}
	}
}

// A shift is accepted exactly if its ends are in order and in the week, and likewise with a shift before it.
func TestAllShifts(t *testing.T) {
	for a := -2; a <= 170; a++ {
		for b := -2; b <= 170; b++ {
			alone, second := api.OK, api.OK
			if a < 50 {
				second = api.ErrOrder
			}
			if a < 0 || b > 168 || a >= b {
				alone, second = api.ErrRange, api.ErrRange
			}
			if _, e := calendar.New(of(a, b), nil); e != alone {
				t.Fatalf("New of %d to %d: %v, not %v", a, b, e, alone)
			}
			if _, e := calendar.New(of(20, 50, a, b), nil); e != second {
				t.Fatalf("New of 20 to 50 and %d to %d: %v, not %v", a, b, e, second)
			}
		}
	}
}

func TestListsChangedLater(t *testing.T) {
	shifts, closed := of(8, 16, 20, 22), []int{1, 7}
	c := made(t, shifts, closed)
	if !slices.Equal(shifts, of(8, 16, 20, 22)) || !slices.Equal(closed, []int{1, 7}) {
		t.Errorf("New changes its lists to %v and %v", shifts, closed)
	}
	m := modelOf(shifts, closed)
	shifts[0], shifts[1], closed[0], closed[1] = api.Span{A: 0, B: 168}, api.Span{}, 0, 2
	for at := range 500 {
		checkAt(t, c, m, at)
		checkSpan(t, c, m, at, 400)
		checkAdd(t, c, m, at, 30)
	}
}

// Calendars do not depend on one another, and no call changes one.
func TestCalendarsApart(t *testing.T) {
	a, b := made(t, of(8, 16), []int{7}), made(t, of(16, 20), []int{0, 8})
	ofA, ofB := modelOf(of(8, 16), []int{7}), modelOf(of(16, 20), []int{0, 8})
	for range 2 {
		for at := range 400 {
			checkAt(t, a, ofA, at)
			checkAt(t, b, ofB, at)
			checkSpan(t, a, ofA, at, 300)
			checkSpan(t, b, ofB, at, 300)
			checkAdd(t, a, ofA, at, 20)
			checkAdd(t, b, ofB, at, 20)
		}
		a.Next(-1)
		a.Add(0, -1)
		a.Add(maxTime, 1)
	}
}
