package calendar_test

import (
	"testing"

	"shipyard/api"
	"shipyard/calendar"
)

func TestWorks(t *testing.T) {
	c := made(t, of(8, 16), []int{7})
	for at, want := range map[int]bool{
		8: true, 15: true, 7: false, 16: false, 176: false, 177: false, 8 + 24: false, 8 + 2*168: true,
		0: false, -1: false, 8 - 168: false, least: false, greatest: false, maxTime + 1: false,
	} {
		if ok := c.Works(at); ok != want {
			t.Errorf("Works(%d) is %v", at, ok)
		}
	}
	// The last times are in the 4th day of a week, up to its hour 16.
	c = made(t, of(72, 96), nil)
	for at, want := range map[int]bool{maxTime - 17: false, maxTime - 16: true, maxTime: true, maxTime + 1: false, maxTime + 7: false} {
		if ok := c.Works(at); ok != want {
			t.Errorf("Works(%d) is %v", at, ok)
		}
	}
	c = made(t, of(72, 96), []int{lastDay})
	if c.Works(maxTime) {
		t.Error("Works(MaxTime) is true on a closed day")
	}
}

func TestNext(t *testing.T) {
	for _, c := range []struct {
		shifts []api.Span
		closed []int
		at, t  int
		e      api.Errno
	}{
		{of(8, 16), []int{7}, 0, 8, api.OK},
		{of(8, 16), []int{7}, 8, 8, api.OK},
		{of(8, 16), []int{7}, 15, 15, api.OK},
		{of(8, 16), []int{7}, 16, 344, api.OK},
		{of(8, 16), nil, 16, 176, api.OK},
		{of(8, 16), nil, -1, 0, api.ErrRange},
		{of(8, 16), nil, least, 0, api.ErrRange},
		{of(8, 16), nil, maxTime + 1, 0, api.ErrRange},
		{of(8, 16), nil, greatest, 0, api.ErrRange},
		{of(0, 168), nil, 0, 0, api.OK},
		{of(0, 168), nil, maxTime, maxTime, api.OK},
		{of(0, 168), []int{lastDay}, maxTime, 0, api.ErrNone},
		{of(0, 168), []int{lastDay}, maxTime - 16, 0, api.ErrNone},
		{of(0, 168), []int{lastDay}, maxTime - 17, maxTime - 17, api.OK},
		{of(88, 89), nil, maxTime - 87, maxTime, api.OK},
		{of(89, 90), nil, maxTime - 166, 0, api.ErrNone},
		{of(89, 90), nil, maxTime - 167, maxTime - 167, api.OK},
		{of(0, 24), every(0, 7, 400), 0, 400 * 168, api.OK},
		{of(0, 168), every(0, 1, 400), 0, 9600, api.OK},
	} {
		if n, e := made(t, c.shifts, c.closed).Next(c.at); n != c.t || e != c.e {
			t.Errorf("%v %v: Next(%d) is %d, %v, not %d, %v", c.shifts, c.closed, c.at, n, e, c.t, c.e)
		}
	}
}

func TestBetween(t *testing.T) {
	for _, c := range []struct {
		shifts         []api.Span
		closed         []int
		from, until, n int
	}{
		{of(8, 16), nil, -5, 9, 1},
		{of(8, 16), nil, 9, 9, 0},
		{of(8, 16), nil, 16, 8, 0},
		{of(8, 16), nil, 8, 16, 8},
		{of(8, 16), nil, 9, 15, 6},
		{of(8, 16), nil, 0, 168, 8},
		{of(8, 16), []int{7}, 0, 2 * 168, 8},
		{of(8, 16), []int{7}, 0, 2*168 + 12, 12},
		{of(8, 16), []int{7}, 168, 180, 0},
		{of(8, 16), []int{7}, least, greatest, 8 * 6241},
		{of(0, 168), nil, least, greatest, maxTime + 1},
		{of(0, 168), nil, greatest, least, 0},
		{of(0, 168), nil, 0, maxTime, maxTime},
		{of(0, 168), nil, 0, maxTime + 1, maxTime + 1},
		{of(0, 168), nil, -3, maxTime + 9, maxTime + 1},
		{of(0, 168), nil, maxTime, maxTime + 1, 1},
		{of(0, 168), nil, maxTime, maxTime, 0},
		{of(0, 168), nil, maxTime + 1, greatest, 0},
		{of(0, 168), nil, maxTime + 5, maxTime, 0},
		{of(0, 168), nil, least, 0, 0},
		{of(0, 168), nil, -1, 1, 1},
		{of(0, 168), []int{lastDay}, 0, maxTime + 1, maxTime - 16},
		{of(0, 168), every(0, 1, 400), 0, 9601, 1},
		{of(0, 168), every(7, 1, 7), 168, 336, 0},
		{of(0, 168), every(7, 1, 7), 167, 337, 2},
	} {
		if n := made(t, c.shifts, c.closed).Between(c.from, c.until); n != c.n {
			t.Errorf("%v %v: Between(%d, %d) is %d, not %d", c.shifts, c.closed, c.from, c.until, n, c.n)
		}
	}
}

func TestAdd(t *testing.T) {
	for _, c := range []struct {
		shifts       []api.Span
		closed       []int
		at, hours, t int
		e            api.Errno
	}{
		{of(8, 16), nil, 0, 3, 11, api.OK},
		{of(8, 16), nil, 10, 6, 16, api.OK},
		{of(8, 16), nil, 10, 7, 177, api.OK},
		{of(8, 16), nil, 5, 0, 5, api.OK},
		{of(8, 16), []int{7}, 10, 7, 345, api.OK},
		{of(8, 16), []int{7}, 180, 0, 180, api.OK},
		{of(8, 16), nil, -1, 0, 0, api.ErrRange},
		{of(8, 16), nil, -1, -1, 0, api.ErrRange},
		{of(8, 16), nil, 0, -1, 0, api.ErrRange},
		{of(8, 16), nil, 0, least, 0, api.ErrRange},
		{of(8, 16), nil, maxTime + 1, 0, 0, api.ErrRange},
		{of(8, 16), nil, maxTime + 1, greatest, 0, api.ErrRange},
		{of(8, 16), nil, 0, greatest, 0, api.ErrTime},
		{of(8, 16), nil, maxTime, greatest, 0, api.ErrTime},
		{of(8, 16), nil, maxTime, 0, maxTime, api.OK},
		{of(0, 168), nil, 3, 5, 8, api.OK},
		{of(0, 168), nil, maxTime, 0, maxTime, api.OK},
		{of(0, 168), nil, maxTime, 1, 0, api.ErrTime},
		{of(0, 168), nil, maxTime - 1, 1, maxTime, api.OK},
		{of(0, 168), nil, maxTime - 1, 2, 0, api.ErrTime},
		{of(0, 168), nil, 0, maxTime, maxTime, api.OK},
		{of(0, 168), nil, 0, maxTime + 1, 0, api.ErrTime},
		// There is a last working hour, but no time after it; and the hour before it.
		{of(88, 89), nil, maxTime, 1, 0, api.ErrTime},
		{of(87, 88), nil, maxTime - 1, 1, maxTime, api.OK},
		{of(87, 88), nil, maxTime - 1, 2, 0, api.ErrTime},
		{of(87, 88), nil, maxTime, 1, 0, api.ErrTime},
		{of(0, 168), []int{lastDay}, maxTime - 20, 4, maxTime - 16, api.OK},
		{of(0, 168), []int{lastDay}, maxTime - 20, 5, 0, api.ErrTime},
		{of(0, 168), every(0, 1, 400), 0, 1, 9601, api.OK},
	} {
		if n, e := made(t, c.shifts, c.closed).Add(c.at, c.hours); n != c.t || e != c.e {
			t.Errorf("%v %v: Add(%d, %d) is %d, %v, not %d, %v", c.shifts, c.closed, c.at, c.hours, n, e, c.t, c.e)
		}
	}
}

func TestNil(t *testing.T) {
	var c *calendar.Calendar
	for _, at := range append(edges(), 8, 9, 1000) {
		if c.Works(at) {
			t.Errorf("Works(%d) of nil is true", at)
		}
		if n, e := c.Next(at); n != 0 || e != api.ErrNil {
			t.Errorf("Next(%d) of nil is %d, %v", at, n, e)
		}
		for _, x := range edges() {
			if n := c.Between(at, x); n != 0 {
				t.Errorf("Between(%d, %d) of nil is %d", at, x, n)
			}
			if n, e := c.Add(at, x); n != 0 || e != api.ErrNil {
				t.Errorf("Add(%d, %d) of nil is %d, %v", at, x, n, e)
			}
		}
	}
}
