package calendar

import (
	"shipyard/api"
	"shipyard/num"
)

// ending is the form of what follows the number of the week in a date: D is the day of the week, and each H a digit of the hour.
const ending = " dD HHh"

// Date returns a time as week, day and hour.
func Date(at int) (s string) {
	if !isTime(at) {
		return ""
	}
	week, day, hour := at/weekHours, at%weekHours/dayHours, at%dayHours
	return "w" + num.Text(week) + " d" + num.Text(day+1) + " " + num.Text(hour/10) + num.Text(hour%10) + "h"
}

// Parse returns the time whose Date is s.
func Parse(s string) (at int, e api.Errno) {
	cut := len(s) - len(ending)
	if cut < 1 || s[0] != 'w' {
		return 0, api.ErrSyntax
	}
	hour, ok := hourOfWeek(s[cut:])
	if !ok {
		return 0, api.ErrSyntax
	}
	week, e := parseWeek(s[1:cut])
	if e != api.OK {
		return 0, e
	}
	at = week*weekHours + hour
	if !isTime(at) {
		return 0, api.ErrRange
	}
	return at, api.OK
}

// parseWeek returns the number of a week, which may be the week of no time.
func parseWeek(s string) (week int, e api.Errno) {
	week, e = num.Parse(s)
	// A number that is too great is as well-formed as any other, but a week is never below 0.
	if e == api.ErrShort || s != "" && s[0] == '-' {
		e = api.ErrSyntax
	}
	if e != api.OK {
		return 0, e
	}
	return week, api.OK
}

// hourOfWeek returns the hour of the week that the end of a date denotes.
func hourOfWeek(s string) (hour int, ok bool) {
	for i := range len(ending) {
		switch ending[i] {
		case 'D':
			ok = s[i] >= '1' && s[i] <= '7'
		case 'H':
			ok = s[i] >= '0' && s[i] <= '9'
		default:
			ok = s[i] == ending[i]
		}
		if !ok {
			return 0, false
		}
	}
	day := int(s[2] - '1')
	hour = int(s[4]-'0')*10 + int(s[5]-'0')
	if hour >= dayHours {
		return 0, false
	}
	return day*dayHours + hour, true
}
