package calendar_test

import (
	"fmt"
	"math/rand"
	"regexp"
	"strconv"
	"strings"
	"testing"

	"shipyard/api"
	"shipyard/calendar"
)

func TestDate(t *testing.T) {
	for at, want := range map[int]string{
		0: "w0 d1 00h", 1: "w0 d1 01h", 9: "w0 d1 09h", 10: "w0 d1 10h", 19: "w0 d1 19h", 20: "w0 d1 20h", 23: "w0 d1 23h", 24: "w0 d2 00h",
		167: "w0 d7 23h", 168: "w1 d1 00h", 2071: "w12 d3 07h", 168*999 + 3: "w999 d1 03h", 168 * 1000: "w1000 d1 00h",
		maxTime - 17: "w6241 d3 23h", maxTime - 16: "w6241 d4 00h", maxTime: "w6241 d4 16h",
		-1: "", -168: "", maxTime + 1: "", maxTime + 168: "", least: "", greatest: "",
	} {
		if s := calendar.Date(at); s != want {
			t.Errorf("Date(%d) is %q, not %q", at, s, want)
		}
	}
}

// checkParse checks Parse of a string.
func checkParse(t *testing.T, s string, want int, wantError api.Errno) {
	t.Helper()
	if at, e := calendar.Parse(s); at != want || e != wantError {
		t.Errorf("Parse(%.60q) is %d, %v, not %d, %v", s, at, e, want, wantError)
	}
}

func TestParse(t *testing.T) {
	for s, want := range map[string]int{
		"w0 d1 00h": 0, "w0 d7 23h": 167, "w1 d1 00h": 168, "w12 d3 07h": 2071, "w6241 d4 16h": maxTime, "w6241 d4 09h": maxTime - 7, "w10 d1 10h": 1690, "w9 d2 19h": 1555, "w9 d2 20h": 1556,
	} {
		checkParse(t, s, want, api.OK)
	}
}

func TestParseSyntax(t *testing.T) {
	for _, s := range []string{
		"", " ", "w", "w0", "h", "w d1 00h", " d1 00h", "d1 00h", "0 d1 00h", "W0 d1 00h", "w0 D1 00h", "w0 d1 00H", "w0 d1 00", "w0 d1 0h", "w0 d1 000h", "w0 d1 h", "w0 d1 00m", "w0 d1 00hh", "w0 d1 00h ", " w0 d1 00h", "ww0 d1 00h",
		"w0d1 00h", "w0 d100h", "w0  d1 00h", "w0 d1  00h", "w0 d 1 00h", "w 0 d1 00h", "w0\td1 00h", "w0 d1\n00h", "w0 d1 00h\n", "w0 d1 00h\x00", "w0_d1_00h",
		"w0 d0 00h", "w0 d8 00h", "w1 d8 00h", "w0 d9 00h", "w0 d10 00h", "w0 d01 00h", "w0 d 00h", "w0 d-1 00h", "w0 da 00h", "w0 d/ 00h", "w0 d: 00h",
		"w1 d1 7h", "w0 d1 24h", "w0 d1 25h", "w0 d1 29h", "w0 d1 30h", "w0 d1 99h", "w0 d1 -1h", "w0 d1 +1h", "w0 d1 0xh", "w0 d1 x0h", "w0 d1 0/h", "w0 d1 0:h", "w0 d1 /0h", "w0 d1 :0h", "w0 d1 1:h", "w0 d1  1h", "w0 d1 1 h",
		"w01 d1 00h", "w00 d1 00h", "w-0 d1 00h", "w-1 d1 00h", "w+1 d1 00h", "w--1 d1 00h", "w- d1 00h", "w1a d1 00h", "wa d1 00h", "w1.0 d1 00h", "w0x1 d1 00h", "w1_0 d1 00h", "w１ d1 00h", "w1 d１ 00h",
		// What is wrong is wrong with a week that is too great, too.
		"w6242 d8 00h", "w6242 d1 24h", "w6242 d1 0h", "w06242 d1 00h", "w-6242 d1 00h", "w99999999999999999999 d0 00h", "w-99999999999999999999 d1 00h", "w0" + strings.Repeat("9", 30) + " d1 00h", "w" + strings.Repeat("9", 30) + "x d1 00h", "w6241 d4 24h", "w6241 d8 17h",
		// All of it twice, and parts of it.
		"w0 d1 00hw0 d1 00h", "w0 d1 00h d1 00h", "w0 d1 w0 d1 00h",
	} {
		checkParse(t, s, 0, api.ErrSyntax)
	}
}

func TestParseRange(t *testing.T) {
	for _, s := range []string{
		"w6241 d4 17h", "w6241 d5 00h", "w6241 d5 16h", "w6241 d7 23h", "w6242 d1 00h", "w6242 d4 16h", "w10000 d1 00h", "w1099511627776 d1 00h", "w1099511627777 d1 00h", "w9223372036854775807 d7 23h", "w9223372036854775808 d1 00h",
		// Weeks whose times would be times again if they wrapped around in 64 bits.
		"w18446744073709551616 d1 00h", "w18446744073709551617 d1 00h", "w2305843009213693952 d1 00h", "w4611686018427387904 d1 00h", "w109802048057794950 d1 16h", "w109802048057794951 d1 00h",
		"w340282366920938463463374607431768211456 d1 00h", "w1" + strings.Repeat("0", 10000) + " d1 00h", "w" + strings.Repeat("9", 100000) + " d7 23h",
	} {
		checkParse(t, s, 0, api.ErrRange)
	}
}

// A date is changed at each place, and the reference is a regular expression.
func TestParseChanged(t *testing.T) {
	form := regexp.MustCompile(`\Aw(0|[1-9][0-9]*) d([1-7]) ([01][0-9]|2[0-3])h\z`)
	check := func(s string) {
		want, wantError := 0, api.ErrSyntax
		if m := form.FindStringSubmatch(s); m != nil {
			week, e := strconv.ParseInt(m[1], 10, 32)
			day, _ := strconv.Atoi(m[2])
			hour, _ := strconv.Atoi(m[3])
			want, wantError = 168*int(week)+24*(day-1)+hour, api.OK
			if e != nil || want > maxTime {
				want, wantError = 0, api.ErrRange
			}
		}
		checkParse(t, s, want, wantError)
	}
	random := rand.New(rand.NewSource(10))
	for _, date := range []string{"w0 d1 00h", "w12 d3 07h", "w6241 d4 16h", "w6242 d7 23h", "w99999999999 d1 19h"} {
		for i := range len(date) + 1 {
			check(date[:i])
			check(date[i:])
			for b := range 256 {
				check(date[:i] + string([]byte{byte(b)}) + date[i:])
				if i < len(date) {
					check(date[:i] + string([]byte{byte(b)}) + date[i+1:])
				}
			}
		}
		for range 20000 {
			b := []byte(date)
			for range 1 + random.Intn(3) {
				b[random.Intn(len(b))] = "0123456789 wdh-"[random.Intn(15)]
			}
			check(string(b))
		}
	}
}

func TestDatesOfAllTimes(t *testing.T) {
	at := 0
	for week := 0; at <= maxTime; week++ {
		for day := 1; day <= 7 && at <= maxTime; day++ {
			for hour := 0; hour < 24 && at <= maxTime; hour++ {
				s := calendar.Date(at)
				if want := fmt.Sprintf("w%d d%d %02dh", week, day, hour); s != want {
					t.Fatalf("Date(%d) is %q, not %q", at, s, want)
				}
				if n, e := calendar.Parse(s); n != at || e != api.OK {
					t.Fatalf("Parse(%q) is %d, %v", s, n, e)
				}
				at++
			}
		}
	}
}
