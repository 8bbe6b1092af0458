package clock

import (
	"fmt"
	"math"
	"strings"
	"testing"
	"time"

	"wheelhouse/api"
)

const (
	day    = 86400
	zero   = 946684800 // 2000-01-01 00:00:00, as package time counts its seconds.
	layout = "2006-01-02 15:04:05"
)

// stampless: numbers that have no stamp, ticks or not.
var stampless = []int{
	-1, -2, -day, -day - 1, -Last, -Last - 1, -1 << 40, math.MinInt + 1, math.MinInt,
	Last + 1, Last + 2, Last + day, 2 * Last, 1<<40 - 1, 1 << 40, 1<<40 + 1, 1 << 62, math.MaxInt - 1, math.MaxInt,
}

// at is a tick as package time has it.
func at(n int) time.Time {
	return time.Unix(zero+int64(n), 0).UTC()
}

// strides goes through some 200000 ticks from 0 to most, the ends too, at many times of the day.
func strides(most int, do func(n int)) {
	step := most/200003 | 1
	for n := 0; n < most; n += step {
		do(n)
	}
	do(most)
}

// walk goes through all days from the first one on, by the calendar's rule alone, and tells of each its first tick.
func walk(do func(first, year, month, dayOfMonth int)) {
	first := 0
	for year := 2000; year <= 9999; year++ {
		february := 28
		if year%4 == 0 && (year%100 != 0 || year%400 == 0) {
			february = 29
		}
		for i, days := range []int{31, february, 31, 30, 31, 30, 31, 31, 30, 31, 30, 31} {
			for d := 1; d <= days; d++ {
				do(first, year, i+1, d)
				first += day
			}
		}
	}
}

// Promise 3.1: the last tick that has a stamp.
func TestLast(t *testing.T) {
	if Last != 252455615999 {
		t.Error(Last)
	}
	if want := time.Date(9999, 12, 31, 23, 59, 59, 0, time.UTC); !at(Last).Equal(want) {
		t.Error(at(Last))
	}
}

// Promise 3.1: years, months, days and weekdays, where one ends and the next begins.
func TestDate(t *testing.T) {
	for _, x := range []struct{ n, year, month, day, weekday int }{
		{0, 2000, 1, 1, 6},
		{1, 2000, 1, 1, 6},
		{day - 1, 2000, 1, 1, 6},
		{day, 2000, 1, 2, 7},
		{2*day - 1, 2000, 1, 2, 7},
		{2 * day, 2000, 1, 3, 1},
		{3 * day, 2000, 1, 4, 2},
		{7 * day, 2000, 1, 8, 6},
		{31*day - 1, 2000, 1, 31, 1},
		{31 * day, 2000, 2, 1, 2},
		// 2000 is a leap year, as each four-hundredth.
		{59*day - 1, 2000, 2, 28, 1},
		{59 * day, 2000, 2, 29, 2},
		{60*day - 1, 2000, 2, 29, 2},
		{60 * day, 2000, 3, 1, 3},
		{366*day - 1, 2000, 12, 31, 7},
		{366 * day, 2001, 1, 1, 1},
		{(366 + 59) * day, 2001, 3, 1, 4},
		{(366 + 365) * day, 2002, 1, 1, 2},
		// 2004 is one, as each fourth.
		{(4*365 + 1 + 59) * day, 2004, 2, 29, 7},
		{(4*365 + 1 + 60) * day, 2004, 3, 1, 1},
		// 2100 is none, as the hundredths.
		{(100*365 + 25 + 58) * day, 2100, 2, 28, 7},
		{(100*365 + 25 + 59) * day, 2100, 3, 1, 1},
		{(400*365 + 97) * day, 2400, 1, 1, 6},
		{(400*365+97)*day - 1, 2399, 12, 31, 5},
		{Last - day, 9999, 12, 30, 4},
		{Last - day + 1, 9999, 12, 31, 5},
		{Last, 9999, 12, 31, 5},
	} {
		if year, month, d := Date(x.n); year != x.year || month != x.month || d != x.day {
			t.Errorf("Date(%d): %d, %d, %d; want %d, %d, %d", x.n, year, month, d, x.year, x.month, x.day)
		}
		if got := Weekday(x.n); got != x.weekday {
			t.Errorf("Weekday(%d): %d; want %d", x.n, got, x.weekday)
		}
	}
}

// Promise 3.1: all days there are, at their first and their last second.
func TestDateAllDays(t *testing.T) {
	weekday, next := 6, 0
	walk(func(first, year, month, d int) {
		for _, n := range []int{first, first + day - 1} {
			if y, m, got := Date(n); y != year || m != month || got != d {
				t.Fatalf("Date(%d): %d, %d, %d; want %d, %d, %d", n, y, m, got, year, month, d)
			}
			if got := Weekday(n); got != weekday {
				t.Fatalf("Weekday(%d): %d; want %d", n, got, weekday)
			}
		}
		weekday = weekday%7 + 1
		next = first + day
	})
	if next != Last+1 {
		t.Error("the last day ends at", next)
	}
}

// Promise 3.1: hours, minutes and seconds.
func TestTime(t *testing.T) {
	for _, x := range []struct{ n, hour, minute, second int }{
		{0, 0, 0, 0},
		{1, 0, 0, 1},
		{59, 0, 0, 59},
		{60, 0, 1, 0},
		{61, 0, 1, 1},
		{3599, 0, 59, 59},
		{3600, 1, 0, 0},
		{3661, 1, 1, 1},
		{45296, 12, 34, 56},
		{day - 1, 23, 59, 59},
		{day, 0, 0, 0},
		{day + 3600, 1, 0, 0},
		{Last - day, 23, 59, 59},
		{Last - day + 1, 0, 0, 0},
		{Last - 60, 23, 58, 59},
		{Last, 23, 59, 59},
	} {
		if hour, minute, second := Time(x.n); hour != x.hour || minute != x.minute || second != x.second {
			t.Errorf("Time(%d): %d, %d, %d; want %d, %d, %d", x.n, hour, minute, second, x.hour, x.minute, x.second)
		}
	}
	for n := range day {
		for _, tick := range []int{n, 59*day + n, Last - day + 1 + n} {
			if hour, minute, second := Time(tick); hour != n/3600 || minute != n/60-60*hour || second != n-3600*hour-60*minute {
				t.Fatalf("Time(%d): %d, %d, %d", tick, hour, minute, second)
			}
		}
	}
}

// Promise 3.1, 3.2: of what has no stamp all are 0, and the stamp is empty.
func TestStampless(t *testing.T) {
	for _, n := range stampless {
		if year, month, d := Date(n); year != 0 || month != 0 || d != 0 {
			t.Errorf("Date(%d): %d, %d, %d", n, year, month, d)
		}
		if hour, minute, second := Time(n); hour != 0 || minute != 0 || second != 0 {
			t.Errorf("Time(%d): %d, %d, %d", n, hour, minute, second)
		}
		if got := Weekday(n); got != 0 {
			t.Errorf("Weekday(%d): %d", n, got)
		}
		if got := Stamp(n); got != "" {
			t.Errorf("Stamp(%d): %q", n, got)
		}
	}
}

// Promise 3.1: ticks from first to last, as package time has them.
func TestDateTimeWeekday(t *testing.T) {
	strides(Last, func(n int) {
		want := at(n)
		if year, month, d := Date(n); year != want.Year() || month != int(want.Month()) || d != want.Day() {
			t.Fatalf("Date(%d): %d, %d, %d; want %v", n, year, month, d, want)
		}
		if hour, minute, second := Time(n); hour != want.Hour() || minute != want.Minute() || second != want.Second() {
			t.Fatalf("Time(%d): %d, %d, %d; want %v", n, hour, minute, second, want)
		}
		if got := Weekday(n); got < 1 || got > 7 || got%7 != int(want.Weekday()) {
			t.Fatalf("Weekday(%d): %d; want %v", n, got, want.Weekday())
		}
	})
}

// stamps: of ticks, their stamps.
var stamps = map[int]string{
	0:                                "2000-01-01 00:00:00",
	1:                                "2000-01-01 00:00:01",
	45296:                            "2000-01-01 12:34:56",
	day - 1:                          "2000-01-01 23:59:59",
	day:                              "2000-01-02 00:00:00",
	59 * day:                         "2000-02-29 00:00:00",
	60 * day:                         "2000-03-01 00:00:00",
	366*day - 1:                      "2000-12-31 23:59:59",
	366 * day:                        "2001-01-01 00:00:00",
	(366+58)*day + 86399:             "2001-02-28 23:59:59",
	(366 + 59) * day:                 "2001-03-01 00:00:00",
	(4*365+1+59)*day + 3661:          "2004-02-29 01:01:01",
	848343905:                        "2026-11-18 19:05:05",
	(100*365+25+59)*day - 1:          "2100-02-28 23:59:59",
	(100*365 + 25 + 59) * day:        "2100-03-01 00:00:00",
	(400*365+97+59)*day + 9*3600 + 9: "2400-02-29 09:00:09",
	Last - 1:                         "9999-12-31 23:59:58",
	Last:                             "9999-12-31 23:59:59",
}

// Promise 3.2: stamps, and the ticks of these.
func TestStamp(t *testing.T) {
	for n, want := range stamps {
		if got := Stamp(n); got != want {
			t.Errorf("Stamp(%d): %q; want %q", n, got, want)
		}
		if got, code := Read(want); got != n || code != api.OK {
			t.Errorf("Read(%q): %d, code %d; want %d", want, got, code, n)
		}
	}
}

// refuses: of none of these Read makes a tick.
func refuses(t *testing.T, l ...string) {
	t.Helper()
	for _, s := range l {
		if got, code := Read(s); got != 0 || code != api.ErrForm {
			t.Errorf("Read(%q): %d, code %d", s, got, code)
		}
	}
}

// Promise 3.2: days and times that are none, or of no tick.
func TestReadRefusesDays(t *testing.T) {
	refuses(t,
		// Ahead of the first tick, and behind the last one that has a stamp.
		"1999-12-31 23:59:59", "1999-01-01 00:00:00", "1970-01-01 00:00:00", "1600-02-29 00:00:00", "0001-01-01 00:00:00", "0000-00-00 00:00:00",
		"10000-01-01 00:00:00", "9999-12-31 23:59:60", "9999-12-31 24:00:00", "9999-12-32 00:00:00", "9999-13-01 00:00:00",
		// Years ahead of the first tick, with so many days that a tick comes out.
		"1999-12-32 00:00:00", "1999-12-99 99:99:99",
		// No such month.
		"2000-00-01 00:00:00", "2000-13-01 00:00:00", "2000-20-01 00:00:00", "2000-99-01 00:00:00",
		// No such day.
		"2000-01-00 00:00:00", "2001-01-00 00:00:00", "2000-01-32 00:00:00", "2000-01-99 00:00:00", "2000-02-30 00:00:00",
		"2001-02-29 00:00:00", "2003-02-29 00:00:00", "2004-02-30 00:00:00", "2100-02-29 00:00:00", "2200-02-29 12:00:00", "2300-02-29 00:00:00", "9900-02-29 00:00:00",
		"2000-03-32 00:00:00", "2000-04-31 00:00:00", "2000-05-32 00:00:00", "2000-06-31 00:00:00", "2000-07-32 00:00:00",
		"2000-08-32 00:00:00", "2000-09-31 00:00:00", "2000-10-32 00:00:00", "2000-11-31 00:00:00", "2000-12-32 00:00:00",
		// No such time.
		"2000-01-01 24:00:00", "2000-01-01 25:00:00", "2000-01-01 99:00:00", "2000-01-01 00:60:00", "2000-01-01 00:99:00",
		"2000-01-01 00:00:60", "2000-01-01 00:00:99", "2016-12-31 23:59:60",
	)
}

// Promise 3.2: texts of another form.
func TestReadRefusesForms(t *testing.T) {
	refuses(t,
		"", " ", "0", "2000", "2000-01-01", "2000-01-01 ", "00:00:00", "2000-01-01 00:00", "2000-01-01 00:00:0", "2000-01-01 00:00:000",
		"2000-01-01 00:00:00 ", " 2000-01-01 00:00:00", "2000-01-01  00:00:00", "2000-01-01 00:00:00\n", "2000-01-01 00:00:00\x00", "2000-01-01 00:00:00Z", "2000-01-01 00:00:00.0",
		"2000-01-01T00:00:00", "2000-01-01_00:00:00", "2000-01-01\t00:00:00", "2000/01/01 00:00:00", "2000:01:01 00:00:00", "2000-01-01 00-00-00", "2000.01.01 00.00.00",
		"2000-1-1 0:0:0", "2000-1-01 00:00:00", "2000-01-1 00:00:000", "00-01-01 00:00:00", "02000-01-01 00:00:0", "01-01-2000 00:00:00", "00:00:00 2000-01-01",
		"+2000-01-01 00:00:0", "-2000-01-01 00:00:0", "2000--1-01 00:00:00", "2000-+1-01 00:00:00", "2000-01- 1 00:00:00", "2000-01-01 -1:00:00", "2000-01-01 +0:00:00",
		"[2000-01-01 00:00:00]", "2000-Jan-01 00:00:0", "Sat 2000-01-01 00:00", "yyyy-mm-dd hh:mm:ss", "１000-01-01 00:00", "2000-01-01 00:00:0٣",
		// Signs behind 9, and ahead of 0, that would count as a digit's place.
		"2000-0:-01 00:00:00", "2000-0;-01 00:00:00", "2000-0<-01 00:00:00", "2000-01-0: 00:00:00", "2000-01-0; 00:00:00", "2000-01-01 0::00:00", "2000-01-01 00:0::00", "2000-01-01 00:00:0:",
		"1:00-01-01 00:00:00", "20/:-01-01 00:00:00", "2000-/1-01 00:00:00",
		strings.Repeat("0", 19), strings.Repeat("9", 19), strings.Repeat(" ", 19), strings.Repeat("-", 19), strings.Repeat("\x00", 19), strings.Repeat("\xff", 19), strings.Repeat("/", 19),
		strings.Repeat("2000-01-01 00:00:00", 2), strings.Repeat("2000-01-01 00:00:00", 10000), strings.Repeat("1", 1000000),
	)
}

// tickOf is the tick whose stamp s is, as package time has it; -1, if there is none.
func tickOf(s string) int {
	x, err := time.Parse(layout, s)
	if err != nil || x.Format(layout) != s || x.Year() < 2000 || x.Year() > 9999 {
		return -1
	}
	return int(x.Unix()) - zero
}

// reads: s is read as package time does, or refused.
func reads(t *testing.T, s string) {
	t.Helper()
	want := tickOf(s)
	if want < 0 {
		refuses(t, s)
	} else if got, code := Read(s); got != want || code != api.OK {
		t.Errorf("Read(%q): %d, code %d; want %d", s, got, code, want)
	}
}

// Promise 3.2: any byte in the place of each of a stamp's, put between two, and each taken away.
func TestReadSpoilt(t *testing.T) {
	for _, s := range stamps {
		for at := range len(s) {
			for c := range 256 {
				sign := string([]byte{byte(c)})
				reads(t, s[:at]+sign+s[at+1:])
				refuses(t, s[:at]+sign+s[at:], s+sign)
			}
			refuses(t, s[:at]+s[at+1:], s[:at], s[at+1:])
		}
	}
}

// Promise 3.2: any two digits in the place of each pair.
func TestReadPairs(t *testing.T) {
	for _, s := range stamps {
		for _, at := range []int{0, 2, 5, 8, 11, 14, 17} {
			for n := range 100 {
				reads(t, s[:at]+fmt.Sprintf("%02d", n)+s[at+2:])
			}
		}
	}
}

// Promise 3.2: any days of any months, in leap years and others.
func TestReadDays(t *testing.T) {
	for _, year := range []int{1999, 2000, 2001, 2003, 2004, 2096, 2100, 2104, 2399, 2400, 2500, 9600, 9900, 9996, 9999} {
		for month := range 15 {
			for d := range 40 {
				reads(t, fmt.Sprintf("%04d-%02d-%02d 07:08:09", year, month, d))
			}
		}
	}
}

// Promise 3.3: spans below a day, and of days.
func TestSpan(t *testing.T) {
	for n, want := range map[int]string{
		0:           "00:00:00",
		1:           "00:00:01",
		59:          "00:00:59",
		60:          "00:01:00",
		3599:        "00:59:59",
		3600:        "01:00:00",
		45296:       "12:34:56",
		day - 1:     "23:59:59",
		day:         "1d 00:00:00",
		day + 1:     "1d 00:00:01",
		90061:       "1d 01:01:01",
		2*day - 1:   "1d 23:59:59",
		2 * day:     "2d 00:00:00",
		10 * day:    "10d 00:00:00",
		100*day + 9: "100d 00:00:09",
		365 * day:   "365d 00:00:00",
		// Ticks that have no stamp have a span all the same.
		Last - 1:  "2921939d 23:59:58",
		Last:      "2921939d 23:59:59",
		Last + 1:  "2921940d 00:00:00",
		1<<40 - 1: "12725829d 00:36:15",
		1 << 40:   "12725829d 00:36:16",
		// Numbers that are no ticks.
		-1:          "",
		-60:         "",
		-day:        "",
		-90061:      "",
		1<<40 + 1:   "",
		1 << 41:     "",
		math.MaxInt: "",
		math.MinInt: "",
	} {
		if got := Span(n); got != want {
			t.Errorf("Span(%d): %q; want %q", n, got, want)
		}
	}
}

// Promise 3.3: spans of ticks from first to last.
func TestSpanStrides(t *testing.T) {
	check := func(n int) {
		want := fmt.Sprintf("%02d:%02d:%02d", n/3600%24, n/60%60, n%60)
		if n >= day {
			want = fmt.Sprintf("%dd %s", n/day, want)
		}
		if got := Span(n); got != want {
			t.Fatalf("Span(%d): %q; want %q", n, got, want)
		}
	}
	strides(1<<40, check)
	for n := range 3 * day {
		check(n)
	}
}

// Promise 3.2, 3.4: stamps are as package time tells them, are read as their ticks, and stand in their order.
func TestStampRead(t *testing.T) {
	last := ""
	strides(Last, func(n int) {
		s := Stamp(n)
		if want := at(n).Format(layout); s != want {
			t.Fatalf("Stamp(%d): %q; want %q", n, s, want)
		}
		if got, code := Read(s); got != n || code != api.OK {
			t.Fatalf("%d comes back as %d, code %d", n, got, code)
		}
		if s <= last {
			t.Fatalf("%q stands behind %q", s, last)
		}
		last = s
	})
}

// Promise 3.4: the same at the seams: where days, months and years end, all along.
func TestStampSeams(t *testing.T) {
	walk(func(first, year, month, d int) {
		if d != 1 || first == 0 {
			return
		}
		before, after := Stamp(first-1), Stamp(first)
		if before >= after {
			t.Fatalf("%q, then %q", before, after)
		}
		if want := fmt.Sprintf("%04d-%02d-01 00:00:00", year, month); after != want {
			t.Fatalf("Stamp(%d): %q; want %q", first, after, want)
		}
		for n, s := range map[int]string{first - 1: before, first: after} {
			if got, code := Read(s); got != n || code != api.OK {
				t.Fatalf("%d comes back as %d, code %d", n, got, code)
			}
		}
	})
}
