package calendar_test

import (
	"math"
	"testing"

	"chargenet/api"
	"chargenet/calendar"
)

const day = 1440

var (
	utc     = api.Zone{}
	central = api.Zone{Offset: 60, Summer: true}
)

// outside are numbers that are not times.
var outside = []int{-1, -1440, -900, api.MaxTime + 1, api.MaxTime + 1440, math.MinInt, math.MinInt + 1, math.MaxInt - 1, math.MaxInt, 1 << 32, 1<<32 + 5, -1 << 32}

var invalidZones = []api.Zone{{Offset: -841}, {Offset: 841}, {Offset: 841, Summer: true}, {Offset: -841, Summer: true}, {Offset: math.MinInt}, {Offset: math.MaxInt, Summer: true}, {Offset: 1 << 32}}

func date(year, month, dayOfMonth, weekday, minute int) api.Date {
	return api.Date{Year: year, Month: month, Day: dayOfMonth, Weekday: weekday, Minute: minute}
}

// monthDays has the days of a month as a list of the months would say it.
func monthDays(year, month int) int {
	switch month {
	case 4, 6, 9, 11:
		return 30
	case 2:
		if year%400 == 0 || year%4 == 0 && year%100 != 0 {
			return 29
		}
		return 28
	}
	return 31
}

// tomorrow counts on by one day.
func tomorrow(d api.Date) api.Date {
	d.Weekday = d.Weekday%7 + 1
	d.Day++
	if d.Day > monthDays(d.Year, d.Month) {
		d.Day = 1
		d.Month++
	}
	if d.Month > 12 {
		d.Month = 1
		d.Year++
	}
	return d
}

// eachDay calls f with the number and the date of each day that has times.
func eachDay(f func(n int, d api.Date)) {
	d := date(2000, 1, 1, 6, 0)
	for n := 0; n*day <= api.MaxTime; n++ {
		f(n, d)
		d = tomorrow(d)
	}
}

func isDate(t *testing.T, n int, want api.Date) {
	if d, e := calendar.Date(n); d != want || e != api.OK {
		t.Helper()
		t.Errorf("Date(%d): %v, %d, not %v", n, d, e, want)
	}
}

func isTime(t *testing.T, d api.Date, want int) {
	if n, e := calendar.Time(d); n != want || e != api.OK {
		t.Helper()
		t.Errorf("Time(%v): %d, %d, not %d", d, n, e, want)
	}
}

func noTime(t *testing.T, d api.Date) {
	if n, e := calendar.Time(d); n != 0 || e != api.ErrInvalid {
		t.Helper()
		t.Errorf("Time(%v): %d, %d", d, n, e)
	}
}

// P2.1

func TestDateExamples(t *testing.T) {
	for n, want := range map[int]api.Date{
		0: date(2000, 1, 1, 6, 0), 1439: date(2000, 1, 1, 6, 1439), 1440: date(2000, 1, 2, 7, 0), 2880: date(2000, 1, 3, 1, 0),
		59 * day: date(2000, 2, 29, 2, 0), 86399: date(2000, 2, 29, 2, 1439), 86400: date(2000, 3, 1, 3, 0),
		366*day - 1: date(2000, 12, 31, 7, 1439), 366 * day: date(2001, 1, 1, 1, 0), (366+58)*day + 7: date(2001, 2, 28, 3, 7), (366 + 59) * day: date(2001, 3, 1, 4, 0),
		36525 * day: date(2100, 1, 1, 5, 0), 36583*day + 1439: date(2100, 2, 28, 7, 1439), 36584 * day: date(2100, 3, 1, 1, 0),
		146097 * day: date(2400, 1, 1, 6, 0), (146097 + 59) * day: date(2400, 2, 29, 2, 0),
		api.MaxTime: date(2510, 5, 20, 2, 736), api.MaxTime - 737: date(2510, 5, 19, 1, 1439),
	} {
		isDate(t, n, want)
	}
}

func TestDateRange(t *testing.T) {
	for _, n := range outside {
		if d, e := calendar.Date(n); d != (api.Date{}) || e != api.ErrRange {
			t.Errorf("Date(%d): %v, %d", n, d, e)
		}
	}
}

// TestEveryDay compares all days with a calendar that counts them one by one. It covers P2.1, P2.2, P2.7 and the weekdays of P2.10.
func TestEveryDay(t *testing.T) {
	last := 0
	eachDay(func(n int, d api.Date) {
		last = n
		for _, minute := range []int{0, 1, 719, 736, 737, 1438, 1439} {
			d.Minute = minute
			n := n*day + minute
			if n > api.MaxTime {
				noTime(t, d)
				if _, e := calendar.Date(n); e != api.ErrRange {
					t.Errorf("Date(%d): %d", n, e)
				}
				continue
			}
			isDate(t, n, d)
			isTime(t, d, n)
			d := d
			d.Weekday = 0
			isTime(t, d, n)
		}
		if t.Failed() {
			t.FailNow()
		}
	})
	if last != 186413 {
		t.Errorf("the last day is %d", last)
	}
}

// P2.2

func TestTimeExamples(t *testing.T) {
	isTime(t, date(2000, 2, 29, 0, 5), 84965)
	isTime(t, date(2000, 2, 29, 2, 5), 84965)
	isTime(t, date(2000, 1, 1, 0, 0), 0)
	isTime(t, date(2000, 1, 1, 6, 0), 0)
	isTime(t, date(2000, 1, 1, 6, 1439), 1439)
	isTime(t, date(2000, 3, 1, 3, 0), 86400)
	isTime(t, date(2400, 2, 29, 0, 0), (146097+59)*day)
	isTime(t, date(2510, 5, 20, 2, 736), api.MaxTime)
	isTime(t, date(2510, 5, 20, 0, 736), api.MaxTime)
	noTime(t, date(2510, 5, 20, 2, 737))
	noTime(t, date(2510, 5, 20, 0, 1439))
	noTime(t, date(2510, 5, 21, 0, 0))
	noTime(t, date(2510, 6, 1, 0, 0))
	noTime(t, date(1999, 12, 31, 0, 1439))
	noTime(t, date(1999, 12, 31, 5, 1439))
	noTime(t, date(1999, 1, 1, 0, 0))
	noTime(t, api.Date{})
}

func TestTimeDays(t *testing.T) {
	for year := 2000; year <= 2509; year++ {
		for month := 1; month <= 12; month++ {
			for _, d := range []int{math.MinInt, -1, 0, monthDays(year, month) + 1, 32, 256 + 1, 1<<32 + 1, math.MaxInt} {
				noTime(t, date(year, month, d, 0, 0))
			}
		}
	}
	for _, year := range []int{2001, 2002, 2003, 2100, 2200, 2300, 2500} {
		noTime(t, date(year, 2, 29, 0, 0))
	}
	for _, month := range []int{4, 6, 9, 11} {
		noTime(t, date(2004, month, 31, 0, 0))
	}
}

func TestTimeMonths(t *testing.T) {
	for _, month := range []int{math.MinInt, -12, -11, -1, 0, 13, 14, 24, 25, 256 + 1, 1<<32 + 1, math.MaxInt} {
		noTime(t, date(2004, month, 1, 0, 0))
	}
}

func TestTimeYears(t *testing.T) {
	for _, year := range []int{math.MinInt, -2000, -1, 0, 1, 99, 1600, 1900, 1970, 1996, 1998, 1999, 2511, 2512, 2800, 1<<16 + 2000, 1<<32 + 2000, math.MaxInt} {
		for _, month := range []int{1, 2, 5, 12} {
			noTime(t, date(year, month, 1, 0, 0))
			noTime(t, date(year, month, 28, 0, 1439))
		}
		noTime(t, date(year, 2, 29, 0, 0))
		noTime(t, date(year, 12, 31, 0, 1439))
	}
}

func TestTimeMinutes(t *testing.T) {
	for _, minute := range []int{math.MinInt, -1440, -1, 1440, 1441, 2880, 1 << 32, math.MaxInt} {
		noTime(t, date(2000, 1, 1, 0, minute))
		noTime(t, date(2004, 2, 29, 0, minute))
		noTime(t, date(2510, 5, 20, 0, minute))
	}
}

func TestTimeWeekdays(t *testing.T) {
	for n, right := range []int{6, 7, 1, 2, 3, 4, 5} {
		for _, w := range []int{math.MinInt, -7, -1, 0, 1, 2, 3, 4, 5, 6, 7, 8, right + 7, right - 7, 1<<32 + right, math.MaxInt} {
			if w == 0 || w == right {
				isTime(t, date(2000, 1, n+1, w, 10), n*day+10)
			} else {
				noTime(t, date(2000, 1, n+1, w, 10))
			}
		}
	}
}

// P2.3

func TestSummerExamples(t *testing.T) {
	for n, want := range map[int]bool{
		0: false, 85*day + 59: false, 85*day + 60: true, 85*day + 61: true, 86 * day: true,
		302*day + 59: true, 302*day + 60: false, 302*day + 61: false, 303 * day: false, 366 * day: false,
		449*day + 59: false, 449*day + 60: true, 666*day + 59: true, 666*day + 60: false, api.MaxTime: true,
	} {
		if calendar.Summer(n) != want {
			t.Errorf("Summer(%d) is not %v", n, want)
		}
	}
	for _, n := range outside {
		if calendar.Summer(n) {
			t.Errorf("Summer(%d)", n)
		}
	}
}

// TestEverySummer compares all days. It covers the beginnings and ends of P2.10, too.
func TestEverySummer(t *testing.T) {
	summer := false
	check := func(n int, want bool) {
		if n <= api.MaxTime && calendar.Summer(n) != want {
			t.Fatalf("Summer(%d) is not %v", n, want)
		}
	}
	changes := map[int]int{}
	eachDay(func(n int, d api.Date) {
		check(n*day, summer)
		check(n*day+59, summer)
		if d.Weekday == 7 && d.Day >= 25 && (d.Month == 3 || d.Month == 10) {
			summer = d.Month == 3
			changes[d.Year]++
		}
		check(n*day+60, summer)
		check(n*day+120, summer)
		check(n*day+1439, summer)
	})
	for year := 2000; year < 2510; year++ {
		if changes[year] != 2 {
			t.Errorf("%d changes in %d", changes[year], year)
		}
	}
}

// P2.4

func TestOffset(t *testing.T) {
	for _, c := range []struct {
		z    api.Zone
		t    int
		want int
	}{
		{central, 0, 60}, {central, 85*day + 59, 60}, {central, 85*day + 60, 120}, {central, 302*day + 59, 120}, {central, 302*day + 60, 60}, {central, api.MaxTime, 120},
		{api.Zone{Offset: 60}, 0, 60}, {api.Zone{Offset: 60}, 85*day + 60, 60}, {utc, 85*day + 60, 0}, {api.Zone{Summer: true}, 85*day + 60, 60}, {api.Zone{Summer: true}, 0, 0},
		{api.Zone{Offset: -840}, 100 * day, -840}, {api.Zone{Offset: 840}, 100 * day, 840}, {api.Zone{Offset: -840, Summer: true}, 100 * day, -780}, {api.Zone{Offset: 840, Summer: true}, 100 * day, 900},
		{api.Zone{Offset: -1, Summer: true}, 100 * day, 59}, {api.Zone{Offset: 839, Summer: true}, 0, 839}, {api.Zone{Offset: -839}, 0, -839},
	} {
		if n := calendar.Offset(c.z, c.t); n != c.want {
			t.Errorf("Offset(%v, %d): %d, not %d", c.z, c.t, n, c.want)
		}
	}
}

func TestOffsetOutside(t *testing.T) {
	for _, n := range outside {
		for _, z := range []api.Zone{utc, central, {Offset: 60}, {Offset: -840, Summer: true}, {Offset: 840, Summer: true}} {
			if o := calendar.Offset(z, n); o != z.Offset {
				t.Errorf("Offset(%v, %d): %d", z, n, o)
			}
		}
	}
	for _, z := range invalidZones {
		for _, n := range append([]int{0, 100 * day, api.MaxTime}, outside...) {
			if o := calendar.Offset(z, n); o != 0 {
				t.Errorf("Offset(%v, %d): %d", z, n, o)
			}
		}
	}
}

// P2.5

func TestLocalExamples(t *testing.T) {
	for _, c := range []struct {
		z    api.Zone
		t    int
		want api.Date
	}{
		{api.Zone{Offset: -60}, 0, date(1999, 12, 31, 5, 1380)}, {api.Zone{Offset: -1}, 0, date(1999, 12, 31, 5, 1439)}, {api.Zone{Offset: -1}, 1, date(2000, 1, 1, 6, 0)},
		{api.Zone{Offset: -840}, 0, date(1999, 12, 31, 5, 600)}, {api.Zone{Offset: -840, Summer: true}, 0, date(1999, 12, 31, 5, 600)}, {api.Zone{Offset: -840}, 839, date(1999, 12, 31, 5, 1439)}, {api.Zone{Offset: -840}, 840, date(2000, 1, 1, 6, 0)},
		{api.Zone{Offset: 840}, 0, date(2000, 1, 1, 6, 840)}, {api.Zone{Offset: 840}, 600, date(2000, 1, 2, 7, 0)}, {utc, 0, date(2000, 1, 1, 6, 0)}, {utc, 84965, date(2000, 2, 29, 2, 5)},
		{central, 85*day + 59, date(2000, 3, 26, 7, 119)}, {central, 85*day + 60, date(2000, 3, 26, 7, 180)}, {central, 302*day + 59, date(2000, 10, 29, 7, 179)}, {central, 302*day + 60, date(2000, 10, 29, 7, 120)},
		{api.Zone{Offset: 60}, 85*day + 60, date(2000, 3, 26, 7, 120)},
		{utc, api.MaxTime, date(2510, 5, 20, 2, 736)}, {api.Zone{Offset: 704}, api.MaxTime, date(2510, 5, 21, 3, 0)}, {api.Zone{Offset: 840, Summer: true}, api.MaxTime, date(2510, 5, 21, 3, 196)}, {api.Zone{Offset: -840}, api.MaxTime, date(2510, 5, 19, 1, 1336)},
	} {
		if d, e := calendar.Local(c.z, c.t); d != c.want || e != api.OK {
			t.Errorf("Local(%v, %d): %v, %d, not %v", c.z, c.t, d, e, c.want)
		}
	}
}

func TestLocalErrors(t *testing.T) {
	fails := func(z api.Zone, n int, want api.Errno) {
		if d, e := calendar.Local(z, n); d != (api.Date{}) || e != want {
			t.Helper()
			t.Errorf("Local(%v, %d): %v, %d", z, n, d, e)
		}
	}
	for _, z := range invalidZones {
		for _, n := range append([]int{0, 100 * day, api.MaxTime}, outside...) {
			fails(z, n, api.ErrInvalid)
		}
	}
	for _, z := range []api.Zone{utc, central, {Offset: 840, Summer: true}, {Offset: -840}} {
		for _, n := range outside {
			fails(z, n, api.ErrRange)
		}
	}
}

// TestLocalIsShifted compares Local with the dates in UTC of the times that Offset names.
func TestLocalIsShifted(t *testing.T) {
	for _, z := range []api.Zone{utc, central, {Offset: -840, Summer: true}, {Offset: 840, Summer: true}, {Offset: -480, Summer: true}, {Offset: 345}, {Offset: -1}} {
		for n := 900; n <= api.MaxTime-900; n += 9973 {
			want, _ := calendar.Date(n + calendar.Offset(z, n))
			if d, e := calendar.Local(z, n); d != want || e != api.OK {
				t.Fatalf("Local(%v, %d): %v, %d, not %v", z, n, d, e, want)
			}
		}
	}
}

// P2.6

type nextCase struct {
	z               api.Zone
	t, days, minute int
	want            int
	e               api.Errno
}

func (c nextCase) check(t *testing.T) {
	if n, e := calendar.Next(c.z, c.t, c.days, c.minute); n != c.want || e != c.e {
		t.Helper()
		t.Errorf("%v: %d, %d", c, n, e)
	}
}

func TestNextExamples(t *testing.T) {
	for _, c := range []nextCase{
		{utc, 0, 0, 0, 1440, api.OK}, {utc, 0, 32, 5, 5, api.OK}, {utc, 0, 0, 1, 1, api.OK}, {utc, 0, 0, 1439, 1439, api.OK}, {utc, 4, 32, 5, 5, api.OK}, {utc, 5, 32, 5, 7*day + 5, api.OK}, {utc, 6, 32, 5, 7*day + 5, api.OK},
		{utc, 0, 1, 0, 2 * day, api.OK}, {utc, 0, 2, 0, 3 * day, api.OK}, {utc, 0, 4, 0, 4 * day, api.OK}, {utc, 0, 8, 0, 5 * day, api.OK}, {utc, 0, 16, 0, 6 * day, api.OK}, {utc, 0, 32, 0, 7 * day, api.OK}, {utc, 0, 64, 0, day, api.OK},
		{utc, 0, 127, 0, day, api.OK}, {utc, 0, 95, 0, day, api.OK}, {utc, 0, 63, 0, 2 * day, api.OK}, {utc, 0, 1 | 8, 100, 2*day + 100, api.OK}, {utc, 3 * day, 1 | 8, 100, 5*day + 100, api.OK},
		{central, 0, 0, 60, day, api.OK}, {central, 0, 0, 61, 1, api.OK}, {central, 0, 64, 0, day - 60, api.OK}, {api.Zone{Offset: -60}, 0, 16, 1381, 1, api.OK}, {api.Zone{Offset: -60}, 0, 32, 0, 60, api.OK}, {api.Zone{Offset: -840}, 0, 16, 1439, 839, api.OK}, {api.Zone{Offset: 840}, 0, 64, 0, 600, api.OK},
	} {
		c.check(t)
	}
}

func TestNextWhenSummerBegins(t *testing.T) {
	for _, c := range []nextCase{
		{central, 85 * day, 0, 119, 85*day + 59, api.OK}, {central, 85 * day, 0, 180, 85*day + 60, api.OK}, {central, 85*day + 60, 0, 180, 86*day + 60, api.OK},
		{central, 85 * day, 0, 120, 86 * day, api.OK}, {central, 85 * day, 0, 150, 86*day + 30, api.OK}, {central, 85 * day, 0, 179, 86*day + 59, api.OK},
		// the next Sunday with this minute is 8 days ahead, exactly or by more
		{central, 84*day + 30, 64, 150, 92*day + 30, api.OK}, {central, 84*day + 31, 64, 150, 92*day + 30, api.OK}, {central, 84*day + 29, 64, 150, 0, api.ErrNone}, {central, 78*day + 90, 64, 150, 0, api.ErrNone}, {central, 78*day + 89, 64, 150, 78*day + 90, api.OK},
		{api.Zone{Offset: 60}, 84 * day, 64, 150, 85*day + 90, api.OK},
	} {
		c.check(t)
	}
}

func TestNextWhenSummerEnds(t *testing.T) {
	for _, c := range []nextCase{
		{central, 302 * day, 0, 120, 302*day + 60, api.OK}, {central, 302*day - 1, 0, 120, 302 * day, api.OK}, {central, 302 * day, 0, 150, 302*day + 30, api.OK}, {central, 302*day + 30, 0, 150, 302*day + 90, api.OK}, {central, 302*day + 90, 0, 150, 303*day + 90, api.OK},
		{central, 302*day + 30, 64, 150, 302*day + 90, api.OK}, {central, 302*day + 90, 64, 150, 309*day + 90, api.OK}, {central, 302 * day, 0, 179, 302*day + 59, api.OK}, {central, 302*day + 59, 0, 179, 302*day + 119, api.OK}, {central, 302*day + 59, 0, 120, 302*day + 60, api.OK}, {central, 302*day + 59, 0, 180, 302*day + 120, api.OK},
	} {
		c.check(t)
	}
}

func TestNextAtTheEnd(t *testing.T) {
	for _, c := range []nextCase{
		{utc, api.MaxTime, 0, 0, 0, api.ErrNone}, {utc, api.MaxTime, 0, 736, 0, api.ErrNone}, {utc, api.MaxTime - 1, 0, 736, api.MaxTime, api.OK}, {utc, api.MaxTime - 1, 2, 736, api.MaxTime, api.OK}, {utc, api.MaxTime - 1, 1, 736, 0, api.ErrNone}, {utc, api.MaxTime - 1, 0, 737, 0, api.ErrNone}, {utc, api.MaxTime - 1, 0, 735, 0, api.ErrNone},
		{central, api.MaxTime - 1, 0, 856, api.MaxTime, api.OK}, {central, api.MaxTime - 1, 0, 857, 0, api.ErrNone}, {utc, api.MaxTime - 1440, 0, 736, api.MaxTime, api.OK}, {utc, api.MaxTime - 6*day, 2, 736, api.MaxTime, api.OK}, {utc, api.MaxTime - 7*day, 2, 736, api.MaxTime, api.OK}, {utc, api.MaxTime - 6*day, 2, 737, 0, api.ErrNone},
	} {
		c.check(t)
	}
}

func TestNextErrors(t *testing.T) {
	for _, bad := range []int{math.MinInt, -1440, -1, 128, 255, 1 << 32, math.MaxInt} {
		nextCase{utc, 0, bad, 0, 0, api.ErrInvalid}.check(t)
		nextCase{central, -1, bad, 0, 0, api.ErrInvalid}.check(t)
		nextCase{central, api.MaxTime, bad, 0, 0, api.ErrInvalid}.check(t)
	}
	for _, bad := range []int{math.MinInt, -1440, -1, 1440, 1441, 1 << 32, math.MaxInt} {
		nextCase{utc, 0, 0, bad, 0, api.ErrInvalid}.check(t)
		nextCase{central, -1, 127, bad, 0, api.ErrInvalid}.check(t)
		nextCase{central, api.MaxTime, 1, bad, 0, api.ErrInvalid}.check(t)
	}
	for _, z := range invalidZones {
		for _, n := range []int{0, -1, 100 * day, api.MaxTime, api.MaxTime + 1} {
			nextCase{z, n, 0, 0, 0, api.ErrInvalid}.check(t)
		}
	}
	for _, n := range outside {
		nextCase{utc, n, 0, 0, 0, api.ErrRange}.check(t)
		nextCase{central, n, 127, 1439, 0, api.ErrRange}.check(t)
		nextCase{utc, n, 128, 0, 0, api.ErrInvalid}.check(t)
	}
}

// nextByLooking looks at one time after the other, as P2.6 and P2.9 say it.
func nextByLooking(z api.Zone, t, days, minute int) (int, api.Errno) {
	for n := t + 1; n <= t+11520 && n <= api.MaxTime; n++ {
		d, _ := calendar.Local(z, n)
		if d.Minute == minute && (days == 0 || days&(1<<(d.Weekday-1)) != 0) {
			return n, api.OK
		}
	}
	return 0, api.ErrNone
}

// P2.6 and P2.9

func TestNextByLooking(t *testing.T) {
	zones := []api.Zone{central, {Offset: 840, Summer: true}, {Offset: -840, Summer: true}, {Offset: 345}}
	starts := []int{0, 700, 78*day + 90, 84*day + 30, 84*day + 29, 85 * day, 85*day + 59, 85*day + 60, 302 * day, 302*day + 30, 302*day + 60, 302*day + 90, 365*day + 1000, api.MaxTime - 11520, api.MaxTime - 2000, api.MaxTime - 1, api.MaxTime}
	for _, z := range zones {
		for _, n := range starts {
			for _, days := range []int{0, 2, 32, 64, 21, 127} {
				for _, minute := range []int{0, 119, 120, 150, 180, 736, 1439} {
					want, e := nextByLooking(z, n, days, minute)
					nextCase{z, n, days, minute, want, e}.check(t)
				}
			}
		}
	}
}

// P2.7

func TestInverse(t *testing.T) {
	check := func(n int) {
		d, e := calendar.Date(n)
		if e != api.OK {
			t.Fatalf("Date(%d): %d", n, e)
		}
		if back, e := calendar.Time(d); back != n || e != api.OK {
			t.Fatalf("Time(%v): %d, %d, not %d", d, back, e, n)
		}
	}
	for n := 0; n <= api.MaxTime; n += 1009 {
		check(n)
	}
	for n := 0; n <= 10*day; n++ {
		check(n)
		check(api.MaxTime - n)
	}
}

// P2.8

// minutes counts the minutes of a date from an origin of its own.
func minutes(d api.Date) int {
	n := 0
	for month := 1; month < d.Month; month++ {
		n += monthDays(d.Year, month)
	}
	for year := 1999; year < d.Year; year++ {
		n += 337 + monthDays(year, 2)
	}
	return (n+d.Day)*day + d.Minute
}

func TestLocalAdvances(t *testing.T) {
	for _, z := range []api.Zone{{Offset: 60}, central, {Offset: -840, Summer: true}} {
		before, e := calendar.Local(z, 0)
		if e != api.OK {
			t.Fatal(e)
		}
		for n := 1; n <= 2*366*day; n++ {
			d, e := calendar.Local(z, n)
			if e != api.OK {
				t.Fatal(e)
			}
			want := 1
			if z.Summer && (n == 85*day+60 || n == 449*day+60) {
				want = 61
			}
			if z.Summer && (n == 302*day+60 || n == 666*day+60) {
				want = -59
			}
			if got := minutes(d) - minutes(before); got != want {
				t.Fatalf("Local(%v, %d): by %d minutes, not %d", z, n, got, want)
			}
			before = d
		}
	}
}

// P2.10

func TestWeekdaysAreRepeated(t *testing.T) {
	for n := 0; n+10080 <= api.MaxTime; n += 719 {
		a, _ := calendar.Date(n)
		b, _ := calendar.Date(n + 10080)
		if a.Weekday != b.Weekday || a.Minute != b.Minute || a.Weekday < 1 || a.Weekday > 7 {
			t.Fatalf("%d: %v, %v", n, a, b)
		}
	}
}

func TestSummerChangesOnSundays(t *testing.T) {
	changes := 0
	for n := 60; n <= api.MaxTime; n += day {
		if calendar.Summer(n) == calendar.Summer(n-1) {
			continue
		}
		changes++
		if d, _ := calendar.Date(n); d.Weekday != 7 || d.Day < 25 || d.Month != 3 && d.Month != 10 {
			t.Errorf("%v", d)
		}
	}
	if changes != 2*510+1 {
		t.Errorf("%d changes", changes)
	}
}
