package window_test

import (
	"math"
	"slices"
	"testing"

	"chargenet/api"
	"chargenet/window"
)

const (
	day  = 1440
	week = 7 * day

	lastDay = 186413 // 2510-05-20, a Tuesday, which has 737 times
)

var (
	utc     = api.Zone{}
	central = api.Zone{Offset: 60, Summer: true}
	zones   = []api.Zone{utc, central, {Offset: 840, Summer: true}, {Offset: -840, Summer: true}, {Offset: -60, Summer: true}, {Offset: -90, Summer: true}, {Offset: -61}, {Offset: 345}}
)

// summers are the spans of summer time in the parts of the calendar that the tests look at: 2000, 2001 and 2510.
var summers = []api.Span{{From: 85*day + 60, To: 302*day + 60}, {From: 449*day + 60, To: 666*day + 60}, {From: 186362*day + 60, To: math.MaxInt}}

// parts are spans that the tests look at minute by minute: the ends of the range, and the weeks around the changes of summer time.
var parts = []api.Span{{From: 0, To: 17 * day}, {From: 76 * day, To: 95 * day}, {From: 293 * day, To: 311 * day}, {From: 442 * day, To: 453 * day}, {From: 660 * day, To: 670 * day}, {From: 186355 * day, To: 186371 * day}, {From: 186397 * day, To: api.MaxTime + 1}}

var invalidZones = []api.Zone{{Offset: -841}, {Offset: 841}, {Offset: 841, Summer: true}, {Offset: -841, Summer: true}, {Offset: math.MinInt}, {Offset: math.MaxInt, Summer: true}, {Offset: 1 << 32}}

// outside are numbers that are not times.
var outside = []int{-1, -2, -day, -week, api.MaxTime + 1, api.MaxTime + 2, api.MaxTime + day, math.MinInt, math.MinInt + 1, math.MaxInt - 1, math.MaxInt, 1 << 32, 1<<32 + 5, -1 << 32}

func daily(start, end int) api.Window { return api.Window{Start: start, End: end, To: -1} }

func weekly(days, start, end int) api.Window {
	return api.Window{Days: days, Start: start, End: end, To: -1}
}

func dated(w api.Window, from, to int) api.Window {
	w.From, w.To = from, to
	return w
}

func span(from, to int) api.Span { return api.Span{From: from, To: to} }

// recurring are windows without a beginning or an end.
func recurring() []api.Window {
	l := []api.Window{}
	for _, days := range []int{0, 127, 1, 32, 64, 96, 21, 126} {
		for _, times := range [][2]int{{480, 1020}, {0, 0}, {600, 600}, {1320, 360}, {120, 180}} {
			l = append(l, weekly(days, times[0], times[1]))
		}
	}
	for _, times := range [][2]int{{0, 1439}, {1439, 0}, {1439, 1439}, {1439, 1438}, {1, 0}, {0, 1}, {60, 0}, {0, 60}, {150, 151}, {150, 149}, {130, 120}, {119, 181}, {1410, 30}, {1430, 1435}} {
		l = append(l, daily(times[0], times[1]), weekly(32, times[0], times[1]), weekly(64, times[0], times[1]))
	}
	return l
}

// limitedTo returns windows from and to times in and around a part.
func limitedTo(p api.Span) []api.Window {
	var l []api.Window
	end := min(p.To, api.MaxTime)
	for i, w := range recurring() {
		from := min(p.From+i*311, end)
		l = append(l, dated(w, from, -1), dated(w, from, min(from+1, end)), dated(w, from, min(from+7*day+i*37, end)), dated(w, from, from), dated(w, 0, from), dated(w, end, -1), dated(w, p.From, end))
	}
	return l
}

// localWeekMinute counts the local minutes from Monday, 00:00, on. Day 0 is a Saturday.
func localWeekMinute(z api.Zone, t int) int {
	t += 5*day + week + z.Offset
	for _, s := range summers {
		if z.Summer && s.From <= t-5*day-week-z.Offset && t-5*day-week-z.Offset < s.To {
			t += 60
		}
	}
	return t % week
}

// weekOf marks the minutes of a week that belong to a valid window: on each of its days it has the minutes from its beginning on.
func weekOf(w api.Window) []bool {
	marks := make([]bool, week)
	first, length := w.Start, w.End-w.Start
	if length == 0 {
		first, length = 0, day
	}
	if length < 0 {
		length += day
	}
	for d := range 7 {
		if w.Days == 0 || w.Days&(1<<d) != 0 {
			for i := range length {
				marks[(d*day+first+i)%week] = true
			}
		}
	}
	return marks
}

// model says for each time of a part whether a window holds.
func model(w api.Window, z api.Zone, p api.Span) []bool {
	marks := weekOf(w)
	holds := make([]bool, p.To-p.From)
	for i := range holds {
		t := p.From + i
		holds[i] = w.From <= t && (w.To < 0 || t < w.To) && marks[localWeekMinute(z, t)]
	}
	return holds
}

// eachModel calls f for many windows, and for zones and parts that change from one to the next.
func eachModel(f func(w api.Window, z api.Zone, p api.Span, holds []bool)) {
	for k, p := range parts {
		l := recurring()
		for i, w := range limitedTo(p) {
			if i%5 == k%5 {
				l = append(l, w)
			}
		}
		for i, w := range l {
			z := zones[(i+k)%len(zones)]
			f(w, z, p, model(w, z, p))
		}
	}
}

// P5.1

func TestValid(t *testing.T) {
	ok := daily(0, 0)
	for _, w := range []api.Window{
		ok, {}, {Days: 127, Start: 1439, End: 1439, From: api.MaxTime, To: api.MaxTime}, {From: api.MaxTime, To: -1}, {From: 0, To: api.MaxTime}, {Start: 1439, To: -1}, {End: 1439, To: -1},
		{From: 5, To: 5}, {From: 5, To: 6}, {Days: 1, To: -1}, {Days: 64, To: -1}, {Days: 126, To: -1}, {Start: 1439, End: 0, To: 0},
	} {
		if e := window.Valid(w); e != api.OK {
			t.Errorf("Valid(%v): %d", w, e)
		}
	}
	for _, w := range append(recurring(), limitedTo(parts[1])...) {
		if e := window.Valid(w); e != api.OK {
			t.Errorf("Valid(%v): %d", w, e)
		}
	}
	for _, w := range invalidWindows() {
		if e := window.Valid(w); e != api.ErrInvalid {
			t.Errorf("Valid(%v): %d", w, e)
		}
	}
}

// invalidWindows returns windows that are not valid, the first of them for one reason only.
func invalidWindows() []api.Window {
	l := []api.Window{{Start: 0, End: 1440, To: -1}, {From: 1, To: 0}, {From: 5, To: 4}, {From: api.MaxTime, To: 0}, {From: api.MaxTime, To: api.MaxTime - 1}, {From: 10, To: -2}, {To: -2}}
	for _, n := range []int{math.MinInt, math.MinInt + 1, -1 << 32, -128, -2, -1, 128, 129, 255, 256, 1 << 32, 1<<32 + 1, math.MaxInt} {
		l = append(l, weekly(n, 0, 0), weekly(n, 10, 5))
	}
	for _, n := range []int{math.MinInt, math.MinInt + 1, -1440, -2, -1, 1440, 1441, 2880, 1 << 32, 1<<32 + 1, math.MaxInt} {
		l = append(l, daily(n, 0), daily(0, n), daily(n, n), weekly(3, n, 5))
	}
	for _, n := range outside {
		l = append(l, dated(daily(0, 0), n, -1), dated(daily(5, 9), n, n), dated(daily(0, 0), n, api.MaxTime))
		if n != -1 {
			l = append(l, dated(daily(0, 0), 0, n), dated(daily(0, 0), api.MaxTime, n))
		}
	}
	return append(l, api.Window{Days: 128, Start: -1, End: 1440, From: -1, To: -2})
}

// P5.2

type holdsCase struct {
	w    api.Window
	z    api.Zone
	t    int
	want bool
}

func (c holdsCase) check(t *testing.T) {
	if got := window.Holds(c.w, c.z, c.t); got != c.want {
		t.Helper()
		t.Errorf("Holds(%v, %v, %d): %v", c.w, c.z, c.t, got)
	}
}

func TestHoldsExamples(t *testing.T) {
	night, office, monday := weekly(32, 1320, 360), daily(480, 1020), weekly(1, 0, 0)
	summerHour := daily(120, 180)
	for _, c := range []holdsCase{
		{night, utc, 1319, false}, {night, utc, 1320, true}, {night, utc, 1439, true}, {night, utc, 1440, true}, {night, utc, 1440 + 359, true}, {night, utc, 0, false}, {night, utc, 1440 + 360, false}, {night, utc, 1440 + 1320, false},
		{night, utc, week + 1320, true}, {night, utc, week + 1440 + 359, true}, {night, utc, week, false},
		{office, utc, 479, false}, {office, utc, 480, true}, {office, utc, 1019, true}, {office, utc, 1020, false}, {office, utc, 5*day + 480, true},
		{daily(0, 0), utc, 0, true}, {daily(700, 700), utc, 0, true}, {daily(0, 0), utc, api.MaxTime, true}, {dated(daily(0, 0), 5, -1), utc, 4, false}, {dated(daily(0, 0), 5, -1), utc, 5, true}, {dated(daily(0, 0), 5, -1), utc, api.MaxTime, true},
		{monday, utc, 2*day - 1, false}, {monday, utc, 2 * day, true}, {monday, utc, 3*day - 1, true}, {monday, utc, 3 * day, false}, {monday, utc, week + 2*day, true},
		{monday, central, 2*day - 61, false}, {monday, central, 2*day - 60, true}, {monday, central, 3*day - 61, true}, {monday, central, 3*day - 60, false},
		{dated(daily(0, 0), 3, 5), utc, 2, false}, {dated(daily(0, 0), 3, 5), utc, 3, true}, {dated(daily(0, 0), 3, 5), utc, 4, true}, {dated(daily(0, 0), 3, 5), utc, 5, false}, {dated(daily(0, 0), 3, 3), utc, 3, false},
		{dated(daily(0, 0), 0, api.MaxTime), utc, api.MaxTime - 1, true}, {dated(daily(0, 0), 0, api.MaxTime), utc, api.MaxTime, false}, {dated(daily(0, 0), api.MaxTime, -1), utc, api.MaxTime, true}, {dated(daily(0, 0), api.MaxTime, api.MaxTime), utc, api.MaxTime, false}, {dated(daily(0, 0), 0, 0), utc, 0, false},
		{dated(daily(480, 1020), 500, 900), utc, 499, false}, {dated(daily(480, 1020), 500, 900), utc, 500, true}, {dated(daily(480, 1020), 500, 900), utc, 899, true}, {dated(daily(480, 1020), 500, 900), utc, 900, false},
		{daily(1380, 0), api.Zone{Offset: -60}, 0, true}, {daily(0, 1380), api.Zone{Offset: -60}, 0, false}, {weekly(16, 0, 0), api.Zone{Offset: -60}, 59, true}, {weekly(16, 0, 0), api.Zone{Offset: -60}, 60, false}, {weekly(32, 0, 0), api.Zone{Offset: -60}, 59, false}, {weekly(32, 0, 0), api.Zone{Offset: -60}, 60, true},
		{weekly(2, 736, 737), utc, api.MaxTime, true}, {weekly(2, 736, 737), utc, api.MaxTime - 1, false}, {weekly(2, 796, 797), central, api.MaxTime, false}, {weekly(2, 856, 857), central, api.MaxTime, true},
		{summerHour, central, 85*day + 59, false}, {summerHour, central, 85*day + 60, false}, {summerHour, central, 84*day + 60, true}, {summerHour, central, 86 * day, true}, {summerHour, central, 302*day - 1, false}, {summerHour, central, 302 * day, true}, {summerHour, central, 302*day + 59, true}, {summerHour, central, 302*day + 60, true}, {summerHour, central, 302*day + 119, true}, {summerHour, central, 302*day + 120, false},
		{weekly(64, 150, 151), central, 302*day + 30, true}, {weekly(64, 150, 151), central, 302*day + 31, false}, {weekly(64, 150, 151), central, 302*day + 90, true}, {weekly(32, 150, 151), central, 302*day + 90, false},
		{weekly(64, 1380, 60), utc, 2*day + 59, true}, {weekly(64, 1380, 60), utc, 2*day + 60, false}, {weekly(1, 1380, 60), utc, 3*day + 59, true}, {weekly(1, 1380, 60), utc, 2*day + 59, false},
		{weekly(64, 1380, 0), utc, 2*day - 1, true}, {weekly(64, 1380, 0), utc, 2 * day, false},
	} {
		c.check(t)
	}
}

// TestHolds compares Holds with the minutes of the week that are marked one by one.
func TestHolds(t *testing.T) {
	eachModel(func(w api.Window, z api.Zone, p api.Span, holds []bool) {
		for i, want := range holds {
			if got := window.Holds(w, z, p.From+i); got != want {
				t.Fatalf("Holds(%v, %v, %d): %v", w, z, p.From+i, got)
			}
		}
	})
}

func TestHoldsInvalid(t *testing.T) {
	for _, w := range invalidWindows() {
		for _, n := range append([]int{0, 1, 5, 500, 5 * day, api.MaxTime - 1, api.MaxTime}, outside...) {
			holdsCase{w, utc, n, false}.check(t)
			holdsCase{w, central, n, false}.check(t)
		}
	}
	for _, z := range invalidZones {
		for _, n := range []int{0, 700, 100 * day, api.MaxTime, -1, api.MaxTime + 1} {
			holdsCase{daily(0, 0), z, n, false}.check(t)
			holdsCase{daily(1320, 360), z, n, false}.check(t)
		}
	}
	for _, z := range zones {
		for _, n := range outside {
			holdsCase{daily(0, 0), z, n, false}.check(t)
			holdsCase{weekly(127, 1439, 1438), z, n, false}.check(t)
			holdsCase{dated(daily(0, 0), api.MaxTime, -1), z, n, false}.check(t)
		}
	}
}

// P5.3

type nextCase struct {
	w    api.Window
	z    api.Zone
	t    int
	want int
}

func (c nextCase) check(t *testing.T) {
	if got := window.Next(c.w, c.z, c.t); got != c.want {
		t.Helper()
		t.Errorf("Next(%v, %v, %d): %d, not %d", c.w, c.z, c.t, got, c.want)
	}
}

func TestNextExamples(t *testing.T) {
	office, always := daily(480, 1020), daily(0, 0)
	for _, c := range []nextCase{
		{office, utc, 0, 480}, {office, utc, 479, 480}, {office, utc, 480, 1020}, {office, utc, 1019, 1020}, {office, utc, 1020, 1920},
		{dated(always, 0, 5), utc, 0, 5}, {dated(always, 0, 5), utc, 4, 5}, {dated(always, 0, 5), utc, 5, -1}, {dated(always, 0, 5), utc, 6, -1},
		{dated(always, 5, -1), utc, 0, 5}, {dated(always, 5, -1), utc, 4, 5}, {dated(always, 5, -1), utc, 5, -1}, {dated(always, 5, 9), utc, 0, 5}, {dated(always, 5, 9), utc, 5, 9},
		{always, utc, 0, -1}, {always, central, 85*day + 59, -1}, {weekly(127, 700, 700), central, 0, -1}, {weekly(127, 0, 0), utc, 0, -1}, {weekly(127, 0, 0), utc, api.MaxTime, -1},
		{dated(always, 7, 7), utc, 0, -1}, {dated(always, 7, 7), utc, 7, -1}, {dated(office, 500, 500), utc, 0, -1}, {dated(office, 0, 0), utc, 0, -1}, {dated(office, 0, 100), utc, 0, -1},
		{dated(always, api.MaxTime, -1), utc, 0, api.MaxTime}, {dated(always, api.MaxTime, -1), utc, api.MaxTime - 1, api.MaxTime}, {dated(always, api.MaxTime, -1), utc, api.MaxTime, -1}, {dated(always, api.MaxTime, api.MaxTime), utc, 0, -1},
		{dated(always, 0, api.MaxTime), utc, 0, api.MaxTime}, {dated(always, 0, api.MaxTime), utc, api.MaxTime - 1, api.MaxTime}, {dated(always, 0, api.MaxTime), utc, api.MaxTime, -1},
		{dated(office, 500, -1), utc, 0, 500}, {dated(office, 480, -1), utc, 0, 480}, {dated(office, 1020, -1), utc, 0, 1920}, {dated(office, 500, 700), utc, 500, 700}, {dated(office, 0, 480), utc, 0, -1}, {dated(office, 0, 481), utc, 480, 481}, {dated(office, 0, 1020), utc, 600, 1020}, {dated(office, 0, 1920), utc, 1020, -1},
		{dated(office, 200000*day/2+500, -1), utc, 3, 200000*day/2 + 500},
		{weekly(1, 0, 0), utc, 0, 2 * day}, {weekly(1, 0, 0), utc, 2 * day, 3 * day}, {weekly(1, 0, 0), utc, 3 * day, 2*day + week}, {weekly(126, 0, 0), utc, 0, 2 * day}, {weekly(96, 0, 0), utc, 0, 2 * day},
		{weekly(32, 1320, 360), utc, 0, 1320}, {weekly(32, 1320, 360), utc, 1320, 1440 + 360}, {weekly(32, 1320, 360), utc, 1439, 1440 + 360}, {weekly(32, 1320, 360), utc, 1440 + 360, week + 1320},
		{weekly(16, 1320, 360), utc, 0, 360}, {weekly(16, 1320, 360), api.Zone{Offset: -60}, 0, 420},
		{daily(120, 180), central, 84*day + 60, 84*day + 120}, {daily(120, 180), central, 84*day + 120, 86 * day}, {daily(120, 180), central, 302 * day, 302*day + 120}, {daily(120, 180), central, 302*day + 60, 302*day + 120},
		{weekly(64, 120, 180), central, 78*day + 120, 92 * day}, {weekly(64, 150, 151), central, 302*day + 31, 302*day + 90}, {daily(100, 150), central, 85*day + 40, 85*day + 60}, {daily(150, 200), central, 85*day + 40, 85*day + 60},
		{daily(60, 150), central, 302*day - 60, 302*day + 30}, {daily(60, 150), central, 302*day + 30, 302*day + 60}, {daily(60, 150), central, 302*day + 60, 302*day + 90}, {daily(150, 240), central, 302*day + 30, 302*day + 60},
		{weekly(2, 736, 0), utc, api.MaxTime - 1, api.MaxTime}, {weekly(2, 737, 0), utc, api.MaxTime - 1, -1}, {weekly(2, 700, 736), utc, api.MaxTime - 1, api.MaxTime}, {weekly(2, 700, 737), utc, api.MaxTime - 1, -1}, {weekly(4, 0, 0), utc, api.MaxTime - 2*day, -1},
	} {
		c.check(t)
	}
	for _, w := range recurring() {
		nextCase{w, central, api.MaxTime, -1}.check(t)
	}
}

// changesOf returns the times of a part, but for its first one, at which the model changes.
func changesOf(p api.Span, holds []bool) []int {
	var l []int
	for i := 1; i < len(holds); i++ {
		if holds[i] != holds[i-1] {
			l = append(l, p.From+i)
		}
	}
	return l
}

// TestNext compares Next with the changes of the model, from times at and between them.
func TestNext(t *testing.T) {
	eachModel(func(w api.Window, z api.Zone, p api.Span, holds []bool) {
		from := p.From
		for _, change := range changesOf(p, holds) {
			for _, n := range []int{from, from + 1, (from + change) / 2, change - 1} {
				if n >= from && n < change {
					nextCase{w, z, n, change}.check(t)
				}
			}
			from = change
		}
		if p.To == api.MaxTime+1 {
			for _, n := range []int{from, (from + api.MaxTime) / 2, api.MaxTime - 1, api.MaxTime} {
				if n >= from {
					nextCase{w, z, n, -1}.check(t)
				}
			}
		}
		if t.Failed() {
			t.FailNow()
		}
	})
}

func TestNextInvalid(t *testing.T) {
	for _, w := range invalidWindows() {
		for _, n := range []int{0, 5, 500, api.MaxTime - 1, api.MaxTime, -1, api.MaxTime + 1} {
			nextCase{w, utc, n, -1}.check(t)
		}
	}
	for _, z := range invalidZones {
		for _, n := range []int{0, 5, api.MaxTime - 1, -1} {
			nextCase{daily(480, 1020), z, n, -1}.check(t)
			nextCase{dated(daily(0, 0), 7, 9), z, n, -1}.check(t)
		}
	}
	for _, n := range outside {
		for _, z := range zones {
			nextCase{daily(480, 1020), z, n, -1}.check(t)
			nextCase{daily(0, 0), z, n, -1}.check(t)
			nextCase{dated(daily(0, 0), 0, 5), z, n, -1}.check(t)
			nextCase{dated(daily(0, 0), api.MaxTime, -1), z, n, -1}.check(t)
		}
	}
}

// P5.4

type spansCase struct {
	w    api.Window
	z    api.Zone
	s    api.Span
	want []api.Span
	e    api.Errno
}

func (c spansCase) check(t *testing.T) {
	if got, e := window.Spans(c.w, c.z, c.s); !slices.Equal(got, c.want) || e != c.e {
		t.Helper()
		t.Errorf("Spans(%v, %v, %v): %v, %d, not %v, %d", c.w, c.z, c.s, got, e, c.want, c.e)
	}
}

func TestSpansExamples(t *testing.T) {
	office, always := daily(480, 1020), daily(0, 0)
	all := span(0, api.MaxTime)
	for _, c := range []spansCase{
		{office, utc, span(500, 2000), []api.Span{{From: 500, To: 1020}, {From: 1920, To: 2000}}, api.OK},
		{office, utc, span(600, 700), []api.Span{{From: 600, To: 700}}, api.OK}, {office, utc, span(480, 1020), []api.Span{{From: 480, To: 1020}}, api.OK}, {office, utc, span(479, 1021), []api.Span{{From: 480, To: 1020}}, api.OK},
		{office, utc, span(1020, 1920), nil, api.OK}, {office, utc, span(1019, 1921), []api.Span{{From: 1019, To: 1020}, {From: 1920, To: 1921}}, api.OK}, {office, utc, span(0, 480), nil, api.OK}, {office, utc, span(0, 481), []api.Span{{From: 480, To: 481}}, api.OK},
		{office, utc, span(600, 600), nil, api.OK}, {always, utc, span(0, 0), nil, api.OK}, {always, utc, span(api.MaxTime, api.MaxTime), nil, api.OK},
		{always, utc, all, []api.Span{all}, api.OK}, {weekly(127, 7, 7), central, all, []api.Span{all}, api.OK}, {always, utc, span(5, 6), []api.Span{{From: 5, To: 6}}, api.OK}, {always, utc, span(api.MaxTime-1, api.MaxTime), []api.Span{{From: api.MaxTime - 1, To: api.MaxTime}}, api.OK},
		{dated(always, 5, 9), utc, all, []api.Span{{From: 5, To: 9}}, api.OK}, {dated(always, 5, 9), utc, span(0, 5), nil, api.OK}, {dated(always, 5, 9), utc, span(0, 6), []api.Span{{From: 5, To: 6}}, api.OK}, {dated(always, 5, 9), utc, span(8, 20), []api.Span{{From: 8, To: 9}}, api.OK}, {dated(always, 5, 9), utc, span(9, 20), nil, api.OK}, {dated(always, 5, 9), utc, span(6, 8), []api.Span{{From: 6, To: 8}}, api.OK},
		{dated(always, 5, 5), utc, all, nil, api.OK}, {dated(always, 5, -1), utc, span(0, 20), []api.Span{{From: 5, To: 20}}, api.OK}, {dated(always, api.MaxTime, -1), utc, all, nil, api.OK}, {dated(always, 0, api.MaxTime), utc, all, []api.Span{all}, api.OK},
		{dated(office, 500, 2000), utc, all, []api.Span{{From: 500, To: 1020}, {From: 1920, To: 2000}}, api.OK}, {dated(office, 1020, 1920), utc, all, nil, api.OK}, {dated(office, api.MaxTime-day, -1), utc, all, []api.Span{{From: api.MaxTime - day, To: api.MaxTime - 736 - day + 1020}, {From: api.MaxTime - 736 + 480, To: api.MaxTime}}, api.OK},
		{weekly(1, 0, 0), utc, span(0, 20*day), []api.Span{{From: 2 * day, To: 3 * day}, {From: 9 * day, To: 10 * day}, {From: 16 * day, To: 17 * day}}, api.OK}, {weekly(96, 0, 0), utc, span(0, 10*day), []api.Span{{From: 0, To: 2 * day}, {From: 7 * day, To: 9 * day}}, api.OK},
		{weekly(48, 1320, 360), utc, span(0, 8*day), []api.Span{{From: 0, To: 360}, {From: 1320, To: 1800}, {From: 6*day + 1320, To: 7*day + 360}, {From: 7*day + 1320, To: 8 * day}}, api.OK},
		{daily(120, 180), central, span(84*day, 87*day), []api.Span{{From: 84*day + 60, To: 84*day + 120}, {From: 86 * day, To: 86*day + 60}}, api.OK}, {daily(120, 180), central, span(302*day-10, 303*day), []api.Span{{From: 302 * day, To: 302*day + 120}}, api.OK}, {daily(150, 151), central, span(302*day, 303*day), []api.Span{{From: 302*day + 30, To: 302*day + 31}, {From: 302*day + 90, To: 302*day + 91}}, api.OK}, {daily(120, 180), central, span(85*day, 86*day), nil, api.OK},
	} {
		c.check(t)
	}
}

// spansOf returns the spans of a part in which the model holds.
func spansOf(p api.Span, holds []bool, s api.Span) []api.Span {
	var l []api.Span
	for t := s.From; t < s.To; t++ {
		if !holds[t-p.From] {
			continue
		}
		if len(l) == 0 || l[len(l)-1].To != t {
			l = append(l, span(t, t))
		}
		l[len(l)-1].To = t + 1
	}
	return l
}

// TestSpans compares Spans with the times at which the model holds (P5.6).
func TestSpans(t *testing.T) {
	eachModel(func(w api.Window, z api.Zone, p api.Span, holds []bool) {
		to := min(p.To, api.MaxTime)
		for _, s := range []api.Span{span(p.From, to), span(p.From+500, to-500), span(p.From+4*day, p.From+5*day), span(p.From+3000, p.From+3001), span(p.From+5000, p.From+5000), span(p.From+8*day+61, to)} {
			spansCase{w, z, s, spansOf(p, holds, s), api.OK}.check(t)
		}
		if t.Failed() {
			t.FailNow()
		}
	})
}

// TestSpansLimit has spans with exactly MaxSteps spans of a window and with one more.
func TestSpansLimit(t *testing.T) {
	count := func(w api.Window, z api.Zone, s api.Span, n int) {
		l, e := window.Spans(w, z, s)
		if n > api.MaxSteps && (len(l) != 0 || e != api.ErrLimit) || n <= api.MaxSteps && (len(l) != n || e != api.OK) {
			t.Errorf("Spans(%v, %v, %v): %d spans, %d, not %d", w, z, s, len(l), e, n)
		}
	}
	office := daily(480, 1020)
	count(office, utc, span(0, 511*day), 511)
	count(office, utc, span(0, 512*day), 512)
	count(office, utc, span(0, 512*day+480), 512)
	count(office, utc, span(0, 512*day+481), 513)
	count(office, utc, span(1019, 511*day+1020), 512)
	count(office, utc, span(1019, 512*day+481), 513)
	count(office, utc, span(0, api.MaxTime), 513)
	count(dated(office, 1020, 513*day), utc, span(0, api.MaxTime), 512)
	count(dated(office, 1019, 513*day), utc, span(0, api.MaxTime), 513)
	count(dated(office, 0, 512*day), utc, span(0, api.MaxTime), 512)
	count(dated(office, 0, 512*day+481), utc, span(0, api.MaxTime), 513)
	count(daily(120, 180), central, span(0, 514*day), 512) // but for the days 85 and 449
	count(daily(120, 180), central, span(0, 515*day), 513)
	monday := weekly(1, 0, 0)
	count(monday, utc, span(0, 511*week+3*day), 512)
	count(monday, utc, span(0, 512*week+2*day), 512)
	count(monday, utc, span(0, 512*week+2*day+1), 513)
	count(monday, central, span(0, api.MaxTime), 513)
	count(weekly(126, 0, 0), utc, span(0, 511*week+2*day), 512)
	count(weekly(126, 0, 0), utc, span(0, 511*week+3*day), 512)
	count(weekly(126, 0, 0), utc, span(0, 511*week+3*day+1), 513)
	count(weekly(2, 1320, 360), utc, span(api.MaxTime-512*week, api.MaxTime), 512)
	count(weekly(2, 700, 360), utc, span(api.MaxTime-512*week, api.MaxTime), 513)
}

// badSpans are spans that are not valid.
var badSpans = []api.Span{{From: -1, To: 5}, {From: 5, To: 4}, {From: 0, To: -1}, {From: 5, To: -1}, {From: -1, To: -1}, {From: 0, To: api.MaxTime + 1}, {From: api.MaxTime + 1, To: api.MaxTime + 1}, {From: api.MaxTime, To: 0}, {From: api.MaxTime, To: api.MaxTime - 1}, {From: math.MinInt, To: math.MaxInt}, {From: math.MaxInt, To: math.MinInt}, {From: math.MinInt, To: 5}, {From: 5, To: math.MaxInt}, {From: math.MinInt, To: math.MinInt}, {From: math.MaxInt, To: math.MaxInt}, {From: 0, To: math.MinInt}}

func TestSpansErrors(t *testing.T) {
	good := []api.Span{{}, {From: 500, To: 2000}, {From: 0, To: api.MaxTime}}
	for _, s := range append(good, badSpans...) {
		for _, w := range invalidWindows() {
			spansCase{w, utc, s, nil, api.ErrInvalid}.check(t)
		}
		for _, z := range invalidZones {
			spansCase{daily(480, 1020), z, s, nil, api.ErrInvalid}.check(t)
			spansCase{dated(daily(0, 0), 5, 5), z, s, nil, api.ErrInvalid}.check(t)
		}
		spansCase{daily(0, 1440), api.Zone{Offset: 841}, s, nil, api.ErrInvalid}.check(t)
	}
	for _, s := range badSpans {
		for _, w := range recurring() {
			spansCase{w, utc, s, nil, api.ErrRange}.check(t)
			spansCase{dated(w, 100, 200), central, s, nil, api.ErrRange}.check(t)
			spansCase{dated(w, 100, 100), central, s, nil, api.ErrRange}.check(t)
		}
	}
}

// P5.5

func TestHoldsUntilNext(t *testing.T) {
	for i, w := range append(recurring(), limitedTo(parts[1])...) {
		z := zones[i%len(zones)]
		for _, n := range []int{i, 84*day + i, 302*day - i, 3000*day + 77*i, api.MaxTime - 9*i} {
			holds, next := window.Holds(w, z, n), window.Next(w, z, n)
			end := next
			if next < 0 {
				end = api.MaxTime + 1
			}
			for t2 := n + 1; t2 < end; t2 += 1 + (end-t2)/300 {
				if window.Holds(w, z, t2) != holds {
					t.Fatalf("%v, %v: Next(%d) is %d, but Holds changes before %d", w, z, n, next, t2)
				}
			}
			if next >= 0 && window.Holds(w, z, next) == holds {
				t.Fatalf("%v, %v: Next(%d) is %d, but Holds does not change", w, z, n, next)
			}
		}
	}
}

// P5.6

// TestSpansByNext has long spans, in which Next finds the changes.
func TestSpansByNext(t *testing.T) {
	for i, w := range recurring() {
		z := zones[i%len(zones)]
		s := span(1000*day+i*97, 1500*day-i*89)
		var want []api.Span
		for n := s.From; n >= 0 && n < s.To; n = window.Next(w, z, n) {
			end := window.Next(w, z, n)
			if end < 0 || end > s.To {
				end = s.To
			}
			if window.Holds(w, z, n) {
				want = append(want, span(n, end))
			}
		}
		e := api.OK
		if len(want) > api.MaxSteps {
			want, e = nil, api.ErrLimit
		}
		spansCase{w, z, s, want, e}.check(t)
	}
}

// P5.7

func TestComplement(t *testing.T) {
	for i, w := range limitedTo(parts[2]) {
		if w.Days == 0 || w.Days == 127 {
			continue
		}
		other, whole := w, w
		other.Days, whole.Days = 127-w.Days, 0
		z := zones[i%len(zones)]
		for _, p := range parts {
			for n := p.From; n < p.To; n += 43 {
				a, b := window.Holds(w, z, n), window.Holds(other, z, n)
				if a && b || (a || b) != window.Holds(whole, z, n) {
					t.Fatalf("%v, %v at %d: %v, and its complement %v", w, z, n, a, b)
				}
			}
		}
	}
}

// TestMemory checks R5 and R6: results of equal calls are equal and do not share memory.
func TestMemory(t *testing.T) {
	s := span(500, 2000)
	a, _ := window.Spans(daily(480, 1020), utc, s)
	b, _ := window.Spans(daily(480, 1020), utc, s)
	a = a[:cap(a)]
	for i := range a {
		a[i] = span(-1, -1)
	}
	if !slices.Equal(b, []api.Span{{From: 500, To: 1020}, {From: 1920, To: 2000}}) {
		t.Error("results share memory:", b)
	}
}
