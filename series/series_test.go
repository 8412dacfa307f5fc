package series_test

import (
	"math"
	"math/big"
	"slices"
	"testing"

	"chargenet/api"
	"chargenet/series"
)

const most = 1 << 40 // the greatest value

type steps = []api.Step

func step(at, value int) api.Step { return api.Step{At: at, Value: value} }

func span(from, to int) api.Span { return api.Span{From: from, To: to} }

// example is the series l of the chapter.
func example() steps { return steps{step(10, 5), step(20, 0), step(30, 7)} }

// zigzag returns n steps with the values 1 and 2 in turn, the first one at first and each other one by gap minutes after the one before.
func zigzag(n, first, gap int) steps {
	l := make(steps, n)
	for i := range l {
		l[i] = step(first+i*gap, 1+i%2)
	}
	return l
}

// invalid is a list with the error of Valid.
type invalid struct {
	l steps
	e api.Errno
}

// invalids returns lists that are not valid for one reason or for several.
func invalids() []invalid {
	l := []invalid{
		{zigzag(513, 0, 1), api.ErrLimit}, {zigzag(2000, 0, 1), api.ErrLimit}, {make(steps, 513), api.ErrLimit}, {zigzag(513, -5, 1), api.ErrLimit}, {slices.Repeat(steps{step(0, most+1)}, 513), api.ErrLimit},
		{steps{step(5, 1), step(5, 2)}, api.ErrInvalid}, {steps{step(5, 1), step(5, 1)}, api.ErrInvalid}, {steps{step(5, 1), step(4, 2)}, api.ErrInvalid},
		{steps{step(0, 1), step(0, 2)}, api.ErrInvalid}, {steps{step(1, 1), step(0, 2)}, api.ErrInvalid}, {steps{step(1, 1), step(3, 2), step(2, 3)}, api.ErrInvalid}, {steps{step(1, 1), step(3, 2), step(3, 3)}, api.ErrInvalid},
		{steps{step(api.MaxTime, 1), step(api.MaxTime, 2)}, api.ErrInvalid}, {steps{step(1, 0), step(1, 0)}, api.ErrInvalid},
		// the later step, with another error, comes too late
		{steps{step(5, 1), step(5, 2), step(-1, 2)}, api.ErrInvalid}, {steps{step(5, 1), step(4, 2), step(6, most+1)}, api.ErrInvalid},
		{steps{step(5, most+1), step(5, 2)}, api.ErrRange}, {steps{step(5, 1), step(-1, 2)}, api.ErrRange}, {steps{step(5, 1), step(5, most+1)}, api.ErrRange}, {steps{step(5, 1), step(4, -most-1)}, api.ErrRange},
		{append(zigzag(511, 0, 1), step(510, 5)), api.ErrInvalid}, {append(zigzag(511, 0, 1), step(511, most+1)), api.ErrRange},
	}
	for _, n := range []int{math.MinInt, math.MinInt + 1, -1 << 32, -most, -api.MaxTime, -2, -1, api.MaxTime + 1, most, math.MaxInt - 1, math.MaxInt} {
		l = append(l, invalid{steps{step(n, 1)}, api.ErrRange}, invalid{steps{step(n, 0)}, api.ErrRange}, invalid{steps{step(0, 1), step(n, 2)}, api.ErrRange})
	}
	for _, n := range []int{math.MinInt, math.MinInt + 1, -1 << 41, -most - 1, most + 1, 1 << 41, math.MaxInt - 1, math.MaxInt} {
		l = append(l, invalid{steps{step(1, n)}, api.ErrRange}, invalid{steps{step(0, 1), step(5, n)}, api.ErrRange})
	}
	return l
}

// valids returns series with the edges of each range.
func valids() []steps {
	return []steps{
		nil, {}, example(), {step(0, 0)}, {step(0, 1)}, {step(api.MaxTime, 1)}, {step(api.MaxTime, 0)}, {step(0, 1), step(api.MaxTime, 2)}, {step(0, 1), step(1, 2)},
		{step(5, most)}, {step(5, -most)}, {step(0, most), step(1, -most), step(api.MaxTime-1, most), step(api.MaxTime, -most)}, {step(3, 0), step(4, 0), step(5, 0)},
		{step(3, 8), step(4, 8), step(5, 8)}, {step(3, -8), step(4, 0), step(5, -8)}, zigzag(512, 0, 1), zigzag(512, 7, 100), zigzag(512, api.MaxTime-511, 1), zigzag(511, 0, 3),
		append(zigzag(511, 0, 100), step(51100, 0)), make512(),
	}
}

// make512 returns 512 steps that change nothing.
func make512() steps {
	l := make(steps, 512)
	for i := range l {
		l[i].At = i * 2
	}
	return l
}

// badSpans are spans that are not valid.
var badSpans = []api.Span{{From: -1, To: 5}, {From: 5, To: 4}, {From: 0, To: -1}, {From: 5, To: -1}, {From: -1, To: -1}, {From: 0, To: api.MaxTime + 1}, {From: api.MaxTime + 1, To: api.MaxTime + 1}, {From: api.MaxTime, To: 0}, {From: api.MaxTime, To: api.MaxTime - 1}, {From: math.MinInt, To: math.MaxInt}, {From: math.MaxInt, To: math.MinInt}, {From: math.MinInt, To: 5}, {From: 5, To: math.MaxInt}, {From: math.MinInt, To: math.MinInt}, {From: math.MaxInt, To: math.MaxInt}, {From: 0, To: math.MinInt}}

// source is a sequence of numbers that are the same in every run.
type source uint64

func (s *source) next(n int) int {
	*s = *s*6364136223846793005 + 1442695040888963407
	return int(uint64(*s) >> 33 % uint64(n))
}

// random returns a valid series with up to n steps, with neighbours of equal value among them.
func (s *source) random(n int) steps {
	var l steps
	gap := []int{1, 3, 40, api.MaxTime / (n + 1)}[s.next(4)]
	kind := s.next(3)
	at := s.next(gap + 1)
	for range s.next(n + 1) {
		value := s.next(5) - 2
		switch kind {
		case 1:
			value = s.next(2*most>>10)<<10 - most + s.next(1<<10)
		case 2:
			value = []int{0, most, -most, most - 1, 1, -1}[s.next(6)]
		}
		l = append(l, step(at, value))
		at += 1 + s.next(gap)
	}
	return l
}

// value is the value of a series at a time, found step by step.
func value(l steps, t int) int {
	v := 0
	for _, s := range l {
		if s.At <= t {
			v = s.Value
		}
	}
	return v
}

// made returns the normal list of steps that has the value f(t) at each time t, where the value may change at the given times only.
func made(f func(t int) int, times ...int) steps {
	times = slices.Clone(times)
	slices.Sort(times)
	var l steps
	v := 0
	for _, t := range times {
		if f(t) != v {
			v = f(t)
			l = append(l, step(t, v))
		}
	}
	return l
}

func times(ls ...steps) []int {
	var r []int
	for _, l := range ls {
		for _, s := range l {
			r = append(r, s.At)
		}
	}
	return r
}

func isNormal(l steps) bool {
	v := 0
	for _, s := range l {
		if s.Value == v {
			return false
		}
		v = s.Value
	}
	return series.Valid(l) == api.OK
}

// same checks the result of a call that returns a series.
func same(t *testing.T, what string, l steps, e api.Errno, want steps, wantError api.Errno) {
	if !slices.Equal(l, want) || e != wantError {
		t.Helper()
		t.Errorf("%s: %v, %d, not %v, %d", what, l, e, want, wantError)
	}
}

// P4.1

func TestValid(t *testing.T) {
	for _, l := range valids() {
		if e := series.Valid(l); e != api.OK {
			t.Errorf("Valid(%v): %d", l, e)
		}
	}
	for _, c := range invalids() {
		if e := series.Valid(c.l); e != c.e {
			t.Errorf("Valid(%v): %d, not %d", c.l, e, c.e)
		}
	}
}

// P4.2

func TestAtExamples(t *testing.T) {
	l := example()
	for n, want := range map[int]int{math.MinInt: 0, -1: 0, 0: 0, 9: 0, 10: 5, 11: 5, 19: 5, 20: 0, 25: 0, 29: 0, 30: 7, 31: 7, 100: 7, api.MaxTime: 7, api.MaxTime + 1: 7, math.MaxInt: 7} {
		if v := series.At(l, n); v != want {
			t.Errorf("At(%d): %d, not %d", n, v, want)
		}
	}
}

// TestAt compares At with a search step by step, at each step and beside it, and far away.
func TestAt(t *testing.T) {
	s := source(1)
	l := valids()
	for range 300 {
		l = append(l, s.random(40))
	}
	for _, l := range l {
		ts := []int{math.MinInt, -1 << 32, -1, 0, 1, api.MaxTime - 1, api.MaxTime, api.MaxTime + 1, 1 << 32, math.MaxInt}
		for _, n := range times(l) {
			ts = append(ts, n-1, n, n+1)
		}
		for _, n := range ts {
			if v := series.At(l, n); v != value(l, n) {
				t.Errorf("At(%v, %d): %d, not %d", l, n, v, value(l, n))
			}
		}
	}
}

// P4.3

func TestNormalExamples(t *testing.T) {
	for _, c := range []struct{ l, want steps }{
		{steps{step(0, 0), step(10, 5), step(15, 5), step(20, 0)}, steps{step(10, 5), step(20, 0)}},
		{nil, nil}, {steps{step(0, 0)}, nil}, {steps{step(9, 0)}, nil}, {steps{step(0, 3)}, steps{step(0, 3)}}, {steps{step(api.MaxTime, -3)}, steps{step(api.MaxTime, -3)}},
		{steps{step(1, 0), step(2, 0), step(3, 4), step(4, 4), step(5, 4), step(6, -4), step(7, 0), step(8, 0), step(9, 4)}, steps{step(3, 4), step(6, -4), step(7, 0), step(9, 4)}},
		{example(), example()}, {make512(), nil}, {zigzag(512, 0, 1), zigzag(512, 0, 1)}, {steps{step(3, 8), step(4, 8), step(5, 8)}, steps{step(3, 8)}},
	} {
		if l := series.Normal(c.l); !slices.Equal(l, c.want) {
			t.Errorf("Normal(%v): %v, not %v", c.l, l, c.want)
		}
	}
}

func TestNormal(t *testing.T) {
	s := source(2)
	l := valids()
	for range 1000 {
		l = append(l, s.random(30))
	}
	for _, l := range l {
		want := made(func(t int) int { return value(l, t) }, times(l)...)
		if r := series.Normal(l); !slices.Equal(r, want) || !isNormal(r) {
			t.Errorf("Normal(%v): %v, not %v", l, r, want)
		}
	}
}

// P4.4, P4.5

type operation struct {
	name  string
	apply func(a, b []api.Step) ([]api.Step, api.Errno)
	value func(x, y int) int
}

var operations = []operation{
	{"Add", series.Add, func(x, y int) int { return x + y }},
	{"Least", series.Least, func(x, y int) int {
		if x < y {
			return x
		}
		return y
	}},
}

// expected returns what an operation returns for valid series, computed from the values at the times of all steps.
func (o operation) expected(a, b steps) (steps, api.Errno) {
	f := func(t int) int { return o.value(value(a, t), value(b, t)) }
	ts := times(a, b)
	for _, t := range ts {
		if f(t) < -most || f(t) > most {
			return nil, api.ErrRange
		}
	}
	l := made(f, ts...)
	if len(l) > 512 {
		return nil, api.ErrLimit
	}
	return l, api.OK
}

func TestAddExamples(t *testing.T) {
	for _, c := range []struct {
		a, b, want steps
		e          api.Errno
	}{
		{example(), steps{step(15, 1)}, steps{step(10, 5), step(15, 6), step(20, 1), step(30, 8)}, api.OK},
		{nil, nil, nil, api.OK}, {example(), nil, example(), api.OK}, {nil, example(), example(), api.OK}, {example(), steps{step(0, 0), step(25, 0)}, example(), api.OK},
		{example(), steps{step(10, -5), step(20, 0), step(30, -7)}, nil, api.OK}, {example(), steps{step(20, 5)}, steps{step(10, 5), step(30, 12)}, api.OK},
		{example(), steps{step(10, 1), step(20, 2), step(30, 3)}, steps{step(10, 6), step(20, 2), step(30, 10)}, api.OK},
		{steps{step(0, 1)}, steps{step(api.MaxTime, 1)}, steps{step(0, 1), step(api.MaxTime, 2)}, api.OK},
		{steps{step(1, most)}, steps{step(2, 1)}, nil, api.ErrRange}, {steps{step(1, most)}, steps{step(2, -1)}, steps{step(1, most), step(2, most-1)}, api.OK},
		{steps{step(1, -most)}, steps{step(2, -1)}, nil, api.ErrRange}, {steps{step(1, -most)}, steps{step(0, 1)}, steps{step(0, 1), step(1, 1-most)}, api.OK},
		{steps{step(1, most)}, steps{step(1, most)}, nil, api.ErrRange}, {steps{step(1, most)}, steps{step(1, -most)}, nil, api.OK}, {steps{step(1, most-1)}, steps{step(1, 1)}, steps{step(1, most)}, api.OK},
		{steps{step(1, 1-most)}, steps{step(1, -1)}, steps{step(1, -most)}, api.OK}, {steps{step(1, most), step(2, 0)}, steps{step(2, 1)}, steps{step(1, most), step(2, 1)}, api.OK},
		{steps{step(0, most), step(api.MaxTime, 0)}, steps{step(api.MaxTime-1, 1)}, nil, api.ErrRange},
		{steps{step(5, 1)}, steps{step(api.MaxTime, most)}, nil, api.ErrRange}, // at MaxTime and later only
	} {
		l, e := series.Add(c.a, c.b)
		same(t, "Add", l, e, c.want, c.e)
		l, e = series.Add(c.b, c.a)
		same(t, "Add", l, e, c.want, c.e)
	}
}

func TestLeastExamples(t *testing.T) {
	for _, c := range []struct{ a, b, want steps }{
		{example(), steps{step(15, 1)}, steps{step(15, 1), step(20, 0), step(30, 1)}},
		{nil, nil, nil}, {example(), nil, nil}, {example(), example(), example()}, {nil, steps{step(3, -2), step(8, 5)}, steps{step(3, -2), step(8, 0)}},
		{steps{step(0, most)}, example(), example()}, {steps{step(0, -most)}, example(), steps{step(0, -most)}}, {steps{step(1, most)}, steps{step(1, most)}, steps{step(1, most)}}, {steps{step(1, -most)}, steps{step(1, -most)}, steps{step(1, -most)}},
		{steps{step(12, 5)}, example(), steps{step(12, 5), step(20, 0), step(30, 5)}},
		{steps{step(1, 4), step(2, 3)}, steps{step(1, 3), step(2, 4)}, steps{step(1, 3)}}, {steps{step(1, 1)}, steps{step(api.MaxTime, 2)}, steps{step(api.MaxTime, 1)}},
	} {
		l, e := series.Least(c.a, c.b)
		same(t, "Least", l, e, c.want, api.OK)
		l, e = series.Least(c.b, c.a)
		same(t, "Least", l, e, c.want, api.OK)
	}
}

// TestOperations compares Add and Least with the values at all times (P4.9).
func TestOperations(t *testing.T) {
	s := source(3)
	all := valids()
	for range 1500 {
		all = append(all, s.random(30))
	}
	for _, o := range operations {
		for i, a := range all {
			for _, b := range []steps{a, all[s.next(len(all))], all[s.next(40)], s.random(10)} {
				l, e := o.apply(a, b)
				want, wantError := o.expected(a, b)
				same(t, o.name, l, e, want, wantError)
				if e == api.OK && !isNormal(l) {
					t.Errorf("%s %d: %v is not normal", o.name, i, l)
				}
			}
		}
	}
}

// falling returns n steps that fall by two every second minute. If one such series begins a minute after another one, each step of both makes the lesser value.
func falling(n, first int) steps {
	l := make(steps, n)
	for i := range l {
		l[i] = step(first+2*i, -first-2*i-1)
	}
	return l
}

// TestOperationLimits checks series that have about MaxSteps steps together.
func TestOperationLimits(t *testing.T) {
	check := func(o operation, a, b steps, n int) {
		t.Helper()
		want, wantError := o.expected(a, b)
		if len(want) != n {
			t.Errorf("%s: expected %d steps, not %d", o.name, len(want), n)
		}
		l, e := o.apply(a, b)
		same(t, o.name, l, e, want, wantError)
		l, e = o.apply(b, a)
		same(t, o.name, l, e, want, wantError)
	}
	add, least := operations[0], operations[1]
	check(add, zigzag(256, 0, 2), zigzag(256, 1, 2), 512)
	check(add, zigzag(256, 0, 2), zigzag(257, 1, 2), 0)
	check(least, falling(256, 0), falling(256, 1), 512)
	check(least, falling(257, 0), falling(256, 1), 0)
	check(least, falling(512, 0), falling(512, 1), 0)
	full := zigzag(512, 10, 2)
	check(add, full, nil, 512)
	check(add, full, steps{step(10, 7)}, 512)
	check(add, full, steps{step(11, 1), step(12, 0)}, 512) // the value 2 begins a minute earlier
	check(add, full, steps{step(9, 1)}, 0)
	check(add, full, steps{step(11, 7)}, 0)
	check(add, full, steps{step(10000, 7)}, 0)
	check(least, full, nil, 0)
	check(least, full, full, 512)
	check(least, full, steps{step(9, 2)}, 512)
	check(least, full, steps{step(9, -1), step(10, 2)}, 0)
	// Of more than 512 times few remain.
	opposite := zigzag(512, 10, 2)
	for i := range opposite {
		opposite[i].Value *= -1
	}
	check(add, full, opposite, 0)
	check(least, zigzag(512, 11, 2), steps{step(0, -3)}, 1)
	check(least, zigzag(512, 0, 2), append(zigzag(511, 1, 2), step(5000, -3)), 512)
}

func TestOperationErrors(t *testing.T) {
	ok := []steps{nil, example(), zigzag(512, 0, 1), {step(0, most)}, {step(1, -most)}}
	for _, o := range operations {
		for _, c := range invalids() {
			for _, b := range ok {
				l, e := o.apply(c.l, b)
				same(t, o.name, l, e, nil, c.e)
				l, e = o.apply(b, c.l)
				same(t, o.name, l, e, nil, c.e)
			}
			for _, d := range invalids() {
				l, e := o.apply(c.l, d.l)
				same(t, o.name, l, e, nil, c.e)
			}
		}
	}
	// A sum out of its range is reported first, even behind the step that exceeds the limit.
	l, e := series.Add(append(zigzag(511, 0, 2), step(api.MaxTime, most)), append(zigzag(511, 1, 2), step(api.MaxTime, 1)))
	same(t, "Add", l, e, nil, api.ErrRange)
	l, e = series.Add(append(zigzag(511, 0, 2), step(api.MaxTime, -most)), append(zigzag(511, 1, 2), step(api.MaxTime, -1)))
	same(t, "Add", l, e, nil, api.ErrRange)
}

// P4.6

func TestClipExamples(t *testing.T) {
	for _, c := range []struct {
		l    steps
		s    api.Span
		want steps
	}{
		{example(), span(12, 31), steps{step(12, 5), step(20, 0), step(30, 7), step(31, 0)}},
		{steps{step(10, 5)}, span(20, 20), nil}, {example(), span(0, 0), nil}, {example(), span(10, 10), nil}, {example(), span(api.MaxTime, api.MaxTime), nil}, {nil, span(0, api.MaxTime), nil},
		{example(), span(0, api.MaxTime), append(example(), step(api.MaxTime, 0))}, {example(), span(0, 10), nil}, {example(), span(0, 11), steps{step(10, 5), step(11, 0)}}, {example(), span(9, 10), nil},
		{example(), span(10, 20), steps{step(10, 5), step(20, 0)}}, {example(), span(10, 21), steps{step(10, 5), step(20, 0)}}, {example(), span(10, 19), steps{step(10, 5), step(19, 0)}}, {example(), span(19, 20), steps{step(19, 5), step(20, 0)}},
		{example(), span(20, 30), nil}, {example(), span(20, 31), steps{step(30, 7), step(31, 0)}}, {example(), span(30, 31), steps{step(30, 7), step(31, 0)}}, {example(), span(100, 101), steps{step(100, 7), step(101, 0)}},
		{example(), span(api.MaxTime-1, api.MaxTime), steps{step(api.MaxTime-1, 7), step(api.MaxTime, 0)}},
		{steps{step(0, 3)}, span(0, 1), steps{step(0, 3), step(1, 0)}}, {steps{step(0, 3), step(1, 4)}, span(0, 1), steps{step(0, 3), step(1, 0)}}, {steps{step(api.MaxTime, 3)}, span(0, api.MaxTime), nil},
		{steps{step(0, -most), step(api.MaxTime, most)}, span(0, api.MaxTime), steps{step(0, -most), step(api.MaxTime, 0)}}, {steps{step(0, most)}, span(5, 9), steps{step(5, most), step(9, 0)}},
		{steps{step(0, 3), step(5, 3)}, span(2, 9), steps{step(2, 3), step(9, 0)}},
	} {
		l, e := series.Clip(c.l, c.s)
		same(t, "Clip", l, e, c.want, api.OK)
	}
}

func TestClip(t *testing.T) {
	s := source(4)
	all := valids()
	for range 1000 {
		all = append(all, s.random(30))
	}
	for _, l := range all {
		ts := []int{0, 1, 10, api.MaxTime - 1, api.MaxTime}
		for _, n := range times(l) {
			ts = append(ts, max(n-1, 0), n, min(n+1, api.MaxTime))
		}
		for range 12 {
			from, to := ts[s.next(len(ts))], ts[s.next(len(ts))]
			from, to = min(from, to), max(from, to)
			want, wantError := made(func(t int) int {
				if t < from || t >= to {
					return 0
				}
				return value(l, t)
			}, append(times(l), from, to)...), api.OK
			if len(want) > 512 {
				want, wantError = nil, api.ErrLimit
			}
			r, e := series.Clip(l, span(from, to))
			same(t, "Clip", r, e, want, wantError)
			if e == api.OK && !isNormal(r) {
				t.Errorf("Clip: %v is not normal", r)
			}
		}
	}
}

func TestClipLimits(t *testing.T) {
	full := zigzag(512, 10, 2)
	last := full[511].At
	l, e := series.Clip(full, span(0, last))
	same(t, "Clip", l, e, append(zigzag(511, 10, 2), step(last, 0)), api.OK)
	l, e = series.Clip(full, span(11, last+1))
	want := append(zigzag(512, 10, 2), step(last+1, 0))
	want[0].At = 11
	same(t, "Clip", l, e, nil, api.ErrLimit)
	l, e = series.Clip(full, span(12, last+1))
	same(t, "Clip", l, e, want[1:], api.OK)
	for _, s := range []api.Span{span(0, last+1), span(10, last+1), span(11, api.MaxTime), span(0, api.MaxTime)} {
		l, e = series.Clip(full, s)
		same(t, "Clip", l, e, nil, api.ErrLimit)
	}
	l, e = series.Clip(append(full[:511:511], step(last, 0)), span(0, api.MaxTime))
	same(t, "Clip", l, e, append(full[:511:511], step(last, 0)), api.OK)
}

func TestSpanErrors(t *testing.T) {
	for _, s := range badSpans {
		for _, l := range valids() {
			r, e := series.Clip(l, s)
			same(t, "Clip", r, e, nil, api.ErrRange)
			if n, e := series.Energy(l, s); n != 0 || e != api.ErrRange {
				t.Errorf("Energy(%v, %v): %d, %d", l, s, n, e)
			}
		}
	}
	for _, s := range append(badSpans, span(0, 0), span(3, 20), span(0, api.MaxTime)) {
		for _, c := range invalids() {
			r, e := series.Clip(c.l, s)
			same(t, "Clip", r, e, nil, c.e)
			if n, e := series.Energy(c.l, s); n != 0 || e != c.e {
				t.Errorf("Energy(%v, %v): %d, %d, not %d", c.l, s, n, e, c.e)
			}
		}
	}
}

// P4.7

func TestShiftExamples(t *testing.T) {
	for _, c := range []struct {
		l    steps
		by   int
		want steps
		e    api.Errno
	}{
		{example(), -10, steps{step(0, 5), step(10, 0), step(20, 7)}, api.OK}, {example(), -11, nil, api.ErrRange}, {example(), 0, example(), api.OK}, {example(), 1, steps{step(11, 5), step(21, 0), step(31, 7)}, api.OK},
		{example(), api.MaxTime - 30, steps{step(api.MaxTime-20, 5), step(api.MaxTime-10, 0), step(api.MaxTime, 7)}, api.OK}, {example(), api.MaxTime - 29, nil, api.ErrRange}, {example(), api.MaxTime, nil, api.ErrRange},
		{nil, 5, nil, api.OK}, {nil, math.MinInt, nil, api.OK}, {nil, math.MaxInt, nil, api.OK},
		{steps{step(0, 1)}, api.MaxTime, steps{step(api.MaxTime, 1)}, api.OK}, {steps{step(0, 1)}, api.MaxTime + 1, nil, api.ErrRange}, {steps{step(0, 1)}, -1, nil, api.ErrRange},
		{steps{step(api.MaxTime, 1)}, -api.MaxTime, steps{step(0, 1)}, api.OK}, {steps{step(api.MaxTime, 1)}, -api.MaxTime - 1, nil, api.ErrRange}, {steps{step(api.MaxTime, 1)}, 1, nil, api.ErrRange}, {steps{step(api.MaxTime, 1)}, 0, steps{step(api.MaxTime, 1)}, api.OK},
		// steps that change nothing are moved, too
		{steps{step(0, 0), step(10, 5)}, -1, nil, api.ErrRange}, {steps{step(0, 0), step(10, 5)}, 1, steps{step(11, 5)}, api.OK}, {steps{step(10, 5), step(20, 5)}, api.MaxTime - 10, nil, api.ErrRange}, {steps{step(5, 0)}, -6, nil, api.ErrRange},
		{steps{step(0, 0), step(10, 5), step(15, 5), step(20, 0)}, 7, steps{step(17, 5), step(27, 0)}, api.OK}, {steps{step(9, 0)}, 7, nil, api.OK},
		{zigzag(512, 0, 1), 5, zigzag(512, 5, 1), api.OK}, {zigzag(512, 0, 1), api.MaxTime - 511, zigzag(512, api.MaxTime-511, 1), api.OK}, {zigzag(512, 0, 1), api.MaxTime - 510, nil, api.ErrRange}, {make512(), 3, nil, api.OK},
	} {
		l, e := series.Shift(c.l, c.by)
		same(t, "Shift", l, e, c.want, c.e)
	}
}

func TestShiftErrors(t *testing.T) {
	bys := []int{math.MinInt, math.MinInt + 1, math.MinInt + 30, -1 << 32, 1 << 32, math.MaxInt - 30, math.MaxInt - 1, math.MaxInt}
	for _, by := range bys {
		for _, l := range valids() {
			want := api.ErrRange
			if len(l) == 0 {
				want = api.OK
			}
			r, e := series.Shift(l, by)
			same(t, "Shift", r, e, nil, want)
		}
	}
	for _, by := range append(bys, -1, 0, 1, -api.MaxTime, api.MaxTime) {
		for _, c := range invalids() {
			r, e := series.Shift(c.l, by)
			same(t, "Shift", r, e, nil, c.e)
		}
	}
}

// TestShift compares the values with those of minutes before (P4.9).
func TestShift(t *testing.T) {
	s := source(5)
	for range 3000 {
		l := s.random(30)
		by := []int{s.next(10) - 5, s.next(400) - 200, s.next(2*api.MaxTime) - api.MaxTime}[s.next(3)]
		if len(l) > 0 {
			by = []int{by, -l[0].At, api.MaxTime - l[len(l)-1].At, -l[0].At - 1, api.MaxTime - l[len(l)-1].At + 1}[s.next(5)]
		}
		var moved []int
		wantError := api.OK
		for _, n := range times(l) {
			moved = append(moved, n+by)
			if n+by < 0 || n+by > api.MaxTime {
				wantError = api.ErrRange
			}
		}
		want := made(func(t int) int { return value(l, t-by) }, moved...)
		if wantError != api.OK {
			want = nil
		}
		r, e := series.Shift(l, by)
		same(t, "Shift", r, e, want, wantError)
		if e == api.OK && !isNormal(r) {
			t.Errorf("Shift: %v is not normal", r)
		}
	}
}

// P4.8

// energy sums the values from a change to the next one exactly.
func energy(l steps, s api.Span) *big.Int {
	ts := append(times(l), s.From, s.To)
	slices.Sort(ts)
	sum := new(big.Int)
	for i, t := range ts {
		if t >= s.From && t < s.To {
			part := new(big.Int).Mul(big.NewInt(int64(value(l, t))), big.NewInt(int64(ts[i+1]-t)))
			sum.Add(sum, part)
		}
	}
	return sum
}

func isEnergy(t *testing.T, l steps, s api.Span, want int, wantError api.Errno) {
	if n, e := series.Energy(l, s); n != want || e != wantError {
		t.Helper()
		t.Errorf("Energy(%v, %v): %d, %d, not %d, %d", l, s, n, e, want, wantError)
	}
}

// isEnergyOf compares with the exact sum.
func isEnergyOf(t *testing.T, l steps, s api.Span) {
	sum := energy(l, s)
	want, wantError := 0, api.ErrOverflow
	if sum.IsInt64() {
		want, wantError = int(sum.Int64()), api.OK
	}
	if n, e := series.Energy(l, s); n != want || e != wantError {
		t.Helper()
		t.Errorf("Energy(%v, %v): %d, %d, not %d, %d", l, s, n, e, want, wantError)
	}
}

func TestEnergyExamples(t *testing.T) {
	const half = 1 << 23 // minutes that have the energy 2^63 at the greatest value
	for _, c := range []struct {
		l    steps
		s    api.Span
		want int
		e    api.Errno
	}{
		{example(), span(12, 32), 54, api.OK}, {example(), span(0, 10), 0, api.OK}, {example(), span(0, 11), 5, api.OK}, {example(), span(10, 20), 50, api.OK}, {example(), span(9, 21), 50, api.OK}, {example(), span(20, 30), 0, api.OK}, {example(), span(29, 31), 7, api.OK},
		{example(), span(100, 200), 700, api.OK}, {example(), span(15, 15), 0, api.OK}, {example(), span(0, 0), 0, api.OK}, {example(), span(api.MaxTime, api.MaxTime), 0, api.OK}, {example(), span(0, api.MaxTime), 50 + 7*(api.MaxTime-30), api.OK},
		{nil, span(0, api.MaxTime), 0, api.OK}, {steps{step(api.MaxTime, 5)}, span(0, api.MaxTime), 0, api.OK}, {steps{step(api.MaxTime-1, 5)}, span(0, api.MaxTime), 5, api.OK}, {steps{step(0, -3), step(4, 2)}, span(0, 5), -10, api.OK}, {steps{step(0, -1)}, span(7, 8), -1, api.OK},
		{steps{step(0, most)}, span(0, half), 0, api.ErrOverflow}, {steps{step(0, most)}, span(0, half-1), math.MaxInt - most + 1, api.OK}, {steps{step(0, most)}, span(api.MaxTime-half, api.MaxTime), 0, api.ErrOverflow}, {steps{step(0, most)}, span(1, half), math.MaxInt - most + 1, api.OK},
		{steps{step(0, most), step(half-1, most-1)}, span(0, half), math.MaxInt, api.OK}, {steps{step(0, most), step(half-1, most-1)}, span(0, half+1), 0, api.ErrOverflow}, {steps{step(0, most), step(half, -1)}, span(0, half+1), math.MaxInt, api.OK}, {steps{step(0, most), step(half, -1)}, span(0, half), 0, api.ErrOverflow},
		{steps{step(0, -most)}, span(0, half), math.MinInt, api.OK}, {steps{step(0, -most)}, span(0, half+1), 0, api.ErrOverflow}, {steps{step(0, -most), step(half, -1)}, span(0, half+1), 0, api.ErrOverflow}, {steps{step(0, -most), step(half+1, most)}, span(0, half+2), math.MinInt, api.OK}, {steps{step(0, -most), step(half+1, most-1)}, span(0, half+2), 0, api.ErrOverflow},
		// the first parts overflow, but the whole does not
		{steps{step(0, most), step(4*half, -most)}, span(0, 8*half), 0, api.OK}, {steps{step(0, -most), step(4*half, most)}, span(0, 8*half), 0, api.OK}, {steps{step(0, most), step(2*half, -most)}, span(0, 3*half+1), math.MaxInt - most + 1, api.OK}, {steps{step(0, -most), step(2*half, most)}, span(0, 3*half), math.MinInt, api.OK},
		{steps{step(0, most)}, span(0, api.MaxTime), 0, api.ErrOverflow}, {steps{step(0, -most)}, span(0, api.MaxTime), 0, api.ErrOverflow}, {steps{step(0, most)}, span(0, 2*half), 0, api.ErrOverflow}, {steps{step(0, -most)}, span(0, 2*half), 0, api.ErrOverflow}, {steps{step(0, most), step(2*half, 1)}, span(0, 2*half+5), 0, api.ErrOverflow},
	} {
		isEnergy(t, c.l, c.s, c.want, c.e)
	}
}

func TestEnergy(t *testing.T) {
	s := source(6)
	all := valids()
	for range 3000 {
		all = append(all, s.random(30))
	}
	for _, l := range all {
		ts := []int{0, 1, 12, 1 << 23, s.next(api.MaxTime), api.MaxTime - 1, api.MaxTime}
		for _, n := range times(l) {
			ts = append(ts, max(n-1, 0), n, min(n+1, api.MaxTime))
		}
		for range 5 {
			from, to := ts[s.next(len(ts))], ts[s.next(len(ts))]
			isEnergyOf(t, l, span(min(from, to), max(from, to)))
		}
	}
}

// TestEnergyMinutes adds up the minutes one by one.
func TestEnergyMinutes(t *testing.T) {
	s := source(7)
	for range 500 {
		l := s.random(20)
		from, sum := s.next(50), 0
		for to := from; to < from+60; to++ {
			isEnergy(t, l, span(from, to), sum, api.OK)
			sum += value(l, to)
		}
	}
}

// P4.10

func TestEnergyIsAdditive(t *testing.T) {
	s := source(8)
	for range 3000 {
		l, m := s.random(20), s.random(20)
		ts := []int{s.next(api.MaxTime), s.next(1000), s.next(1000)}
		slices.Sort(ts)
		all, e := series.Energy(l, span(ts[0], ts[2]))
		first, f := series.Energy(l, span(ts[0], ts[1]))
		second, g := series.Energy(l, span(ts[1], ts[2]))
		if e == api.OK && f == api.OK && g == api.OK && all != first+second {
			t.Errorf("Energy(%v, %v): %d, but %d and %d", l, ts, all, first, second)
		}
		both, h := series.Add(l, m)
		other, f := series.Energy(m, span(ts[0], ts[2]))
		sum, g := series.Energy(both, span(ts[0], ts[2]))
		if h == api.OK && e == api.OK && f == api.OK && g == api.OK && sum != all+other {
			t.Errorf("Energy of the sum of %v and %v, %v: %d, but %d and %d", l, m, ts, sum, all, other)
		}
	}
}

// TestMemory checks R5: no argument changes, not even behind its end, and no result shares memory with it or with another one.
func TestMemory(t *testing.T) {
	all := append(example(), step(40, 8), step(50, 9))
	other := steps{step(15, 1), step(60, 2)}
	a, b := all[:3], other[:1]
	results := func() []steps {
		add, _ := series.Add(a, b)
		added, _ := series.Add(b, a)
		alone, _ := series.Add(a, nil)
		least, _ := series.Least(a, b)
		same, _ := series.Least(a, a)
		clip, _ := series.Clip(a, span(0, api.MaxTime))
		shift, _ := series.Shift(a, 0)
		return []steps{series.Normal(a), add, added, alone, least, same, clip, shift}
	}
	first := results()
	for i, l := range first {
		l = l[:cap(l)]
		for k := range l {
			l[k] = step(-1, i)
		}
	}
	for i, l := range first {
		for _, s := range l {
			if s != step(-1, i) {
				t.Error("result", i, "shares memory with another one")
			}
		}
	}
	series.Valid(a)
	series.At(a, 12)
	series.Energy(a, span(0, 100))
	if !slices.Equal(all, append(example(), step(40, 8), step(50, 9))) || !slices.Equal(other, steps{step(15, 1), step(60, 2)}) {
		t.Error("an argument was changed:", all, other)
	}
}

// TestAnyLists checks R1: At and Normal return for lists that are not valid, too.
func TestAnyLists(t *testing.T) {
	for _, c := range invalids() {
		for _, n := range []int{math.MinInt, -1, 0, 5, api.MaxTime, math.MaxInt} {
			series.At(c.l, n)
		}
		series.Normal(c.l)
	}
}
