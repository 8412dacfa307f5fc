package fair_test

import (
	"math"
	"slices"
	"testing"

	"chargenet/api"
	"chargenet/fair"
)

const most = 1 << 40 // the greatest cap

// source is a sequence of numbers that are the same in every run.
type source uint64

func (s *source) next(n int) int {
	*s = *s*6364136223846793005 + 1442695040888963407
	return int(uint64(*s) >> 33 % uint64(n))
}

// list returns n numbers that are less than end.
func (s *source) list(n, end int) []int {
	l := make([]int, n)
	for i := range l {
		l[i] = s.next(end)
	}
	return l
}

// vector is a function that decides which vectors are possible.
type vector = func(l []int) bool

func sum(l []int) int {
	total := 0
	for _, n := range l {
		total += n
	}
	return total
}

// under reports whether no element of l is greater than that of limits.
func under(l, limits []int) bool {
	for i, n := range l {
		if n > limits[i] {
			return false
		}
	}
	return true
}

func always([]int) bool { return true }

func never([]int) bool { return false }

// total lets the vectors fit whose sum is at most n.
func total(n int) vector {
	return func(l []int) bool { return sum(l) <= n }
}

// weighted lets the vectors fit whose weighted sum is at most n.
func weighted(n int, weights ...int) vector {
	return func(l []int) bool {
		all := 0
		for i, m := range l {
			all += m * weights[i]
		}
		return all <= n
	}
}

// below lets the vectors fit that are under one of some limits. Every set of vectors that a monotone function lets fit can be given like this.
func below(limits ...[]int) vector {
	return func(l []int) bool {
		return slices.ContainsFunc(limits, func(m []int) bool { return under(l, m) })
	}
}

// both lets the vectors fit that fit everywhere.
func both(all ...vector) vector {
	return func(l []int) bool {
		return !slices.ContainsFunc(all, func(f vector) bool { return !f(l) })
	}
}

// tree lets the vectors fit whose sums from some receiver to another one are limited.
func (s *source) tree(n, end int) vector {
	all := []vector{total(s.next(end*n + 1))}
	for range s.next(2*n + 1) {
		a, b := s.next(n+1), s.next(n+1)
		a, b = min(a, b), max(a, b)
		limit := s.next((b-a)*end + 1)
		all = append(all, func(l []int) bool { return sum(l[a:b]) <= limit })
	}
	return both(all...)
}

// monotone returns a monotone function of vectors of n elements. The vector of zeros fits.
func (s *source) monotone(n, end int) vector {
	switch s.next(6) {
	case 0:
		return total(s.next(end*n + 1))
	case 1:
		return weighted(s.next(3*end*n+1), s.list(n, 5)...)
	case 2:
		return s.tree(n, end)
	case 3:
		return both(below(s.list(n, end), s.list(n, end)), s.tree(n, end))
	case 4:
		return always
	}
	var limits [][]int
	for range 1 + s.next(6) {
		limits = append(limits, s.list(n, end))
	}
	return below(limits...)
}

// stepped takes the steps of P10.1 one by one; d is looked for from 0 on.
func stepped(caps []int, fits vector) []int {
	x := make([]int, len(caps))
	if !fits(x) {
		return x
	}
	active := slices.Repeat([]bool{true}, len(caps))
	raised := func(d int) []int {
		l := slices.Clone(x)
		for i := range l {
			if active[i] {
				l[i] = min(l[i]+d, caps[i])
			}
		}
		return l
	}
	for slices.Contains(active, true) {
		d := 0
		for fits(raised(d+1)) && !slices.Equal(raised(d+1), raised(d)) {
			d++
		}
		x = raised(d)
		for i := range x {
			if !active[i] {
				continue
			}
			more := slices.Clone(x)
			more[i]++
			if x[i] == caps[i] || !fits(more) {
				active[i] = false
			} else {
				x = more
			}
		}
	}
	return x
}

// shared is what P10.2 says, with m looked for from 0 on.
func shared(all int, caps []int) []int {
	if sum(caps) <= all {
		return slices.Clone(caps)
	}
	given := func(m int) []int {
		l := slices.Clone(caps)
		for i, c := range caps {
			l[i] = min(m, c)
		}
		return l
	}
	m := 0
	for sum(given(m+1)) <= all {
		m++
	}
	x := given(m)
	r := all - sum(x)
	for i, c := range caps {
		if c > m && r > 0 {
			x[i]++
			r--
		}
	}
	return x
}

// fill returns what Fill returns, after it has looked at what fits is called with.
func fill(t *testing.T, caps []int, fits vector) []int {
	t.Helper()
	x, e := fair.Fill(caps, func(l []int) bool {
		if len(l) != len(caps) || !under(l, caps) || slices.ContainsFunc(l, func(n int) bool { return n < 0 }) {
			t.Fatalf("Fill(%v) asks whether %v fits", caps, l)
		}
		return fits(l)
	})
	if e != api.OK || len(x) != len(caps) {
		t.Fatalf("Fill(%v): %v, error %d", caps, x, e)
	}
	return x
}

func isFilled(t *testing.T, caps []int, fits vector, want ...int) {
	t.Helper()
	if got := fill(t, caps, fits); !slices.Equal(got, want) {
		t.Fatalf("Fill(%v): %v, not %v", caps, got, want)
	}
}

func isShared(t *testing.T, all int, caps []int, want ...int) {
	t.Helper()
	if got, e := fair.Share(all, caps); e != api.OK || !slices.Equal(got, want) {
		t.Fatalf("Share(%d, %v): %v, %d, not %v", all, caps, got, e, want)
	}
}

// same returns n equal numbers.
func same(n, value int) []int {
	return slices.Repeat([]int{value}, n)
}

// faulty are caps with the error of Fill and Share.
type faulty struct {
	caps []int
	e    api.Errno
}

// faults returns caps that are not valid for one reason or for several.
func faults() []faulty {
	l := []faulty{{same(65, 0), api.ErrLimit}, {same(65, 5), api.ErrLimit}, {same(66, most), api.ErrLimit}, {same(1000, 1), api.ErrLimit}, {same(65, -1), api.ErrLimit}, {same(65, most+1), api.ErrLimit}, {same(64, -1), api.ErrRange}, {same(64, most+1), api.ErrRange}}
	for _, c := range []int{math.MinInt, -most, -2, -1, most + 1, 1 << 41, math.MaxInt} {
		l = append(l, faulty{[]int{c}, api.ErrRange}, faulty{[]int{c, 5}, api.ErrRange}, faulty{[]int{5, c}, api.ErrRange}, faulty{append(same(63, 5), c), api.ErrRange}, faulty{append(same(64, 5), c), api.ErrLimit})
	}
	return l
}

// P10.1

func TestFillExamples(t *testing.T) {
	isFilled(t, []int{10, 10, 3}, total(16), 7, 6, 3)
	isFilled(t, []int{5, 5}, both(total(6), below([]int{2, 9})), 2, 4)
	isFilled(t, nil, always)
	isFilled(t, []int{}, never)
	isFilled(t, []int{0}, always, 0)
	isFilled(t, []int{1}, always, 1)
	isFilled(t, []int{1}, total(0), 0)
	isFilled(t, []int{3, 3}, total(5), 3, 2)
	isFilled(t, []int{3, 0, 3}, total(5), 3, 0, 2)
	isFilled(t, []int{9, 9}, weighted(9, 2, 1), 3, 3)
	isFilled(t, []int{9, 9}, weighted(10, 2, 1), 3, 4)
	isFilled(t, []int{9, 9}, weighted(10, 1, 2), 4, 3)
	// An element that was raised alone is raised together with the others later.
	isFilled(t, []int{9, 9, 9}, below([]int{4, 1, 9}), 4, 1, 9)
	isFilled(t, []int{9, 9, 9}, both(below([]int{9, 1, 9}), total(14)), 7, 1, 6)
	// The first vector under which all elements have room decides, not the one with the greatest sum.
	isFilled(t, []int{9, 9}, below([]int{2, 2}, []int{9, 1}), 2, 2)
	isFilled(t, []int{9, 9}, below([]int{3, 2}, []int{2, 9}), 3, 2)
	isFilled(t, []int{9, 9}, below([]int{2, 9}, []int{1, 9}), 2, 9)
}

func TestFillErrors(t *testing.T) {
	for _, caps := range [][]int{nil, {1, 2}, same(64, 1)} {
		if x, e := fair.Fill(caps, nil); len(x) != 0 || e != api.ErrInvalid {
			t.Errorf("Fill(%v, nil): %v, %d", caps, x, e)
		}
	}
	for _, f := range faults() {
		if x, e := fair.Fill(f.caps, nil); len(x) != 0 || e != api.ErrInvalid {
			t.Errorf("Fill(%v, nil): %v, %d", f.caps, x, e)
		}
		for _, fits := range []vector{always, never, total(5)} {
			if x, e := fair.Fill(f.caps, fits); len(x) != 0 || e != f.e {
				t.Errorf("Fill(%v): %v, %d, not %d", f.caps, x, e, f.e)
			}
		}
	}
}

func TestZerosDoNotFit(t *testing.T) {
	for _, caps := range [][]int{nil, {0}, {5}, {5, 0, 7}, same(64, most)} {
		isFilled(t, caps, never, same(len(caps), 0)...)
		// Only the vector of zeros does not fit, so that the function is not monotone.
		isFilled(t, caps, func(l []int) bool { return sum(l) > 0 }, same(len(caps), 0)...)
	}
}

func TestFillAlways(t *testing.T) {
	for _, caps := range [][]int{{0}, {1}, {most}, {most, 0, 1, most - 1}, same(64, most), same(64, 0), same(63, 1)} {
		isFilled(t, caps, always, caps...)
	}
	s := source(1)
	for range 100 {
		caps := s.list(s.next(65), 1<<31)
		isFilled(t, caps, always, caps...)
	}
}

func TestFillSteps(t *testing.T) {
	s := source(2)
	for range 20000 {
		n := s.next(7)
		caps := s.list(n, 12)
		fits := s.monotone(n, 12)
		isFilled(t, caps, fits, stepped(caps, fits)...)
	}
	for range 300 {
		n := 1 + s.next(64)
		caps := s.list(n, 30)
		fits := s.monotone(n, 30)
		isFilled(t, caps, fits, stepped(caps, fits)...)
	}
}

// TestFillGreatNumbers has limits near the greatest cap: each receiver's own one, and one for the sum.
func TestFillGreatNumbers(t *testing.T) {
	isFilled(t, []int{most}, total(most-1), most-1)
	isFilled(t, []int{most}, total(most), most)
	isFilled(t, []int{most, most}, total(2*most-1), most, most-1)
	isFilled(t, []int{most, 1, most}, total(most), most/2, 1, most/2-1)
	isFilled(t, []int{most, most, most}, both(total(2*most), below([]int{most, 5, most - 4})), most-1, 5, most-4)
	limits := make([]int, 64)
	for i := range limits {
		limits[i] = most - (i*37%64)*(1<<33)
	}
	isFilled(t, same(64, most), below(limits), limits...)
	isFilled(t, limits, always, limits...)
}

// TestNotMonotone has functions for which nothing is promised but an end.
func TestNotMonotone(t *testing.T) {
	s := source(3)
	for range 3000 {
		n := s.next(65)
		caps := s.list(n, []int{2, 20, 1 << 31}[s.next(3)])
		salt := s.next(1 << 30)
		x, e := fair.Fill(caps, func(l []int) bool {
			h := source(salt)
			for _, n := range l {
				h += source(n)
				h.next(2)
			}
			return sum(l) == 0 || h.next(1+salt%5) > 0
		})
		if e != api.OK || len(x) != n || !under(x, caps) {
			t.Fatalf("Fill(%v): %v, %d", caps, x, e)
		}
	}
	x, e := fair.Fill(same(64, most), func(l []int) bool { return sum(l)%2 == 0 })
	if e != api.OK || len(x) != 64 {
		t.Errorf("Fill with even sums: %v, %d", x, e)
	}
}

// P10.2

func TestShareExamples(t *testing.T) {
	isShared(t, 16, []int{10, 10, 3}, 7, 6, 3)
	isShared(t, 100, []int{10, 10, 3}, 10, 10, 3)
	isShared(t, 23, []int{10, 10, 3}, 10, 10, 3)
	isShared(t, 22, []int{10, 10, 3}, 10, 9, 3)
	isShared(t, 24, []int{10, 10, 3}, 10, 10, 3)
	isShared(t, 8, []int{10, 10, 3}, 3, 3, 2)
	isShared(t, 11, []int{3, 10, 10}, 3, 4, 4)
	isShared(t, 10, []int{3, 10, 10}, 3, 4, 3)
	isShared(t, 0, []int{10, 10, 3}, 0, 0, 0)
	isShared(t, 2, []int{0, 10, 0, 10, 3}, 0, 1, 0, 1, 0)
	isShared(t, 1, []int{0, 0, 5, 5}, 0, 0, 1, 0)
	isShared(t, 0, nil)
	isShared(t, 5, []int{})
	isShared(t, 0, []int{0, 0}, 0, 0)
	isShared(t, 0, []int{5}, 0)
	isShared(t, 3, []int{5}, 3)
}

func TestShareErrors(t *testing.T) {
	for _, f := range faults() {
		for _, all := range []int{0, 1, most, math.MaxInt} {
			if x, e := fair.Share(all, f.caps); len(x) != 0 || e != f.e {
				t.Errorf("Share(%d, %v): %v, %d, not %d", all, f.caps, x, e, f.e)
			}
		}
		for _, all := range []int{-1, -2, -most, math.MinInt} {
			if x, e := fair.Share(all, f.caps); len(x) != 0 || e != api.ErrRange {
				t.Errorf("Share(%d, %v): %v, %d", all, f.caps, x, e)
			}
		}
	}
	for _, all := range []int{-1, -2, -most, math.MinInt} {
		for _, caps := range [][]int{nil, {0}, {1, 2}, same(64, most)} {
			if x, e := fair.Share(all, caps); len(x) != 0 || e != api.ErrRange {
				t.Errorf("Share(%d, %v): %v, %d", all, caps, x, e)
			}
		}
	}
}

func TestShare(t *testing.T) {
	s := source(4)
	for range 3000 {
		caps := s.list(s.next(9), 1+s.next(20))
		for all := range sum(caps) + 3 {
			isShared(t, all, caps, shared(all, caps)...)
		}
		isShared(t, math.MaxInt, caps, caps...)
	}
	for range 300 {
		caps := s.list(64-s.next(3), 1+s.next(200))
		for _, all := range []int{0, 1, sum(caps) / 2, s.next(sum(caps) + 1), max(0, sum(caps)-1), sum(caps), sum(caps) + 1, math.MaxInt} {
			isShared(t, all, caps, shared(all, caps)...)
		}
	}
}

func TestShareGreatNumbers(t *testing.T) {
	isShared(t, math.MaxInt, same(64, most), same(64, most)...)
	isShared(t, 64*most, same(64, most), same(64, most)...)
	isShared(t, 64*most+1, same(64, most), same(64, most)...)
	isShared(t, 64*most-1, same(64, most), append(same(63, most), most-1)...)
	isShared(t, most, same(64, most), same(64, most/64)...)
	isShared(t, most+3, same(64, most), append(same(3, most/64+1), same(61, most/64)...)...)
	isShared(t, most, []int{most, 0, most}, most/2, 0, most/2)
	isShared(t, most-1, []int{most}, most-1)
	isShared(t, most, []int{most}, most)
	isShared(t, most+1, []int{most}, most)
	isShared(t, math.MaxInt, nil)
}

// P10.3

// compared is what P10.3 says.
func compared(a, b []int) int {
	a, b = ascending(a), ascending(b)
	for i := range min(len(a), len(b)) {
		if a[i] < b[i] {
			return -1
		}
		if a[i] > b[i] {
			return 1
		}
	}
	switch {
	case len(a) < len(b):
		return -1
	case len(a) > len(b):
		return 1
	}
	return 0
}

// ascending inserts each element before those that are greater.
func ascending(l []int) []int {
	var r []int
	for _, n := range l {
		i := 0
		for i < len(r) && r[i] <= n {
			i++
		}
		r = slices.Insert(r, i, n)
	}
	return r
}

func isCompared(t *testing.T, a, b []int, want int) {
	t.Helper()
	if got := fair.Compare(a, b); got != want {
		t.Fatalf("Compare(%v, %v): %d, not %d", a, b, got, want)
	}
	if got := fair.Compare(b, a); got != -want {
		t.Fatalf("Compare(%v, %v): %d, not %d", b, a, got, -want)
	}
}

func TestCompareExamples(t *testing.T) {
	isCompared(t, []int{7, 6, 3}, []int{8, 5, 3}, 1)
	isCompared(t, []int{7, 6, 3}, []int{3, 7, 6}, 0)
	isCompared(t, nil, nil, 0)
	isCompared(t, nil, []int{}, 0)
	isCompared(t, nil, []int{math.MinInt}, -1)
	isCompared(t, []int{5}, []int{5, 6}, -1)
	isCompared(t, []int{6}, []int{5, 6}, 1)
	isCompared(t, []int{6, 5}, []int{5}, 1)
	isCompared(t, []int{5, 5}, []int{5, 5, 5}, -1)
	isCompared(t, []int{1, 2, 3}, []int{4, 2}, -1)
	isCompared(t, []int{-1}, []int{0}, -1)
	isCompared(t, []int{-5, 5}, []int{-4, -4}, -1)
	isCompared(t, []int{math.MinInt}, []int{math.MaxInt}, -1)
	isCompared(t, []int{math.MinInt, 0}, []int{math.MinInt + 1, 0}, -1)
	isCompared(t, []int{math.MaxInt, math.MaxInt}, []int{math.MaxInt - 1, math.MaxInt}, 1)
	isCompared(t, []int{math.MaxInt, math.MinInt}, []int{math.MinInt, math.MaxInt}, 0)
	isCompared(t, []int{math.MinInt, math.MinInt}, []int{math.MinInt, math.MaxInt}, -1)
}

func TestCompare(t *testing.T) {
	lists := [][]int{nil}
	for from := 0; len(lists) < 400; from++ {
		for _, n := range []int{math.MinInt, -1, 0, 1, math.MaxInt} {
			lists = append(lists, append(slices.Clone(lists[from]), n))
		}
	}
	for _, a := range lists {
		for _, b := range lists {
			isCompared(t, a, b, compared(a, b))
		}
	}
	s := source(5)
	for range 3000 {
		a := s.list(s.next(100), 1+s.next(10))
		b := slices.Clone(a)
		slices.Reverse(b)
		isCompared(t, a, b, 0)
		for range s.next(4) {
			b = append(b, s.next(10)-1)
		}
		isCompared(t, a, b, compared(a, b))
		if len(b) > 0 {
			b[s.next(len(b))] += s.next(3) - 1
			isCompared(t, a, b, compared(a, b))
		}
	}
}

// P10.4 to P10.6

// isUnwasted requires P10.4 of a result.
func isUnwasted(t *testing.T, caps, x []int, fits vector) {
	t.Helper()
	if !fits(x) || !under(x, caps) {
		t.Fatalf("Fill(%v): %v does not fit, or does not keep the caps", caps, x)
	}
	for i := range x {
		more := slices.Clone(x)
		more[i]++
		if x[i] < caps[i] && fits(more) {
			t.Fatalf("Fill(%v): %v, although %v fits", caps, x, more)
		}
	}
}

// isLeastGreatest requires P10.5 of a result, for d.
func isLeastGreatest(t *testing.T, caps, x []int, fits vector, d int) {
	t.Helper()
	l := slices.Clone(caps)
	for i, c := range caps {
		l[i] = min(d, c)
	}
	if fits(l) && !under(l, x) {
		t.Fatalf("Fill(%v): %v, although %v fits", caps, x, l)
	}
}

// isFair requires P10.6 of a result, for y.
func isFair(t *testing.T, caps, x, y []int, fits vector) {
	t.Helper()
	if !fits(y) || !under(y, caps) {
		return
	}
	for i := range y {
		paid := func(j int) bool { return y[j] < x[j] && y[j] <= x[i] }
		found := false
		for j := range y {
			found = found || paid(j)
		}
		if y[i] > x[i] && !found {
			t.Fatalf("Fill(%v): %v, although %v fits", caps, x, y)
		}
	}
}

// vectors calls f with each vector that keeps the caps.
func vectors(caps []int, f func(y []int)) {
	y := make([]int, len(caps))
	for {
		f(y)
		i := 0
		for i < len(y) && y[i] == caps[i] {
			y[i] = 0
			i++
		}
		if i == len(y) {
			return
		}
		y[i]++
	}
}

func TestAllVectors(t *testing.T) {
	s := source(6)
	for range 3000 {
		n := 1 + s.next(4)
		caps := s.list(n, 7)
		fits := s.monotone(n, 7)
		x := fill(t, caps, fits)
		isUnwasted(t, caps, x, fits)
		for d := range 9 {
			isLeastGreatest(t, caps, x, fits, d)
		}
		vectors(caps, func(y []int) { isFair(t, caps, x, y, fits) })
	}
}

func TestManyReceivers(t *testing.T) {
	s := source(7)
	for range 300 {
		n := 1 + s.next(64)
		end := 2 + s.next(1<<30)
		caps := s.list(n, end)
		fits := s.monotone(n, end)
		x := fill(t, caps, fits)
		isUnwasted(t, caps, x, fits)
		isLeastGreatest(t, caps, x, fits, slices.Min(x)+1)
		for range 50 {
			isLeastGreatest(t, caps, x, fits, s.next(end))
			y := slices.Clone(x)
			for range 1 + s.next(4) {
				y[s.next(n)] = s.next(end)
			}
			isFair(t, caps, x, y, fits)
		}
	}
}

// P10.7

func TestShareIsFill(t *testing.T) {
	s := source(8)
	for range 500 {
		caps := s.list(s.next(65), 1+s.next(1<<31-1)>>s.next(31))
		for i := range caps {
			if s.next(8) == 0 {
				caps[i] = most - s.next(3)
			}
		}
		for _, all := range []int{0, 1, s.next(1 << 31), sum(caps) / (1 + s.next(5)), max(0, sum(caps)-1-s.next(9)), max(0, sum(caps)-1), sum(caps), sum(caps) + 1, math.MaxInt} {
			isShared(t, all, caps, fill(t, caps, total(all))...)
		}
	}
}

// R5, R6: arguments stay as they are, results are new memory, and a call is the same at each time.

// spare returns l with capacity behind it that is filled.
func spare(l []int) []int {
	return append(slices.Clone(l), same(9, 77)...)[:len(l)]
}

func isSpare(t *testing.T, l, before []int) {
	t.Helper()
	if !slices.Equal(l[:len(l)+9], append(slices.Clone(before), same(9, 77)...)) {
		t.Fatalf("an argument was changed: %v, not %v", l[:len(l)+9], before)
	}
}

// isNew requires that f, which is called with caps, leaves them as they were before, and that its results share no memory.
func isNew(t *testing.T, caps, before []int, f func() []int) {
	t.Helper()
	x, again := f(), f()
	isSpare(t, caps, before)
	want := slices.Clone(x)
	clear(x[:cap(x)])
	isSpare(t, caps, before)
	if !slices.Equal(again, want) {
		t.Fatalf("caps %v: %v, and then %v", caps, want, again)
	}
}

func TestMemory(t *testing.T) {
	s := source(9)
	for range 500 {
		n := s.next(65)
		before := s.list(n, 50)
		caps := spare(before)
		for _, fits := range []vector{s.monotone(n, 50), always, never} {
			isNew(t, caps, before, func() []int {
				x, _ := fair.Fill(caps, fits)
				return x
			})
		}
		for _, all := range []int{0, sum(before) / 2, sum(before), math.MaxInt} {
			isNew(t, caps, before, func() []int {
				x, _ := fair.Share(all, caps)
				return x
			})
		}
		other := spare(s.list(s.next(10), 50))
		otherBefore := slices.Clone(other)
		fair.Compare(caps, other)
		isSpare(t, caps, before)
		isSpare(t, other, otherBefore)
	}
}
