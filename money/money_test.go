package money_test

import (
	"math"
	"math/big"
	"regexp"
	"slices"
	"strings"
	"testing"

	"chargenet/api"
	"chargenet/money"
)

// extremes are integers at and near the ends of the ranges that an int and its products have.
var extremes = []int{
	math.MinInt, math.MinInt + 1, math.MinInt + 2, -1 << 62, -1<<62 - 1, -1<<62 + 1, -1<<40 - 1, -1 << 32, -1<<32 - 1, -1000, -7, -3, -2, -1,
	0, 1, 2, 3, 7, 1000, 1<<32 - 1, 1 << 32, 1<<32 + 1, 1<<40 + 1, 1<<62 - 1, 1 << 62, 1<<62 + 1, 3 << 61, math.MaxInt - 2, math.MaxInt - 1, math.MaxInt,
}

var invalidDens = []int{0, -1, -2, -1000, math.MinInt, math.MinInt + 1}

var invalidModes = []int{0, 5, 6, -1, -4, 1 << 32, 1<<32 + 1, math.MinInt, math.MaxInt}

// source is a sequence of numbers that are the same in every run.
type source uint64

func (s *source) next(n int) int {
	*s = *s*6364136223846793005 + 1442695040888963407
	return int(uint64(*s) >> 33 % uint64(n))
}

func large(n int) *big.Int { return big.NewInt(int64(n)) }

// rounded rounds an exact quotient as the table of the modes says it: it compares the integers around it.
func rounded(x *big.Rat, mode int) *big.Int {
	if x.IsInt() {
		return x.Num()
	}
	below := new(big.Int).Div(x.Num(), x.Denom()) // the denominator is positive, so this is the integer below
	above := new(big.Int).Add(below, large(1))
	near, far := below, above // near has the less absolute value
	if x.Sign() < 0 {
		near, far = above, below
	}
	switch mode {
	case 3:
		return near
	case 4:
		return far
	}
	toBelow := new(big.Rat).Sub(x, new(big.Rat).SetInt(below))
	toAbove := new(big.Rat).Sub(new(big.Rat).SetInt(above), x)
	switch c := toBelow.Cmp(toAbove); {
	case c < 0:
		return below
	case c > 0:
		return above
	case mode == 1:
		return far
	case below.Bit(0) == 0:
		return below
	}
	return above
}

func fits(n *big.Int) (int, api.Errno) {
	if !n.IsInt64() {
		return 0, api.ErrOverflow
	}
	return int(n.Int64()), api.OK
}

func isRounded(t *testing.T, num, den, mode, want int) {
	if n, e := money.Round(num, den, mode); n != want || e != api.OK {
		t.Helper()
		t.Errorf("Round(%d, %d, %d): %d, %d, not %d", num, den, mode, n, e, want)
	}
}

// isScaled compares Scale with exact numbers.
func isScaled(t *testing.T, amount, num, den, mode int) {
	product := new(big.Int).Mul(large(amount), large(num))
	want, wantError := fits(rounded(new(big.Rat).SetFrac(product, large(den)), mode))
	if n, e := money.Scale(amount, num, den, mode); n != want || e != wantError {
		t.Helper()
		t.Errorf("Scale(%d, %d, %d, %d): %d, %d, not %d, %d", amount, num, den, mode, n, e, want, wantError)
	}
}

// P3.1

func TestRoundExamples(t *testing.T) {
	for _, c := range []struct {
		num, den int
		want     [4]int
	}{
		{5, 2, [4]int{3, 2, 2, 3}}, {-5, 2, [4]int{-3, -2, -2, -3}},
		{7, 2, [4]int{4, 4, 3, 4}}, {-7, 2, [4]int{-4, -4, -3, -4}},
		{7, 3, [4]int{2, 2, 2, 3}}, {-7, 3, [4]int{-2, -2, -2, -3}},
		{8, 3, [4]int{3, 3, 2, 3}}, {-8, 3, [4]int{-3, -3, -2, -3}},
		{0, 7, [4]int{0, 0, 0, 0}}, {14, 7, [4]int{2, 2, 2, 2}}, {-14, 7, [4]int{-2, -2, -2, -2}},
		{1, 2, [4]int{1, 0, 0, 1}}, {-1, 2, [4]int{-1, 0, 0, -1}}, {3, 2, [4]int{2, 2, 1, 2}}, {-3, 2, [4]int{-2, -2, -1, -2}},
		{1, 1000, [4]int{0, 0, 0, 1}}, {-1, 1000, [4]int{0, 0, 0, -1}}, {499, 1000, [4]int{0, 0, 0, 1}}, {501, 1000, [4]int{1, 1, 0, 1}},
		{500, 1000, [4]int{1, 0, 0, 1}}, {1500, 1000, [4]int{2, 2, 1, 2}}, {-2500, 1000, [4]int{-3, -2, -2, -3}},
		{math.MaxInt, 1, [4]int{math.MaxInt, math.MaxInt, math.MaxInt, math.MaxInt}},
		{math.MinInt, 1, [4]int{math.MinInt, math.MinInt, math.MinInt, math.MinInt}},
		{math.MaxInt, 2, [4]int{1 << 62, 1 << 62, 1<<62 - 1, 1 << 62}}, {math.MinInt, 2, [4]int{-1 << 62, -1 << 62, -1 << 62, -1 << 62}},
		{math.MaxInt, math.MaxInt, [4]int{1, 1, 1, 1}}, {math.MinInt, math.MaxInt, [4]int{-1, -1, -1, -2}},
		{math.MaxInt - 1, math.MaxInt, [4]int{1, 1, 0, 1}}, {1, math.MaxInt, [4]int{0, 0, 0, 1}}, {-1, math.MaxInt, [4]int{0, 0, 0, -1}},
		{1 << 62, math.MaxInt, [4]int{1, 1, 0, 1}}, {1<<62 - 1, math.MaxInt, [4]int{0, 0, 0, 1}}, {1 << 61, 1 << 62, [4]int{1, 0, 0, 1}},
	} {
		for mode := 1; mode <= 4; mode++ {
			isRounded(t, c.num, c.den, mode, c.want[mode-1])
		}
	}
}

// TestRoundSmall compares all quotients of small numbers with the definition.
func TestRoundSmall(t *testing.T) {
	for den := 1; den <= 13; den++ {
		for num := -60; num <= 60; num++ {
			for mode := 1; mode <= 4; mode++ {
				want := rounded(big.NewRat(int64(num), int64(den)), mode)
				isRounded(t, num, den, mode, int(want.Int64()))
			}
		}
	}
}

func TestRoundExtremes(t *testing.T) {
	for _, num := range extremes {
		for _, den := range extremes {
			if den < 1 {
				continue
			}
			for mode := 1; mode <= 4; mode++ {
				want := rounded(new(big.Rat).SetFrac(large(num), large(den)), mode)
				isRounded(t, num, den, mode, int(want.Int64()))
			}
		}
	}
}

func TestRoundErrors(t *testing.T) {
	for _, num := range extremes {
		for _, den := range invalidDens {
			for _, mode := range append([]int{1, 2, 3, 4}, invalidModes...) {
				if n, e := money.Round(num, den, mode); n != 0 || e != api.ErrInvalid {
					t.Errorf("Round(%d, %d, %d): %d, %d", num, den, mode, n, e)
				}
			}
		}
		for _, mode := range invalidModes {
			for _, den := range []int{1, 2, math.MaxInt} {
				if n, e := money.Round(num, den, mode); n != 0 || e != api.ErrRange {
					t.Errorf("Round(%d, %d, %d): %d, %d", num, den, mode, n, e)
				}
			}
		}
	}
}

// P3.2

func TestScaleExamples(t *testing.T) {
	for _, c := range []struct {
		amount, num, den, mode, want int
		e                            api.Errno
	}{
		{10, 1, 4, 1, 3, api.OK}, {10, 1, 4, 2, 2, api.OK}, {10, 1, 4, 3, 2, api.OK}, {10, 1, 4, 4, 3, api.OK},
		{-10, 1, 4, 1, -3, api.OK}, {10, -1, 4, 1, -3, api.OK}, {-10, -1, 4, 1, 3, api.OK}, {-10, -1, 4, 2, 2, api.OK},
		{1 << 62, 6, 8, 3, 3 << 60, api.OK}, {1 << 62, 2, 1, 3, 0, api.ErrOverflow}, {-1 << 62, 2, 1, 3, math.MinInt, api.OK},
		{1 << 62, -2, 1, 3, math.MinInt, api.OK}, {-1 << 62, -2, 1, 3, 0, api.ErrOverflow},
		{math.MinInt, 1, 1, 1, math.MinInt, api.OK}, {math.MinInt, -1, 1, 1, 0, api.ErrOverflow}, {math.MaxInt, -1, 1, 1, -math.MaxInt, api.OK},
		{math.MinInt, math.MinInt, 1, 1, 0, api.ErrOverflow}, {math.MinInt, math.MinInt, math.MaxInt, 3, 0, api.ErrOverflow}, {math.MaxInt, math.MaxInt, math.MaxInt, 1, math.MaxInt, api.OK},
		{math.MinInt, math.MaxInt, math.MaxInt, 1, math.MinInt, api.OK}, {math.MaxInt, math.MinInt, math.MaxInt, 4, math.MinInt, api.OK},
		// 2^63 - 1/2, which is between the greatest int and what does not fit, and its opposite
		{1<<32 - 1, 1<<32 + 1, 2, 1, 0, api.ErrOverflow}, {1<<32 - 1, 1<<32 + 1, 2, 2, 0, api.ErrOverflow},
		{1<<32 - 1, 1<<32 + 1, 2, 3, math.MaxInt, api.OK}, {1<<32 - 1, 1<<32 + 1, 2, 4, 0, api.ErrOverflow},
		{1 - 1<<32, 1<<32 + 1, 2, 1, math.MinInt, api.OK}, {1 - 1<<32, 1<<32 + 1, 2, 2, math.MinInt, api.OK},
		{1 - 1<<32, 1<<32 + 1, 2, 3, -math.MaxInt, api.OK}, {1 - 1<<32, 1<<32 + 1, 2, 4, math.MinInt, api.OK},
		// 2^64 - 1/2, which a rounding modulo 2^64 would make 0
		{253921, 145295143558111, 2, 1, 0, api.ErrOverflow}, {253921, 145295143558111, 2, 4, 0, api.ErrOverflow}, {-253921, 145295143558111, 2, 1, 0, api.ErrOverflow},
		// 2^64 and 2^64 + 5, whose lower halves are small
		{1 << 62, 4, 1, 1, 0, api.ErrOverflow}, {-1 << 62, 4, 1, 1, 0, api.ErrOverflow}, {1 << 62, 1 << 62, 1 << 60, 1, 0, api.ErrOverflow}, {1 << 62, 1 << 62, 1 << 61, 1, 0, api.ErrOverflow}, {1 << 62, 1 << 62, 1 << 62, 1, 1 << 62, api.OK},
	} {
		if n, e := money.Scale(c.amount, c.num, c.den, c.mode); n != c.want || e != c.e {
			t.Errorf("Scale(%d, %d, %d, %d): %d, %d, not %d, %d", c.amount, c.num, c.den, c.mode, n, e, c.want, c.e)
		}
	}
}

func TestScaleExtremes(t *testing.T) {
	for _, amount := range extremes {
		for _, num := range extremes {
			for _, den := range []int{1, 2, 3, 4, 10, 1 << 32, 1<<62 - 1, 1 << 62, math.MaxInt - 1, math.MaxInt} {
				for mode := 1; mode <= 4; mode++ {
					isScaled(t, amount, num, den, mode)
				}
			}
		}
	}
}

// TestScaleRandom takes numbers of all lengths, so that many quotients are near the ends of an int.
func TestScaleRandom(t *testing.T) {
	s := source(3)
	number := func() int {
		n := int(uint64(s.next(1<<31))<<33 ^ uint64(s.next(1<<31))<<16 ^ uint64(s.next(1<<31)))
		return n >> s.next(63)
	}
	for range 20000 {
		den := number() & math.MaxInt
		isScaled(t, number(), number(), max(1, den), 1+s.next(4))
	}
}

// TestScaleOnce looks for a result that two roundings, or a rounded factor, would change.
func TestScaleOnce(t *testing.T) {
	for amount := -12; amount <= 12; amount++ {
		for num := -12; num <= 12; num++ {
			for den := 1; den <= 12; den++ {
				for mode := 1; mode <= 4; mode++ {
					isScaled(t, amount, num, den, mode)
				}
			}
		}
	}
}

func TestScaleErrors(t *testing.T) {
	for _, amount := range []int{0, 1, -1, math.MinInt, math.MaxInt} {
		for _, num := range []int{0, 1, -1, math.MinInt, math.MaxInt} {
			for _, den := range invalidDens {
				for _, mode := range append([]int{1, 2, 3, 4}, invalidModes...) {
					if n, e := money.Scale(amount, num, den, mode); n != 0 || e != api.ErrInvalid {
						t.Errorf("Scale(%d, %d, %d, %d): %d, %d", amount, num, den, mode, n, e)
					}
				}
			}
			for _, mode := range invalidModes {
				if n, e := money.Scale(amount, num, 1, mode); n != 0 || e != api.ErrRange {
					t.Errorf("Scale(%d, %d, 1, %d): %d, %d", amount, num, mode, n, e)
				}
			}
		}
	}
}

// P3.3

func isSum(t *testing.T, l []int) {
	sum := new(big.Int)
	for _, n := range l {
		sum.Add(sum, large(n))
	}
	want, wantError := fits(sum)
	if n, e := money.Sum(l); n != want || e != wantError {
		t.Helper()
		t.Errorf("Sum(%v): %d, %d, not %d, %d", l, n, e, want, wantError)
	}
}

func TestSumExamples(t *testing.T) {
	for _, c := range []struct {
		l    []int
		want int
		e    api.Errno
	}{
		{nil, 0, api.OK}, {[]int{}, 0, api.OK}, {[]int{5}, 5, api.OK}, {[]int{1, 2, 3, -10}, -4, api.OK},
		{[]int{math.MaxInt, 1, -1}, math.MaxInt, api.OK}, {[]int{math.MaxInt, 1}, 0, api.ErrOverflow},
		{[]int{math.MinInt, -1, 1}, math.MinInt, api.OK}, {[]int{math.MinInt, -1}, 0, api.ErrOverflow}, {[]int{math.MinInt, math.MaxInt}, -1, api.OK},
		{[]int{math.MaxInt}, math.MaxInt, api.OK}, {[]int{math.MinInt}, math.MinInt, api.OK}, {[]int{math.MaxInt, 0}, math.MaxInt, api.OK},
		{[]int{math.MinInt, math.MinInt}, 0, api.ErrOverflow}, // 0 modulo 2^64
		{[]int{math.MaxInt, math.MaxInt, 2}, 0, api.ErrOverflow},
		{[]int{math.MaxInt, math.MaxInt, math.MaxInt, math.MinInt, math.MinInt, math.MinInt}, -3, api.OK},
		{[]int{math.MinInt, math.MinInt, math.MinInt, math.MaxInt, math.MaxInt, math.MaxInt}, -3, api.OK},
		{[]int{math.MinInt, math.MinInt, math.MaxInt, math.MaxInt, 1, 1}, 0, api.OK},
	} {
		if n, e := money.Sum(c.l); n != c.want || e != c.e {
			t.Errorf("Sum(%v): %d, %d, not %d, %d", c.l, n, e, c.want, c.e)
		}
	}
}

// TestSumExtremes sums all lists of up to four extremes, hence also in all orders (P3.7).
func TestSumExtremes(t *testing.T) {
	ends := []int{math.MinInt, math.MinInt + 1, -1 << 62, -1, 0, 1, 1 << 62, math.MaxInt - 1, math.MaxInt}
	for _, a := range ends {
		isSum(t, []int{a})
		for _, b := range ends {
			isSum(t, []int{a, b})
			for _, c := range ends {
				isSum(t, []int{a, b, c})
				for _, d := range ends {
					isSum(t, []int{a, b, c, d})
				}
			}
		}
	}
}

func TestSumLong(t *testing.T) {
	s := source(5)
	for range 300 {
		l := make([]int, s.next(200))
		for i := range l {
			l[i] = extremes[s.next(len(extremes))]
		}
		isSum(t, l)
		sum := new(big.Int)
		for _, n := range l {
			sum.Add(sum, large(n))
		}
		// Completed by what is missing, the list has a sum that fits, at last.
		for !sum.IsInt64() {
			n := math.MaxInt
			if sum.Sign() > 0 {
				n = math.MinInt
			}
			l = append(l, n)
			sum.Add(sum, large(n))
		}
		isSum(t, l)
	}
}

// P3.4

// parts divides as P3.4 says it, one mill after another.
func parts(amount int, weights []int) []int {
	whole := new(big.Int)
	for _, w := range weights {
		whole.Add(whole, large(w))
	}
	rest := max(amount, -amount)
	r := make([]int, len(weights))
	remainders := make([]*big.Int, len(weights))
	for i, w := range weights {
		product := new(big.Int).Mul(large(max(amount, -amount)), large(w))
		quotient, remainder := new(big.Int).QuoRem(product, whole, new(big.Int))
		r[i], remainders[i] = int(quotient.Int64()), remainder
		rest -= r[i]
	}
	for ; rest > 0; rest-- {
		best := -1
		for i, m := range remainders {
			if m != nil && (best < 0 || m.Cmp(remainders[best]) > 0) {
				best = i
			}
		}
		r[best]++
		remainders[best] = nil // it has been increased
	}
	if amount < 0 {
		for i := range r {
			r[i] = -r[i]
		}
	}
	return r
}

func isSplit(t *testing.T, amount int, weights, want []int) {
	if l, e := money.Split(amount, weights); !slices.Equal(l, want) || e != api.OK {
		t.Helper()
		t.Errorf("Split(%d, %v): %v, %d, not %v", amount, weights, l, e, want)
	}
}

func isNotSplit(t *testing.T, amount int, weights []int, want api.Errno) {
	if l, e := money.Split(amount, weights); len(l) != 0 || e != want {
		t.Helper()
		t.Errorf("Split(%d, %d weights): %v, %d, not %d", amount, len(weights), l, e, want)
	}
}

func TestSplitExamples(t *testing.T) {
	for _, c := range []struct {
		amount        int
		weights, want []int
	}{
		{100, []int{1, 1, 1}, []int{34, 33, 33}}, {-100, []int{1, 1, 1}, []int{-34, -33, -33}}, {101, []int{1, 1, 1}, []int{34, 34, 33}},
		{10, []int{3, 0, 2, 2}, []int{4, 0, 3, 3}}, {-10, []int{3, 0, 2, 2}, []int{-4, 0, -3, -3}},
		{5, []int{7}, []int{5}}, {0, []int{1, 2, 3}, []int{0, 0, 0}}, {1, []int{1, 2, 3}, []int{0, 0, 1}}, {1, []int{0, 0, 4, 4}, []int{0, 0, 1, 0}},
		{7, []int{0, 5, 0}, []int{0, 7, 0}}, {6, []int{1, 2, 3}, []int{1, 2, 3}}, {-7, []int{2, 1}, []int{-5, -2}}, {3, []int{1, 1, 1, 1}, []int{1, 1, 1, 0}},
		{api.MaxAmount, []int{api.MaxAmount, api.MaxAmount}, []int{api.MaxAmount / 2, api.MaxAmount / 2}},
		{api.MaxAmount, []int{api.MaxAmount, 0}, []int{api.MaxAmount, 0}}, {-api.MaxAmount, []int{1, api.MaxAmount}, []int{-1, 1 - api.MaxAmount}},
		{api.MaxAmount, []int{1}, []int{api.MaxAmount}},
	} {
		isSplit(t, c.amount, c.weights, c.want)
	}
}

// TestSplitSmall compares all small amounts and weights with the definition.
func TestSplitSmall(t *testing.T) {
	for n := range 6 * 6 * 6 * 6 {
		weights := []int{n % 6, n / 6 % 6, n / 36 % 6, n / 216}
		if n == 0 {
			continue
		}
		for amount := -9; amount <= 9; amount++ {
			isSplit(t, amount, weights, parts(amount, weights))
		}
	}
}

// randomSplit returns an amount and weights, of which the sum is not 0; many of them are equal, 0, or at the ends of the range.
func randomSplit(s *source) (int, []int) {
	amount := s.next(1<<31)*1024%(api.MaxAmount+1) - s.next(2)*api.MaxAmount
	switch s.next(4) {
	case 0:
		amount = s.next(2001) - 1000
	case 1:
		amount = api.MaxAmount - 2*s.next(2)*api.MaxAmount
	}
	weights := make([]int, 1+s.next(40))
	if s.next(10) == 0 {
		weights = make([]int, api.MaxSteps)
	}
	kind := s.next(4)
	for i := range weights {
		switch kind {
		case 0:
			weights[i] = s.next(4)
		case 1:
			weights[i] = api.MaxAmount - s.next(3)
		case 2:
			weights[i] = s.next(1<<31) * 512 >> s.next(40)
		case 3:
			weights[i] = []int{0, 1, 2, api.MaxAmount}[s.next(4)]
		}
	}
	weights[s.next(len(weights))] = 1 + s.next(1000)
	return amount, weights
}

func TestSplitRandom(t *testing.T) {
	s := source(7)
	for range 1500 {
		amount, weights := randomSplit(&s)
		isSplit(t, amount, weights, parts(amount, weights))
	}
}

func TestSplitLimits(t *testing.T) {
	weights := slices.Repeat([]int{api.MaxAmount}, api.MaxSteps)
	isSplit(t, api.MaxAmount, weights, slices.Repeat([]int{api.MaxAmount / api.MaxSteps}, api.MaxSteps))
	isSplit(t, -api.MaxAmount, weights, slices.Repeat([]int{-api.MaxAmount / api.MaxSteps}, api.MaxSteps))
	isSplit(t, 511, weights, append(slices.Repeat([]int{1}, 511), 0))
	isSplit(t, 1, weights, append([]int{1}, make([]int, 511)...))
	isNotSplit(t, 1, append(weights, 1), api.ErrLimit)
}

func TestSplitErrors(t *testing.T) {
	beyond := []int{api.MaxAmount + 1, -api.MaxAmount - 1, math.MaxInt, math.MinInt, 1 << 32 * 1 << 10}
	many := slices.Repeat([]int{1}, api.MaxSteps+1)
	for _, amount := range append(beyond, 0, 5) {
		isNotSplit(t, amount, many, api.ErrLimit)
		isNotSplit(t, amount, make([]int, api.MaxSteps+1), api.ErrLimit)
		isNotSplit(t, amount, slices.Repeat([]int{-1}, api.MaxSteps+1), api.ErrLimit)
	}
	for _, amount := range beyond {
		isNotSplit(t, amount, []int{1, 2}, api.ErrRange)
		isNotSplit(t, amount, nil, api.ErrRange)
		isNotSplit(t, amount, []int{0, 0}, api.ErrRange)
	}
	for _, w := range []int{-1, -2, math.MinInt, api.MaxAmount + 1, math.MaxInt} {
		for _, amount := range []int{0, 5, -5} {
			isNotSplit(t, amount, []int{w}, api.ErrRange)
			isNotSplit(t, amount, []int{1, 0, w}, api.ErrRange)
			isNotSplit(t, amount, []int{0, w, 0}, api.ErrRange)
			isNotSplit(t, amount, []int{w, 1, 2}, api.ErrRange)
			isNotSplit(t, amount, []int{w, max(1, -w), 2}, api.ErrRange)
		}
	}
	isNotSplit(t, 5, []int{1, -1}, api.ErrRange) // the sum 0 of weights outside the range
	for _, amount := range []int{0, 5, -5, api.MaxAmount, -api.MaxAmount} {
		isNotSplit(t, amount, nil, api.ErrInvalid)
		isNotSplit(t, amount, []int{}, api.ErrInvalid)
		isNotSplit(t, amount, []int{0}, api.ErrInvalid)
		isNotSplit(t, amount, []int{0, 0}, api.ErrInvalid)
		isNotSplit(t, amount, make([]int, api.MaxSteps), api.ErrInvalid)
	}
}

// TestSplitMemory checks R5.
func TestSplitMemory(t *testing.T) {
	all := []int{3, 0, 2, 2, 77, 78, 79}
	for _, weights := range [][]int{all[:4], all[:4:4]} {
		a, _ := money.Split(10, weights)
		b, _ := money.Split(-10, weights)
		for _, l := range [][]int{a, b} {
			l = l[:cap(l)]
			for i := range l {
				l[i] = 1000
			}
		}
		if !slices.Equal(all, []int{3, 0, 2, 2, 77, 78, 79}) {
			t.Error("Split changed its weights: ", all)
		}
		if !slices.Equal(b, []int{1000, 1000, 1000, 1000}) {
			t.Error("results share memory: ", b)
		}
		isSplit(t, 10, weights, []int{4, 0, 3, 3})
	}
	l := []int{math.MaxInt, 1, -1, 77}
	if n, e := money.Sum(l[:3]); n != math.MaxInt || e != api.OK || !slices.Equal(l, []int{math.MaxInt, 1, -1, 77}) {
		t.Error("Sum: ", n, e, l)
	}
}

// P3.5

// notation writes a notation digit by digit.
func notation(amount int, currency string) string {
	n, digits := new(big.Int).Abs(large(amount)), []byte(nil)
	for n.Sign() > 0 || len(digits) < 4 {
		digit := new(big.Int)
		n.QuoRem(n, large(10), digit)
		digits = append(digits, byte('0'+digit.Int64()))
	}
	slices.Reverse(digits)
	point := len(digits) - 3
	s := string(digits[:point]) + "." + string(digits[point:]) + " " + currency
	if amount < 0 {
		s = "-" + s
	}
	return s
}

func amounts() []int {
	l := slices.Clone(extremes)
	for n := -2100; n <= 2100; n++ {
		l = append(l, n)
	}
	for n := 1; n <= math.MaxInt/10; n *= 10 {
		l = append(l, n-1, n, n+1, n*10-1, 1-n, -n, -n-1)
	}
	return append(l, api.MaxAmount, -api.MaxAmount, 1e18, -1e18)
}

var currencies = []string{"EUR", "USD", "AAA", "ZZZ", "AZM", "MAZ"}

// notCurrencies are strings that resemble a currency; the last ones have three bytes or three characters.
var notCurrencies = []string{"", "E", "EU", "EURO", "EUREUR", "eur", "Eur", "EUr", "eUR", "EU1", "0UR", "E R", " EUR", "EUR ", "EU\n", "@@@", "[[[", "EU@", "EU[", "`UR", "{UR", "\u20ac", "E\u00dc", "\u0391\u0392\u0393", "\uff21\uff22\uff23", "\xc3\xa9R", "\xff\xff\xff", "\x00\x00\x00", "EU\xdb", strings.Repeat("EUR", 100)}

func TestFormat(t *testing.T) {
	for _, c := range []struct {
		amount         int
		currency, want string
	}{
		{-1234, "EUR", "-1.234 EUR"}, {7, "USD", "0.007 USD"}, {0, "EUR", "0.000 EUR"}, {-1, "EUR", "-0.001 EUR"}, {999, "EUR", "0.999 EUR"}, {1000, "EUR", "1.000 EUR"},
		{-1000, "EUR", "-1.000 EUR"}, {12345678, "JPY", "12345.678 JPY"}, {100050, "EUR", "100.050 EUR"}, {10, "EUR", "0.010 EUR"}, {-100, "EUR", "-0.100 EUR"},
		{math.MaxInt, "EUR", "9223372036854775.807 EUR"}, {math.MinInt, "EUR", "-9223372036854775.808 EUR"},
	} {
		if s, e := money.Format(c.amount, c.currency); s != c.want || e != api.OK {
			t.Errorf("Format(%d, %q): %q, %d, not %q", c.amount, c.currency, s, e, c.want)
		}
	}
	for _, n := range amounts() {
		for _, currency := range currencies {
			if s, e := money.Format(n, currency); s != notation(n, currency) || e != api.OK {
				t.Errorf("Format(%d, %q): %q, %d, not %q", n, currency, s, e, notation(n, currency))
			}
		}
	}
}

func TestFormatErrors(t *testing.T) {
	for _, currency := range notCurrencies {
		for _, n := range []int{0, 5, -5, math.MinInt, math.MaxInt} {
			if s, e := money.Format(n, currency); s != "" || e != api.ErrCurrency {
				t.Errorf("Format(%d, %q): %q, %d", n, currency, s, e)
			}
		}
	}
	for i := range 3 {
		for b := range 256 {
			currency := []byte("EUR")
			currency[i] = byte(b)
			want := api.OK
			if b < 'A' || b > 'Z' {
				want = api.ErrCurrency
			}
			if s, e := money.Format(1, string(currency)); e != want || (s == "") != (e != api.OK) {
				t.Errorf("Format(1, %q): %q, %d", currency, s, e)
			}
		}
	}
}

func TestParse(t *testing.T) {
	for _, n := range amounts() {
		for _, currency := range currencies {
			if m, c, e := money.Parse(notation(n, currency)); m != n || c != currency || e != api.OK {
				t.Errorf("Parse(%q): %d, %q, %d", notation(n, currency), m, c, e)
			}
		}
	}
}

func isNotNotation(t *testing.T, s string) {
	if n, currency, e := money.Parse(s); n != 0 || currency != "" || e != api.ErrForm {
		t.Helper()
		t.Errorf("Parse(%q): %d, %q, %d", s, n, currency, e)
	}
}

func TestParseErrors(t *testing.T) {
	for _, s := range []string{
		"", " ", "-", ".", "-0.000 EUR", "01.000 EUR", "1.00 EUR", "1.0000 EUR", "00.000 EUR", "-01.000 EUR", "--1.000 EUR", "+1.000 EUR", "+0.000 EUR", "1.000EUR", "1.000  EUR", " 1.000 EUR", "1.000 EUR ", "1.000 EUR\n",
		"1.000 eur", "1.000 EU", "1.000 EURO", "1.000", "1 EUR", "1. EUR", ".000 EUR", "-.000 EUR", ".001 EUR", "-.001 EUR", "EUR", " EUR", "000 EUR", "1,000 EUR", "1.000\tEUR", "1000 EUR", "10000 EUR", "1.000.000 EUR", "1 000.000 EUR", "1_000.000 EUR", "0x1.000 EUR", "1e3.000 EUR",
		"1.-00 EUR", "1.+00 EUR", "1.0-0 EUR", "1.1_0 EUR", "-1.-01 EUR", "1.000 \u20ac", "\u0661.000 EUR", "\uff11.000 EUR", "1.\u066100 EUR", "\u22121.000 EUR", "EUR 1.000", "nan.000 EUR", "a.000 EUR", "1.00a EUR",
		"9223372036854775.808 EUR", "-9223372036854775.809 EUR", "9223372036854776.000 EUR", "18446744073709551.616 EUR", "18446744073709551.617 EUR", "-18446744073709551.617 EUR", "99999999999999999999.000 EUR", strings.Repeat("9", 1000) + ".000 EUR", "-" + strings.Repeat("1", 1000) + ".000 EUR", strings.Repeat("0", 1000) + "1.000 EUR",
	} {
		isNotNotation(t, s)
	}
	for _, currency := range notCurrencies {
		isNotNotation(t, "1.000 "+currency)
	}
}

var form = regexp.MustCompile(`^(-?)(0|[1-9][0-9]*)\.([0-9]{3}) ([A-Z]{3})$`)

// TestParseNeighbours parses all strings that differ from a notation in one byte, lack one, or have one more.
func TestParseNeighbours(t *testing.T) {
	check := func(s string) {
		n, ok := new(big.Int), false
		if m := form.FindStringSubmatch(s); m != nil {
			n, ok = n.SetString(m[1]+m[2]+m[3], 10)
			ok = ok && n.IsInt64() && (n.Sign() != 0 || m[1] == "")
		}
		if !ok {
			isNotNotation(t, s)
			return
		}
		if amount, currency, e := money.Parse(s); amount != int(n.Int64()) || currency != s[len(s)-3:] || e != api.OK {
			t.Errorf("Parse(%q): %d, %q, %d", s, amount, currency, e)
		}
	}
	for _, n := range []int{0, 1, -1, 7, 1000, -1234, 10000, 98765, math.MaxInt, math.MinInt, 1 << 40} {
		s := notation(n, "EUR")
		for i := range len(s) + 1 {
			check(s[:i])
			check(s[i:])
			for b := range 256 {
				check(s[:i] + string([]byte{byte(b)}) + s[i:])
				if i < len(s) {
					check(s[:i] + string([]byte{byte(b)}) + s[i+1:])
				}
			}
			if i < len(s) {
				check(s[:i] + s[i+1:])
			}
		}
	}
}

// P3.6

func TestRoundSymmetric(t *testing.T) {
	s := source(11)
	for range 20000 {
		num := s.next(1<<31) << s.next(32) >> s.next(32)
		den := 1 + s.next(1<<31)>>s.next(31)
		mode := 1 + s.next(4)
		n, e := money.Round(num, den, mode)
		m, f := money.Round(-num, den, mode)
		if e != api.OK || f != api.OK || n != -m {
			t.Errorf("Round(%d, %d, %d): %d, %d; of the opposite: %d, %d", num, den, mode, n, e, m, f)
		}
		far := new(big.Int).Mul(large(n), large(den))
		far.Sub(far, large(num)).Abs(far)
		if mode <= 2 && new(big.Int).Add(far, far).Cmp(large(den)) > 0 || mode > 2 && far.Cmp(large(den)) >= 0 {
			t.Errorf("Round(%d, %d, %d): %d is too far", num, den, mode, n)
		}
	}
}

func TestScaleByOne(t *testing.T) {
	for _, amount := range extremes {
		for _, n := range extremes {
			if n < 1 {
				continue
			}
			for mode := 1; mode <= 4; mode++ {
				if m, e := money.Scale(amount, n, n, mode); m != amount || e != api.OK {
					t.Errorf("Scale(%d, %d, %d, %d): %d, %d", amount, n, n, mode, m, e)
				}
			}
		}
	}
}

// P3.7

func TestSplitConsequences(t *testing.T) {
	s := source(13)
	for range 300 {
		amount, weights := randomSplit(&s)
		l, e := money.Split(amount, weights)
		if e != api.OK || len(l) != len(weights) {
			t.Fatalf("Split(%d, %v): %v, %d", amount, weights, l, e)
		}
		sum := 0
		for i, n := range l {
			sum += n
			if weights[i] == 0 && n != 0 {
				t.Errorf("Split(%d, %v): a weight 0 gets %d", amount, weights, n)
			}
			for j, m := range l[:i] {
				greater, less := max(n, -n), max(m, -m)
				if weights[i] < weights[j] {
					greater, less = less, greater
				}
				if weights[i] != weights[j] && greater < less || weights[i] == weights[j] && (n-m > 1 || m-n > 1) {
					t.Errorf("Split(%d, %v): the weights %d and %d get %d and %d", amount, weights, weights[i], weights[j], n, m)
				}
			}
		}
		if sum != amount {
			t.Errorf("Split(%d, %v): the sum is %d", amount, weights, sum)
		}
	}
}

func TestParseFormat(t *testing.T) {
	s := source(17)
	for range 20000 {
		n := int(uint64(s.next(1<<31))<<33^uint64(s.next(1<<31))<<16^uint64(s.next(1<<31))) >> s.next(63)
		currency := string([]byte{byte('A' + s.next(26)), byte('A' + s.next(26)), byte('A' + s.next(26))})
		f, e := money.Format(n, currency)
		if m, c, g := money.Parse(f); e != api.OK || m != n || c != currency || g != api.OK {
			t.Errorf("%d %s: Format %q, %d; Parse %d, %q, %d", n, currency, f, e, m, c, g)
		}
	}
}

func TestSumOrder(t *testing.T) {
	s := source(19)
	for range 500 {
		l := make([]int, 1+s.next(30))
		for i := range l {
			l[i] = extremes[s.next(len(extremes))]
		}
		n, e := money.Sum(l)
		for range 10 {
			i, j := s.next(len(l)), s.next(len(l))
			l[i], l[j] = l[j], l[i]
			if m, f := money.Sum(l); m != n || f != e {
				t.Errorf("Sum(%v): %d, %d, in another order %d, %d", l, m, f, n, e)
			}
		}
	}
}
