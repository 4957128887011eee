package odds

import (
	"math"
	"math/big"
	"slices"
	"testing"

	"lotcaster/api"
)

// bad holds what Check refuses, and why.
var bad = []struct {
	o    api.Odds
	want api.Errno
}{
	{api.Odds{}, api.ErrLarge},
	{api.Odds{Values: []int{}, Weights: []int{}}, api.ErrLarge},
	{api.Odds{Weights: []int{1}}, api.ErrLarge},
	{api.Odds{Weights: []int{0}}, api.ErrLarge},
	{same(13, 1, 1), api.ErrLarge},
	{same(14, 0, 100), api.ErrLarge},
	{same(144, 1, 1), api.ErrLarge},
	{same(1<<16, 1, 1), api.ErrLarge},
	{api.Odds{Values: make([]int, 13)}, api.ErrLarge},
	{api.Odds{Values: make([]int, 13), Weights: slices.Repeat([]int{1}, 12)}, api.ErrLarge},
	{same(13, 21, 0), api.ErrLarge},
	{api.Odds{Values: []int{1}}, api.ErrForm},
	{api.Odds{Values: []int{1}, Weights: []int{1, 1}}, api.ErrForm},
	{api.Odds{Values: []int{1, 2}, Weights: []int{1}}, api.ErrForm},
	{api.Odds{Values: make([]int, 12), Weights: slices.Repeat([]int{1}, 11)}, api.ErrForm},
	{api.Odds{Values: make([]int, 12), Weights: slices.Repeat([]int{1}, 13)}, api.ErrForm},
	{api.Odds{Values: []int{1}, Weights: slices.Repeat([]int{1}, 1<<16)}, api.ErrForm},
	{api.Odds{Values: []int{21, 1}, Weights: []int{1}}, api.ErrForm},
	{api.Odds{Values: []int{21}}, api.ErrForm},
	{api.Odds{Values: []int{1}, Weights: []int{0, 0}}, api.ErrForm},
	{api.Odds{Values: []int{1}, Weights: []int{1, 101}}, api.ErrForm},
	{same(1, 21, 1), api.ErrArg},
	{same(1, -21, 1), api.ErrArg},
	{same(1, 1, 0), api.ErrArg},
	{same(1, 1, -1), api.ErrArg},
	{same(1, 1, 101), api.ErrArg},
	{same(1, 21, 101), api.ErrArg},
	{same(12, 21, 1), api.ErrArg},
	{same(12, 1, 0), api.ErrArg},
	{api.Odds{Values: []int{1, 2}, Weights: []int{5, -5}}, api.ErrArg},
	{api.Odds{Values: []int{20, -20, 21}, Weights: []int{1, 100, 50}}, api.ErrArg},
}

// same returns n cases with the same value and the same weight.
func same(n, value, weight int) api.Odds {
	return api.Odds{Values: slices.Repeat([]int{value}, n), Weights: slices.Repeat([]int{weight}, n)}
}

// numbers gives numbers that look as if they were drawn at random.
type numbers uint64

func (x *numbers) below(n int) int {
	*x = *x*6364136223846793005 + 1442695040888963407
	return int(uint64(*x) >> 33 % uint64(n))
}

// odds draws n cases with values from -value to value and weights up to weight.
func (x *numbers) odds(n, value, weight int) api.Odds {
	o := same(n, 0, 0)
	for i := range n {
		o.Values[i] = x.below(2*value+1) - value
		o.Weights[i] = 1 + x.below(weight)
	}
	return o
}

// good holds distributions: small ones, some at the limits, and drawn ones of
// every size.
func good() []api.Odds {
	var list []api.Odds
	values, weights := []int{-20, -3, 0, 1, 20}, []int{1, 2, 3, 100}
	for _, v := range values {
		for _, w := range weights {
			list = append(list, same(1, v, w), same(12, v, w))
			for _, other := range values {
				for _, weight := range weights {
					list = append(list, api.Odds{Values: []int{v, other}, Weights: []int{w, weight}})
				}
			}
		}
	}
	list = append(list,
		// The greatest variance that there can be, and great numbers that hardly
		// have divisors.
		api.Odds{Values: slices.Repeat([]int{20, -20}, 6), Weights: slices.Repeat([]int{100}, 12)},
		api.Odds{Values: slices.Repeat([]int{20, -20}, 6), Weights: append(slices.Repeat([]int{100}, 11), 93)},
		api.Odds{Values: append(slices.Repeat([]int{20}, 11), 19), Weights: append(slices.Repeat([]int{100}, 11), 93)},
		api.Odds{Values: append(slices.Repeat([]int{-20}, 11), 20), Weights: append(slices.Repeat([]int{100}, 11), 1)},
	)
	random := numbers(1)
	for n := 1; n <= api.MaxCases; n++ {
		for _, value := range []int{1, 5, 20} {
			for _, weight := range []int{1, 4, 100} {
				for range 20 {
					list = append(list, random.odds(n, value, weight))
				}
			}
		}
	}
	return list
}

// chance returns the probability of the value with the index i.
func chance(o api.Odds, i int) *big.Rat {
	total := 0
	for _, weight := range o.Weights {
		total += weight
	}
	return big.NewRat(int64(o.Weights[i]), int64(total))
}

// wantedMean follows the words of P54.
func wantedMean(o api.Odds) *big.Rat {
	mean := new(big.Rat)
	for i, value := range o.Values {
		mean.Add(mean, new(big.Rat).Mul(chance(o, i), big.NewRat(int64(value), 1)))
	}
	return mean
}

// wantedSpread follows the words of P55.
func wantedSpread(o api.Odds) *big.Rat {
	mean, spread := wantedMean(o), new(big.Rat)
	for i, value := range o.Values {
		difference := new(big.Rat).Sub(big.NewRat(int64(value), 1), mean)
		square := new(big.Rat).Mul(difference, difference)
		spread.Add(spread, square.Mul(square, chance(o, i)))
	}
	return spread
}

// wantedBeyond follows the words of P56.
func wantedBeyond(o api.Odds, least int) *big.Rat {
	sum := new(big.Rat)
	for i, value := range o.Values {
		if value >= least {
			sum.Add(sum, chance(o, i))
		}
	}
	return sum
}

// lowest returns r, whose two numbers are small, as a Ratio.
func lowest(r *big.Rat) api.Ratio {
	return api.Ratio{P: int(r.Num().Int64()), Q: int(r.Denom().Int64())}
}

// P53 for what it refuses, and the order of its errors.
func TestCheckRefuses(t *testing.T) {
	for _, c := range bad {
		if e := Check(c.o); e != c.want {
			t.Errorf("Check(%d values, %d weights) = %v, want %v", len(c.o.Values), len(c.o.Weights), e, c.want)
		}
	}
}

// P53 for all sizes of the two lists.
func TestCheckSizes(t *testing.T) {
	for values := range 20 {
		for weights := range 20 {
			want := api.OK
			if values < 1 || values > 12 {
				want = api.ErrLarge
			} else if weights != values {
				want = api.ErrForm
			}
			o := api.Odds{Values: make([]int, values), Weights: slices.Repeat([]int{1}, weights)}
			if e := Check(o); e != want {
				t.Errorf("Check(%d values, %d weights) = %v, want %v", values, weights, e, want)
			}
		}
	}
}

// P53 for all numbers in and near the ranges, at every index.
func TestCheckNumbers(t *testing.T) {
	far := []int{1 << 31, 1 << 32, 1<<32 + 1, -1 << 32, math.MaxInt, math.MinInt, math.MinInt + 1}
	for n := -150; n <= 150; n++ {
		far = append(far, n)
	}
	for _, number := range far {
		valueError, weightError := api.ErrArg, api.ErrArg
		if number >= -20 && number <= 20 {
			valueError = api.OK
		}
		if number >= 1 && number <= 100 {
			weightError = api.OK
		}
		for size := 1; size <= api.MaxCases; size++ {
			for i := range size {
				o := same(size, 2, 3)
				o.Values[i] = number
				if e := Check(o); e != valueError {
					t.Errorf("Check(%v) = %v, want %v", o, e, valueError)
				}
				o = same(size, 2, 3)
				o.Weights[i] = number
				if e := Check(o); e != weightError {
					t.Errorf("Check(%v) = %v, want %v", o, e, weightError)
				}
			}
		}
	}
}

func TestCheckAccepts(t *testing.T) {
	for _, o := range good() {
		if e := Check(o); e != api.OK {
			t.Errorf("Check(%v) = %v, want OK", o, e)
		}
	}
}

// P54 and P55.
func TestMeanAndSpread(t *testing.T) {
	for _, o := range good() {
		want := lowest(wantedMean(o))
		if x, e := Mean(o); e != api.OK || x != want {
			t.Errorf("Mean(%v) = %v, %v, want %v", o, x, e, want)
		}
		want = lowest(wantedSpread(o))
		if x, e := Spread(o); e != api.OK || x != want {
			t.Errorf("Spread(%v) = %v, %v, want %v", o, x, e, want)
		}
	}
}

func TestMeanAndSpreadOfKnownOnes(t *testing.T) {
	for _, c := range []struct {
		o            api.Odds
		mean, spread api.Ratio
	}{
		{api.Odds{Values: []int{1, 3}, Weights: []int{1, 3}}, api.Ratio{P: 5, Q: 2}, api.Ratio{P: 3, Q: 4}},
		{api.Odds{Values: []int{1, 2, 3, 4, 5, 6}, Weights: []int{1, 1, 1, 1, 1, 1}}, api.Ratio{P: 7, Q: 2}, api.Ratio{P: 35, Q: 12}},
		{api.Odds{Values: []int{0, 1}, Weights: []int{2, 1}}, api.Ratio{P: 1, Q: 3}, api.Ratio{P: 2, Q: 9}},
		{api.Odds{Values: []int{-1, 0}, Weights: []int{50, 100}}, api.Ratio{P: -1, Q: 3}, api.Ratio{P: 2, Q: 9}},
		{api.Odds{Values: []int{-1, 1}, Weights: []int{7, 7}}, api.Ratio{P: 0, Q: 1}, api.Ratio{P: 1, Q: 1}},
		{api.Odds{Values: []int{4, 4, -2}, Weights: []int{1, 2, 3}}, api.Ratio{P: 1, Q: 1}, api.Ratio{P: 9, Q: 1}},
		{api.Odds{Values: []int{-20, 20}, Weights: []int{1, 100}}, api.Ratio{P: 1980, Q: 101}, api.Ratio{P: 160000, Q: 10201}},
		{same(1, 0, 1), api.Ratio{P: 0, Q: 1}, api.Ratio{P: 0, Q: 1}},
		{same(12, -20, 100), api.Ratio{P: -20, Q: 1}, api.Ratio{P: 0, Q: 1}},
		{same(12, 20, 99), api.Ratio{P: 20, Q: 1}, api.Ratio{P: 0, Q: 1}},
		{api.Odds{Values: slices.Repeat([]int{20, -20}, 6), Weights: slices.Repeat([]int{100}, 12)}, api.Ratio{P: 0, Q: 1}, api.Ratio{P: 400, Q: 1}},
		{
			api.Odds{Values: append(make([]int, 11), 1), Weights: append(slices.Repeat([]int{100}, 11), 93)},
			api.Ratio{P: 93, Q: 1193}, api.Ratio{P: 93 * 1100, Q: 1193 * 1193},
		},
	} {
		if x, e := Mean(c.o); e != api.OK || x != c.mean {
			t.Errorf("Mean(%v) = %v, %v, want %v", c.o, x, e, c.mean)
		}
		if x, e := Spread(c.o); e != api.OK || x != c.spread {
			t.Errorf("Spread(%v) = %v, %v, want %v", c.o, x, e, c.spread)
		}
	}
}

// P56: least may be any number.
func TestBeyond(t *testing.T) {
	bounds := []int{
		math.MinInt, math.MinInt + 1, -1 << 32, -1 << 31, -api.MaxInt - 1,
		math.MaxInt, math.MaxInt - 1, 1 << 32, 1<<32 + 1, 1 << 31, api.MaxInt + 1,
	}
	for n := -25; n <= 25; n++ {
		bounds = append(bounds, n)
	}
	for _, o := range good() {
		for _, least := range bounds {
			want := lowest(wantedBeyond(o, least))
			if x, e := Beyond(o, least); e != api.OK || x != want {
				t.Errorf("Beyond(%v, %d) = %v, %v, want %v", o, least, x, e, want)
			}
		}
	}
}

func TestBeyondKnownOnes(t *testing.T) {
	o := api.Odds{Values: []int{3, -2, 3, 0}, Weights: []int{1, 4, 2, 5}}
	for _, c := range []struct {
		least int
		want  api.Ratio
	}{
		{math.MinInt, api.Ratio{P: 1, Q: 1}},
		{-2, api.Ratio{P: 1, Q: 1}},
		{-1, api.Ratio{P: 2, Q: 3}},
		{0, api.Ratio{P: 2, Q: 3}},
		{1, api.Ratio{P: 1, Q: 4}},
		{3, api.Ratio{P: 1, Q: 4}},
		{4, api.Ratio{P: 0, Q: 1}},
		{math.MaxInt, api.Ratio{P: 0, Q: 1}},
	} {
		if x, e := Beyond(o, c.least); e != api.OK || x != c.want {
			t.Errorf("Beyond(%v, %d) = %v, %v, want %v", o, c.least, x, e, c.want)
		}
	}
}

// wantedBoth follows the words of P57.
func wantedBoth(a, b api.Odds) (api.Odds, api.Errno) {
	n := len(b.Values)
	sums := same(len(a.Values)*n, 0, 0)
	full := len(sums.Values) > 12
	for i := range sums.Values {
		value, weight := a.Values[i/n]+b.Values[i%n], a.Weights[i/n]*b.Weights[i%n]
		full = full || value < -20 || value > 20 || weight > 100
		sums.Values[i], sums.Weights[i] = value, weight
	}
	if full {
		return api.Odds{}, api.ErrFull
	}
	return sums, api.OK
}

func equal(a, b api.Odds) bool {
	return slices.Equal(a.Values, b.Values) && slices.Equal(a.Weights, b.Weights)
}

func isZero(o api.Odds) bool {
	return o.Values == nil && o.Weights == nil
}

// P57 for pairs of all sizes, many of which are too great.
func TestBoth(t *testing.T) {
	random := numbers(2)
	count := map[api.Errno]int{}
	for n := 1; n <= api.MaxCases; n++ {
		for m := 1; m <= api.MaxCases; m++ {
			for _, value := range []int{1, 10, 12, 20} {
				for _, weight := range []int{1, 10, 13, 100} {
					for range 5 {
						a, b := random.odds(n, value, weight), random.odds(m, value, weight)
						want, wantError := wantedBoth(a, b)
						got, e := Both(a, b)
						if e != wantError || !equal(got, want) || e != api.OK && !isZero(got) {
							t.Errorf("Both(%v, %v) = %v, %v, want %v, %v", a, b, got, e, want, wantError)
						}
						count[e]++
					}
				}
			}
		}
	}
	if count[api.OK] < 500 || count[api.ErrFull] < 500 {
		t.Errorf("too few of a kind: %v", count)
	}
}

// P57: the mean and the variance of the sum of two independent values are the
// sums of theirs.
func TestBothAddsUp(t *testing.T) {
	random := numbers(3)
	for range 2000 {
		a, b := random.odds(1+random.below(3), 10, 10), random.odds(1+random.below(4), 10, 10)
		both, e := Both(a, b)
		if e != api.OK {
			t.Fatalf("Both(%v, %v): %v", a, b, e)
		}
		mean := lowest(new(big.Rat).Add(wantedMean(a), wantedMean(b)))
		if x, e := Mean(both); e != api.OK || x != mean {
			t.Errorf("Mean(Both(%v, %v)) = %v, %v, want %v", a, b, x, e, mean)
		}
		spread := lowest(new(big.Rat).Add(wantedSpread(a), wantedSpread(b)))
		if x, e := Spread(both); e != api.OK || x != spread {
			t.Errorf("Spread(Both(%v, %v)) = %v, %v, want %v", a, b, x, e, spread)
		}
	}
}

// P57 at the limits.
func TestBothAtLimits(t *testing.T) {
	for _, c := range []struct {
		a, b, want api.Odds
		wantError  api.Errno
	}{
		{
			api.Odds{Values: []int{1, 4}, Weights: []int{2, 1}}, api.Odds{Values: []int{0, -1, 1}, Weights: []int{5, 1, 3}},
			api.Odds{Values: []int{1, 0, 2, 4, 3, 5}, Weights: []int{10, 2, 6, 5, 1, 3}}, api.OK,
		},
		{same(1, 0, 1), same(1, 0, 1), same(1, 0, 1), api.OK},
		{same(1, 10, 10), same(1, 10, 10), same(1, 20, 100), api.OK},
		{same(1, -10, 1), same(1, -10, 100), same(1, -20, 100), api.OK},
		{same(1, 20, 100), same(1, -20, 1), same(1, 0, 100), api.OK},
		{same(12, 1, 2), same(1, 2, 3), same(12, 3, 6), api.OK},
		{same(1, 1, 2), same(12, 2, 3), same(12, 3, 6), api.OK},
		{same(3, 1, 2), same(4, 2, 3), same(12, 3, 6), api.OK},
		{same(6, 20, 50), same(2, 0, 2), same(12, 20, 100), api.OK},
		{same(1, 20, 1), same(1, 1, 1), api.Odds{}, api.ErrFull},
		{same(1, -1, 1), same(1, -20, 1), api.Odds{}, api.ErrFull},
		{same(1, 20, 1), same(1, 20, 1), api.Odds{}, api.ErrFull},
		{same(1, 0, 51), same(1, 0, 2), api.Odds{}, api.ErrFull},
		{same(1, 0, 100), same(1, 0, 100), api.Odds{}, api.ErrFull},
		{same(12, 0, 1), same(2, 0, 1), api.Odds{}, api.ErrFull},
		{same(12, 0, 1), same(12, 0, 1), api.Odds{}, api.ErrFull},
		{same(7, 0, 1), same(2, 0, 1), api.Odds{}, api.ErrFull},
		{same(2, 0, 1), same(7, 0, 1), api.Odds{}, api.ErrFull},
		{api.Odds{Values: []int{0, 20}, Weights: []int{1, 1}}, api.Odds{Values: []int{0, 1}, Weights: []int{1, 1}}, api.Odds{}, api.ErrFull},
		{api.Odds{Values: []int{0, 0}, Weights: []int{1, 11}}, api.Odds{Values: []int{0, 0}, Weights: []int{1, 10}}, api.Odds{}, api.ErrFull},
	} {
		got, e := Both(c.a, c.b)
		if e != c.wantError || !equal(got, c.want) || e != api.OK && !isZero(got) {
			t.Errorf("Both(%v, %v) = %v, %v, want %v, %v", c.a, c.b, got, e, c.want, c.wantError)
		}
	}
}

// P54 to P56: what Check refuses is refused with its error.
func TestRefused(t *testing.T) {
	for _, c := range bad {
		for name, f := range map[string]func(api.Odds) (api.Ratio, api.Errno){
			"Mean": Mean, "Spread": Spread,
			"Beyond, 0":     func(o api.Odds) (api.Ratio, api.Errno) { return Beyond(o, 0) },
			"Beyond, least": func(o api.Odds) (api.Ratio, api.Errno) { return Beyond(o, math.MinInt) },
			"Beyond, most":  func(o api.Odds) (api.Ratio, api.Errno) { return Beyond(o, math.MaxInt) },
		} {
			if x, e := f(c.o); e != c.want || x != (api.Ratio{}) {
				t.Errorf("%s(%d values, %d weights) = %v, %v, want %v", name, len(c.o.Values), len(c.o.Weights), x, e, c.want)
			}
		}
	}
}

// P57: the errors of a come before those of b, and these before ErrFull.
func TestBothRefuses(t *testing.T) {
	for _, c := range bad {
		for _, o := range []api.Odds{same(1, 0, 1), same(12, 20, 100), same(12, -20, 1)} {
			if got, e := Both(c.o, o); e != c.want || !isZero(got) {
				t.Errorf("Both(bad, %v) = %v, %v, want %v", o, got, e, c.want)
			}
			if got, e := Both(o, c.o); e != c.want || !isZero(got) {
				t.Errorf("Both(%v, bad) = %v, %v, want %v", o, got, e, c.want)
			}
		}
		for _, other := range bad {
			if got, e := Both(c.o, other.o); e != c.want || !isZero(got) {
				t.Errorf("Both(bad, bad) = %v, %v, want %v", got, e, c.want)
			}
		}
	}
}

// guarded returns o with spare capacity that is not zero, and a function that
// tells whether anything of it has changed since.
func guarded(o api.Odds) (api.Odds, func() bool) {
	values := append(slices.Clone(o.Values), 77, -78, 79)
	weights := append(slices.Clone(o.Weights), 80, -81, 82)
	was := api.Odds{Values: slices.Clone(values), Weights: slices.Clone(weights)}
	whole := api.Odds{Values: values, Weights: weights}
	inner := api.Odds{Values: values[:len(o.Values)], Weights: weights[:len(o.Weights)]}
	return inner, func() bool { return !equal(whole, was) }
}

// fill writes over all memory of l, the spare capacity too.
func fill(l []int, number int) {
	l = l[:cap(l)]
	for i := range l {
		l[i] = number
	}
}

// P2: arguments stay as they are, with their spare capacity.
func TestArgumentsStay(t *testing.T) {
	for _, o := range append(good(), same(13, 1, 1), same(2, 21, 1), same(0, 0, 0)) {
		a, changedA := guarded(o)
		b, changedB := guarded(same(1, 0, 1))
		Check(a)
		Mean(a)
		Spread(a)
		Beyond(a, 1)
		Both(a, b)
		Both(b, a)
		Both(a, a)
		if changedA() || changedB() {
			t.Errorf("%v changes", o)
		}
	}
}

// P2: the two lists of a result are new memory, and the same arguments always
// have the same result.
func TestMemory(t *testing.T) {
	for n := 1; n <= api.MaxCases; n++ {
		a, changedA := guarded(same(n, 1, 2))
		b, changedB := guarded(same(1, 0, 1))
		want := same(n, 1, 2)
		for range 3 {
			first, e1 := Both(a, b)
			second, e2 := Both(b, a)
			if e1 != api.OK || e2 != api.OK || !equal(first, want) || !equal(second, want) {
				t.Fatalf("Both = %v, %v and %v, %v, want %v", first, e1, second, e2, want)
			}
			fill(first.Values, 9999)
			if !slices.Equal(first.Weights, want.Weights) {
				t.Errorf("the weights change with the values: %v", first.Weights)
			}
			fill(first.Weights, 9999)
			if changedA() || changedB() || !equal(second, want) {
				t.Errorf("results share memory: %v, %v, %v", a, b, second)
			}
		}
	}
}
