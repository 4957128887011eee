package ratio

import (
	"math"
	"math/big"
	"testing"

	"lotcaster/api"
)

// outside holds numbers that are not in the range -MaxInt to MaxInt.
var outside = []int{
	api.MaxInt + 1, -api.MaxInt - 1, 2 * api.MaxInt, 1 << 31, 1 << 32, 1<<32 + 1, -1 << 32,
	math.MaxInt, math.MinInt, math.MaxInt - 1, math.MinInt + 1,
}

// bad holds what Check refuses, and why.
var bad = []struct {
	x    api.Ratio
	want api.Errno
}{
	{api.Ratio{}, api.ErrArg},
	{api.Ratio{P: 1, Q: 0}, api.ErrArg},
	{api.Ratio{P: 1, Q: -1}, api.ErrArg},
	{api.Ratio{P: -3, Q: -2}, api.ErrArg},
	{api.Ratio{P: 0, Q: -1}, api.ErrArg},
	{api.Ratio{P: 4, Q: -2}, api.ErrArg},
	{api.Ratio{P: 1, Q: -api.MaxInt}, api.ErrArg},
	{api.Ratio{P: 1, Q: api.MaxInt + 1}, api.ErrArg},
	{api.Ratio{P: 0, Q: api.MaxInt + 1}, api.ErrArg},
	{api.Ratio{P: 2, Q: api.MaxInt + 2}, api.ErrArg},
	{api.Ratio{P: api.MaxInt + 1, Q: 1}, api.ErrArg},
	{api.Ratio{P: -api.MaxInt - 1, Q: 1}, api.ErrArg},
	{api.Ratio{P: api.MaxInt + 2, Q: 2}, api.ErrArg},
	{api.Ratio{P: math.MinInt, Q: 1}, api.ErrArg},
	{api.Ratio{P: math.MinInt, Q: 2}, api.ErrArg},
	{api.Ratio{P: math.MaxInt, Q: 1}, api.ErrArg},
	{api.Ratio{P: 1, Q: math.MaxInt}, api.ErrArg},
	{api.Ratio{P: 1, Q: math.MinInt}, api.ErrArg},
	{api.Ratio{P: math.MinInt, Q: math.MinInt}, api.ErrArg},
	{api.Ratio{P: 2, Q: 4}, api.ErrForm},
	{api.Ratio{P: -2, Q: 4}, api.ErrForm},
	{api.Ratio{P: 2, Q: 2}, api.ErrForm},
	{api.Ratio{P: 6, Q: 3}, api.ErrForm},
	{api.Ratio{P: -9, Q: 6}, api.ErrForm},
	{api.Ratio{P: 0, Q: 2}, api.ErrForm},
	{api.Ratio{P: 0, Q: 7}, api.ErrForm},
	{api.Ratio{P: 0, Q: api.MaxInt}, api.ErrForm},
	{api.Ratio{P: api.MaxInt, Q: api.MaxInt}, api.ErrForm},
	{api.Ratio{P: -api.MaxInt, Q: api.MaxInt}, api.ErrForm},
	{api.Ratio{P: 5, Q: api.MaxInt}, api.ErrForm},
	{api.Ratio{P: 999999937, Q: 999999937}, api.ErrForm},
	{api.Ratio{P: -37 * 27027026, Q: 37 * 27027025}, api.ErrForm},
}

// good holds numbers in lowest terms: all small ones, and some great ones that
// lie at the limits, are primes, or have many divisors.
func good() []api.Ratio {
	var list []api.Ratio
	for q := 1; q <= 6; q++ {
		for p := -7; p <= 7; p++ {
			if inLowestTerms(p, q) {
				list = append(list, api.Ratio{P: p, Q: q})
			}
		}
	}
	for _, x := range []api.Ratio{
		{P: 1, Q: api.MaxInt}, {P: api.MaxInt, Q: 1}, {P: 3, Q: api.MaxInt}, {P: api.MaxInt, Q: 3},
		{P: api.MaxInt, Q: api.MaxInt - 1}, {P: api.MaxInt - 1, Q: api.MaxInt},
		{P: api.MaxInt / 2, Q: 1}, {P: api.MaxInt/2 + 1, Q: 1}, {P: 1, Q: api.MaxInt / 2}, {P: 1, Q: api.MaxInt/2 + 1},
		{P: 999999937, Q: 1}, {P: 1, Q: 999999937}, {P: 999999937, Q: api.MaxInt}, {P: api.MaxInt, Q: 999999937},
		{P: 31622, Q: 1}, {P: 31623, Q: 1}, {P: 1, Q: 31622}, {P: 1, Q: 31623}, {P: 31622, Q: 31623},
		{P: 735134400, Q: 1}, {P: 1, Q: 735134400}, {P: 223092870, Q: 961}, {P: 961, Q: 223092870},
		{P: 65536, Q: 59049}, {P: 59049, Q: 65536},
	} {
		list = append(list, x, api.Ratio{P: -x.P, Q: x.Q})
	}
	return list
}

// numbers gives numbers that look as if they were drawn at random.
type numbers uint64

func (x *numbers) below(n int) int {
	*x = *x*6364136223846793005 + 1442695040888963407
	return int(uint64(*x) >> 33 % uint64(n))
}

// ratio draws a Ratio whose two numbers are not above limit.
func (x *numbers) ratio(limit int) api.Ratio {
	p, q := x.number(limit), x.number(limit)
	if x.below(2) == 0 {
		p = -p
	}
	r := big.NewRat(int64(p), int64(q))
	return api.Ratio{P: int(r.Num().Int64()), Q: int(r.Denom().Int64())}
}

// number draws a number from 1 to limit. Half of them are products of small
// primes, so that two of them often have a divisor in common.
func (x *numbers) number(limit int) int {
	if x.below(2) == 0 {
		return 1 + x.below(limit)
	}
	product := 1
	for {
		prime := []int{2, 3, 5, 7}[x.below(4)]
		if product*prime > limit {
			return product
		}
		product *= prime
	}
}

// eachPair calls f for all pairs of the good ones, and for drawn ones.
func eachPair(f func(x, y api.Ratio)) {
	list := good()
	for _, x := range list {
		for _, y := range list {
			f(x, y)
		}
	}
	random := numbers(1)
	for _, limit := range []int{100, 31622, 100000, api.MaxInt} {
		for range 5000 {
			f(random.ratio(limit), random.ratio(limit))
		}
	}
}

// inLowestTerms follows the words of P48.
func inLowestTerms(p, q int) bool {
	for d := 2; d <= q; d++ {
		if p%d == 0 && q%d == 0 {
			return false
		}
	}
	return true
}

func exact(x api.Ratio) *big.Rat {
	return big.NewRat(int64(x.P), int64(x.Q))
}

// wanted returns what must come of an exact result, and the error where it is
// too large.
func wanted(r *big.Rat) (api.Ratio, api.Errno) {
	limit := big.NewInt(api.MaxInt)
	if r.Num().CmpAbs(limit) > 0 || r.Denom().Cmp(limit) > 0 {
		return api.Ratio{}, api.ErrLarge
	}
	return api.Ratio{P: int(r.Num().Int64()), Q: int(r.Denom().Int64())}, api.OK
}

// P48 for all small numbers.
func TestCheck(t *testing.T) {
	for p := -40; p <= 40; p++ {
		for q := -40; q <= 40; q++ {
			want := api.OK
			if q < 1 {
				want = api.ErrArg
			} else if !inLowestTerms(p, q) {
				want = api.ErrForm
			}
			if e := Check(api.Ratio{P: p, Q: q}); e != want {
				t.Errorf("Check(%d/%d) = %v, want %v", p, q, e, want)
			}
		}
	}
	for _, x := range good() {
		if e := Check(x); e != api.OK {
			t.Errorf("Check(%v) = %v, want OK", x, e)
		}
	}
}

// P48: the limits come before the form.
func TestCheckRefuses(t *testing.T) {
	for _, c := range bad {
		if e := Check(c.x); e != c.want {
			t.Errorf("Check(%v) = %v, want %v", c.x, e, c.want)
		}
	}
	for _, n := range outside {
		for _, other := range []int{0, 1, 2, -1, api.MaxInt, n} {
			for _, x := range []api.Ratio{{P: n, Q: other}, {P: other, Q: n}} {
				if e := Check(x); e != api.ErrArg {
					t.Errorf("Check(%v) = %v, want ErrArg", x, e)
				}
			}
		}
	}
}

// P49 for all small numbers, numbers near the limits, and drawn ones.
func TestMake(t *testing.T) {
	check := func(p, q int) {
		want, _ := wanted(big.NewRat(int64(p), int64(q)))
		if x, e := Make(p, q); e != api.OK || x != want || Check(x) != api.OK {
			t.Errorf("Make(%d, %d) = %v, %v, want %v", p, q, x, e, want)
		}
	}
	var list []int
	for n := -40; n <= 40; n++ {
		list = append(list, n)
	}
	for _, n := range []int{
		api.MaxInt, api.MaxInt - 1, api.MaxInt / 2, api.MaxInt/2 + 1, api.MaxInt / 5, 999999937, 735134400, 1 << 29, 387420489,
	} {
		list = append(list, n, -n)
	}
	random := numbers(2)
	for range 500 {
		n := random.number(api.MaxInt)
		list = append(list, n, -n)
	}
	for _, p := range list {
		for _, q := range list {
			if q != 0 {
				check(p, q)
			}
		}
	}
}

func TestMakeKnownOnes(t *testing.T) {
	for _, c := range []struct {
		p, q int
		want api.Ratio
	}{
		{6, -4, api.Ratio{P: -3, Q: 2}},
		{-6, -4, api.Ratio{P: 3, Q: 2}},
		{-6, 4, api.Ratio{P: -3, Q: 2}},
		{6, 3, api.Ratio{P: 2, Q: 1}},
		{0, 1, api.Ratio{P: 0, Q: 1}},
		{0, -1, api.Ratio{P: 0, Q: 1}},
		{0, 12, api.Ratio{P: 0, Q: 1}},
		{0, -api.MaxInt, api.Ratio{P: 0, Q: 1}},
		{api.MaxInt, api.MaxInt, api.Ratio{P: 1, Q: 1}},
		{api.MaxInt, -api.MaxInt, api.Ratio{P: -1, Q: 1}},
		{-api.MaxInt, -api.MaxInt, api.Ratio{P: 1, Q: 1}},
		{-api.MaxInt, 1, api.Ratio{P: -api.MaxInt, Q: 1}},
		{api.MaxInt, -1, api.Ratio{P: -api.MaxInt, Q: 1}},
		{1, -api.MaxInt, api.Ratio{P: -1, Q: api.MaxInt}},
		{3, 3 * 333333333, api.Ratio{P: 1, Q: 333333333}},
	} {
		if x, e := Make(c.p, c.q); e != api.OK || x != c.want {
			t.Errorf("Make(%d, %d) = %v, %v, want %v", c.p, c.q, x, e, c.want)
		}
	}
}

// P49: the limits come before the zero.
func TestMakeRefuses(t *testing.T) {
	for _, n := range outside {
		for _, other := range []int{0, 1, -1, 2, api.MaxInt, n} {
			if x, e := Make(n, other); e != api.ErrArg || x != (api.Ratio{}) {
				t.Errorf("Make(%d, %d) = %v, %v, want ErrArg", n, other, x, e)
			}
			if x, e := Make(other, n); e != api.ErrArg || x != (api.Ratio{}) {
				t.Errorf("Make(%d, %d) = %v, %v, want ErrArg", other, n, x, e)
			}
		}
	}
	for _, p := range []int{0, 1, -1, 2, api.MaxInt, -api.MaxInt} {
		if x, e := Make(p, 0); e != api.ErrZero || x != (api.Ratio{}) {
			t.Errorf("Make(%d, 0) = %v, %v, want ErrZero", p, x, e)
		}
	}
}

// P50.
func TestAdd(t *testing.T) {
	eachPair(func(x, y api.Ratio) {
		want, wantError := wanted(new(big.Rat).Add(exact(x), exact(y)))
		if z, e := Add(x, y); e != wantError || z != want {
			t.Errorf("Add(%v, %v) = %v, %v, want %v, %v", x, y, z, e, want, wantError)
		}
	})
}

// P50.
func TestMul(t *testing.T) {
	eachPair(func(x, y api.Ratio) {
		want, wantError := wanted(new(big.Rat).Mul(exact(x), exact(y)))
		if z, e := Mul(x, y); e != wantError || z != want {
			t.Errorf("Mul(%v, %v) = %v, %v, want %v, %v", x, y, z, e, want, wantError)
		}
	})
}

// P51, with the zero before what is too large.
func TestDiv(t *testing.T) {
	eachPair(func(x, y api.Ratio) {
		want, wantError := api.Ratio{}, api.ErrZero
		if y.P != 0 {
			want, wantError = wanted(new(big.Rat).Quo(exact(x), exact(y)))
		}
		if z, e := Div(x, y); e != wantError || z != want {
			t.Errorf("Div(%v, %v) = %v, %v, want %v, %v", x, y, z, e, want, wantError)
		}
	})
}

// P52.
func TestLess(t *testing.T) {
	eachPair(func(x, y api.Ratio) {
		want := exact(x).Cmp(exact(y)) < 0
		if less, e := Less(x, y); e != api.OK || less != want {
			t.Errorf("Less(%v, %v) = %v, %v, want %v", x, y, less, e, want)
		}
	})
}

// P52 for numbers that are hardly apart: floats would not tell.
func TestLessByLittle(t *testing.T) {
	a := api.Ratio{P: api.MaxInt - 2, Q: api.MaxInt - 1}
	b := api.Ratio{P: api.MaxInt - 1, Q: api.MaxInt}
	for _, c := range []struct {
		x, y api.Ratio
		want bool
	}{
		{a, b, true}, {b, a, false}, {a, a, false}, {b, b, false},
		{api.Ratio{P: -a.P, Q: a.Q}, api.Ratio{P: -b.P, Q: b.Q}, false},
		{api.Ratio{P: -b.P, Q: b.Q}, api.Ratio{P: -a.P, Q: a.Q}, true},
		{api.Ratio{P: -b.P, Q: b.Q}, a, true},
		{api.Ratio{P: 0, Q: 1}, api.Ratio{P: 0, Q: 1}, false},
		{api.Ratio{P: 0, Q: 1}, api.Ratio{P: 1, Q: api.MaxInt}, true},
		{api.Ratio{P: -1, Q: api.MaxInt}, api.Ratio{P: 0, Q: 1}, true},
		{api.Ratio{P: -api.MaxInt, Q: 1}, api.Ratio{P: api.MaxInt, Q: 1}, true},
	} {
		if less, e := Less(c.x, c.y); e != api.OK || less != c.want {
			t.Errorf("Less(%v, %v) = %v, %v, want %v", c.x, c.y, less, e, c.want)
		}
	}
}

// P50 and P51 at the limits: it is the lowest terms that count.
func TestLimits(t *testing.T) {
	type operation = func(x, y api.Ratio) (api.Ratio, api.Errno)
	const most = api.MaxInt
	for _, c := range []struct {
		name       string
		f          operation
		x, y, want api.Ratio
		wantError  api.Errno
	}{
		{"Add", Add, api.Ratio{P: 1, Q: 2}, api.Ratio{P: 1, Q: 3}, api.Ratio{P: 5, Q: 6}, api.OK},
		{"Add", Add, api.Ratio{P: 1, Q: 6}, api.Ratio{P: 1, Q: 3}, api.Ratio{P: 1, Q: 2}, api.OK},
		{"Add", Add, api.Ratio{P: 3, Q: 2}, api.Ratio{P: -3, Q: 2}, api.Ratio{P: 0, Q: 1}, api.OK},
		{"Add", Add, api.Ratio{P: most - 1, Q: 1}, api.Ratio{P: 1, Q: 1}, api.Ratio{P: most, Q: 1}, api.OK},
		{"Add", Add, api.Ratio{P: most, Q: 1}, api.Ratio{P: 1, Q: 1}, api.Ratio{}, api.ErrLarge},
		{"Add", Add, api.Ratio{P: 1 - most, Q: 1}, api.Ratio{P: -1, Q: 1}, api.Ratio{P: -most, Q: 1}, api.OK},
		{"Add", Add, api.Ratio{P: -most, Q: 1}, api.Ratio{P: -1, Q: 1}, api.Ratio{}, api.ErrLarge},
		{"Add", Add, api.Ratio{P: 1, Q: most}, api.Ratio{P: -1, Q: most}, api.Ratio{P: 0, Q: 1}, api.OK},
		{"Add", Add, api.Ratio{P: 1, Q: most}, api.Ratio{P: 1, Q: most}, api.Ratio{P: 1, Q: most / 2}, api.OK},
		{"Add", Add, api.Ratio{P: 1, Q: 1 << 9}, api.Ratio{P: 1, Q: 1953125}, api.Ratio{P: 1953637, Q: most}, api.OK},
		{"Add", Add, api.Ratio{P: 1, Q: 1 << 10}, api.Ratio{P: 1, Q: 1953125}, api.Ratio{}, api.ErrLarge},
		{"Add", Add, api.Ratio{P: most, Q: most - 1}, api.Ratio{P: most - 1, Q: most}, api.Ratio{}, api.ErrLarge},
		{"Mul", Mul, api.Ratio{P: 2, Q: 3}, api.Ratio{P: 3, Q: 4}, api.Ratio{P: 1, Q: 2}, api.OK},
		{"Mul", Mul, api.Ratio{P: 0, Q: 1}, api.Ratio{P: -1, Q: most}, api.Ratio{P: 0, Q: 1}, api.OK},
		{"Mul", Mul, api.Ratio{P: most / 2, Q: 1}, api.Ratio{P: -2, Q: 1}, api.Ratio{P: -most, Q: 1}, api.OK},
		{"Mul", Mul, api.Ratio{P: most, Q: 1}, api.Ratio{P: 2, Q: 1}, api.Ratio{}, api.ErrLarge},
		{"Mul", Mul, api.Ratio{P: 333333334, Q: 1}, api.Ratio{P: -3, Q: 1}, api.Ratio{}, api.ErrLarge},
		{"Mul", Mul, api.Ratio{P: 1, Q: 333333334}, api.Ratio{P: 1, Q: 3}, api.Ratio{}, api.ErrLarge},
		{"Mul", Mul, api.Ratio{P: 1, Q: 500}, api.Ratio{P: 1, Q: 2000000}, api.Ratio{P: 1, Q: most}, api.OK},
		{"Mul", Mul, api.Ratio{P: -most, Q: most - 1}, api.Ratio{P: 1 - most, Q: most}, api.Ratio{P: 1, Q: 1}, api.OK},
		{"Mul", Mul, api.Ratio{P: most, Q: most - 1}, api.Ratio{P: most, Q: most - 1}, api.Ratio{}, api.ErrLarge},
		{"Div", Div, api.Ratio{P: 1, Q: 2}, api.Ratio{P: -1, Q: 3}, api.Ratio{P: -3, Q: 2}, api.OK},
		{"Div", Div, api.Ratio{P: -1, Q: 2}, api.Ratio{P: -1, Q: 3}, api.Ratio{P: 3, Q: 2}, api.OK},
		{"Div", Div, api.Ratio{P: 0, Q: 1}, api.Ratio{P: -3, Q: 4}, api.Ratio{P: 0, Q: 1}, api.OK},
		{"Div", Div, api.Ratio{P: 0, Q: 1}, api.Ratio{P: 0, Q: 1}, api.Ratio{}, api.ErrZero},
		{"Div", Div, api.Ratio{P: most, Q: 1}, api.Ratio{P: 0, Q: 1}, api.Ratio{}, api.ErrZero},
		{"Div", Div, api.Ratio{P: 1, Q: 1}, api.Ratio{P: -most, Q: 1}, api.Ratio{P: -1, Q: most}, api.OK},
		{"Div", Div, api.Ratio{P: 1, Q: 2}, api.Ratio{P: -most, Q: 1}, api.Ratio{}, api.ErrLarge},
		{"Div", Div, api.Ratio{P: -2, Q: 1}, api.Ratio{P: 1, Q: most}, api.Ratio{}, api.ErrLarge},
		{"Div", Div, api.Ratio{P: -most, Q: most - 1}, api.Ratio{P: -most, Q: most - 1}, api.Ratio{P: 1, Q: 1}, api.OK},
		{"Div", Div, api.Ratio{P: most, Q: most - 1}, api.Ratio{P: 1 - most, Q: most}, api.Ratio{}, api.ErrLarge},
	} {
		if z, e := c.f(c.x, c.y); e != c.wantError || z != c.want {
			t.Errorf("%s(%v, %v) = %v, %v, want %v, %v", c.name, c.x, c.y, z, e, c.want, c.wantError)
		}
	}
}

// P50 to P52: the errors of x come first, then those of y, then all others.
func TestRefused(t *testing.T) {
	check := func(x, y api.Ratio, want api.Errno) {
		if z, e := Add(x, y); e != want || z != (api.Ratio{}) {
			t.Errorf("Add(%v, %v) = %v, %v, want %v", x, y, z, e, want)
		}
		if z, e := Mul(x, y); e != want || z != (api.Ratio{}) {
			t.Errorf("Mul(%v, %v) = %v, %v, want %v", x, y, z, e, want)
		}
		if z, e := Div(x, y); e != want || z != (api.Ratio{}) {
			t.Errorf("Div(%v, %v) = %v, %v, want %v", x, y, z, e, want)
		}
		if less, e := Less(x, y); e != want || less {
			t.Errorf("Less(%v, %v) = %v, %v, want %v", x, y, less, e, want)
		}
	}
	list := good()
	for _, c := range bad {
		for _, other := range list {
			check(c.x, other, c.want)
			check(other, c.x, c.want)
		}
		for _, other := range bad {
			check(c.x, other.x, c.want)
		}
	}
}
