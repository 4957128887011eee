package derange

import (
	"math"
	"slices"
	"testing"

	"lotcaster/api"
)

// outside holds numbers that are not in the range 0 to MaxRise.
var outside = []int{-1, -2, -15, api.MaxRise + 1, 20, 21, 64, 1 << 32, math.MaxInt, math.MinInt}

// subfactorials holds the numbers of derangements of 0 to MaxRise numbers.
var subfactorials = []int{
	1, 0, 1, 2, 9, 44, 265, 1854, 14833, 133496, 1334961, 14684570, 176214841, 2290792932,
	32071101049, 481066515734,
}

// eachPermutation calls f for all permutations of n numbers, in a slice that
// is used again.
func eachPermutation(n int, f func(p []int)) {
	p := rising(n)
	var settle func(from int)
	settle = func(from int) {
		if from == n {
			f(p)
			return
		}
		for at := from; at < n; at++ {
			p[from], p[at] = p[at], p[from]
			settle(from + 1)
			p[from], p[at] = p[at], p[from]
		}
	}
	settle(0)
}

// byFixedPoints counts the permutations of n numbers one by one: element k of
// the result is how many of them have k fixed points.
func byFixedPoints(n int) []int {
	counts := make([]int, n+1)
	eachPermutation(n, func(p []int) { counts[fixedPoints(p)]++ })
	return counts
}

// fixedPoints counts the numbers that p maps to themselves.
func fixedPoints(p []int) int {
	count := 0
	for i := range p {
		if p[i] == i {
			count++
		}
	}
	return count
}

func rising(n int) []int {
	p := make([]int, n)
	for i := range p {
		p[i] = i
	}
	return p
}

func falling(n int) []int {
	p := rising(n)
	slices.Reverse(p)
	return p
}

func factorial(n int) int {
	product := 1
	for i := 2; i <= n; i++ {
		product *= i
	}
	return product
}

// P31 for all arguments, against the known numbers and against inclusion and
// exclusion of the fixed points.
func TestCount(t *testing.T) {
	for n, want := range subfactorials {
		if got, e := Count(n); e != api.OK || got != want {
			t.Errorf("Count(%d) = %v, %v, want %v", n, got, e, want)
		}
		sum, sign := 0, 1
		for k := 0; k <= n; k++ {
			sum += sign * (factorial(n) / factorial(k))
			sign = -sign
		}
		if got, e := Count(n); e != api.OK || got != sum {
			t.Errorf("Count(%d) = %v, %v, want %v by inclusion and exclusion", n, got, e, sum)
		}
	}
	if len(subfactorials) != api.MaxRise+1 {
		t.Errorf("%d numbers are known, want %d", len(subfactorials), api.MaxRise+1)
	}
}

func TestCountRefused(t *testing.T) {
	for _, n := range outside {
		if got, e := Count(n); e != api.ErrArg || got != 0 {
			t.Errorf("Count(%d) = %v, %v, want ErrArg", n, got, e)
		}
	}
}

// P31 to P33 for few numbers, against the permutations themselves.
func TestAgainstAllPermutations(t *testing.T) {
	for n := 0; n <= 9; n++ {
		counts := byFixedPoints(n)
		if got, e := Count(n); e != api.OK || got != counts[0] {
			t.Errorf("Count(%d) = %v, %v, want %v", n, got, e, counts[0])
		}
		for k, want := range counts {
			if got, e := Fixed(n, k); e != api.OK || got != want {
				t.Errorf("Fixed(%d, %d) = %v, %v, want %v", n, k, got, e, want)
			}
		}
	}
	for n := 0; n <= 7; n++ {
		eachPermutation(n, func(p []int) {
			if got, e := Own(p); e != api.OK || got != fixedPoints(p) {
				t.Errorf("Own(%v) = %v, %v, want %v", p, got, e, fixedPoints(p))
			}
		})
	}
}

// P32 for all arguments: the permutations of n numbers are split by their
// fixed points, of which they have one on average.
func TestFixedSums(t *testing.T) {
	for n := 0; n <= api.MaxRise; n++ {
		all, points := 0, 0
		for k := 0; k <= api.MaxRise; k++ {
			got, e := Fixed(n, k)
			if e != api.OK || got < 0 {
				t.Errorf("Fixed(%d, %d) = %v, %v", n, k, got, e)
			}
			all += got
			points += k * got
		}
		if all != factorial(n) {
			t.Errorf("the Fixed(%d, k) add up to %d, want %d", n, all, factorial(n))
		}
		if n > 0 && points != factorial(n) {
			t.Errorf("the k * Fixed(%d, k) add up to %d, want %d", n, points, factorial(n))
		}
	}
}

// P32 for all arguments: who counts the fixed points of all permutations with
// k of them goes once for each of the n numbers through the permutations of
// the others with k-1.
func TestFixedOneByOne(t *testing.T) {
	for n := 0; n <= api.MaxRise; n++ {
		if got, e := Fixed(n, 0); e != api.OK || got != subfactorials[n] {
			t.Errorf("Fixed(%d, 0) = %v, %v, want %v", n, got, e, subfactorials[n])
		}
		for k := 1; k <= n; k++ {
			fewer, e := Fixed(n-1, k-1)
			if e != api.OK {
				t.Errorf("Fixed(%d, %d): %v", n-1, k-1, e)
			}
			if got, e := Fixed(n, k); e != api.OK || k*got != n*fewer {
				t.Errorf("Fixed(%d, %d) = %v, %v, want %v", n, k, got, e, n*fewer/k)
			}
		}
	}
}

// P32: no permutation has more fixed points than numbers.
func TestFixedMoreThanThere(t *testing.T) {
	for n := 0; n <= api.MaxRise; n++ {
		for k := n + 1; k <= api.MaxRise; k++ {
			if got, e := Fixed(n, k); e != api.OK || got != 0 {
				t.Errorf("Fixed(%d, %d) = %v, %v, want 0", n, k, got, e)
			}
		}
	}
}

func TestFixedKnownOnes(t *testing.T) {
	for _, c := range []struct{ n, k, want int }{
		{0, 0, 1}, {0, 1, 0}, {0, 15, 0}, {1, 0, 0}, {1, 1, 1}, {2, 0, 1}, {2, 1, 0}, {2, 2, 1},
		{3, 0, 2}, {3, 1, 3}, {3, 2, 0}, {3, 3, 1}, {4, 0, 9}, {4, 1, 8}, {4, 2, 6}, {4, 3, 0},
		{4, 4, 1}, {4, 5, 0}, {10, 5, 11088}, {14, 15, 0}, {15, 0, 481066515734},
		{15, 1, 481066515735}, {15, 2, 240533257860}, {15, 7, 95450355}, {15, 8, 11930490},
		{15, 12, 910}, {15, 13, 105}, {15, 14, 0}, {15, 15, 1},
	} {
		if got, e := Fixed(c.n, c.k); e != api.OK || got != c.want {
			t.Errorf("Fixed(%d, %d) = %v, %v, want %v", c.n, c.k, got, e, c.want)
		}
	}
}

func TestFixedRefused(t *testing.T) {
	for _, x := range outside {
		for _, other := range []int{0, 1, 5, api.MaxRise, x} {
			if got, e := Fixed(x, other); e != api.ErrArg || got != 0 {
				t.Errorf("Fixed(%d, %d) = %v, %v, want ErrArg", x, other, got, e)
			}
			if got, e := Fixed(other, x); e != api.ErrArg || got != 0 {
				t.Errorf("Fixed(%d, %d) = %v, %v, want ErrArg", other, x, got, e)
			}
		}
	}
}

func TestOwn(t *testing.T) {
	for _, c := range []struct {
		p    []int
		want int
	}{
		{nil, 0},
		{[]int{}, 0},
		{[]int{0}, 1},
		{[]int{0, 1}, 2},
		{[]int{1, 0}, 0},
		{[]int{0, 2, 1}, 1},
		{[]int{2, 1, 0}, 1},
		{[]int{1, 2, 0}, 0},
		{[]int{1, 0, 2, 3}, 2},
		{[]int{1, 0, 3, 4, 2}, 0},
		{rising(api.MaxPerm), 10},
		{falling(api.MaxPerm), 0},
		{falling(api.MaxPerm - 1), 1},
		{[]int{9, 1, 2, 3, 4, 5, 6, 7, 8, 0}, 8},
		{[]int{1, 2, 3, 4, 5, 6, 7, 8, 0, 9}, 1},
	} {
		if got, e := Own(c.p); e != api.OK || got != c.want {
			t.Errorf("Own(%v) = %v, %v, want %v", c.p, got, e, c.want)
		}
	}
}

// P33: what perm.Check refuses is refused with its error, the length first,
// also where some numbers are at their own place.
func TestOwnRefused(t *testing.T) {
	for _, c := range []struct {
		name string
		p    []int
		want api.Errno
	}{
		{"one number, not 0", []int{1}, api.ErrForm},
		{"counted from 1", []int{1, 2, 3}, api.ErrForm},
		{"twice the same", []int{0, 0}, api.ErrForm},
		{"twice the same, last", []int{0, 1, 2, 2}, api.ErrForm},
		{"negative", []int{0, -1}, api.ErrForm},
		{"as large as the length", []int{0, 1, 3}, api.ErrForm},
		{"smallest int", []int{math.MinInt, 0}, api.ErrForm},
		{"largest int", []int{0, math.MaxInt}, api.ErrForm},
		{"ten zeros", make([]int, api.MaxPerm), api.ErrForm},
		{"eleven rising", rising(api.MaxPerm + 1), api.ErrLarge},
		{"eleven zeros", make([]int, api.MaxPerm+1), api.ErrLarge},
		{"as many as may be counted", rising(api.MaxRise), api.ErrLarge},
		{"very many", make([]int, 100000), api.ErrLarge},
	} {
		if got, e := Own(c.p); e != c.want || got != 0 {
			t.Errorf("%s: Own = %v, %v, want %v", c.name, got, e, c.want)
		}
	}
}

// P2: the argument stays as it is, also behind its end, which is not counted.
func TestMemory(t *testing.T) {
	p := []int{1, 0, 2, 3, 4, 5, 6}
	old := slices.Clone(p)
	for range 2 {
		if got, e := Own(p[:4]); e != api.OK || got != 2 {
			t.Errorf("Own(%v) = %v, %v, want 2", p[:4], got, e)
		}
		if !slices.Equal(p, old) {
			t.Fatalf("the argument changed to %v", p)
		}
	}
}
