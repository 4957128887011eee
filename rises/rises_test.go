package rises

import (
	"math"
	"slices"
	"testing"

	"lotcaster/api"
)

// outside holds numbers that are not in the range 0 to MaxRise.
var outside = []int{-1, -2, -15, api.MaxRise + 1, 20, 21, 64, 1 << 32, math.MaxInt, math.MinInt}

// eulerian holds the numbers of permutations of 0 to 9 numbers by their
// descents.
var eulerian = [][]int{
	{1},
	{1},
	{1, 1},
	{1, 4, 1},
	{1, 11, 11, 1},
	{1, 26, 66, 26, 1},
	{1, 57, 302, 302, 57, 1},
	{1, 120, 1191, 2416, 1191, 120, 1},
	{1, 247, 4293, 15619, 15619, 4293, 247, 1},
	{1, 502, 14608, 88234, 156190, 88234, 14608, 502, 1},
}

// eachPermutation calls f for all permutations of n numbers, in a slice that
// is used again.
func eachPermutation(n int, f func(p []int)) {
	p := rising(n)
	var settle func(from int)
	settle = func(from int) {
		if from == n {
			f(p)
			return
		}
		for at := from; at < n; at++ {
			p[from], p[at] = p[at], p[from]
			settle(from + 1)
			p[from], p[at] = p[at], p[from]
		}
	}
	settle(0)
}

// descents lists the descents of p by their definition.
func descents(p []int) []int {
	var found []int
	for i := 1; i < len(p); i++ {
		if p[i] < p[i-1] {
			found = append(found, i)
		}
	}
	return found
}

// swaps counts the exchanges of neighbours that sort p: each of them removes
// one inversion.
func swaps(p []int) int {
	p = slices.Clone(p)
	count := 0
	for again := true; again; {
		again = false
		for i := 1; i < len(p); i++ {
			if p[i-1] > p[i] {
				p[i-1], p[i] = p[i], p[i-1]
				count++
				again = true
			}
		}
	}
	return count
}

func total(numbers []int) int {
	sum := 0
	for _, x := range numbers {
		sum += x
	}
	return sum
}

func rising(n int) []int {
	p := make([]int, n)
	for i := range p {
		p[i] = i
	}
	return p
}

func falling(n int) []int {
	p := rising(n)
	slices.Reverse(p)
	return p
}

func factorial(n int) int {
	product := 1
	for i := 2; i <= n; i++ {
		product *= i
	}
	return product
}

func choose(n, k int) int {
	return factorial(n) / factorial(k) / factorial(n-k)
}

func power(base, exponent int) int {
	product := 1
	for range exponent {
		product *= base
	}
	return product
}

// P34 for few numbers, against the known numbers and the permutations
// themselves.
func TestCount(t *testing.T) {
	for n, row := range eulerian {
		counts := make([]int, len(row))
		eachPermutation(n, func(p []int) { counts[len(descents(p))]++ })
		if !slices.Equal(counts, row) {
			t.Errorf("%d numbers have %v permutations, want %v", n, counts, row)
		}
		for k, want := range row {
			if got, e := Count(n, k); e != api.OK || got != want {
				t.Errorf("Count(%d, %d) = %v, %v, want %v", n, k, got, e, want)
			}
		}
	}
}

// P34 for all arguments: the permutations are split by their descents, and
// read backwards they have as many descents as they had ascents.
func TestCountSums(t *testing.T) {
	for n := 0; n <= api.MaxRise; n++ {
		all := 0
		for k := 0; k <= api.MaxRise; k++ {
			got, e := Count(n, k)
			if e != api.OK || got < 0 {
				t.Errorf("Count(%d, %d) = %v, %v", n, k, got, e)
			}
			all += got
			if n == 0 || k >= n {
				continue
			}
			if back, e := Count(n, n-1-k); e != api.OK || back != got {
				t.Errorf("Count(%d, %d) = %v, %v, want %v", n, n-1-k, back, e, got)
			}
		}
		if all != factorial(n) {
			t.Errorf("the Count(%d, k) add up to %d, want %d", n, all, factorial(n))
		}
	}
}

// P34 for all n but 0, against Worpitzky's identity: x to the n is the sum of
// Count(n, k) times the choices of n out of x + k.
func TestCountWorpitzky(t *testing.T) {
	for n := 1; n <= api.MaxRise; n++ {
		for x := 1; x <= 5 && x+n-1 <= 20; x++ {
			sum := 0
			for k := 0; k < n; k++ {
				got, e := Count(n, k)
				if e != api.OK {
					t.Errorf("Count(%d, %d): %v", n, k, e)
				}
				if x+k >= n {
					sum += got * choose(x+k, n)
				}
			}
			if sum != power(x, n) {
				t.Errorf("n = %d: the sum for %d is %d, want %d", n, x, sum, power(x, n))
			}
		}
	}
}

// P34: a permutation has fewer descents than numbers, except for the empty one,
// which has none.
func TestCountMoreThanThere(t *testing.T) {
	if got, e := Count(0, 0); e != api.OK || got != 1 {
		t.Errorf("Count(0, 0) = %v, %v, want 1", got, e)
	}
	for n := 0; n <= api.MaxRise; n++ {
		for k := max(n, 1); k <= api.MaxRise; k++ {
			if got, e := Count(n, k); e != api.OK || got != 0 {
				t.Errorf("Count(%d, %d) = %v, %v, want 0", n, k, got, e)
			}
		}
	}
}

func TestCountKnownOnes(t *testing.T) {
	for _, c := range []struct{ n, k, want int }{
		{10, 0, 1}, {10, 1, 1013}, {10, 4, 1310354}, {10, 5, 1310354}, {10, 9, 1}, {10, 10, 0},
		{12, 5, 162512286}, {14, 1, 16369}, {15, 0, 1}, {15, 1, 32752}, {15, 2, 13824739},
		{15, 6, 311387598411}, {15, 7, 447538817472}, {15, 8, 311387598411}, {15, 13, 32752},
		{15, 14, 1}, {15, 15, 0},
	} {
		if got, e := Count(c.n, c.k); e != api.OK || got != c.want {
			t.Errorf("Count(%d, %d) = %v, %v, want %v", c.n, c.k, got, e, c.want)
		}
	}
}

func TestCountRefused(t *testing.T) {
	for _, x := range outside {
		for _, other := range []int{0, 1, 5, api.MaxRise, x} {
			if got, e := Count(x, other); e != api.ErrArg || got != 0 {
				t.Errorf("Count(%d, %d) = %v, %v, want ErrArg", x, other, got, e)
			}
			if got, e := Count(other, x); e != api.ErrArg || got != 0 {
				t.Errorf("Count(%d, %d) = %v, %v, want ErrArg", other, x, got, e)
			}
		}
	}
}

// P35 and P36 for all permutations of few numbers.
func TestAgainstDefinitions(t *testing.T) {
	for n := 0; n <= 7; n++ {
		eachPermutation(n, func(p []int) {
			found := descents(p)
			if got, e := Falls(p); e != api.OK || got != len(found) {
				t.Errorf("Falls(%v) = %v, %v, want %v", p, got, e, len(found))
			}
			if got, e := Crossed(p); e != api.OK || got != swaps(p) {
				t.Errorf("Crossed(%v) = %v, %v, want %v", p, got, e, swaps(p))
			}
			if got, e := Sum(p); e != api.OK || got != total(found) {
				t.Errorf("Sum(%v) = %v, %v, want %v", p, got, e, total(found))
			}
		})
	}
}

// P36: each value is the number of inversions of as many permutations as it is
// the major index of (MacMahon).
func TestCrossedAsOftenAsSum(t *testing.T) {
	for n := 0; n <= 8; n++ {
		crossed, sums := make([]int, n*n+1), make([]int, n*n+1)
		eachPermutation(n, func(p []int) {
			c, e := Crossed(p)
			if e != api.OK {
				t.Errorf("Crossed(%v): %v", p, e)
			}
			s, e := Sum(p)
			if e != api.OK {
				t.Errorf("Sum(%v): %v", p, e)
			}
			crossed[c]++
			sums[s]++
		})
		if !slices.Equal(crossed, sums) {
			t.Errorf("n = %d: the inversions are spread as %v, the major indices as %v", n, crossed, sums)
		}
	}
}

func TestKnownOnes(t *testing.T) {
	for _, c := range []struct {
		p                   []int
		falls, crossed, sum int
	}{
		{nil, 0, 0, 0},
		{[]int{}, 0, 0, 0},
		{[]int{0}, 0, 0, 0},
		{[]int{0, 1}, 0, 0, 0},
		{[]int{1, 0}, 1, 1, 1},
		{[]int{2, 0, 1}, 1, 2, 1},
		{[]int{1, 2, 0}, 1, 2, 2},
		{[]int{0, 2, 1}, 1, 1, 2},
		{[]int{2, 1, 0}, 2, 3, 3},
		{[]int{3, 0, 2, 1}, 2, 4, 4},
		{[]int{1, 0, 3, 2, 5, 4}, 3, 3, 9},
		{[]int{5, 6, 7, 8, 9, 0, 1, 2, 3, 4}, 1, 25, 5},
		{[]int{9, 0, 1, 2, 3, 4, 5, 6, 7, 8}, 1, 9, 1},
		{[]int{1, 2, 3, 4, 5, 6, 7, 8, 9, 0}, 1, 9, 9},
		{rising(api.MaxPerm), 0, 0, 0},
		{falling(api.MaxPerm), 9, 45, 45},
	} {
		if got, e := Falls(c.p); e != api.OK || got != c.falls {
			t.Errorf("Falls(%v) = %v, %v, want %v", c.p, got, e, c.falls)
		}
		if got, e := Crossed(c.p); e != api.OK || got != c.crossed {
			t.Errorf("Crossed(%v) = %v, %v, want %v", c.p, got, e, c.crossed)
		}
		if got, e := Sum(c.p); e != api.OK || got != c.sum {
			t.Errorf("Sum(%v) = %v, %v, want %v", c.p, got, e, c.sum)
		}
	}
}

// P35 and P36: what perm.Check refuses is refused with its error, the length
// first, also where some numbers go down.
func TestRefused(t *testing.T) {
	for _, c := range []struct {
		name string
		p    []int
		want api.Errno
	}{
		{"one number, not 0", []int{1}, api.ErrForm},
		{"counted from 1", []int{3, 2, 1}, api.ErrForm},
		{"twice the same", []int{0, 0}, api.ErrForm},
		{"twice the same, going down", []int{3, 2, 1, 1}, api.ErrForm},
		{"negative", []int{0, -1}, api.ErrForm},
		{"as large as the length", []int{3, 1, 0}, api.ErrForm},
		{"smallest int", []int{0, math.MinInt}, api.ErrForm},
		{"largest int", []int{math.MaxInt, 0}, api.ErrForm},
		{"ten zeros", make([]int, api.MaxPerm), api.ErrForm},
		{"eleven falling", falling(api.MaxPerm + 1), api.ErrLarge},
		{"eleven zeros", make([]int, api.MaxPerm+1), api.ErrLarge},
		{"as many as may be counted", falling(api.MaxRise), api.ErrLarge},
		{"very many", make([]int, 100000), api.ErrLarge},
	} {
		if got, e := Falls(c.p); e != c.want || got != 0 {
			t.Errorf("%s: Falls = %v, %v, want %v", c.name, got, e, c.want)
		}
		if got, e := Crossed(c.p); e != c.want || got != 0 {
			t.Errorf("%s: Crossed = %v, %v, want %v", c.name, got, e, c.want)
		}
		if got, e := Sum(c.p); e != c.want || got != 0 {
			t.Errorf("%s: Sum = %v, %v, want %v", c.name, got, e, c.want)
		}
	}
}

// P2: the argument stays as it is, also behind its end, which is not counted.
func TestMemory(t *testing.T) {
	p := []int{2, 0, 3, 1, -1, -2, -3}
	old := slices.Clone(p)
	for range 2 {
		if got, e := Falls(p[:4]); e != api.OK || got != 2 {
			t.Errorf("Falls(%v) = %v, %v, want 2", p[:4], got, e)
		}
		if got, e := Crossed(p[:4]); e != api.OK || got != 3 {
			t.Errorf("Crossed(%v) = %v, %v, want 3", p[:4], got, e)
		}
		if got, e := Sum(p[:4]); e != api.OK || got != 4 {
			t.Errorf("Sum(%v) = %v, %v, want 4", p[:4], got, e)
		}
		if !slices.Equal(p, old) {
			t.Fatalf("the argument changed to %v", p)
		}
	}
}
