package blocks

import (
	"math"
	"slices"
	"testing"

	"lotcaster/api"
)

// outside holds numbers that are not in the range 0 to MaxBlock.
var outside = []int{-1, -2, -10, api.MaxBlock + 1, 64, 1 << 32, math.MaxInt, math.MinInt}

// refused holds lists that are not restricted growth strings, or too long
// ones.
var refused = []struct {
	g    []int
	want api.Errno
}{
	{[]int{1}, api.ErrForm},
	{[]int{-1}, api.ErrForm},
	{[]int{math.MaxInt}, api.ErrForm},
	{[]int{math.MinInt}, api.ErrForm},
	{[]int{0, -1}, api.ErrForm},
	{[]int{0, 2}, api.ErrForm},
	{[]int{1, 0}, api.ErrForm},
	{[]int{0, 0, 2}, api.ErrForm},
	{[]int{0, 1, 0, 3}, api.ErrForm},
	{[]int{0, 1, 2, 0, 0, 4}, api.ErrForm},
	{[]int{0, 1, 1, math.MaxInt}, api.ErrForm},
	{[]int{0, 1, 2, math.MinInt, 3}, api.ErrForm},
	{[]int{0, 1, 2, 3, 4, 5, 6, 7, 8, 10}, api.ErrForm},
	{[]int{0, 0, 0, 0, 0, 0, 0, 0, 0, 2}, api.ErrForm},
	{[]int{0, 0, 0, 0, 0, 0, 0, 0, 0, -1}, api.ErrForm},
	{slices.Repeat([]int{1}, 10), api.ErrForm},
	// The length is looked at before the elements.
	{make([]int, 11), api.ErrLarge},
	{[]int{0, 1, 2, 3, 4, 5, 6, 7, 8, 9, 10}, api.ErrLarge},
	{[]int{0, 1, 2, 3, 4, 5, 6, 7, 8, 9, 12}, api.ErrLarge},
	{slices.Repeat([]int{-1}, 11), api.ErrLarge},
	{slices.Repeat([]int{5}, 12), api.ErrLarge},
	{make([]int, 1<<20), api.ErrLarge},
}

// all returns every restricted growth string of length n in lexicographic
// order.
func all(n int) [][]int {
	if n == 0 {
		return [][]int{{}}
	}
	var list [][]int
	for _, shorter := range all(n - 1) {
		for block := 0; block <= blocksOf(shorter); block++ {
			list = append(list, append(slices.Clone(shorter), block))
		}
	}
	return list
}

// blocksOf counts the different numbers of a list.
func blocksOf(l []int) int {
	return len(slices.Compact(slices.Sorted(slices.Values(l))))
}

// grows says in the words of the chapter whether g is a restricted growth
// string.
func grows(g []int) bool {
	for i, block := range g {
		if i == 0 && block != 0 {
			return false
		}
		if i > 0 && (block < 0 || block > 1+slices.Max(g[:i])) {
			return false
		}
	}
	return true
}

// eachList calls f for all lists of n of the values.
func eachList(n int, values []int, f func(l []int)) {
	var extend func(begun []int)
	extend = func(begun []int) {
		if len(begun) == n {
			f(begun)
			return
		}
		for _, value := range values {
			extend(append(slices.Clone(begun), value))
		}
	}
	extend(nil)
}

// P23 for all short lists of small numbers, against the definition.
func TestCheckSmall(t *testing.T) {
	for n := 0; n <= 6; n++ {
		eachList(n, []int{-1, 0, 1, 2, 3, 4, 5, 6}, func(g []int) {
			want := api.OK
			if !grows(g) {
				want = api.ErrForm
			}
			if e := Check(g); e != want {
				t.Fatalf("Check(%v) = %v, want %v", g, e, want)
			}
		})
	}
}

// P23 for all restricted growth strings, and for one with a last number that
// is just too great or too small.
func TestCheckAll(t *testing.T) {
	for n := 0; n <= api.MaxBlock; n++ {
		for _, g := range all(n) {
			if e := Check(g); e != api.OK {
				t.Fatalf("Check(%v) = %v", g, e)
			}
			want := api.ErrForm
			if n == api.MaxBlock {
				want = api.ErrLarge
			}
			for _, block := range []int{-1, blocksOf(g) + 1} {
				longer := append(slices.Clone(g), block)
				if e := Check(longer); e != want {
					t.Fatalf("Check(%v) = %v, want %v", longer, e, want)
				}
			}
		}
	}
}

func TestCheckKnownOnes(t *testing.T) {
	for _, g := range [][]int{
		nil, {}, {0}, {0, 0}, {0, 1}, {0, 0, 1, 0}, {0, 0, 1, 1}, {0, 1, 0, 2},
		make([]int, 10), {0, 1, 2, 3, 4, 5, 6, 7, 8, 9}, {0, 1, 2, 3, 4, 5, 6, 7, 8, 0},
	} {
		if e := Check(g); e != api.OK {
			t.Errorf("Check(%v) = %v", g, e)
		}
	}
	for _, c := range refused {
		if e := Check(c.g); e != c.want {
			t.Errorf("Check(%v) = %v, want %v", c.g, e, c.want)
		}
	}
}

// P24 for all arguments, against the restricted growth strings themselves.
func TestCounts(t *testing.T) {
	for n := 0; n <= api.MaxBlock; n++ {
		var want [api.MaxBlock + 1]int
		list := all(n)
		for _, g := range list {
			want[blocksOf(g)]++
		}
		for k := range want {
			if got, e := Count(n, k); e != api.OK || got != want[k] {
				t.Errorf("Count(%d, %d) = %v, %v, want %v", n, k, got, e, want[k])
			}
		}
		if got, e := All(n); e != api.OK || got != len(list) {
			t.Errorf("All(%d) = %v, %v, want %v", n, got, e, len(list))
		}
	}
}

func TestCountKnownOnes(t *testing.T) {
	for _, c := range []struct{ n, k, want int }{
		{0, 0, 1}, {0, 1, 0}, {0, 10, 0}, {1, 0, 0}, {1, 1, 1}, {1, 2, 0},
		{4, 1, 1}, {4, 2, 7}, {4, 3, 6}, {4, 4, 1}, {4, 5, 0}, {10, 0, 0},
		{10, 1, 1}, {10, 2, 511}, {10, 5, 42525}, {10, 9, 45}, {10, 10, 1}, {9, 10, 0},
	} {
		if got, e := Count(c.n, c.k); e != api.OK || got != c.want {
			t.Errorf("Count(%d, %d) = %v, %v, want %v", c.n, c.k, got, e, c.want)
		}
	}
}

func TestAllKnownOnes(t *testing.T) {
	for n, want := range []int{1, 1, 2, 5, 15, 52, 203, 877, 4140, 21147, 115975} {
		if got, e := All(n); e != api.OK || got != want {
			t.Errorf("All(%d) = %v, %v, want %v", n, got, e, want)
		}
	}
}

func TestCountsRefused(t *testing.T) {
	for _, x := range outside {
		for _, other := range []int{0, 1, 5, api.MaxBlock, x} {
			if got, e := Count(x, other); e != api.ErrArg || got != 0 {
				t.Errorf("Count(%d, %d) = %v, %v, want ErrArg", x, other, got, e)
			}
			if got, e := Count(other, x); e != api.ErrArg || got != 0 {
				t.Errorf("Count(%d, %d) = %v, %v, want ErrArg", other, x, got, e)
			}
		}
		if got, e := All(x); e != api.ErrArg || got != 0 {
			t.Errorf("All(%d) = %v, %v, want ErrArg", x, got, e)
		}
	}
}

// P25 for all restricted growth strings: each one leads to the one behind it
// in the sorted list of all, and the last one to none.
func TestNext(t *testing.T) {
	for n := 0; n <= api.MaxBlock; n++ {
		list := all(n)
		if !slices.IsSortedFunc(list, slices.Compare) {
			t.Fatalf("the list for %d is not in lexicographic order", n)
		}
		for i, g := range list[:len(list)-1] {
			if got, e := Next(g); e != api.OK || !slices.Equal(got, list[i+1]) {
				t.Fatalf("Next(%v) = %v, %v, want %v", g, got, e, list[i+1])
			}
		}
		last := list[len(list)-1]
		if got, e := Next(last); e != api.ErrNone || got != nil {
			t.Errorf("Next(%v) = %v, %v, want ErrNone", last, got, e)
		}
	}
}

func TestNextKnownOnes(t *testing.T) {
	for _, c := range []struct{ g, want []int }{
		{[]int{0, 0}, []int{0, 1}},
		{[]int{0, 0, 1}, []int{0, 1, 0}},
		{[]int{0, 0, 1, 0}, []int{0, 0, 1, 1}},
		{[]int{0, 0, 1, 2}, []int{0, 1, 0, 0}},
		{[]int{0, 1, 1, 2, 3}, []int{0, 1, 2, 0, 0}},
		{[]int{0, 1, 2, 2, 3, 4}, []int{0, 1, 2, 3, 0, 0}},
		{[]int{0, 0, 1, 2, 3, 4, 5, 6, 7, 8}, []int{0, 1, 0, 0, 0, 0, 0, 0, 0, 0}},
		{[]int{0, 1, 2, 3, 4, 5, 6, 7, 8, 8}, []int{0, 1, 2, 3, 4, 5, 6, 7, 8, 9}},
	} {
		if got, e := Next(c.g); e != api.OK || !slices.Equal(got, c.want) {
			t.Errorf("Next(%v) = %v, %v, want %v", c.g, got, e, c.want)
		}
	}
	for _, g := range [][]int{nil, {}, {0}, {0, 1}, {0, 1, 2}, {0, 1, 2, 3, 4, 5, 6, 7, 8, 9}} {
		if got, e := Next(g); e != api.ErrNone || got != nil {
			t.Errorf("Next(%v) = %v, %v, want ErrNone", g, got, e)
		}
	}
}

// P25: what is no restricted growth string is refused as by Check.
func TestNextRefused(t *testing.T) {
	for _, c := range refused {
		if got, e := Next(c.g); e != c.want || got != nil {
			t.Errorf("Next(%v) = %v, %v, want %v", c.g, got, e, c.want)
		}
	}
}

// P26 for all short lists of any numbers: the result is a restricted growth
// string with the same pairs of equal elements.
func TestOf(t *testing.T) {
	for n := 0; n <= 6; n++ {
		eachList(n, []int{7, math.MinInt, 0, -1, math.MaxInt, 1}, func(l []int) {
			g, e := Of(l)
			if e != api.OK || len(g) != n || !grows(g) {
				t.Fatalf("Of(%v) = %v, %v", l, g, e)
			}
			for i := range l {
				for j := range i {
					if (l[i] == l[j]) != (g[i] == g[j]) {
						t.Fatalf("Of(%v) = %v, see elements %d and %d", l, g, j, i)
					}
				}
			}
		})
	}
}

// P26: a restricted growth string stands for itself, whatever its blocks are
// called.
func TestOfAll(t *testing.T) {
	names := []int{3, -8, math.MaxInt, 0, 9, math.MinInt, 1, -1, 1 << 40, 2}
	for n := 0; n <= api.MaxBlock; n++ {
		for _, g := range all(n) {
			l := make([]int, n)
			for i, block := range g {
				l[i] = names[block]
			}
			if got, e := Of(l); e != api.OK || !slices.Equal(got, g) {
				t.Fatalf("Of(%v) = %v, %v, want %v", l, got, e, g)
			}
			if got, e := Of(g); e != api.OK || !slices.Equal(got, g) {
				t.Fatalf("Of(%v) = %v, %v, want the same", g, got, e)
			}
		}
	}
}

func TestOfKnownOnes(t *testing.T) {
	for _, c := range []struct{ l, want []int }{
		{nil, nil},
		{[]int{}, nil},
		{[]int{-5}, []int{0}},
		{[]int{7, 7, 5, 7}, []int{0, 0, 1, 0}},
		{[]int{7, 3, 7}, []int{0, 1, 0}},
		{[]int{2, 1, 0}, []int{0, 1, 2}},
		{[]int{math.MinInt, math.MaxInt, math.MinInt}, []int{0, 1, 0}},
		{slices.Repeat([]int{4}, 10), make([]int, 10)},
		{[]int{9, 8, 7, 6, 5, 4, 3, 2, 1, 0}, []int{0, 1, 2, 3, 4, 5, 6, 7, 8, 9}},
	} {
		if got, e := Of(c.l); e != api.OK || !slices.Equal(got, c.want) {
			t.Errorf("Of(%v) = %v, %v, want %v", c.l, got, e, c.want)
		}
	}
}

func TestOfRefused(t *testing.T) {
	for _, n := range []int{11, 12, 100, 1 << 20} {
		for _, number := range []int{0, -1, 7} {
			got, e := Of(slices.Repeat([]int{number}, n))
			if e != api.ErrLarge || got != nil {
				t.Errorf("Of(%d numbers) = %v, %v, want ErrLarge", n, got, e)
			}
		}
	}
}

// P2: arguments stay as they are, with their spare capacity, and each result
// is memory of its own.
func TestMemory(t *testing.T) {
	for name, f := range map[string]func([]int) ([]int, api.Errno){
		"Next": Next, "Of": Of,
		"Check": func(g []int) ([]int, api.Errno) { return nil, Check(g) },
	} {
		for _, l := range [][]int{
			{}, {0}, {0, 0}, {0, 1}, {0, 0, 1, 2}, {0, 1, 0, 1, 2}, {7, 7, 5, 7}, make([]int, 10),
		} {
			whole := append(slices.Clone(l), 77, 78, 79)
			before := slices.Clone(whole)
			first, _ := f(whole[:len(l)])
			second, _ := f(whole[:len(l)])
			want := slices.Clone(second)
			spare := first[:cap(first)]
			for i := range spare {
				spare[i] = 9999
			}
			third, _ := f(whole[:len(l)])
			if !slices.Equal(whole, before) {
				t.Errorf("%s(%v) changes its argument to %v", name, l, whole)
			}
			if !slices.Equal(second, want) || !slices.Equal(third, want) {
				t.Errorf("results of %s(%v) share memory", name, l)
			}
		}
	}
}
