package lines

import (
	"math"
	"slices"
	"testing"

	"lotcaster/api"
)

// line is what Up and Down have in common.
type line struct {
	name string
	find func(l []int) ([]int, api.Errno)
	fits func(earlier, later int) bool
}

var both = []line{
	{"Up", Up, func(earlier, later int) bool { return earlier < later }},
	{"Down", Down, func(earlier, later int) bool { return earlier >= later }},
}

// eachList calls f for all lists of n of the values, in a slice that is used
// again.
func eachList(n int, values []int, f func(l []int)) {
	l := make([]int, n)
	var fill func(at int)
	fill = func(at int) {
		if at == n {
			f(l)
			return
		}
		for _, v := range values {
			l[at] = v
			fill(at + 1)
		}
	}
	fill(0)
}

// eachShortList calls f for lists in which few numbers come often, and for
// lists of numbers that may all differ.
func eachShortList(f func(l []int)) {
	for n := 0; n <= 6; n++ {
		eachList(n, rising(n), f)
	}
	for n := 7; n <= 8; n++ {
		eachList(n, []int{-1, 0, 1}, f)
	}
}

// eachLongList calls f for lists of up to MaxLine numbers, from a few different
// ones to a great many, that look as if they were drawn at random.
func eachLongList(f func(l []int)) {
	state := uint64(1)
	for n := 10; n <= api.MaxLine; n++ {
		for _, different := range []uint64{2, 3, 5, 10, 30, 1 << 31} {
			for range 20 {
				l := make([]int, n)
				for i := range l {
					state = state*6364136223846793005 + 1442695040888963407
					l[i] = int(state>>33%different) - int(different/2)
				}
				f(l)
			}
		}
	}
}

func rising(n int) []int {
	l := make([]int, n)
	for i := range l {
		l[i] = i
	}
	return l
}

func falling(n int) []int {
	l := rising(n)
	slices.Reverse(l)
	return l
}

// isLine tells whether the indices are increasing ones of l, and the numbers
// there each fit behind the one before.
func isLine(l, indices []int, fits func(earlier, later int) bool) bool {
	for k, i := range indices {
		if i < 0 || i >= len(l) {
			return false
		}
		if k > 0 && (i <= indices[k-1] || !fits(l[indices[k-1]], l[i])) {
			return false
		}
	}
	return true
}

// greatestLine tries all subsequences of l, and returns the length of the
// longest one that is a line.
func greatestLine(l []int, fits func(earlier, later int) bool) int {
	most := 0
	for bits := range 1 << len(l) {
		var indices []int
		for i := range l {
			if bits>>i&1 == 1 {
				indices = append(indices, i)
			}
		}
		if len(indices) > most && isLine(l, indices, fits) {
			most = len(indices)
		}
	}
	return most
}

// cover puts each number of l behind the last one of the first list where
// these two do not fit, and returns how many lists that takes. No line is
// longer: two numbers of a line are never in the same list.
func cover(l []int, fits func(earlier, later int) bool) int {
	var lists [][]int
	for _, number := range l {
		i := slices.IndexFunc(lists, func(list []int) bool { return !fits(list[len(list)-1], number) })
		if i < 0 {
			lists = append(lists, nil)
			i = len(lists) - 1
		}
		lists[i] = append(lists[i], number)
	}
	return len(lists)
}

// wantedPiles follows the words of P43 with all piles as they lie there.
func wantedPiles(l []int) []int {
	var piles [][]int
	var result []int
place:
	for _, number := range l {
		for i, pile := range piles {
			if pile[len(pile)-1] >= number {
				piles[i] = append(pile, number)
				result = append(result, i)
				continue place
			}
		}
		result = append(result, len(piles))
		piles = append(piles, []int{number})
	}
	return result
}

// P41: only the length counts, whatever the numbers are.
func TestCheck(t *testing.T) {
	for _, c := range []struct {
		n    int
		want api.Errno
	}{
		{0, api.OK}, {1, api.OK}, {10, api.OK}, {29, api.OK}, {30, api.OK},
		{31, api.ErrLarge}, {32, api.ErrLarge}, {60, api.ErrLarge}, {1 << 20, api.ErrLarge},
	} {
		for _, number := range []int{0, 1, -1, 30, 31, 1 << 32, math.MaxInt, math.MinInt} {
			if e := Check(slices.Repeat([]int{number}, c.n)); e != c.want {
				t.Errorf("Check(%d times %d) = %v, want %v", c.n, number, e, c.want)
			}
		}
		if e := Check(rising(c.n)); e != c.want {
			t.Errorf("Check(%d rising) = %v, want %v", c.n, e, c.want)
		}
		if e := Check(falling(c.n)); e != c.want {
			t.Errorf("Check(%d falling) = %v, want %v", c.n, e, c.want)
		}
	}
	if e := Check(nil); e != api.OK {
		t.Errorf("Check(nil) = %v", e)
	}
}

// expectLines fails unless Up and Down each find a line of the wanted length.
func expectLines(t *testing.T, l []int, want func(l []int, fits func(earlier, later int) bool) int) {
	t.Helper()
	for _, c := range both {
		got, e := c.find(l)
		if n := want(l, c.fits); e != api.OK || len(got) != n || !isLine(l, got, c.fits) {
			t.Fatalf("%s(%v) = %v, %v, want a line of %d", c.name, l, got, e, n)
		}
	}
}

// P42 for short lists, against all of their subsequences.
func TestLongestOfShort(t *testing.T) {
	eachShortList(func(l []int) { expectLines(t, l, greatestLine) })
}

// P42 for long lists: a line as long as the number of lists in a cover has no
// longer one beside it.
func TestLongestOfLong(t *testing.T) {
	eachLongList(func(l []int) { expectLines(t, l, cover) })
}

// P42: lists in which no other line is as long.
func TestOnlyLongestLine(t *testing.T) {
	least, most := math.MinInt, math.MaxInt
	up, down := both[0], both[1]
	for _, c := range []struct {
		line    line
		l, want []int
	}{
		{up, []int{0}, []int{0}},
		{up, []int{-7}, []int{0}},
		{up, []int{1, 2}, []int{0, 1}},
		{up, []int{5, 1, 9, 2, 3, 0, 4}, []int{1, 3, 4, 6}},
		{up, []int{3, 1, 2}, []int{1, 2}},
		{up, []int{least, most}, []int{0, 1}},
		{up, []int{least, 0, most}, []int{0, 1, 2}},
		{up, []int{most, least, -1, least, most - 1}, []int{1, 2, 4}},
		{up, rising(30), rising(30)},
		{down, []int{0}, []int{0}},
		{down, []int{-7}, []int{0}},
		{down, []int{2, 1}, []int{0, 1}},
		{down, []int{5, 5}, []int{0, 1}},
		{down, []int{3, 1, 2, 2}, []int{0, 2, 3}},
		{down, []int{1, 1, 2, 1, 1, 3}, []int{0, 1, 3, 4}},
		{down, []int{9, 1, 8, 7, 2, 6, 6}, []int{0, 2, 3, 5, 6}},
		{down, []int{most, least}, []int{0, 1}},
		{down, []int{most, 0, least}, []int{0, 1, 2}},
		{down, []int{least, least + 1, most, most - 1}, []int{2, 3}},
		{down, []int{least, most, 0, least, least}, []int{1, 2, 3, 4}},
		{down, falling(30), rising(30)},
		{down, make([]int, 30), rising(30)},
	} {
		if got, e := c.line.find(c.l); e != api.OK || !slices.Equal(got, c.want) {
			t.Errorf("%s(%v) = %v, %v, want %v", c.line.name, c.l, got, e, c.want)
		}
	}
}

// P42: lists with several longest lines, of which any will do.
func TestOneOfSeveral(t *testing.T) {
	least, most := math.MinInt, math.MaxInt
	for _, c := range []struct {
		l        []int
		up, down int
	}{
		{[]int{1, 2}, 2, 1},
		{[]int{2, 1}, 1, 2},
		{[]int{3, 1, 2, 2}, 2, 3},
		{[]int{1, 9, 2, 3, 8, 4}, 4, 3},
		{[]int{least, most, least, most}, 2, 2},
		{[]int{least, least + 1, most, most - 1}, 3, 2},
		{rising(30), 30, 1},
		{falling(30), 1, 30},
		{make([]int, 30), 1, 30},
		{slices.Repeat([]int{least, most}, 15), 2, 15},
		{slices.Concat(falling(15), falling(15)), 2, 16},
		{slices.Concat(rising(15), falling(15)), 15, 16},
		{slices.Repeat(rising(5), 6), 5, 6},
	} {
		for i, want := range []int{c.up, c.down} {
			if got, e := both[i].find(c.l); e != api.OK || len(got) != want || !isLine(c.l, got, both[i].fits) {
				t.Errorf("%s(%v) = %v, %v, want a line of %d", both[i].name, c.l, got, e, want)
			}
		}
	}
}

// P42: nothing comes from nothing.
func TestEmpty(t *testing.T) {
	for _, l := range [][]int{nil, {}} {
		for _, c := range both {
			if got, e := c.find(l); e != api.OK || len(got) != 0 {
				t.Errorf("%s(%v) = %v, %v, want no indices", c.name, l, got, e)
			}
		}
		if got, e := Split(l); e != api.OK || len(got) != 0 {
			t.Errorf("Split(%v) = %v, %v, want no piles", l, got, e)
		}
	}
}

// P43 against its words. There are as many piles as a longest increasing line
// has numbers.
func TestSplit(t *testing.T) {
	compare := func(l []int) {
		got, e := Split(l)
		if want := wantedPiles(l); e != api.OK || !slices.Equal(got, want) {
			t.Fatalf("Split(%v) = %v, %v, want %v", l, got, e, want)
		}
		piles := 0
		for _, pile := range got {
			piles = max(piles, pile+1)
		}
		if up, e := Up(l); e != api.OK || len(up) != piles {
			t.Fatalf("Up(%v) = %v, %v, but there are %d piles", l, up, e, piles)
		}
	}
	eachShortList(compare)
	eachLongList(compare)
}

func TestSplitKnownOnes(t *testing.T) {
	least, most := math.MinInt, math.MaxInt
	for _, c := range []struct{ l, want []int }{
		{nil, nil},
		{[]int{0}, []int{0}},
		{[]int{-7}, []int{0}},
		{[]int{1, 2}, []int{0, 1}},
		{[]int{2, 1}, []int{0, 0}},
		{[]int{5, 5}, []int{0, 0}},
		{[]int{3, 1, 2, 2}, []int{0, 0, 1, 1}},
		{[]int{4, 6, 5, 4}, []int{0, 1, 1, 0}},
		{[]int{1, 3, 2, 3, 1}, []int{0, 1, 1, 2, 0}},
		{[]int{2, 7, 1, 8, 2, 8, 1, 8}, []int{0, 1, 0, 2, 1, 2, 0, 2}},
		{[]int{least, most, least, most}, []int{0, 1, 0, 1}},
		{[]int{most, least, most}, []int{0, 0, 1}},
		{rising(30), rising(30)},
		{falling(30), make([]int, 30)},
		{make([]int, 30), make([]int, 30)},
	} {
		if got, e := Split(c.l); e != api.OK || !slices.Equal(got, c.want) {
			t.Errorf("Split(%v) = %v, %v, want %v", c.l, got, e, c.want)
		}
	}
}

// P42 and P43: what Check refuses is refused with its error.
func TestRefused(t *testing.T) {
	for _, l := range [][]int{
		rising(31), falling(31), make([]int, 31), rising(32), make([]int, 1<<20),
		slices.Repeat([]int{math.MinInt, math.MaxInt}, 16),
	} {
		for name, f := range map[string]func([]int) ([]int, api.Errno){"Up": Up, "Down": Down, "Split": Split} {
			if got, e := f(l); e != api.ErrLarge || got != nil {
				t.Errorf("%s(%d numbers) = %v, %v, want ErrLarge", name, len(l), got, e)
			}
		}
	}
}

// P2: arguments stay as they are, with their spare capacity, each result is
// memory of its own, and the same argument always has the same result.
func TestMemory(t *testing.T) {
	for name, f := range map[string]func([]int) ([]int, api.Errno){
		"Up": Up, "Down": Down, "Split": Split,
		"Check": func(l []int) ([]int, api.Errno) { return nil, Check(l) },
	} {
		for _, l := range [][]int{
			{}, {0}, {0, 1}, {1, 0}, {3, 1, 2, 2}, {1, 2, 1, 2, 1, 2}, {7, 7, 5, 7}, rising(30), falling(30),
		} {
			whole := append(slices.Clone(l), 77, -78, 79)
			before := slices.Clone(whole)
			first, _ := f(whole[:len(l)])
			second, _ := f(whole[:len(l)])
			want := slices.Clone(first)
			spare := first[:cap(first)]
			for i := range spare {
				spare[i] = 9999
			}
			third, _ := f(whole[:len(l)])
			if !slices.Equal(whole, before) {
				t.Errorf("%s(%v) changes its argument to %v", name, l, whole)
			}
			if !slices.Equal(second, want) || !slices.Equal(third, want) {
				t.Errorf("%s(%v) = %v, then %v, then %v", name, l, want, second, third)
			}
		}
	}
}
