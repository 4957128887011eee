package pool

import (
	"math"
	"slices"
	"testing"

	"lotcaster/api"
)

// numbers gives numbers that look as if they were drawn at random.
type numbers uint64

func (x *numbers) below(n int) int {
	*x = *x*6364136223846793005 + 1442695040888963407
	return int(uint64(*x) >> 33 % uint64(n))
}

// lots draws a lot list of n elements.
func (x *numbers) lots(n int) []int {
	l := make([]int, n)
	for i := range l {
		l[i] = x.below(i + 1)
	}
	return l
}

// allLots returns all lot lists of n elements.
func allLots(n int) [][]int {
	list := [][]int{{}}
	for i := range n {
		var longer [][]int
		for _, l := range list {
			for lot := 0; lot <= i; lot++ {
				longer = append(longer, append(slices.Clone(l), lot))
			}
		}
		list = longer
	}
	return list
}

// extremes holds numbers that are no lots and no sample sizes.
var extremes = []int{
	-1, -2, -12, -30, 31, 255, 256, 1 << 16, 1 << 31, 1 << 32, 1<<32 + 1, -1 << 31, -1 << 32,
	-1<<32 + 1, math.MaxInt, math.MaxInt - 1, math.MinInt, math.MinInt + 1,
}

// noSizes returns numbers that are no sample sizes.
func noSizes() []int {
	return append([]int{0, 13, 14, 16, 20, 30}, extremes...)
}

// wantedRun follows the words of P76 from the end: index j holds the last
// element behind the first k ones whose lot is j, or else the element j.
func wantedRun(k int, lots []int) []int {
	reservoir := make([]int, min(k, len(lots)))
	for j := range reservoir {
		reservoir[j] = j
		for i := len(lots) - 1; i >= k; i-- {
			if lots[i] == j {
				reservoir[j] = i
				break
			}
		}
	}
	return reservoir
}

// wantedChosen returns the elements of wantedRun, the least first.
func wantedChosen(k int, lots []int) []int {
	held := wantedRun(k, lots)
	list := []int{}
	for i := range lots {
		if slices.Contains(held, i) {
			list = append(list, i)
		}
	}
	return list
}

// refused holds lists that Check refuses for each sample size, and why.
var refused = []struct {
	lots []int
	want api.Errno
}{
	{make([]int, 31), api.ErrLarge},
	{make([]int, 32), api.ErrLarge},
	{make([]int, 256), api.ErrLarge},
	{make([]int, 1<<16), api.ErrLarge},
	{slices.Repeat([]int{-1}, 31), api.ErrLarge},
	{slices.Repeat([]int{1}, 31), api.ErrLarge},
	{append(make([]int, 30), 31), api.ErrLarge},
	{append([]int{-1}, make([]int, 30)...), api.ErrLarge},
	{[]int{1}, api.ErrForm},
	{[]int{-1}, api.ErrForm},
	{[]int{0, 2}, api.ErrForm},
	{[]int{1, 0}, api.ErrForm},
	{[]int{1, 2, 0}, api.ErrForm},
	{[]int{0, -1, 0}, api.ErrForm},
	{[]int{0, 0, 0, -1}, api.ErrForm},
	{[]int{0, 1, 2, 4}, api.ErrForm},
	{append(make([]int, 29), 30), api.ErrForm},
	{append(make([]int, 29), -1), api.ErrForm},
	{append([]int{1}, make([]int, 29)...), api.ErrForm},
	{slices.Repeat([]int{-1}, 30), api.ErrForm},
}

// checkRefused expects that no function takes the sample size and the list.
func checkRefused(t *testing.T, k int, lots []int, want api.Errno) {
	t.Helper()
	if e := Check(k, lots); e != want {
		t.Errorf("Check(%d, %d lots) = %v, want %v", k, len(lots), e, want)
	}
	if l, e := Run(k, lots); e != want || len(l) != 0 {
		t.Errorf("Run(%d, %d lots) = %v, %v, want %v", k, len(lots), l, e, want)
	}
	if l, e := Chosen(k, lots); e != want || len(l) != 0 {
		t.Errorf("Chosen(%d, %d lots) = %v, %v, want %v", k, len(lots), l, e, want)
	}
}

// checkTaken compares the results with the words of the chapter.
func checkTaken(t *testing.T, k int, lots []int) {
	t.Helper()
	if e := Check(k, lots); e != api.OK {
		t.Fatalf("Check(%d, %v) = %v, want OK", k, lots, e)
	}
	if l, e := Run(k, lots); e != api.OK || !slices.Equal(l, wantedRun(k, lots)) {
		t.Fatalf("Run(%d, %v) = %v, %v, want %v", k, lots, l, e, wantedRun(k, lots))
	}
	if l, e := Chosen(k, lots); e != api.OK || !slices.Equal(l, wantedChosen(k, lots)) {
		t.Fatalf("Chosen(%d, %v) = %v, %v, want %v", k, lots, l, e, wantedChosen(k, lots))
	}
}

// P75 to P77 for lists that are refused.
func TestRefusedLists(t *testing.T) {
	for k := 1; k <= 12; k++ {
		for _, c := range refused {
			checkRefused(t, k, c.lots, c.want)
		}
	}
}

// P75 to P77 for sample sizes out of the range, which come before all errors
// of the list.
func TestRefusedSizes(t *testing.T) {
	random := numbers(1)
	for _, k := range noSizes() {
		for n := range 31 {
			checkRefused(t, k, random.lots(n), api.ErrArg)
		}
		checkRefused(t, k, nil, api.ErrArg)
		for _, c := range refused {
			checkRefused(t, k, c.lots, api.ErrArg)
		}
	}
}

// P75 to P77 for every number at every index of lists of all sizes.
func TestElements(t *testing.T) {
	for n := 1; n <= 30; n++ {
		for i := range n {
			lots := make([]int, n)
			for lot := range 31 {
				lots[i] = lot
				k := 1 + (n+i+lot)%12
				if lot <= i {
					checkTaken(t, k, lots)
				} else {
					checkRefused(t, k, lots, api.ErrForm)
				}
			}
			for _, lot := range extremes {
				lots[i] = lot
				checkRefused(t, 1+(n+i)%12, lots, api.ErrForm)
			}
		}
	}
}

// P75 for lists of all sizes, the empty ones included.
func TestSizes(t *testing.T) {
	random := numbers(2)
	for k := 1; k <= 12; k++ {
		checkTaken(t, k, nil)
		checkTaken(t, k, []int{})
		for n := range 31 {
			checkTaken(t, k, random.lots(n))
			checkTaken(t, k, make([]int, n))
		}
		for n := 31; n < 70; n++ {
			checkRefused(t, k, random.lots(n), api.ErrLarge)
		}
	}
}

// P75 to P77 for all short lists of small numbers.
func TestShortLists(t *testing.T) {
	var l [4]int
	for i := range 6 * 6 * 6 * 6 {
		for j, rest := 0, i; j < 4; j, rest = j+1, rest/6 {
			l[j] = rest%6 - 1
		}
		for n := range 5 {
			fits := true
			for j := range n {
				fits = fits && l[j] >= 0 && l[j] <= j
			}
			for k := 1; k < 6; k++ {
				if fits {
					checkTaken(t, k, l[:n])
				} else {
					checkRefused(t, k, l[:n], api.ErrForm)
				}
			}
		}
	}
}

// P76 and P77 for drawn lists. Every other one holds small lots, so that many
// elements are replaced more than once.
func TestDrawnLists(t *testing.T) {
	random := numbers(3)
	for turn := range 30000 {
		k := 1 + random.below(12)
		lots := random.lots(random.below(31))
		if turn%2 == 0 {
			for i := range lots {
				lots[i] = min(lots[i], random.below(k+2))
			}
		}
		checkTaken(t, k, lots)
	}
}

func TestKnownOnes(t *testing.T) {
	for _, c := range []struct {
		k                 int
		lots, run, chosen []int
	}{
		{1, nil, nil, nil},
		{1, []int{0}, []int{0}, []int{0}},
		{12, []int{0}, []int{0}, []int{0}},
		{1, []int{0, 0}, []int{1}, []int{1}},
		{1, []int{0, 1}, []int{0}, []int{0}},
		{1, []int{0, 0, 0, 1}, []int{2}, []int{2}},
		{2, []int{0, 0}, []int{0, 1}, []int{0, 1}},
		{2, []int{0, 1}, []int{0, 1}, []int{0, 1}},
		{2, []int{0, 0, 0}, []int{2, 1}, []int{1, 2}},
		{2, []int{0, 0, 1}, []int{0, 2}, []int{0, 2}},
		{2, []int{0, 1, 2}, []int{0, 1}, []int{0, 1}},
		{2, []int{0, 0, 1, 3}, []int{0, 2}, []int{0, 2}},
		{2, []int{0, 0, 1, 0}, []int{3, 2}, []int{2, 3}},
		{2, []int{0, 0, 1, 1}, []int{0, 3}, []int{0, 3}},
		{3, []int{0, 0, 0, 0}, []int{3, 1, 2}, []int{1, 2, 3}},
		{3, []int{0, 0, 0, 1}, []int{0, 3, 2}, []int{0, 2, 3}},
		{3, []int{0, 0, 0, 2}, []int{0, 1, 3}, []int{0, 1, 3}},
		{3, []int{0, 0, 0, 3}, []int{0, 1, 2}, []int{0, 1, 2}},
		{3, []int{0, 1, 2, 2, 1, 0}, []int{5, 4, 3}, []int{3, 4, 5}},
		{4, []int{0, 0, 0}, []int{0, 1, 2}, []int{0, 1, 2}},
	} {
		if l, e := Run(c.k, c.lots); e != api.OK || !slices.Equal(l, c.run) {
			t.Errorf("Run(%d, %v) = %v, %v, want %v", c.k, c.lots, l, e, c.run)
		}
		if l, e := Chosen(c.k, c.lots); e != api.OK || !slices.Equal(l, c.chosen) {
			t.Errorf("Chosen(%d, %v) = %v, %v, want %v", c.k, c.lots, l, e, c.chosen)
		}
	}
}

// P78 for up to 8 elements: it is what a count of the lists finds, for each of
// the sets that there are.
func TestWaysCounts(t *testing.T) {
	for n := range 9 {
		lists := allLots(n)
		for k := 1; k <= 12; k++ {
			want, e := Ways(n, k)
			if e != api.OK {
				t.Fatalf("Ways(%d, %d) = %v, want OK", n, k, e)
			}
			count := map[int]int{}
			for _, lots := range lists {
				chosen, e := Chosen(k, lots)
				if e != api.OK || len(chosen) != min(n, k) {
					t.Fatalf("Chosen(%d, %v) = %v, %v", k, lots, chosen, e)
				}
				set := 0
				for _, element := range chosen {
					set |= 1 << element
				}
				count[set]++
			}
			for set, found := range count {
				if found != want {
					t.Errorf("%d lists of %d lots choose the set %b of %d, but Ways is %d", found, n, set, k, want)
				}
			}
			// Every set has its lists, if the lists are shared out equally.
			if len(count)*want != len(lists) {
				t.Errorf("%d sets of %d of %d elements are chosen, and Ways is %d", len(count), k, n, want)
			}
		}
	}
}

// P78 for all arguments: k factorial times (n - k) factorial.
func TestWays(t *testing.T) {
	factorial := func(n int) int {
		product := 1
		for i := 2; i <= n; i++ {
			product *= i
		}
		return product
	}
	for n := range 11 {
		for k := 1; k <= 12; k++ {
			want := factorial(n)
			if k < n {
				want = factorial(k) * factorial(n-k)
			}
			if x, e := Ways(n, k); x != want || e != api.OK {
				t.Errorf("Ways(%d, %d) = %d, %v, want %d", n, k, x, e, want)
			}
		}
	}
}

func TestWaysKnownOnes(t *testing.T) {
	for _, c := range []struct{ n, k, want int }{
		{0, 1, 1}, {0, 12, 1}, {1, 1, 1}, {1, 2, 1}, {2, 1, 1}, {2, 2, 2}, {2, 3, 2}, {3, 1, 2}, {3, 2, 2},
		{3, 3, 6}, {4, 1, 6}, {4, 2, 4}, {4, 3, 6}, {4, 4, 24}, {4, 12, 24}, {10, 1, 362880}, {10, 5, 14400},
		{10, 9, 362880}, {10, 10, 3628800}, {10, 11, 3628800}, {10, 12, 3628800},
	} {
		if x, e := Ways(c.n, c.k); x != c.want || e != api.OK {
			t.Errorf("Ways(%d, %d) = %d, %v, want %d", c.n, c.k, x, e, c.want)
		}
	}
}

// P78 for what it refuses.
func TestWaysRefuses(t *testing.T) {
	refuses := func(n, k int) {
		t.Helper()
		if x, e := Ways(n, k); x != 0 || e != api.ErrArg {
			t.Errorf("Ways(%d, %d) = %d, %v, want ErrArg", n, k, x, e)
		}
	}
	noCounts := append([]int{11, 12, 13, 16, 17, 30}, extremes...)
	for _, k := range noSizes() {
		for n := range 11 {
			refuses(n, k)
		}
		for _, n := range noCounts {
			refuses(n, k)
		}
	}
	for _, n := range noCounts {
		for k := 1; k <= 12; k++ {
			refuses(n, k)
		}
	}
}

// P2: arguments are not changed, with the memory behind them.
func TestArgumentsStay(t *testing.T) {
	lots := []int{0, 1, 0, 0, 2, 1, 0, 77, 78, 79, 80, 81, 82}
	before := slices.Clone(lots)
	for n := range len(lots) + 1 {
		for k := range 14 {
			Check(k, lots[:n])
			Run(k, lots[:n])
			Chosen(k, lots[:n])
			if !slices.Equal(lots, before) {
				t.Fatalf("the lots became %v", lots)
			}
		}
	}
}

// P2: results are new memory, and the same arguments give the same results.
func TestResultsAreNew(t *testing.T) {
	lots := []int{0, 0, 1, 0, 4, 1}
	for k, want := range map[int][2][]int{
		2: {{3, 5}, {3, 5}},
		3: {{3, 5, 2}, {2, 3, 5}},
		5: {{0, 5, 2, 3, 4}, {0, 2, 3, 4, 5}},
		9: {{0, 1, 2, 3, 4, 5}, {0, 1, 2, 3, 4, 5}},
	} {
		given := slices.Clone(lots)
		results := func() [2][]int {
			run, _ := Run(k, given)
			chosen, _ := Chosen(k, given)
			return [2][]int{run, chosen}
		}
		first := results()
		for range 3 {
			for i, again := range results() {
				if !slices.Equal(again, want[i]) {
					t.Fatalf("result %d for %d is %v, want %v", i, k, again, want[i])
				}
				whole := again[:cap(again)]
				for j := range whole {
					whole[j] = -5
				}
			}
		}
		clear(given)
		for i := range first {
			if !slices.Equal(first[i], want[i]) {
				t.Errorf("result %d for %d became %v, want %v", i, k, first[i], want[i])
			}
		}
	}
}
