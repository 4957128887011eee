package alias

import (
	"math"
	"slices"
	"testing"

	"lotcaster/api"
)

// numbers gives numbers that look as if they were drawn at random.
type numbers uint64

func (x *numbers) below(n int) int {
	*x = *x*6364136223846793005 + 1442695040888963407
	return int(uint64(*x) >> 33 % uint64(n))
}

// weights draws n weights below most, not all of which are 0.
func (x *numbers) weights(n, most int) []int {
	w := make([]int, n)
	for i := range w {
		w[i] = x.below(most)
	}
	w[x.below(n)]++
	return w
}

// columns draws n columns with a Cut up to total.
func (x *numbers) columns(n, total int) []api.Column {
	l := make([]api.Column, n)
	for i := range l {
		l[i] = api.Column{Cut: x.below(total + 1), Other: x.below(n)}
	}
	return l
}

// allLists returns all lists of n numbers from low to high.
func allLists(n, low, high int) [][]int {
	list := [][]int{{}}
	for range n {
		var longer [][]int
		for _, l := range list {
			for number := low; number <= high; number++ {
				longer = append(longer, append(slices.Clone(l), number))
			}
		}
		list = longer
	}
	return list
}

// allTables returns all lists of n columns with a Cut from 0 to total.
func allTables(n, total int) [][]api.Column {
	list := [][]api.Column{{}}
	for range n {
		var longer [][]api.Column
		for _, l := range list {
			for cut := 0; cut <= total; cut++ {
				for other := range n {
					longer = append(longer, append(slices.Clone(l), api.Column{Cut: cut, Other: other}))
				}
			}
		}
		list = longer
	}
	return list
}

// extremes holds numbers that are neither weights nor columns, and no Cut.
var extremes = []int{
	-1, -2, -100, -101, 1201, 1 << 16, 1 << 31, 1 << 32, 1<<32 + 1, -1 << 31, -1 << 32,
	-1<<32 + 1, math.MaxInt, math.MaxInt - 1, math.MinInt, math.MinInt + 1,
}

// total returns the sum W of the weights.
func total(w []int) int {
	all := 0
	for _, weight := range w {
		all += weight
	}
	return all
}

// wantedCheck follows the words of P71.
func wantedCheck(w []int) api.Errno {
	if len(w) == 0 || len(w) > 12 {
		return api.ErrLarge
	}
	if slices.Min(w) < 0 || slices.Max(w) > 100 {
		return api.ErrArg
	}
	if slices.Max(w) == 0 {
		return api.ErrZero
	}
	return api.OK
}

// isTable follows the words of P72 for weights that Check does not refuse.
func isTable(w []int, l []api.Column) bool {
	if len(l) != len(w) {
		return false
	}
	all := total(w)
	for _, c := range l {
		if c.Cut < 0 || c.Cut > all || c.Other < 0 || c.Other >= len(w) {
			return false
		}
	}
	for i, weight := range w {
		got := l[i].Cut
		for _, c := range l {
			if c.Other == i {
				got += all - c.Cut
			}
		}
		if got != len(w)*weight {
			return false
		}
	}
	return true
}

// wantedTest follows the words of P73.
func wantedTest(w []int, l []api.Column) (bool, api.Errno) {
	if e := wantedCheck(w); e != api.OK {
		return false, e
	}
	if len(l) != len(w) {
		return false, api.ErrForm
	}
	for _, c := range l {
		if c.Cut < 0 || c.Cut > total(w) || c.Other < 0 || c.Other >= len(w) {
			return false, api.ErrArg
		}
	}
	return isTable(w, l), api.OK
}

// draws counts how often Draw gives each number, for all columns and all
// numbers below the sum of the weights.
func draws(t *testing.T, w []int, l []api.Column) []int {
	t.Helper()
	count := make([]int, len(w))
	for at := range l {
		for x := range total(w) {
			i, e := Draw(l, at, x)
			if e != api.OK || i < 0 || i >= len(w) {
				t.Fatalf("Draw(%v, %d, %d) = %v, %v", l, at, x, i, e)
			}
			count[i]++
		}
	}
	return count
}

// checkBuild checks one table that Build returns, and what Test says of it.
func checkBuild(t *testing.T, w []int) []api.Column {
	t.Helper()
	l, e := Build(w)
	if e != api.OK || !isTable(w, l) {
		t.Fatalf("Build(%v) = %v, %v", w, l, e)
	}
	if is, e := Test(w, l); !is || e != api.OK {
		t.Fatalf("Test(%v, %v) = %v, %v", w, l, is, e)
	}
	return l
}

// bad holds what Check refuses, and why.
var bad = []struct {
	w    []int
	want api.Errno
}{
	{nil, api.ErrLarge},
	{[]int{}, api.ErrLarge},
	{make([]int, 13), api.ErrLarge},
	{slices.Repeat([]int{1}, 13), api.ErrLarge},
	{slices.Repeat([]int{-1}, 13), api.ErrLarge},
	{slices.Repeat([]int{101}, 14), api.ErrLarge},
	{slices.Repeat([]int{1}, 256), api.ErrLarge},
	{slices.Repeat([]int{1}, 1<<16), api.ErrLarge},
	{[]int{-1}, api.ErrArg},
	{[]int{101}, api.ErrArg},
	{[]int{0, -1}, api.ErrArg},
	{[]int{-1, 1}, api.ErrArg},
	{[]int{1, -1}, api.ErrArg},
	{[]int{0, 101}, api.ErrArg},
	{[]int{100, 100, 101}, api.ErrArg},
	{[]int{-100, 100}, api.ErrArg},
	{append(slices.Repeat([]int{100}, 11), 101), api.ErrArg},
	{append(make([]int, 11), -1), api.ErrArg},
	{[]int{0}, api.ErrZero},
	{[]int{0, 0}, api.ErrZero},
	{make([]int, 11), api.ErrZero},
	{make([]int, 12), api.ErrZero},
}

// P71 for what it refuses.
func TestCheckRefuses(t *testing.T) {
	for _, c := range bad {
		if e := Check(c.w); e != c.want {
			t.Errorf("Check(%d weights) = %v, want %v", len(c.w), e, c.want)
		}
	}
}

// P71 for all short lists of small numbers.
func TestCheckShort(t *testing.T) {
	for n := range 5 {
		for _, w := range allLists(n, -1, 3) {
			if e := Check(w); e != wantedCheck(w) {
				t.Fatalf("Check(%v) = %v, want %v", w, e, wantedCheck(w))
			}
		}
	}
}

// P71 for every number at every index of lists of all sizes.
func TestCheckElements(t *testing.T) {
	others := append([]int{0, 1, 2, 50, 99, 100, 101, 102}, extremes...)
	for n := 1; n <= 14; n++ {
		for i := range n {
			for _, weight := range others {
				for _, rest := range []int{0, 1, 100} {
					w := slices.Repeat([]int{rest}, n)
					w[i] = weight
					if e := Check(w); e != wantedCheck(w) {
						t.Errorf("Check(%v) = %v, want %v", w, e, wantedCheck(w))
					}
				}
			}
		}
	}
}

// P71: numbers whose sum is 0, some of which are out of the range, are refused
// for that.
func TestCheckOrder(t *testing.T) {
	for _, w := range [][]int{
		{1, -1}, {-100, 100}, {math.MinInt, math.MinInt}, {math.MaxInt, math.MaxInt, 2},
		{math.MinInt, 0}, {0, math.MinInt}, {1 << 62, 1 << 62, 1 << 62, 1 << 62},
	} {
		if e := Check(w); e != api.ErrArg {
			t.Errorf("Check(%v) = %v, want ErrArg", w, e)
		}
	}
}

// P72 for all short lists of small weights.
func TestBuildShort(t *testing.T) {
	for _, c := range []struct{ n, most int }{{1, 100}, {2, 30}, {3, 12}, {4, 6}, {5, 4}, {6, 3}, {7, 2}} {
		for _, w := range allLists(c.n, 0, c.most) {
			if total(w) > 0 {
				checkBuild(t, w)
			}
		}
	}
}

// P72 for drawn weights of all sizes.
func TestBuildLong(t *testing.T) {
	random := numbers(1)
	for range 30000 {
		n := 1 + random.below(api.MaxCases)
		checkBuild(t, random.weights(n, 1+random.below(api.MaxWeight)))
	}
}

// P72 for the greatest weights, for equal ones, and for one among zeros.
func TestBuildLimits(t *testing.T) {
	for n := 1; n <= api.MaxCases; n++ {
		for _, weight := range []int{1, 2, 3, 99, 100} {
			checkBuild(t, slices.Repeat([]int{weight}, n))
			for i := range n {
				w := make([]int, n)
				w[i] = weight
				checkBuild(t, w)
				w = slices.Repeat([]int{100}, n)
				w[i] = weight
				checkBuild(t, w)
				w = slices.Repeat([]int{1}, n)
				w[i] = weight
				checkBuild(t, w)
			}
		}
	}
}

// P72 and P74: over all columns and all numbers below the sum, Draw on the
// table gives every number in proportion to its weight.
func TestBuildAndDraw(t *testing.T) {
	random := numbers(2)
	for range 2000 {
		n := 1 + random.below(api.MaxCases)
		w := random.weights(n, 1+random.below(30))
		count := draws(t, w, checkBuild(t, w))
		for i, weight := range w {
			if count[i] != n*weight {
				t.Fatalf("%v are drawn for %v", count, w)
			}
		}
	}
}

// P72 for what it refuses.
func TestBuildRefuses(t *testing.T) {
	refuses := func(w []int, want api.Errno) {
		t.Helper()
		if l, e := Build(w); e != want || len(l) != 0 {
			t.Errorf("Build(%d weights) = %v, %v, want %v", len(w), l, e, want)
		}
	}
	for _, c := range bad {
		refuses(c.w, c.want)
	}
	for _, weight := range extremes {
		for n := 1; n <= api.MaxCases; n++ {
			for i := range n {
				w := slices.Repeat([]int{1}, n)
				w[i] = weight
				refuses(w, api.ErrArg)
			}
		}
		refuses(slices.Repeat([]int{weight}, 13), api.ErrLarge)
	}
}

func TestKnownTables(t *testing.T) {
	for _, c := range []struct {
		w    []int
		l    []api.Column
		want bool
	}{
		{[]int{1, 3}, []api.Column{{Cut: 2, Other: 1}, {Cut: 4, Other: 1}}, true},
		{[]int{1, 3}, []api.Column{{Cut: 2, Other: 1}, {Cut: 4, Other: 0}}, true},
		{[]int{1, 3}, []api.Column{{Cut: 0, Other: 1}, {Cut: 2, Other: 0}}, true},
		{[]int{1, 3}, []api.Column{{Cut: 1, Other: 1}, {Cut: 3, Other: 0}}, true},
		{[]int{1, 3}, []api.Column{{Cut: 2, Other: 1}, {Cut: 0, Other: 1}}, true},
		{[]int{1, 3}, []api.Column{{Cut: 2, Other: 0}, {Cut: 4, Other: 1}}, false},
		{[]int{1, 3}, []api.Column{{Cut: 1, Other: 1}, {Cut: 4, Other: 1}}, false},
		{[]int{1, 3}, []api.Column{{Cut: 2, Other: 1}, {Cut: 3, Other: 0}}, false},
		{[]int{3, 1}, []api.Column{{Cut: 2, Other: 1}, {Cut: 4, Other: 1}}, false},
		{[]int{5}, []api.Column{{Cut: 0, Other: 0}}, true},
		{[]int{5}, []api.Column{{Cut: 3, Other: 0}}, true},
		{[]int{5}, []api.Column{{Cut: 5, Other: 0}}, true},
		{[]int{0, 7}, []api.Column{{Cut: 0, Other: 1}, {Cut: 7, Other: 0}}, true},
		{[]int{0, 7}, []api.Column{{Cut: 0, Other: 1}, {Cut: 0, Other: 1}}, true},
		{[]int{0, 7}, []api.Column{{Cut: 0, Other: 0}, {Cut: 7, Other: 1}}, false},
		{[]int{1, 1, 1}, []api.Column{{Cut: 0, Other: 1}, {Cut: 0, Other: 2}, {Cut: 0, Other: 0}}, true},
		{[]int{1, 1, 1}, []api.Column{{Cut: 0, Other: 1}, {Cut: 0, Other: 1}, {Cut: 0, Other: 0}}, false},
		{[]int{2, 1, 3}, []api.Column{{Cut: 6, Other: 0}, {Cut: 3, Other: 2}, {Cut: 6, Other: 0}}, true},
		{[]int{2, 1, 3}, []api.Column{{Cut: 6, Other: 0}, {Cut: 2, Other: 2}, {Cut: 5, Other: 1}}, true},
		{[]int{2, 1, 3}, []api.Column{{Cut: 6, Other: 0}, {Cut: 2, Other: 2}, {Cut: 5, Other: 0}}, false},
	} {
		if is, e := Test(c.w, c.l); is != c.want || e != api.OK {
			t.Errorf("Test(%v, %v) = %v, %v, want %v", c.w, c.l, is, e, c.want)
		}
	}
}

// P73 for all tables of few columns.
func TestTestAllTables(t *testing.T) {
	count := map[bool]int{}
	for _, c := range []struct{ n, most, total int }{{1, 4, 5}, {2, 4, 5}, {3, 2, 3}} {
		lists := allLists(c.n, 0, c.most)
		for all := 1; all <= c.total; all++ {
			tables := allTables(c.n, all)
			for _, w := range lists {
				if total(w) != all {
					continue
				}
				for _, l := range tables {
					is, e := Test(w, l)
					if e != api.OK || is != isTable(w, l) {
						t.Fatalf("Test(%v, %v) = %v, %v", w, l, is, e)
					}
					count[is]++
				}
			}
		}
	}
	if count[true] < 100 || count[false] < 1000 {
		t.Errorf("%d tables are right, and %d are not", count[true], count[false])
	}
}

// P73 for drawn tables, and for weights that a drawn table has by chance.
func TestTestDrawn(t *testing.T) {
	random := numbers(3)
	count := map[bool]int{}
	for range 100000 {
		n := 1 + random.below(4)
		w := random.weights(n, 4)
		l := random.columns(n, total(w))
		is, e := Test(w, l)
		if e != api.OK || is != isTable(w, l) {
			t.Fatalf("Test(%v, %v) = %v, %v", w, l, is, e)
		}
		count[is]++
	}
	if count[true] < 1000 || count[false] < 1000 {
		t.Errorf("%d tables are right, and %d are not", count[true], count[false])
	}
}

// P73 for tables of Build in which one number differs, or two columns are
// swapped, and for other weights.
func TestTestNearlyRight(t *testing.T) {
	random := numbers(4)
	check := func(w []int, l []api.Column) {
		t.Helper()
		want, wantError := wantedTest(w, l)
		if is, e := Test(w, l); is != want || e != wantError {
			t.Fatalf("Test(%v, %v) = %v, %v, want %v, %v", w, l, is, e, want, wantError)
		}
	}
	for range 3000 {
		n := 1 + random.below(api.MaxCases)
		w := random.weights(n, 1+random.below(api.MaxWeight))
		l := checkBuild(t, w)
		for i := range l {
			for _, by := range []int{-1, 1, 2} {
				other := slices.Clone(l)
				other[i].Cut += by
				check(w, other)
				other = slices.Clone(l)
				other[i].Other += by
				check(w, other)
			}
			other := slices.Clone(l)
			j := random.below(n)
			other[i], other[j] = other[j], other[i]
			check(w, other)
			less := slices.Clone(w)
			less[i]--
			check(less, l)
		}
	}
}

// P73: a table for the weights is one for their multiples only if its cuts are
// multiples, too.
func TestTestMultiples(t *testing.T) {
	l := []api.Column{{Cut: 2, Other: 1}, {Cut: 4, Other: 1}}
	if is, e := Test([]int{2, 6}, l); is || e != api.OK {
		t.Errorf("Test = %v, %v, want false", is, e)
	}
	for i := range l {
		l[i].Cut *= 2
	}
	if is, e := Test([]int{2, 6}, l); !is || e != api.OK {
		t.Errorf("Test = %v, %v, want true", is, e)
	}
}

// P73 for weights that it refuses, with columns of all sorts.
func TestTestRefusesWeights(t *testing.T) {
	for _, c := range bad {
		for _, l := range [][]api.Column{
			nil,
			{{Cut: 0, Other: 0}},
			{{Cut: -1, Other: 7}},
			make([]api.Column, len(c.w)),
			slices.Repeat([]api.Column{{Cut: 1, Other: -1}}, len(c.w)),
		} {
			if is, e := Test(c.w, l); is || e != c.want {
				t.Errorf("Test(%d weights, %d columns) = %v, %v, want %v", len(c.w), len(l), is, e, c.want)
			}
		}
	}
}

// P73 for lists of a wrong size, whatever the columns are.
func TestTestRefusesSizes(t *testing.T) {
	for n := 1; n <= api.MaxCases; n++ {
		for size := range 30 {
			for _, c := range []api.Column{{Cut: 1, Other: 0}, {Cut: -1, Other: 0}, {Cut: n + 1}, {Other: size}} {
				if size == n {
					continue
				}
				l := slices.Repeat([]api.Column{c}, size)
				if is, e := Test(slices.Repeat([]int{1}, n), l); is || e != api.ErrForm {
					t.Errorf("Test(%d weights, %d columns) = %v, %v, want ErrForm", n, size, is, e)
				}
			}
		}
	}
}

// P73 for columns that are out of the range, each at every index.
func TestTestRefusesColumns(t *testing.T) {
	refuses := func(w []int, l []api.Column) {
		t.Helper()
		if is, e := Test(w, l); is || e != api.ErrArg {
			t.Errorf("Test(%v, %v) = %v, %v, want ErrArg", w, l, is, e)
		}
	}
	for n := 1; n <= api.MaxCases; n++ {
		w := slices.Repeat([]int{2}, n)
		for i := range n {
			for _, number := range append([]int{2*n + 1, 2*n + 2}, extremes...) {
				l := checkBuild(t, w)
				l[i].Cut = number
				refuses(w, l)
			}
			for _, number := range append([]int{n, n + 1}, extremes...) {
				l := checkBuild(t, w)
				l[i].Other = number
				refuses(w, l)
				l[i].Cut = number
				refuses(w, l)
				// A column that gives nothing away has an Other nevertheless.
				l[i].Cut = 2 * n
				refuses(w, l)
			}
		}
	}
}

// P73: the greatest and the least Cut and Other are allowed.
func TestTestLimits(t *testing.T) {
	for n := 1; n <= api.MaxCases; n++ {
		w := slices.Repeat([]int{api.MaxWeight}, n)
		for _, c := range []api.Column{
			{Cut: 0, Other: 0}, {Cut: 0, Other: n - 1}, {Cut: 100 * n, Other: 0}, {Cut: 100 * n, Other: n - 1},
		} {
			l := slices.Repeat([]api.Column{c}, n)
			want := c.Cut > 0 || n == 1
			if is, e := Test(w, l); is != want || e != api.OK {
				t.Errorf("Test(%v, %v) = %v, %v, want %v", w, l, is, e, want)
			}
		}
	}
}

// P74 for all columns of drawn tables and every number from below 0 to above
// each Cut.
func TestDraw(t *testing.T) {
	random := numbers(5)
	for range 500 {
		n := 1 + random.below(api.MaxCases)
		l := random.columns(n, 20)
		for at := range n {
			for x := -3; x < 25; x++ {
				want := l[at].Other
				if l[at].Cut > x {
					want = at
				}
				if i, e := Draw(l, at, x); i != want || e != api.OK {
					t.Fatalf("Draw(%v, %d, %d) = %v, %v, want %v", l, at, x, i, e, want)
				}
			}
		}
	}
}

// P74: x may be any number, and so may be what the columns hold.
func TestDrawAnyNumbers(t *testing.T) {
	all := append([]int{0, 1, 2, 3, 12, 13}, extremes...)
	for _, cut := range all {
		for _, other := range all {
			l := []api.Column{{Cut: 7, Other: 1}, {Cut: cut, Other: other}, {Cut: -7, Other: 0}}
			for _, x := range all {
				want := other
				if x < cut {
					want = 1
				}
				if i, e := Draw(l, 1, x); i != want || e != api.OK {
					t.Errorf("Draw(%v, 1, %d) = %v, %v, want %v", l, x, i, e, want)
				}
			}
		}
	}
}

func TestDrawKnownOnes(t *testing.T) {
	l := []api.Column{{Cut: 2, Other: 1}, {Cut: 4, Other: 1}}
	for _, c := range []struct{ at, x, want int }{
		{0, -1, 0}, {0, 0, 0}, {0, 1, 0}, {0, 2, 1}, {0, 3, 1}, {0, 4, 1},
		{1, 0, 1}, {1, 3, 1}, {1, 4, 1}, {1, 5, 1},
		{0, math.MinInt, 0}, {0, math.MaxInt, 1}, {1, math.MinInt, 1}, {1, math.MaxInt, 1},
	} {
		if i, e := Draw(l, c.at, c.x); i != c.want || e != api.OK {
			t.Errorf("Draw(%v, %d, %d) = %v, %v, want %v", l, c.at, c.x, i, e, c.want)
		}
	}
}

// P74 for what it refuses, in the order of the errors.
func TestDrawRefuses(t *testing.T) {
	for size := range 30 {
		l := slices.Repeat([]api.Column{{Cut: 5, Other: 7}}, size)
		for _, at := range append([]int{size, size + 1, 12, 13}, extremes...) {
			if at >= 0 && at < size && size <= 12 {
				continue
			}
			want := api.ErrArg
			if size == 0 || size > 12 {
				want = api.ErrLarge
			}
			for _, x := range []int{-1, 0, 4, 5, 6, math.MinInt, math.MaxInt} {
				if i, e := Draw(l, at, x); i != 0 || e != want {
					t.Errorf("Draw(%d columns, %d, %d) = %v, %v, want %v", size, at, x, i, e, want)
				}
			}
		}
	}
	for _, size := range []int{0, 13, 14, 256, 1 << 16} {
		if i, e := Draw(make([]api.Column, size), 0, 0); i != 0 || e != api.ErrLarge {
			t.Errorf("Draw(%d columns, 0, 0) = %v, %v, want ErrLarge", size, i, e)
		}
	}
}

// P2: arguments and the memory behind them stay as they are.
func TestArgumentsStay(t *testing.T) {
	numbersBehind := []int{1, 3, 0, 6, 9, 9, 9, 9}
	columnsBehind := slices.Repeat([]api.Column{{Cut: 1, Other: 2}}, 8)
	w, l := numbersBehind[:4], columnsBehind[:4]
	Check(w)
	Build(w)
	Test(w, l)
	Draw(l, 1, 5)
	Draw(l, 1, 0)
	if !slices.Equal(numbersBehind, []int{1, 3, 0, 6, 9, 9, 9, 9}) {
		t.Errorf("the weights became %v", numbersBehind)
	}
	if !slices.Equal(columnsBehind, slices.Repeat([]api.Column{{Cut: 1, Other: 2}}, 8)) {
		t.Errorf("the columns became %v", columnsBehind)
	}
}

// P2: what Build returns is new memory, and the same for the same weights.
func TestResultsAreNew(t *testing.T) {
	random := numbers(6)
	for range 1000 {
		w := random.weights(1+random.below(api.MaxCases), 6)
		first := checkBuild(t, w)
		want := slices.Clone(first)
		second := checkBuild(t, w)
		if !slices.Equal(second, want) {
			t.Fatalf("Build(%v) = %v, then %v", w, want, second)
		}
		first = first[:cap(first)]
		for i := range first {
			first[i] = api.Column{Cut: -5, Other: -5}
		}
		if !slices.Equal(second, want) {
			t.Fatalf("Build(%v) changed with another result", w)
		}
		if third := checkBuild(t, slices.Clone(w)); !slices.Equal(third, want) {
			t.Fatalf("Build(%v) = %v, then %v", w, want, third)
		}
	}
}
