package orbits

import (
	"math"
	"slices"
	"testing"

	"lotcaster/api"
	"lotcaster/perm"
	"lotcaster/rank"
)

// symmetry is a list of generators of permutations of n positions.
type symmetry struct {
	name       string
	n          int
	generators [][]int
}

// famous are symmetries whose numbers are known: of a ring, of a ring that may
// be turned over, of a heap, of the faces of a cube, and none.
var famous = []symmetry{
	{"nothing", 0, nil},
	{"nothing, moved", 0, [][]int{{}, nil}},
	{"one", 1, [][]int{{0}}},
	{"none of six", 6, nil},
	{"ring of three", 3, [][]int{{1, 2, 0}}},
	{"ring of four", 4, [][]int{{1, 2, 3, 0}}},
	{"ring of six", 6, [][]int{{1, 2, 3, 4, 5, 0}}},
	{"turned ring of six", 6, [][]int{{1, 2, 3, 4, 5, 0}, {5, 4, 3, 2, 1, 0}}},
	{"cube", 6, [][]int{{0, 2, 3, 4, 1, 5}, {1, 5, 2, 0, 4, 3}}},
	{"heap of six", 6, [][]int{{1, 2, 3, 4, 5, 0}, {1, 0, 2, 3, 4, 5}}},
	{"even orders of five", 5, [][]int{{1, 2, 0, 3, 4}, {0, 2, 3, 1, 4}, {0, 1, 3, 4, 2}}},
	{"three pairs", 6, [][]int{{1, 0, 2, 3, 4, 5}, {0, 1, 3, 2, 4, 5}, {0, 1, 2, 3, 5, 4}}},
	{"six that repeat", 3, [][]int{{1, 0, 2}, {1, 0, 2}, {0, 1, 2}, {1, 0, 2}, {1, 0, 2}, {1, 0, 2}}},
}

// numbers gives numbers that look as if they were drawn at random.
type numbers uint64

func (x *numbers) below(n int) int {
	*x = *x*6364136223846793005 + 1442695040888963407
	return int(uint64(*x) >> 33 % uint64(n))
}

// eachSymmetry calls f for the famous symmetries, all those with at most two
// generators of up to three positions, and some more.
func eachSymmetry(f func(s symmetry)) {
	for _, s := range famous {
		f(s)
	}
	for n := 0; n <= 3; n++ {
		all := allOrders(n)
		for _, p := range all {
			f(symmetry{"one of few", n, [][]int{p}})
			for _, q := range all {
				f(symmetry{"two of few", n, [][]int{p, q}})
			}
		}
	}
	random := numbers(1)
	for n := 4; n <= api.MaxMoved; n++ {
		all := allOrders(n)
		for count := 0; count <= api.MaxMoved; count++ {
			for range 2 {
				var generators [][]int
				for range count {
					generators = append(generators, all[random.below(len(all))])
				}
				f(symmetry{"drawn", n, generators})
			}
		}
	}
}

func allOrders(n int) [][]int {
	count, _ := rank.Count(n)
	all := make([][]int, count)
	for i := range all {
		all[i], _ = rank.At(n, i)
	}
	return all
}

// apply follows the words of P46.
func apply(p, row []int) []int {
	result := make([]int, len(row))
	for i := range row {
		result[p[i]] = row[i]
	}
	return result
}

// reached lists, sorted, what the generators make of the row, one after the
// other, in any number and in any order.
func reached(row []int, generators [][]int) [][]int {
	rows := [][]int{row}
	seen := map[string]bool{key(row): true}
	for i := 0; i < len(rows); i++ {
		for _, p := range generators {
			other := apply(p, rows[i])
			if !seen[key(other)] {
				seen[key(other)] = true
				rows = append(rows, other)
			}
		}
	}
	slices.SortFunc(rows, slices.Compare)
	return rows
}

func key(row []int) string {
	var text []rune
	for _, v := range row {
		text = append(text, rune(v))
	}
	return string(text)
}

// eachRow calls f for all rows of n of k colors, in a slice that is used again.
func eachRow(n, k int, f func(row []int)) {
	row := make([]int, n)
	var fill func(at int)
	fill = func(at int) {
		if at == n {
			f(row)
			return
		}
		for color := range k {
			row[at] = color
			fill(at + 1)
		}
	}
	fill(0)
}

// wantedGroup lists what the generators make of the row 0, 1, 2 and so on:
// these rows are the inverses of all compositions, and so all compositions.
func wantedGroup(s symmetry) [][]int {
	identity := make([]int, s.n)
	for i := range identity {
		identity[i] = i
	}
	return reached(identity, s.generators)
}

// P44.
func TestCheckAccepts(t *testing.T) {
	eachSymmetry(func(s symmetry) {
		if e := Check(s.n, s.generators); e != api.OK {
			t.Error(s, e)
		}
	})
}

var refused = []struct {
	name string
	n    int
	l    [][]int
	want api.Errno
}{
	{"n is negative", -1, nil, api.ErrArg},
	{"n is one too great", api.MaxMoved + 1, [][]int{{0, 1, 2, 3, 4, 5, 6}}, api.ErrArg},
	{"n is the least number", math.MinInt, nil, api.ErrArg},
	{"n is the greatest number", math.MaxInt, nil, api.ErrArg},
	{"n before the number of generators", 7, make([][]int, 7), api.ErrArg},
	{"n before their form", -1, [][]int{{0, 0}}, api.ErrArg},
	{"seven generators", 2, [][]int{{0, 1}, {1, 0}, {0, 1}, {1, 0}, {0, 1}, {1, 0}, {0, 1}}, api.ErrLarge},
	{"seven of nothing", 0, make([][]int, 7), api.ErrLarge},
	{"their number before their form", 2, make([][]int, 7), api.ErrLarge},
	{"a great many", 3, make([][]int, 100000), api.ErrLarge},
	{"too short", 3, [][]int{{0, 1}}, api.ErrForm},
	{"too long", 3, [][]int{{0, 1, 2, 3}}, api.ErrForm},
	{"none where there are positions", 3, [][]int{nil}, api.ErrForm},
	{"some where there are no positions", 0, [][]int{{0}}, api.ErrForm},
	{"a repetition", 3, [][]int{{0, 1, 1}}, api.ErrForm},
	{"from 1 on", 3, [][]int{{1, 2, 3}}, api.ErrForm},
	{"a negative number", 3, [][]int{{0, 1, -1}}, api.ErrForm},
	{"extreme numbers", 2, [][]int{{math.MinInt, math.MaxInt}}, api.ErrForm},
	{"longer than any permutation", 3, [][]int{{0, 1, 2, 3, 4, 5, 6, 7, 8, 9, 10}}, api.ErrForm},
	{"the last of six", 2, [][]int{{0, 1}, {1, 0}, {0, 1}, {1, 0}, {0, 1}, {1, 1}}, api.ErrForm},
}

// P44 to P47: the errors of Check come first in all functions.
func TestRefused(t *testing.T) {
	for _, c := range refused {
		if e := Check(c.n, c.l); e != c.want {
			t.Error(c.name, e)
		}
		if g, e := Group(c.n, c.l); e != c.want || g != nil {
			t.Error(c.name, g, e)
		}
		for _, k := range []int{2, -1, api.MaxColour + 1} {
			if x, e := Colours(c.n, c.l, k); e != c.want || x != 0 {
				t.Error(c.name, k, x, e)
			}
		}
		for _, row := range [][]int{nil, {5, 4}, {5, 4, 3}} {
			if x, e := Least(c.n, c.l, row); e != c.want || x != nil {
				t.Error(c.name, row, x, e)
			}
		}
	}
}

// P45 by what the generators reach.
func TestGroup(t *testing.T) {
	eachSymmetry(func(s symmetry) {
		g, e := Group(s.n, s.generators)
		if e != api.OK || !slices.EqualFunc(g, wantedGroup(s), slices.Equal) {
			t.Error(s, g, e)
		}
	})
}

// P45: the order, the identity, and every composition.
func TestGroupIsClosed(t *testing.T) {
	for _, s := range famous {
		g, e := Group(s.n, s.generators)
		if e != api.OK || len(g) == 0 || !slices.IsSorted(g[0]) {
			t.Fatal(s, g, e)
		}
		for i, p := range g {
			if perm.Check(p) != api.OK || len(p) != s.n {
				t.Error(s, p)
			}
			if i > 0 && slices.Compare(g[i-1], p) >= 0 {
				t.Error(s, g[i-1], p)
			}
			for _, q := range s.generators {
				product, _ := perm.Times(p, q)
				if _, found := slices.BinarySearchFunc(g, product, slices.Compare); !found {
					t.Error(s, p, q)
				}
			}
		}
	}
}

// P45 and P46 for known symmetries.
func TestKnown(t *testing.T) {
	type known struct{ k, classes int }
	wanted := map[string]struct {
		size    int
		classes []known
	}{
		"nothing":             {1, []known{{0, 1}, {1, 1}, {10, 1}}},
		"nothing, moved":      {1, []known{{0, 1}, {1, 1}, {10, 1}}},
		"one":                 {1, []known{{0, 0}, {1, 1}, {10, 10}}},
		"none of six":         {1, []known{{0, 0}, {1, 1}, {2, 64}, {10, 1000000}}},
		"ring of three":       {3, []known{{0, 0}, {1, 1}, {2, 4}, {3, 11}, {10, 340}}},
		"ring of four":        {4, []known{{0, 0}, {1, 1}, {2, 6}, {3, 24}, {10, 2530}}},
		"ring of six":         {6, []known{{0, 0}, {1, 1}, {2, 14}, {3, 130}, {10, 166870}}},
		"turned ring of six":  {12, []known{{0, 0}, {1, 1}, {2, 13}, {3, 92}}},
		"cube":                {24, []known{{0, 0}, {1, 1}, {2, 10}, {3, 57}, {6, 2226}, {10, 43450}}},
		"heap of six":         {720, []known{{0, 0}, {1, 1}, {2, 7}, {3, 28}, {10, 5005}}},
		"even orders of five": {60, []known{{0, 0}, {1, 1}, {2, 6}, {4, 56}, {5, 127}}},
		"three pairs":         {8, []known{{0, 0}, {1, 1}, {2, 27}, {10, 55 * 55 * 55}}},
		"six that repeat":     {2, []known{{0, 0}, {1, 1}, {2, 6}, {10, 550}}},
	}
	for _, s := range famous {
		want := wanted[s.name]
		if g, e := Group(s.n, s.generators); e != api.OK || len(g) != want.size {
			t.Error(s, len(g), e)
		}
		for _, c := range want.classes {
			if x, e := Colours(s.n, s.generators, c.k); e != api.OK || x != c.classes {
				t.Error(s, c, x, e)
			}
		}
	}
}

// P46 and P47 by the classes themselves: each has just one row that is its
// least one.
func TestColoursAndLeastByClasses(t *testing.T) {
	eachSymmetry(func(s symmetry) {
		for k := 0; k <= 4 && power(k, s.n) <= 300; k++ {
			classes := 0
			eachRow(s.n, k, func(row []int) {
				want := reached(slices.Clone(row), s.generators)[0]
				if slices.Equal(row, want) {
					classes++
				}
				if x, e := Least(s.n, s.generators, row); e != api.OK || !slices.Equal(x, want) {
					t.Error(s, row, x, e)
				}
			})
			if x, e := Colours(s.n, s.generators, k); e != api.OK || x != classes {
				t.Error(s, k, classes, x, e)
			}
		}
	})
}

func power(k, n int) int {
	x := 1
	for range n {
		x *= k
	}
	return x
}

// P46.
func TestColoursRefused(t *testing.T) {
	for _, k := range []int{-1, api.MaxColour + 1, math.MinInt, math.MaxInt} {
		for _, s := range famous {
			if x, e := Colours(s.n, s.generators, k); e != api.ErrArg || x != 0 {
				t.Error(s, k, x, e)
			}
		}
	}
}

// P47 with any numbers.
func TestLeastOfAnyNumbers(t *testing.T) {
	for _, c := range []struct {
		name      string
		row, want []int
	}{
		{"nothing", nil, nil},
		{"nothing", []int{}, nil},
		{"one", []int{math.MinInt}, []int{math.MinInt}},
		{"none of six", []int{6, 5, 4, 3, 2, 1}, []int{6, 5, 4, 3, 2, 1}},
		{"ring of three", []int{2, 1, 0}, []int{0, 2, 1}},
		{"ring of three", []int{math.MaxInt, 0, math.MinInt}, []int{math.MinInt, math.MaxInt, 0}},
		{"ring of four", []int{1, 0, 1, -1}, []int{-1, 1, 0, 1}},
		{"ring of four", []int{7, 7, 7, 7}, []int{7, 7, 7, 7}},
		{"ring of six", []int{9, 1, 8, 1, 7, 2}, []int{1, 7, 2, 9, 1, 8}},
		{"turned ring of six", []int{9, 1, 7, 1, 8, 2}, []int{1, 7, 1, 8, 2, 9}},
		{"turned ring of six", []int{9, 2, 8, 1, 7, 1}, []int{1, 7, 1, 8, 2, 9}},
		{"heap of six", []int{5, math.MinInt, math.MaxInt, -5, 5, 0}, []int{math.MinInt, -5, 0, 5, 5, math.MaxInt}},
		{"three pairs", []int{2, 1, 1, 2, 9, -9}, []int{1, 2, 1, 2, -9, 9}},
		{"six that repeat", []int{3, -3, -9}, []int{-3, 3, -9}},
	} {
		at := slices.IndexFunc(famous, func(s symmetry) bool { return s.name == c.name })
		if x, e := Least(famous[at].n, famous[at].generators, c.row); e != api.OK || !slices.Equal(x, c.want) {
			t.Error(c, x, e)
		}
	}
}

// P47: a row of another length.
func TestLeastRefused(t *testing.T) {
	for _, s := range famous {
		for length := 0; length <= 8; length++ {
			if length == s.n {
				continue
			}
			if x, e := Least(s.n, s.generators, make([]int, length)); e != api.ErrForm || x != nil {
				t.Error(s, length, x, e)
			}
		}
	}
}

// fill overwrites a row and what is behind it.
func fill(row []int) {
	row = row[:cap(row)]
	for i := range row {
		row[i] = -7
	}
}

// P2.
func TestMemory(t *testing.T) {
	spare := []int{1, 2, 0, 8, 9, 1, 0, 2, 8, 9, 5, 4, 3, 8, 9}
	before := slices.Clone(spare)
	generators := [][]int{spare[0:3], spare[5:8], {-1}}[:2]
	row := spare[10:13]
	group, _ := Group(3, generators)
	least, _ := Least(3, generators, row)
	Colours(3, generators, 3)
	Check(3, generators)
	if len(group) != 6 || !slices.Equal(least, []int{3, 4, 5}) {
		t.Fatal(group, least)
	}
	for i, p := range group {
		want, _ := rank.At(3, i)
		if !slices.Equal(p, want) {
			t.Error(i, p)
		}
		fill(p)
	}
	fill(least)
	if !slices.Equal(spare, before) || generators[:3][2][0] != -1 {
		t.Error(spare, generators[:3])
	}
	again, _ := Group(3, generators)
	for i, p := range again {
		if want, _ := rank.At(3, i); !slices.Equal(p, want) {
			t.Error(i, p)
		}
	}
	if x, _ := Least(3, generators, row); !slices.Equal(x, []int{3, 4, 5}) {
		t.Error(x)
	}
	one, _ := Least(3, nil, row)
	fill(one)
	if !slices.Equal(spare, before) {
		t.Error(spare)
	}
}
