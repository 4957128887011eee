package tableau

import (
	"math"
	"slices"
	"testing"

	"lotcaster/api"
	"lotcaster/perm"
)

// shapes returns all non-increasing lists of positive lengths with the sum n.
func shapes(n int) [][]int {
	var list [][]int
	var extend func(begun []int, left, most int)
	extend = func(begun []int, left, most int) {
		if left == 0 {
			list = append(list, slices.Clone(begun))
			return
		}
		for length := min(left, most); length >= 1; length-- {
			extend(append(slices.Clone(begun), length), left-length, length)
		}
	}
	extend(nil, n, n)
	return list
}

// eachTableau calls f for all tableaux of a shape, in rows that are used again.
// The numbers are put in from 0 on, each at the end of a row that is still
// shorter than the one above it.
func eachTableau(shape []int, f func(t [][]int)) {
	t := make([][]int, len(shape))
	cells := total(shape)
	var put func(number int)
	put = func(number int) {
		if number == cells {
			f(t)
			return
		}
		for i, length := range shape {
			if len(t[i]) == length || i > 0 && len(t[i]) == len(t[i-1]) {
				continue
			}
			t[i] = append(t[i], number)
			put(number + 1)
			t[i] = t[i][:len(t[i])-1]
		}
	}
	put(0)
}

// eachPermutation calls f for all permutations of n numbers, in a slice that
// is used again.
func eachPermutation(n int, f func(p []int)) {
	p := rising(n)
	var settle func(from int)
	settle = func(from int) {
		if from == n {
			f(p)
			return
		}
		for at := from; at < n; at++ {
			p[from], p[at] = p[at], p[from]
			settle(from + 1)
			p[from], p[at] = p[at], p[from]
		}
	}
	settle(0)
}

// eachList calls f for all lists of n of the values, in a slice that is used
// again.
func eachList(n int, values []int, f func(l []int)) {
	l := make([]int, n)
	var fill func(at int)
	fill = func(at int) {
		if at == n {
			f(l)
			return
		}
		for _, v := range values {
			l[at] = v
			fill(at + 1)
		}
	}
	fill(0)
}

func rising(n int) []int {
	p := make([]int, n)
	for i := range p {
		p[i] = i
	}
	return p
}

func falling(n int) []int {
	p := rising(n)
	slices.Reverse(p)
	return p
}

// column is the tableau with one number in each row.
func column(n int) [][]int {
	t := make([][]int, n)
	for i := range t {
		t[i] = []int{i}
	}
	return t
}

func total(numbers []int) int {
	sum := 0
	for _, x := range numbers {
		sum += x
	}
	return sum
}

func copied(t [][]int) [][]int {
	rows := make([][]int, len(t))
	for i, row := range t {
		rows[i] = slices.Clone(row)
	}
	return rows
}

func same(a, b [][]int) bool {
	return slices.EqualFunc(a, b, slices.Equal)
}

func lengths(t [][]int) []int {
	var shape []int
	for _, row := range t {
		shape = append(shape, len(row))
	}
	return shape
}

// transposed has the columns of t as its rows.
func transposed(t [][]int) [][]int {
	var columns [][]int
	for _, row := range t {
		for j, entry := range row {
			if j == len(columns) {
				columns = append(columns, nil)
			}
			columns[j] = append(columns[j], entry)
		}
	}
	return columns
}

// inserted puts a number into a tableau as P38 says it, one row after another.
func inserted(t [][]int, number int) [][]int {
	if len(t) == 0 {
		return [][]int{{number}}
	}
	row := slices.Clone(t[0])
	at := slices.IndexFunc(row, func(entry int) bool { return entry > number })
	if at < 0 {
		return append([][]int{append(row, number)}, t[1:]...)
	}
	bumped := row[at]
	row[at] = number
	return append([][]int{row}, inserted(t[1:], bumped)...)
}

// wantedPair is the pair of p by P38.
func wantedPair(p []int) api.Pair {
	var x api.Pair
	for i, number := range p {
		longer := inserted(x.P, number)
		if len(longer) > len(x.P) {
			x.Q = append(x.Q, []int{i})
		}
		for r, row := range x.P {
			if len(longer[r]) > len(row) {
				x.Q[r] = append(x.Q[r], i)
			}
		}
		x.P = longer
	}
	return x
}

// longestRise is the length of a longest rising subsequence of p.
func longestRise(p []int) int {
	longest := 0
	ends := make([]int, len(p))
	for i, v := range p {
		ends[i] = 1
		for j, w := range p[:i] {
			if w < v {
				ends[i] = max(ends[i], ends[j]+1)
			}
		}
		longest = max(longest, ends[i])
	}
	return longest
}

// isTableau says in the words of P37 whether t is a tableau.
func isTableau(t [][]int) bool {
	var entries []int
	for _, row := range t {
		entries = append(entries, row...)
	}
	for number := range entries {
		if !slices.Contains(entries, number) {
			return false
		}
	}
	for i, row := range t {
		if len(row) == 0 || i > 0 && len(row) > len(t[i-1]) {
			return false
		}
		for j := range row {
			if j > 0 && row[j-1] >= row[j] || i > 0 && t[i-1][j] >= row[j] {
				return false
			}
		}
	}
	return true
}

type refusal struct {
	name string
	t    [][]int
	want api.Errno
}

// refused lists what is not a tableau, or too large.
func refused() []refusal {
	return []refusal{
		{"an empty row alone", [][]int{{}}, api.ErrForm},
		{"a nil row alone", [][]int{nil}, api.ErrForm},
		{"an empty row at the end", [][]int{{0, 1}, {}}, api.ErrForm},
		{"an empty row at the start", [][]int{{}, {0}}, api.ErrForm},
		{"an empty row inside", [][]int{{0}, {}, {1}}, api.ErrForm},
		{"ten empty rows", make([][]int, 10), api.ErrForm},
		{"a longer row below", [][]int{{0}, {1, 2}}, api.ErrForm},
		{"a longer row further below", [][]int{{0, 1}, {2}, {3, 4}}, api.ErrForm},
		{"a row that falls", [][]int{{1, 0}}, api.ErrForm},
		{"a lower row that falls", [][]int{{0, 1}, {3, 2}}, api.ErrForm},
		{"a column that falls", [][]int{{1}, {0}}, api.ErrForm},
		{"a second column that falls", [][]int{{0, 3}, {1, 2}}, api.ErrForm},
		{"a third row that falls behind", [][]int{{0, 1}, {3}, {2}}, api.ErrForm},
		{"counted from 1", [][]int{{1, 2}, {3}}, api.ErrForm},
		{"one number, not 0", [][]int{{1}}, api.ErrForm},
		{"a number left out", [][]int{{0, 1}, {3}}, api.ErrForm},
		{"twice the same in a row", [][]int{{0, 0}}, api.ErrForm},
		{"twice the same in a column", [][]int{{0}, {0}}, api.ErrForm},
		{"twice the same elsewhere", [][]int{{0, 1}, {1}}, api.ErrForm},
		{"negative", [][]int{{-1, 0}}, api.ErrForm},
		{"smallest int", [][]int{{math.MinInt, 1}}, api.ErrForm},
		{"largest int", [][]int{{0}, {math.MaxInt}}, api.ErrForm},
		{"ten zeros", [][]int{make([]int, 10)}, api.ErrForm},
		{"ten with the number 10", [][]int{append(rising(9), 10)}, api.ErrForm},
		{"ten falling", [][]int{falling(10)}, api.ErrForm},
		{"eleven in a row", [][]int{rising(11)}, api.ErrLarge},
		{"eleven in a column", column(11), api.ErrLarge},
		{"eleven in two rows", [][]int{rising(10), {10}}, api.ErrLarge},
		{"eleven zeros", [][]int{make([]int, 11)}, api.ErrLarge},
		{"eleven falling", [][]int{falling(11)}, api.ErrLarge},
		{"eleven empty rows", make([][]int, 11), api.ErrLarge},
		{"one entry, ten empty rows", append([][]int{{0}}, make([][]int, 10)...), api.ErrLarge},
		{"eleven behind an empty row", [][]int{{}, rising(11)}, api.ErrLarge},
		{"eleven with a longer row below", [][]int{{0}, make([]int, 10)}, api.ErrLarge},
		{"very many entries", [][]int{{0}, make([]int, 1<<20)}, api.ErrLarge},
		{"very many rows", make([][]int, 1<<20), api.ErrLarge},
	}
}

// P37 for all tableaux: they are accepted, and what is more than 10 is not.
func TestCheckAll(t *testing.T) {
	for n := 0; n <= 11; n++ {
		want := api.OK
		if n > 10 {
			want = api.ErrLarge
		}
		for _, shape := range shapes(n) {
			eachTableau(shape, func(rows [][]int) {
				if e := Check(rows); e != want {
					t.Fatalf("Check(%v) = %v, want %v", rows, e, want)
				}
			})
		}
	}
}

// P37 for all lists of up to 3 rows with up to 3 entries each, 5 together,
// against its words.
func TestCheckSmall(t *testing.T) {
	for rows := 0; rows <= 3; rows++ {
		eachList(rows, []int{0, 1, 2, 3}, func(shape []int) {
			n := total(shape)
			if n > 5 {
				return
			}
			values := append(rising(n), -1, n)
			eachList(n, values, func(entries []int) {
				var list [][]int
				at := 0
				for _, length := range shape {
					list = append(list, entries[at:at+length])
					at += length
				}
				want := api.ErrForm
				if isTableau(list) {
					want = api.OK
				}
				if e := Check(list); e != want {
					t.Fatalf("Check(%v) = %v, want %v", list, e, want)
				}
			})
		})
	}
}

// P37 for all permutations of 6 numbers as the entries of each shape.
func TestCheckFilled(t *testing.T) {
	for _, shape := range shapes(6) {
		eachPermutation(6, func(p []int) {
			var list [][]int
			at := 0
			for _, length := range shape {
				list = append(list, p[at:at+length])
				at += length
			}
			if e := Check(list); (e == api.OK) != isTableau(list) {
				t.Fatalf("Check(%v) = %v", list, e)
			}
		})
	}
}

func TestCheckKnownOnes(t *testing.T) {
	for _, rows := range [][][]int{
		nil, {}, {{0}}, {{0, 1}}, {{0}, {1}}, {{0, 2}, {1}}, {{0, 1}, {2}},
		{{0, 1, 2}, {3, 4, 5}}, {{0, 2, 4}, {1, 3, 5}}, {{0, 1, 4}, {2, 3}, {5}},
		{rising(10)}, column(10), {{0, 1, 2, 3, 4}, {5, 6, 7, 8, 9}},
	} {
		if e := Check(rows); e != api.OK {
			t.Errorf("Check(%v) = %v", rows, e)
		}
	}
	for _, c := range refused() {
		if e := Check(c.t); e != c.want {
			t.Errorf("%s: Check = %v, want %v", c.name, e, c.want)
		}
	}
}

// P38 and P39 for all permutations of up to 8 numbers: the insertion as it is
// said, and back.
func TestOfAndBack(t *testing.T) {
	for n := 0; n <= 8; n++ {
		eachPermutation(n, func(p []int) {
			got, e := Of(p)
			want := wantedPair(p)
			if e != api.OK || !same(got.P, want.P) || !same(got.Q, want.Q) {
				t.Fatalf("Of(%v) = %v, %v, want %v", p, got, e, want)
			}
			if back, e := Back(got); e != api.OK || !slices.Equal(back, p) {
				t.Fatalf("Back(%v) = %v, %v, want %v", got, back, e, p)
			}
		})
	}
}

// P38 by what is known of the pairs: they are tableaux of one shape, whose
// first row is as long as the longest rise; those of the inverse are exchanged,
// and reading p backwards turns P over.
func TestOfProperties(t *testing.T) {
	for n := 0; n <= 7; n++ {
		eachPermutation(n, func(p []int) {
			x, e := Of(p)
			if e != api.OK || !isTableau(x.P) || !isTableau(x.Q) || !slices.Equal(lengths(x.P), lengths(x.Q)) {
				t.Fatalf("Of(%v) = %v, %v", p, x, e)
			}
			if n > 0 && len(x.P[0]) != longestRise(p) {
				t.Fatalf("Of(%v) = %v, but the longest rise is %v", p, x, longestRise(p))
			}
			inverse, _ := perm.Inverse(p)
			if y, e := Of(inverse); e != api.OK || !same(y.P, x.Q) || !same(y.Q, x.P) {
				t.Fatalf("Of(%v) = %v, %v, but that of its inverse is %v", p, x, e, y)
			}
			backwards := slices.Clone(p)
			slices.Reverse(backwards)
			if y, e := Of(backwards); e != api.OK || !same(y.P, transposed(x.P)) {
				t.Fatalf("Of(%v) = %v, %v, but that of its reverse is %v", p, x, e, y)
			}
		})
	}
}

// P39 for all pairs of up to 7 entries: Of leads back, and there are as many of
// them as permutations.
func TestBackAndOf(t *testing.T) {
	permutations := 1
	for n := 0; n <= 7; n++ {
		permutations *= max(n, 1)
		pairs := 0
		for _, shape := range shapes(n) {
			eachTableau(shape, func(p [][]int) {
				eachTableau(shape, func(q [][]int) {
					pairs++
					got, e := Back(api.Pair{P: p, Q: q})
					if e != api.OK || perm.Check(got) != api.OK || len(got) != n {
						t.Fatalf("Back(%v, %v) = %v, %v", p, q, got, e)
					}
					if x := wantedPair(got); !same(x.P, p) || !same(x.Q, q) {
						t.Fatalf("Back(%v, %v) = %v, which comes from %v", p, q, got, x)
					}
				})
			})
		}
		if pairs != permutations {
			t.Errorf("%d pairs of %d entries, want %d", pairs, n, permutations)
		}
	}
}

// P38 and P39 for many permutations of 9 and 10 numbers: all that are their own
// inverse have twice the same tableau, and each tableau comes from one.
func TestOwnInverses(t *testing.T) {
	for n := 9; n <= 10; n++ {
		for _, shape := range shapes(n) {
			eachTableau(shape, func(rows [][]int) {
				p, e := Back(api.Pair{P: rows, Q: rows})
				if e != api.OK {
					t.Fatalf("Back of twice %v fails with %v", rows, e)
				}
				if inverse, e := perm.Inverse(p); e != api.OK || !slices.Equal(inverse, p) {
					t.Fatalf("Back of twice %v = %v, whose inverse is %v", rows, p, inverse)
				}
				if x, e := Of(p); e != api.OK || !same(x.P, rows) || !same(x.Q, rows) {
					t.Fatalf("Of(%v) = %v, %v, want twice %v", p, x, e, rows)
				}
			})
		}
	}
}

func TestOfAndBackKnownOnes(t *testing.T) {
	for _, c := range []struct {
		p    []int
		want api.Pair
	}{
		{nil, api.Pair{}},
		{[]int{}, api.Pair{}},
		{[]int{0}, api.Pair{P: [][]int{{0}}, Q: [][]int{{0}}}},
		{[]int{0, 1}, api.Pair{P: [][]int{{0, 1}}, Q: [][]int{{0, 1}}}},
		{[]int{1, 0}, api.Pair{P: [][]int{{0}, {1}}, Q: [][]int{{0}, {1}}}},
		{[]int{1, 0, 2}, api.Pair{P: [][]int{{0, 2}, {1}}, Q: [][]int{{0, 2}, {1}}}},
		{[]int{1, 2, 0}, api.Pair{P: [][]int{{0, 2}, {1}}, Q: [][]int{{0, 1}, {2}}}},
		{[]int{2, 0, 1}, api.Pair{P: [][]int{{0, 1}, {2}}, Q: [][]int{{0, 2}, {1}}}},
		{[]int{0, 2, 1}, api.Pair{P: [][]int{{0, 1}, {2}}, Q: [][]int{{0, 1}, {2}}}},
		{[]int{3, 0, 2, 4, 1}, api.Pair{P: [][]int{{0, 1, 4}, {2}, {3}}, Q: [][]int{{0, 2, 3}, {1}, {4}}}},
		{[]int{4, 1, 3, 0, 2}, api.Pair{P: [][]int{{0, 2}, {1, 3}, {4}}, Q: [][]int{{0, 2}, {1, 4}, {3}}}},
		{rising(10), api.Pair{P: [][]int{rising(10)}, Q: [][]int{rising(10)}}},
		{falling(10), api.Pair{P: column(10), Q: column(10)}},
	} {
		if got, e := Of(c.p); e != api.OK || !same(got.P, c.want.P) || !same(got.Q, c.want.Q) {
			t.Errorf("Of(%v) = %v, %v, want %v", c.p, got, e, c.want)
		}
		if got, e := Back(c.want); e != api.OK || !slices.Equal(got, c.p) {
			t.Errorf("Back(%v) = %v, %v, want %v", c.want, got, e, c.p)
		}
	}
	empty := api.Pair{P: [][]int{}, Q: nil}
	if got, e := Back(empty); e != api.OK || len(got) != 0 {
		t.Errorf("Back of no rows = %v, %v", got, e)
	}
}

// P38: what perm.Check refuses is refused with its error, the length first.
func TestOfRefused(t *testing.T) {
	for _, c := range []struct {
		name string
		p    []int
		want api.Errno
	}{
		{"one number, not 0", []int{1}, api.ErrForm},
		{"counted from 1", []int{1, 2, 3}, api.ErrForm},
		{"twice the same", []int{0, 0}, api.ErrForm},
		{"twice the same at the end", []int{2, 0, 1, 1}, api.ErrForm},
		{"negative", []int{0, -1}, api.ErrForm},
		{"as large as the length", []int{0, 1, 3}, api.ErrForm},
		{"smallest int", []int{0, math.MinInt}, api.ErrForm},
		{"largest int", []int{math.MaxInt, 0}, api.ErrForm},
		{"ten zeros", make([]int, 10), api.ErrForm},
		{"eleven rising", rising(11), api.ErrLarge},
		{"eleven zeros", make([]int, 11), api.ErrLarge},
		{"as many as there may be cells", rising(api.MaxCells), api.ErrLarge},
		{"very many", make([]int, 100000), api.ErrLarge},
	} {
		if got, e := Of(c.p); e != c.want || got.P != nil || got.Q != nil {
			t.Errorf("%s: Of = %v, %v, want %v", c.name, got, e, c.want)
		}
	}
}

// P39: P is looked at first, Q next and their lengths last.
func TestBackRefused(t *testing.T) {
	refuse := func(name string, p, q [][]int, want api.Errno) {
		t.Helper()
		if got, e := Back(api.Pair{P: p, Q: q}); e != want || got != nil {
			t.Errorf("%s: Back = %v, %v, want %v", name, got, e, want)
		}
	}
	right := [][]int{{0, 1}, {2}}
	for _, c := range refused() {
		refuse("P "+c.name, c.t, right, c.want)
		refuse("P alone "+c.name, c.t, nil, c.want)
		refuse("Q "+c.name, right, c.t, c.want)
		refuse("Q alone "+c.name, nil, c.t, c.want)
		refuse("both "+c.name, c.t, c.t, c.want)
		for _, d := range refused() {
			refuse("P "+c.name+", Q "+d.name, c.t, d.t, c.want)
		}
	}
}

// P39: for all pairs of up to 5 entries that differ in their shapes.
func TestBackUnlike(t *testing.T) {
	var tableaux [][][]int
	for n := 0; n <= 5; n++ {
		for _, shape := range shapes(n) {
			eachTableau(shape, func(rows [][]int) {
				tableaux = append(tableaux, copied(rows))
			})
		}
	}
	for _, p := range tableaux {
		for _, q := range tableaux {
			want := api.OK
			if !slices.Equal(lengths(p), lengths(q)) {
				want = api.ErrArg
			}
			got, e := Back(api.Pair{P: p, Q: q})
			if e != want || e != api.OK && got != nil {
				t.Fatalf("Back(%v, %v) = %v, %v, want %v", p, q, got, e, want)
			}
		}
	}
}

// P40 for all shapes, against the tableaux themselves; the squares of the
// counts add up to the number of permutations.
func TestCount(t *testing.T) {
	permutations := 1
	for n := 0; n <= api.MaxCells; n++ {
		permutations *= max(n, 1)
		squares := 0
		for _, shape := range shapes(n) {
			want := 0
			eachTableau(shape, func([][]int) { want++ })
			got, e := Count(shape)
			if e != api.OK || got != want {
				t.Errorf("Count(%v) = %v, %v, want %v", shape, got, e, want)
			}
			squares += got * got
		}
		if squares != permutations {
			t.Errorf("the squares for %d add up to %v, want %v", n, squares, permutations)
		}
	}
}

func TestCountKnownOnes(t *testing.T) {
	for _, c := range []struct {
		shape []int
		want  int
	}{
		{nil, 1}, {[]int{}, 1}, {[]int{1}, 1}, {[]int{2}, 1}, {[]int{1, 1}, 1}, {[]int{2, 1}, 2},
		{[]int{2, 2}, 2}, {[]int{3, 2}, 5}, {[]int{3, 2, 1}, 16}, {[]int{3, 3, 3}, 42},
		{[]int{4, 3, 2, 1}, 768}, {[]int{12}, 1}, {slices.Repeat([]int{1}, 12), 1}, {[]int{11, 1}, 11},
		{[]int{6, 6}, 132}, {slices.Repeat([]int{2}, 6), 132}, {[]int{4, 4, 4}, 462}, {[]int{3, 3, 3, 3}, 462},
		{[]int{5, 3, 2, 1, 1}, 7700},
	} {
		if got, e := Count(c.shape); e != api.OK || got != c.want {
			t.Errorf("Count(%v) = %v, %v, want %v", c.shape, got, e, c.want)
		}
	}
}

// P40 for all lists of up to 4 lengths around the limits, against its words.
func TestCountErrors(t *testing.T) {
	values := []int{-1, 0, 1, 2, 3, 4, 5, 6, 7, 11, 12, 13}
	var extend func(shape []int, want api.Errno)
	extend = func(shape []int, want api.Errno) {
		if got, e := Count(shape); e != want || e == api.OK && got < 1 || e != api.OK && got != 0 {
			t.Fatalf("Count(%v) = %v, %v, want %v", shape, got, e, want)
		}
		if len(shape) == 4 {
			return
		}
		for _, length := range values {
			longer := append(slices.Clone(shape), length)
			next := want
			switch {
			case want != api.OK:
			case length < 1 || length > 12:
				next = api.ErrArg
			case len(shape) > 0 && length > shape[len(shape)-1]:
				next = api.ErrForm
			case total(longer) > 12:
				next = api.ErrLarge
			}
			extend(longer, next)
		}
	}
	extend(nil, api.OK)
}

func TestCountRefused(t *testing.T) {
	for _, c := range []struct {
		shape []int
		want  api.Errno
	}{
		{[]int{0}, api.ErrArg},
		{[]int{-1}, api.ErrArg},
		{[]int{13}, api.ErrArg},
		{[]int{40}, api.ErrArg},
		{[]int{math.MaxInt}, api.ErrArg},
		{[]int{math.MinInt}, api.ErrArg},
		{[]int{2, 1, 0}, api.ErrArg},
		{[]int{1, 2}, api.ErrForm},
		{[]int{12, 1}, api.ErrLarge},
		{[]int{6, 6, 1}, api.ErrLarge},
		{slices.Repeat([]int{1}, 13), api.ErrLarge},
		// At one length, its range is looked at first, the order next and
		// the sum last.
		{[]int{1, 13}, api.ErrArg},
		{[]int{12, 0}, api.ErrArg},
		{[]int{12, math.MaxInt}, api.ErrArg},
		{[]int{11, 12}, api.ErrForm},
		{[]int{7, 5, 6}, api.ErrForm},
		// The first length with an error counts, whatever follows.
		{[]int{0, 13, 1}, api.ErrArg},
		{[]int{1, 2, 0}, api.ErrForm},
		{[]int{2, 3, 13}, api.ErrForm},
		{[]int{7, 6, 0}, api.ErrLarge},
		{[]int{7, 6, 7}, api.ErrLarge},
		{slices.Repeat([]int{1}, 1<<20), api.ErrLarge},
		{make([]int, 1<<20), api.ErrArg},
	} {
		if got, e := Count(c.shape); e != c.want || got != 0 {
			t.Errorf("Count of %d lengths from %d on = %v, %v, want %v", len(c.shape), c.shape[0], got, e, c.want)
		}
	}
}

// P2: the arguments stay as they are, also behind their ends.
func TestArgumentsUnchanged(t *testing.T) {
	p := []int{3, 0, 2, 4, 1, -1, -2, -3}
	shape := []int{3, 1, 1, -1, -2}
	first := []int{0, 1, 4, -1, -2, -3}
	memory := [][]int{first[:3], {2}, {3}, {-1}, {-2}}
	q := []int{0, 2, 3, 1, 4, -1}
	x := api.Pair{P: memory[:3], Q: [][]int{q[:3], q[3:4], q[4:5]}}
	oldP, oldShape, oldFirst, oldMemory, oldQ := slices.Clone(p), slices.Clone(shape), slices.Clone(first), copied(memory), slices.Clone(q)
	for range 2 {
		if got, e := Of(p[:5]); e != api.OK || !same(got.P, x.P) || !same(got.Q, x.Q) {
			t.Errorf("Of(%v) = %v, %v, want %v", p[:5], got, e, x)
		}
		if e := Check(x.P); e != api.OK {
			t.Errorf("Check(%v) = %v", x.P, e)
		}
		if got, e := Back(x); e != api.OK || !slices.Equal(got, p[:5]) {
			t.Errorf("Back(%v) = %v, %v, want %v", x, got, e, p[:5])
		}
		if got, e := Count(shape[:3]); e != api.OK || got != 6 {
			t.Errorf("Count(%v) = %v, %v, want 6", shape[:3], got, e)
		}
		if !slices.Equal(p, oldP) || !slices.Equal(shape, oldShape) || !slices.Equal(q, oldQ) {
			t.Fatalf("the arguments changed to %v, %v and %v", p, shape, q)
		}
		if !slices.Equal(first, oldFirst) || !same(memory, oldMemory) {
			t.Fatalf("the rows changed to %v in %v", memory, first)
		}
	}
}

// P39: P and Q may be the same rows.
func TestBackSameRows(t *testing.T) {
	rows := [][]int{{0, 2, 5}, {1, 4}, {3}}
	old := copied(rows)
	p, e := Back(api.Pair{P: rows, Q: rows})
	if want := wantedPair(p); e != api.OK || !same(want.P, old) || !same(want.Q, old) {
		t.Errorf("Back of twice %v = %v, %v", old, p, e)
	}
	if !same(rows, old) {
		t.Errorf("the rows changed to %v", rows)
	}
}

// P2: no row of a result shares memory with another one or with the argument,
// also behind its end.
func TestResultsShareNothing(t *testing.T) {
	p := []int{4, 1, 3, 0, 2, 5, 9, 6, 8, 7}
	old := slices.Clone(p)
	want := wantedPair(p)
	x, e := Of(p)
	if e != api.OK {
		t.Fatalf("Of(%v) fails with %v", p, e)
	}
	rows := slices.Concat(x.P, x.Q)
	for i, row := range rows {
		whole := row[:cap(row)]
		for j := range whole {
			whole[j] = -1 - i
		}
	}
	for i, row := range rows {
		for _, entry := range row[:cap(row)] {
			if entry != -1-i {
				t.Fatalf("row %d shares memory with another one: %v", i, rows)
			}
		}
	}
	lists := [][][]int{x.P[:cap(x.P)], x.Q[:cap(x.Q)]}
	for i, list := range lists {
		for j := range list {
			list[j] = []int{i}
		}
	}
	for i, list := range lists {
		for _, row := range list {
			if !slices.Equal(row, []int{i}) {
				t.Fatalf("P and Q share memory: %v", lists)
			}
		}
	}
	if again, e := Of(p); e != api.OK || !slices.Equal(p, old) || !same(again.P, want.P) || !same(again.Q, want.Q) {
		t.Errorf("Of(%v) = %v, %v, want %v", p, again, e, want)
	}
}

// P2: writing into the result of Back leaves the pair as it is.
func TestBackSharesNothing(t *testing.T) {
	x := api.Pair{P: [][]int{{0, 1, 2}}, Q: [][]int{{0, 1, 2}}}
	p, e := Back(x)
	if e != api.OK || !slices.Equal(p, rising(3)) {
		t.Fatalf("Back(%v) = %v, %v", x, p, e)
	}
	for i := range p[:cap(p)] {
		p[:cap(p)][i] = -1
	}
	if !slices.Equal(x.P[0], rising(3)) || !slices.Equal(x.Q[0], rising(3)) {
		t.Errorf("the pair changed to %v", x)
	}
}
