package rank

import (
	"math"
	"slices"
	"testing"

	"lotcaster/api"
)

// inOrder returns every permutation of n numbers, sorted by a comparison that
// owes nothing to the package.
func inOrder(n int) [][]int {
	list := [][]int{{}}
	for i := 0; i < n; i++ {
		var longer [][]int
		for _, p := range list {
			for at := 0; at <= i; at++ {
				longer = append(longer, slices.Insert(slices.Clone(p), at, i))
			}
		}
		list = longer
	}
	slices.SortFunc(list, slices.Compare[[]int])
	return list
}

func rising(n int) []int {
	p := make([]int, n)
	for i := range p {
		p[i] = i
	}
	return p
}

func falling(n int) []int {
	p := rising(n)
	slices.Reverse(p)
	return p
}

func TestCount(t *testing.T) {
	for n, want := range []int{1, 1, 2, 6, 24, 120, 720, 5040, 40320, 362880, 3628800} {
		if got, e := Count(n); e != api.OK || got != want {
			t.Errorf("Count(%d) = %v, %v, want %v", n, got, e, want)
		}
	}
	for _, n := range []int{-1, api.MaxPerm + 1, 20, 21, math.MaxInt, math.MinInt} {
		if got, e := Count(n); e != api.ErrArg || got != 0 {
			t.Errorf("Count(%d) = %v, %v, want ErrArg", n, got, e)
		}
	}
}

func TestCountAgreesWithAt(t *testing.T) {
	for n := 0; n <= api.MaxPerm; n++ {
		count, _ := Count(n)
		if last, e := At(n, count-1); e != api.OK || !slices.Equal(last, falling(n)) {
			t.Errorf("At(%d, %d) = %v, %v, want %v", n, count-1, last, e, falling(n))
		}
		if past, e := At(n, count); e != api.ErrArg || len(past) != 0 {
			t.Errorf("At(%d, %d) = %v, %v, want ErrArg", n, count, past, e)
		}
	}
}

func TestCode(t *testing.T) {
	for _, c := range []struct{ p, want []int }{
		{nil, nil},
		{[]int{}, nil},
		{[]int{0}, []int{0}},
		{[]int{2, 0, 1}, []int{2, 0, 0}},
		{[]int{1, 2, 0}, []int{1, 1, 0}},
		{[]int{1, 0, 3, 4, 2}, []int{1, 0, 1, 1, 0}},
		{rising(api.MaxPerm), make([]int, api.MaxPerm)},
		{falling(api.MaxPerm), falling(api.MaxPerm)},
		{[]int{3, 1, 4, 0, 5, 9, 2, 6, 8, 7}, []int{3, 1, 2, 0, 1, 4, 0, 0, 1, 0}},
	} {
		if got, e := Code(c.p); e != api.OK || !slices.Equal(got, c.want) {
			t.Errorf("Code(%v) = %v, %v, want %v", c.p, got, e, c.want)
		}
	}
}

func TestCodeOfAllShortOnes(t *testing.T) {
	for n := 0; n <= 6; n++ {
		for _, p := range inOrder(n) {
			want := make([]int, n)
			for j := range p {
				for i := 0; i < j; i++ {
					if p[j] < p[i] {
						want[i]++
					}
				}
			}
			if got, e := Code(p); e != api.OK || !slices.Equal(got, want) {
				t.Errorf("Code(%v) = %v, %v, want %v", p, got, e, want)
			}
		}
	}
}

// P9 and P10 for all permutations of up to 7 numbers, against the sorted list
// of them.
func TestAllShortOnesInOrder(t *testing.T) {
	for n := 0; n <= 7; n++ {
		list := inOrder(n)
		if count, e := Count(n); e != api.OK || count != len(list) {
			t.Errorf("Count(%d) = %v, %v, want %v", n, count, e, len(list))
		}
		for k, p := range list {
			if got, e := Of(p); e != api.OK || got != k {
				t.Errorf("Of(%v) = %v, %v, want %v", p, got, e, k)
			}
			if got, e := At(n, k); e != api.OK || !slices.Equal(got, p) {
				t.Errorf("At(%d, %d) = %v, %v, want %v", n, k, got, e, p)
			}
			got, e := Next(p)
			if k+1 == len(list) {
				if e != api.ErrNone || len(got) != 0 {
					t.Errorf("Next(%v) = %v, %v, want ErrNone", p, got, e)
				}
			} else if e != api.OK || !slices.Equal(got, list[k+1]) {
				t.Errorf("Next(%v) = %v, %v, want %v", p, got, e, list[k+1])
			}
		}
	}
}

// Among the permutations of 10 numbers, which are too many to list here, those
// at a distance of a prime are looked at.
func TestLongestOnes(t *testing.T) {
	count, _ := Count(api.MaxPerm)
	var before []int
	for k := 0; k < count-1; k += 997 {
		p, e := At(api.MaxPerm, k)
		if e != api.OK || len(p) != api.MaxPerm {
			t.Fatalf("At(10, %d) = %v, %v", k, p, e)
		}
		if k > 0 && slices.Compare(before, p) >= 0 {
			t.Fatalf("At(10, %d) = %v is not behind %v", k, p, before)
		}
		before = p
		if got, e := Of(p); e != api.OK || got != k {
			t.Fatalf("Of(%v) = %v, %v, want %v", p, got, e, k)
		}
		want, _ := At(api.MaxPerm, k+1)
		if got, e := Next(p); e != api.OK || !slices.Equal(got, want) {
			t.Fatalf("Next(%v) = %v, %v, want %v", p, got, e, want)
		}
	}
}

func TestOf(t *testing.T) {
	for _, c := range []struct {
		p    []int
		want int
	}{
		{nil, 0},
		{[]int{0}, 0},
		{[]int{1, 0}, 1},
		{[]int{2, 0, 1}, 4},
		{[]int{1, 2, 0}, 3},
		{rising(api.MaxPerm), 0},
		{falling(api.MaxPerm), 3628799},
		{[]int{1, 0, 2, 3, 4, 5, 6, 7, 8, 9}, 362880},
		{[]int{2, 7, 8, 3, 9, 1, 5, 4, 6, 0}, 999999},
	} {
		if got, e := Of(c.p); e != api.OK || got != c.want {
			t.Errorf("Of(%v) = %v, %v, want %v", c.p, got, e, c.want)
		}
	}
}

func TestAt(t *testing.T) {
	for _, c := range []struct {
		n, k int
		want []int
	}{
		{0, 0, nil},
		{1, 0, []int{0}},
		{2, 1, []int{1, 0}},
		{3, 3, []int{1, 2, 0}},
		{3, 4, []int{2, 0, 1}},
		{api.MaxPerm, 0, rising(api.MaxPerm)},
		{api.MaxPerm, 362880, []int{1, 0, 2, 3, 4, 5, 6, 7, 8, 9}},
		{api.MaxPerm, 999999, []int{2, 7, 8, 3, 9, 1, 5, 4, 6, 0}},
		{api.MaxPerm, 3628799, falling(api.MaxPerm)},
	} {
		if got, e := At(c.n, c.k); e != api.OK || !slices.Equal(got, c.want) {
			t.Errorf("At(%d, %d) = %v, %v, want %v", c.n, c.k, got, e, c.want)
		}
	}
}

func TestAtErrors(t *testing.T) {
	for _, c := range []struct{ n, k int }{
		{-1, 0},
		{-1, -1},
		{api.MaxPerm + 1, 0},
		{math.MinInt, 0},
		{math.MaxInt, math.MaxInt},
		{0, 1},
		{0, -1},
		{1, 1},
		{3, 6},
		{3, -1},
		{api.MaxPerm, 3628800},
		{api.MaxPerm, math.MaxInt},
		{api.MaxPerm, math.MinInt},
	} {
		if got, e := At(c.n, c.k); e != api.ErrArg || len(got) != 0 {
			t.Errorf("At(%d, %d) = %v, %v, want ErrArg", c.n, c.k, got, e)
		}
	}
}

func TestNext(t *testing.T) {
	for _, c := range []struct{ p, want []int }{
		{[]int{0, 1}, []int{1, 0}},
		{[]int{2, 0, 1}, []int{2, 1, 0}},
		{[]int{0, 2, 1}, []int{1, 0, 2}},
		{[]int{1, 3, 2, 0}, []int{2, 0, 1, 3}},
		{rising(api.MaxPerm), []int{0, 1, 2, 3, 4, 5, 6, 7, 9, 8}},
		{[]int{0, 9, 8, 7, 6, 5, 4, 3, 2, 1}, []int{1, 0, 2, 3, 4, 5, 6, 7, 8, 9}},
		{[]int{9, 8, 7, 6, 5, 4, 3, 2, 0, 1}, falling(api.MaxPerm)},
	} {
		if got, e := Next(c.p); e != api.OK || !slices.Equal(got, c.want) {
			t.Errorf("Next(%v) = %v, %v, want %v", c.p, got, e, c.want)
		}
	}
}

func TestNextOfTheLast(t *testing.T) {
	for n := 0; n <= api.MaxPerm; n++ {
		if got, e := Next(falling(n)); e != api.ErrNone || len(got) != 0 {
			t.Errorf("Next(%v) = %v, %v, want ErrNone", falling(n), got, e)
		}
	}
	if got, e := Next(nil); e != api.ErrNone || len(got) != 0 {
		t.Errorf("Next(nil) = %v, %v, want ErrNone", got, e)
	}
}

// P1, and the errors of P8 to P10: what perm.Check refuses is refused with its
// error, also where it falls as the last permutation does.
func TestRefused(t *testing.T) {
	for _, c := range []struct {
		name string
		p    []int
		want api.Errno
	}{
		{"one number, not 0", []int{1}, api.ErrForm},
		{"counted from 1", []int{1, 2, 3}, api.ErrForm},
		{"twice the same", []int{0, 0}, api.ErrForm},
		{"negative", []int{0, -1}, api.ErrForm},
		{"falling with a gap", []int{3, 2, 0}, api.ErrForm},
		{"rising with a gap", []int{0, 1, 3}, api.ErrForm},
		{"smallest int", []int{math.MinInt, 0}, api.ErrForm},
		{"largest int", []int{0, math.MaxInt}, api.ErrForm},
		{"ten zeros", make([]int, api.MaxPerm), api.ErrForm},
		{"eleven rising", rising(api.MaxPerm + 1), api.ErrLarge},
		{"eleven falling", falling(api.MaxPerm + 1), api.ErrLarge},
		{"eleven zeros", make([]int, api.MaxPerm+1), api.ErrLarge},
		{"very many", make([]int, 100000), api.ErrLarge},
	} {
		if got, e := Code(c.p); e != c.want || len(got) != 0 {
			t.Errorf("%s: Code = %v, %v, want %v", c.name, got, e, c.want)
		}
		if got, e := Of(c.p); e != c.want || got != 0 {
			t.Errorf("%s: Of = %v, %v, want %v", c.name, got, e, c.want)
		}
		if got, e := Next(c.p); e != c.want || len(got) != 0 {
			t.Errorf("%s: Next = %v, %v, want %v", c.name, got, e, c.want)
		}
	}
}

// P2: the argument stays as it is, also behind its end, and a result can be
// overwritten, also behind its end, without an effect on anything else.
func TestMemory(t *testing.T) {
	const mark = -7
	p := []int{1, 0, 3, 4, 2, mark, mark, mark, mark, mark}
	old := slices.Clone(p)
	for name, call := range map[string]func() []int{
		"Code": func() []int { l, _ := Code(p[:5]); return l },
		"Of":   func() []int { x, _ := Of(p[:5]); return []int{x} },
		"At":   func() []int { l, _ := At(5, 77); return l },
		"Next": func() []int { l, _ := Next(p[:5]); return l },
	} {
		first, second := call(), call()
		want := slices.Clone(first)
		overwrite(first)
		if !slices.Equal(second, want) {
			t.Errorf("%s: two results share memory, or differ: %v, want %v", name, second, want)
		}
		overwrite(second)
		if third := call(); !slices.Equal(third, want) {
			t.Errorf("%s: an earlier result changed a later one: %v, want %v", name, third, want)
		}
		if !slices.Equal(p, old) {
			t.Fatalf("%s: the argument changed to %v", name, p)
		}
	}
}

// overwrite fills a result and its spare capacity with a number that no
// argument or result contains.
func overwrite(l []int) {
	l = l[:cap(l)]
	for i := range l {
		l[i] = -8
	}
}
