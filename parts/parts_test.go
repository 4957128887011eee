package parts

import (
	"math"
	"slices"
	"testing"

	"lotcaster/api"
)

// outside holds numbers that are not in the range 0 to MaxPart.
var outside = []int{-1, -2, -40, api.MaxPart + 1, 64, 1 << 32, math.MaxInt, math.MinInt}

// refused holds lists that are not partitions, and why.
var refused = []struct {
	l    []int
	want api.Errno
}{
	{[]int{0}, api.ErrArg},
	{[]int{-1}, api.ErrArg},
	{[]int{41}, api.ErrArg},
	{[]int{math.MaxInt}, api.ErrArg},
	{[]int{math.MinInt}, api.ErrArg},
	{[]int{3, 0}, api.ErrArg},
	{[]int{3, 1, -1}, api.ErrArg},
	{[]int{1, 2}, api.ErrForm},
	{[]int{3, 1, 2}, api.ErrForm},
	{[]int{20, 21}, api.ErrForm},
	{[]int{39, 40}, api.ErrForm},
	{[]int{40, 1}, api.ErrLarge},
	{[]int{21, 20}, api.ErrLarge},
	{[]int{20, 20, 1}, api.ErrLarge},
	{slices.Repeat([]int{1}, 41), api.ErrLarge},
	// At one element, its range is looked at first, the order next and the
	// sum last.
	{[]int{1, 41}, api.ErrArg},
	{[]int{40, 41}, api.ErrArg},
	{[]int{40, math.MaxInt}, api.ErrArg},
	{[]int{40, 0}, api.ErrArg},
	{[]int{20, 19, 20}, api.ErrForm},
	// The first element with an error counts, whatever follows.
	{[]int{0, 41, 1}, api.ErrArg},
	{[]int{1, 2, 0}, api.ErrForm},
	{[]int{1, 2, 40}, api.ErrForm},
	{[]int{2, 3, 41}, api.ErrForm},
	{[]int{30, 11, 0}, api.ErrLarge},
	{[]int{30, 11, 12}, api.ErrLarge},
	{[]int{30, 11, 41}, api.ErrLarge},
}

// each calls f for all partitions of n into parts of at most most. The list is
// a new one for each call.
func each(n, most int, f func(l []int)) {
	var extend func(begun []int, left, most int)
	extend = func(begun []int, left, most int) {
		if left == 0 {
			f(slices.Clone(begun))
			return
		}
		for part := min(left, most); part >= 1; part-- {
			extend(append(slices.Clone(begun), part), left-part, part)
		}
	}
	extend(nil, n, most)
}

func sum(l []int) int {
	total := 0
	for _, part := range l {
		total += part
	}
	return total
}

func distinct(l []int) bool {
	return len(slices.Compact(slices.Clone(l))) == len(l)
}

func allOdd(l []int) bool {
	return !slices.ContainsFunc(l, func(part int) bool { return part%2 == 0 })
}

// sorted returns the list with its greatest element first.
func sorted(l []int) []int {
	l = slices.Sorted(slices.Values(l))
	slices.Reverse(l)
	return l
}

// conjugate counts the parts as P20 says it.
func conjugate(l []int) []int {
	var turned []int
	for i := 1; ; i++ {
		count := 0
		for _, part := range l {
			if part >= i {
				count++
			}
		}
		if count == 0 {
			return turned
		}
		turned = append(turned, count)
	}
}

// halved replaces even parts by their halves until there is none.
func halved(l []int) []int {
	var odd []int
	for left := slices.Clone(l); len(left) > 0; {
		part := left[0]
		left = left[1:]
		if part%2 == 0 {
			left = append(left, part/2, part/2)
		} else {
			odd = append(odd, part)
		}
	}
	return sorted(odd)
}

// merged replaces two equal parts by their sum until there are none.
func merged(l []int) []int {
	l = sorted(l)
	for i := 0; i+1 < len(l); {
		if l[i] != l[i+1] {
			i++
			continue
		}
		l[i] *= 2
		l = sorted(slices.Delete(l, i+1, i+2))
		i = 0
	}
	return l
}

// P18 for all partitions of the greatest sum, and what follows just beyond it.
func TestCheckAll(t *testing.T) {
	for _, n := range []int{0, 1, 2, 3, 10, 39, 40} {
		each(n, n, func(l []int) {
			if e := Check(l); e != api.OK {
				t.Fatalf("Check(%v) = %v", l, e)
			}
			if n < 40 {
				return
			}
			if e := Check(append(l, 1)); e != api.ErrLarge {
				t.Fatalf("Check(%v) = %v, want ErrLarge", append(l, 1), e)
			}
		})
	}
}

// P18 for all lists of up to 4 elements around the limits, against its words.
func TestCheckSmall(t *testing.T) {
	values := []int{-1, 0, 1, 2, 10, 13, 14, 20, 21, 39, 40, 41}
	var extend func(l []int, e api.Errno)
	extend = func(l []int, e api.Errno) {
		if got := Check(l); got != e {
			t.Fatalf("Check(%v) = %v, want %v", l, got, e)
		}
		if len(l) == 4 {
			return
		}
		for _, part := range values {
			longer := append(slices.Clone(l), part)
			next := e
			switch {
			case e != api.OK:
			case part < 1 || part > 40:
				next = api.ErrArg
			case len(l) > 0 && part > l[len(l)-1]:
				next = api.ErrForm
			case sum(longer) > 40:
				next = api.ErrLarge
			}
			extend(longer, next)
		}
	}
	extend(nil, api.OK)
}

func TestCheckKnownOnes(t *testing.T) {
	for _, l := range [][]int{
		nil, {}, {1}, {40}, {39, 1}, {20, 20}, {3, 1}, {3, 3, 1}, {2, 2, 2},
		slices.Repeat([]int{1}, 40),
	} {
		if e := Check(l); e != api.OK {
			t.Errorf("Check(%v) = %v", l, e)
		}
	}
	for _, c := range refused {
		if e := Check(c.l); e != c.want {
			t.Errorf("Check(%v) = %v, want %v", c.l, e, c.want)
		}
	}
}

// A long list is left at its first error.
func TestCheckLong(t *testing.T) {
	if e := Check(slices.Repeat([]int{1}, 1<<20)); e != api.ErrLarge {
		t.Errorf("Check of many ones = %v, want ErrLarge", e)
	}
	if e := Check(make([]int, 1<<20)); e != api.ErrArg {
		t.Errorf("Check of many zeros = %v, want ErrArg", e)
	}
}

// P19 for all sums up to 25 and all limits, against the partitions themselves.
func TestCount(t *testing.T) {
	for n := 0; n <= 25; n++ {
		for most := 0; most <= api.MaxPart; most++ {
			want := 0
			each(n, most, func([]int) { want++ })
			if got, e := Count(n, most); e != api.OK || got != want {
				t.Errorf("Count(%d, %d) = %v, %v, want %v", n, most, got, e, want)
			}
		}
	}
}

// P19 for all arguments: partitions of n either have no part most or have one
// more of them than a partition of n-most.
func TestCountSteps(t *testing.T) {
	count := func(n, most int) int {
		got, e := Count(n, most)
		if e != api.OK {
			t.Fatalf("Count(%d, %d) fails with %v", n, most, e)
		}
		return got
	}
	for n := 0; n <= api.MaxPart; n++ {
		for most := 1; most <= api.MaxPart; most++ {
			want := count(n, most-1)
			if n >= most {
				want += count(n-most, most)
			}
			if got := count(n, most); got != want {
				t.Errorf("Count(%d, %d) = %v, want %v", n, most, got, want)
			}
		}
	}
}

func TestCountKnownOnes(t *testing.T) {
	for _, c := range []struct{ n, most, want int }{
		{0, 0, 1}, {0, 1, 1}, {0, 40, 1}, {1, 0, 0}, {40, 0, 0}, {1, 1, 1},
		{1, 40, 1}, {5, 1, 1}, {5, 2, 3}, {5, 3, 5}, {5, 4, 6}, {5, 5, 7},
		{5, 40, 7}, {10, 10, 42}, {20, 20, 627}, {30, 30, 5604}, {39, 39, 31185},
		{39, 40, 31185}, {40, 1, 1}, {40, 2, 21}, {40, 39, 37337}, {40, 40, 37338},
	} {
		if got, e := Count(c.n, c.most); e != api.OK || got != c.want {
			t.Errorf("Count(%d, %d) = %v, %v, want %v", c.n, c.most, got, e, c.want)
		}
	}
}

func TestCountRefused(t *testing.T) {
	for _, x := range outside {
		for _, other := range []int{0, 1, 20, api.MaxPart, x} {
			if got, e := Count(x, other); e != api.ErrArg || got != 0 {
				t.Errorf("Count(%d, %d) = %v, %v, want ErrArg", x, other, got, e)
			}
			if got, e := Count(other, x); e != api.ErrArg || got != 0 {
				t.Errorf("Count(%d, %d) = %v, %v, want ErrArg", other, x, got, e)
			}
		}
	}
}

// P20 for all partitions of many sums: the definition, and that turning twice
// gives back the same.
func TestTurned(t *testing.T) {
	for _, n := range []int{0, 1, 2, 3, 4, 5, 6, 7, 8, 9, 10, 15, 20, 25, 30, 40} {
		each(n, n, func(l []int) {
			got, e := Turned(l)
			if e != api.OK || !slices.Equal(got, conjugate(l)) {
				t.Fatalf("Turned(%v) = %v, %v, want %v", l, got, e, conjugate(l))
			}
			if e := Check(got); e != api.OK || sum(got) != n {
				t.Fatalf("Turned(%v) = %v is no partition of %d", l, got, n)
			}
			if back, e := Turned(got); e != api.OK || !slices.Equal(back, l) {
				t.Fatalf("Turned(%v) = %v, %v, want %v", got, back, e, l)
			}
		})
	}
}

func TestTurnedKnownOnes(t *testing.T) {
	ones := slices.Repeat([]int{1}, 40)
	for _, c := range []struct{ l, want []int }{
		{nil, nil},
		{[]int{}, nil},
		{[]int{1}, []int{1}},
		{[]int{4}, []int{1, 1, 1, 1}},
		{[]int{1, 1, 1}, []int{3}},
		{[]int{3, 1}, []int{2, 1, 1}},
		{[]int{2, 1, 1}, []int{3, 1}},
		{[]int{4, 4, 2}, []int{3, 3, 2, 2}},
		{[]int{40}, ones},
		{ones, []int{40}},
	} {
		if got, e := Turned(c.l); e != api.OK || !slices.Equal(got, c.want) {
			t.Errorf("Turned(%v) = %v, %v, want %v", c.l, got, e, c.want)
		}
	}
}

// P21 and P22 for all partitions of every sum: those into distinct parts go to
// those into odd parts, one to one, and the others are refused.
func TestOddAndUnlike(t *testing.T) {
	for n := 0; n <= api.MaxPart; n++ {
		distinctOnes, oddOnes := 0, 0
		each(n, n, func(l []int) {
			odd, e := Odd(l)
			switch {
			case !distinct(l):
				if e != api.ErrForm || odd != nil {
					t.Fatalf("Odd(%v) = %v, %v, want ErrForm", l, odd, e)
				}
			case e != api.OK || !slices.Equal(odd, halved(l)):
				t.Fatalf("Odd(%v) = %v, %v, want %v", l, odd, e, halved(l))
			default:
				distinctOnes++
				if back, e := Unlike(odd); e != api.OK || !slices.Equal(back, l) {
					t.Fatalf("Unlike(%v) = %v, %v, want %v", odd, back, e, l)
				}
			}
			unlike, e := Unlike(l)
			switch {
			case !allOdd(l):
				if e != api.ErrForm || unlike != nil {
					t.Fatalf("Unlike(%v) = %v, %v, want ErrForm", l, unlike, e)
				}
			case e != api.OK || !slices.Equal(unlike, merged(l)):
				t.Fatalf("Unlike(%v) = %v, %v, want %v", l, unlike, e, merged(l))
			default:
				oddOnes++
				if back, e := Odd(unlike); e != api.OK || !slices.Equal(back, l) {
					t.Fatalf("Odd(%v) = %v, %v, want %v", unlike, back, e, l)
				}
			}
		})
		if distinctOnes != oddOnes || distinctOnes == 0 {
			t.Errorf("sum %d: %d into distinct parts, %d into odd parts", n, distinctOnes, oddOnes)
		}
	}
}

func TestOddAndUnlikeKnownOnes(t *testing.T) {
	ones := func(n int) []int { return slices.Repeat([]int{1}, n) }
	for _, c := range []struct{ unlike, odd []int }{
		{nil, nil},
		{[]int{}, []int{}},
		{[]int{1}, []int{1}},
		{[]int{2}, ones(2)},
		{[]int{2, 1}, ones(3)},
		{[]int{6, 1}, []int{3, 3, 1}},
		{[]int{4, 3}, []int{3, 1, 1, 1, 1}},
		{[]int{12, 10, 5}, []int{5, 5, 5, 3, 3, 3, 3}},
		{[]int{32, 8}, ones(40)},
		{[]int{32, 7, 1}, append([]int{7}, ones(33)...)},
		{[]int{16, 8, 4, 2, 1}, ones(31)},
		{[]int{40}, slices.Repeat([]int{5}, 8)},
		{[]int{39, 1}, []int{39, 1}},
		{[]int{37, 2, 1}, []int{37, 1, 1, 1}},
	} {
		if got, e := Odd(c.unlike); e != api.OK || !slices.Equal(got, c.odd) {
			t.Errorf("Odd(%v) = %v, %v, want %v", c.unlike, got, e, c.odd)
		}
		if got, e := Unlike(c.odd); e != api.OK || !slices.Equal(got, c.unlike) {
			t.Errorf("Unlike(%v) = %v, %v, want %v", c.odd, got, e, c.unlike)
		}
	}
}

// P20 to P22: what is no partition is refused as by Check.
func TestRefusedAsByCheck(t *testing.T) {
	for _, c := range refused {
		if got, e := Turned(c.l); e != c.want || got != nil {
			t.Errorf("Turned(%v) = %v, %v, want %v", c.l, got, e, c.want)
		}
		if got, e := Odd(c.l); e != c.want || got != nil {
			t.Errorf("Odd(%v) = %v, %v, want %v", c.l, got, e, c.want)
		}
		if got, e := Unlike(c.l); e != c.want || got != nil {
			t.Errorf("Unlike(%v) = %v, %v, want %v", c.l, got, e, c.want)
		}
	}
}

// P21 and P22: the errors of Check come first, also those of later elements.
func TestCheckComesFirst(t *testing.T) {
	for _, c := range []struct {
		l    []int
		want api.Errno
	}{
		{[]int{2, 2}, api.ErrForm},
		{[]int{2, 2, 0}, api.ErrArg},
		{[]int{2, 2, 41}, api.ErrArg},
		{[]int{14, 14, 14}, api.ErrLarge},
		{[]int{20, 20, 1}, api.ErrLarge},
	} {
		if got, e := Odd(c.l); e != c.want || got != nil {
			t.Errorf("Odd(%v) = %v, %v, want %v", c.l, got, e, c.want)
		}
		if got, e := Unlike(c.l); e != c.want || got != nil {
			t.Errorf("Unlike(%v) = %v, %v, want %v", c.l, got, e, c.want)
		}
	}
}

// P2: arguments stay as they are, with their spare capacity, and each result
// is memory of its own.
func TestMemory(t *testing.T) {
	for name, f := range map[string]func([]int) ([]int, api.Errno){
		"Turned": Turned, "Odd": Odd, "Unlike": Unlike,
		"Check": func(l []int) ([]int, api.Errno) { return nil, Check(l) },
	} {
		for _, l := range [][]int{{}, {1}, {7, 3, 1}, {39, 1}, {2, 2}, {1, 2}} {
			whole := append(slices.Clone(l), 77, 78, 79)
			before := slices.Clone(whole)
			first, _ := f(whole[:len(l)])
			second, _ := f(whole[:len(l)])
			want := slices.Clone(second)
			all := first[:cap(first)]
			for i := range all {
				all[i] = 9999
			}
			third, _ := f(whole[:len(l)])
			if !slices.Equal(whole, before) {
				t.Errorf("%s(%v) changes its argument to %v", name, l, whole)
			}
			if !slices.Equal(second, want) || !slices.Equal(third, want) {
				t.Errorf("results of %s(%v) share memory", name, l)
			}
		}
	}
}
