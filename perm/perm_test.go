package perm

import (
	"math"
	"slices"
	"testing"

	"lotcaster/api"
)

// all returns every permutation of n numbers.
func all(n int) [][]int {
	if n == 0 {
		return [][]int{{}}
	}
	var list [][]int
	for _, shorter := range all(n - 1) {
		for at := 0; at < n; at++ {
			list = append(list, slices.Insert(slices.Clone(shorter), at, n-1))
		}
	}
	return list
}

func identity(n int) []int {
	p := make([]int, n)
	for i := range p {
		p[i] = i
	}
	return p
}

// turn maps each number to the next one and the last one to 0.
func turn(n int) []int {
	p := make([]int, n)
	for i := range p {
		p[i] = (i + 1) % n
	}
	return p
}

type refusal struct {
	name string
	p    []int
	want api.Errno
}

// refused lists slices that are not permutations, or too long ones.
func refused() []refusal {
	return []refusal{
		{"one number, not 0", []int{1}, api.ErrForm},
		{"counted from 1", []int{1, 2, 3}, api.ErrForm},
		{"twice the same", []int{0, 0}, api.ErrForm},
		{"twice the same, last", []int{1, 0, 2, 2}, api.ErrForm},
		{"negative", []int{0, -1}, api.ErrForm},
		{"as large as the length", []int{0, 1, 3}, api.ErrForm},
		{"smallest int", []int{math.MinInt, 0}, api.ErrForm},
		{"largest int", []int{0, math.MaxInt}, api.ErrForm},
		{"ten zeros", make([]int, api.MaxPerm), api.ErrForm},
		{"ten with the number 10", append(identity(api.MaxPerm-1), api.MaxPerm), api.ErrForm},
		{"eleven in order", identity(api.MaxPerm + 1), api.ErrLarge},
		{"eleven zeros", make([]int, api.MaxPerm+1), api.ErrLarge},
		{"very many", make([]int, 100000), api.ErrLarge},
	}
}

func TestCheckAccepts(t *testing.T) {
	if e := Check(nil); e != api.OK {
		t.Errorf("Check(nil) = %v", e)
	}
	for n := 0; n <= 6; n++ {
		for _, p := range all(n) {
			if e := Check(p); e != api.OK {
				t.Errorf("Check(%v) = %v", p, e)
			}
		}
	}
	for _, p := range [][]int{identity(api.MaxPerm), turn(api.MaxPerm), {9, 8, 7, 6, 5, 4, 3, 2, 1, 0}} {
		if e := Check(p); e != api.OK {
			t.Errorf("Check(%v) = %v", p, e)
		}
	}
}

func TestCheckRefuses(t *testing.T) {
	for _, c := range refused() {
		if e := Check(c.p); e != c.want {
			t.Errorf("%s: Check = %v, want %v", c.name, e, c.want)
		}
	}
}

// Of all slices of three numbers from -1 to 3, just the six orders of 0, 1, 2
// are permutations.
func TestCheckOfAllShortSlices(t *testing.T) {
	orders := all(3)
	for x := -1; x <= 3; x++ {
		for y := -1; y <= 3; y++ {
			for z := -1; z <= 3; z++ {
				p := []int{x, y, z}
				want := api.ErrForm
				if slices.ContainsFunc(orders, func(o []int) bool { return slices.Equal(o, p) }) {
					want = api.OK
				}
				if e := Check(p); e != want {
					t.Errorf("Check(%v) = %v, want %v", p, e, want)
				}
			}
		}
	}
}

func TestTimes(t *testing.T) {
	for n := 0; n <= 4; n++ {
		for _, a := range all(n) {
			for _, b := range all(n) {
				checkProduct(t, a, b)
			}
		}
	}
	checkProduct(t, turn(api.MaxPerm), []int{3, 1, 4, 0, 5, 9, 2, 6, 8, 7})
	checkProduct(t, []int{3, 1, 4, 0, 5, 9, 2, 6, 8, 7}, turn(api.MaxPerm))
}

func checkProduct(t *testing.T, a, b []int) {
	t.Helper()
	got, e := Times(a, b)
	if e != api.OK || len(got) != len(a) {
		t.Errorf("Times(%v, %v) = %v, %v", a, b, got, e)
		return
	}
	for i := range got {
		if got[i] != a[b[i]] {
			t.Errorf("Times(%v, %v) = %v: wrong at %d", a, b, got, i)
		}
	}
}

func TestTimesErrors(t *testing.T) {
	large := identity(api.MaxPerm + 1)
	bad := []int{0, 0}
	for _, c := range []struct {
		name string
		a, b []int
		want api.Errno
	}{
		{"lengths differ", []int{0}, nil, api.ErrArg},
		{"lengths differ, the other way", nil, []int{0}, api.ErrArg},
		{"longest and shorter", identity(10), identity(9), api.ErrArg},
		{"a bad", bad, identity(2), api.ErrForm},
		{"b bad", identity(2), bad, api.ErrForm},
		{"a large", large, identity(2), api.ErrLarge},
		{"b large before lengths", identity(2), large, api.ErrLarge},
		{"both large", large, large, api.ErrLarge},
		{"b bad before lengths", identity(3), bad, api.ErrForm},
		{"a bad before lengths", bad, identity(3), api.ErrForm},
		{"a bad before b large", bad, large, api.ErrForm},
		{"a large before b bad", large, bad, api.ErrLarge},
	} {
		if got, e := Times(c.a, c.b); e != c.want || len(got) != 0 {
			t.Errorf("%s: Times = %v, %v, want %v", c.name, got, e, c.want)
		}
	}
}

func TestInverse(t *testing.T) {
	if got, e := Inverse(nil); e != api.OK || len(got) != 0 {
		t.Errorf("Inverse(nil) = %v, %v", got, e)
	}
	list := append(all(6), turn(api.MaxPerm), []int{3, 1, 4, 0, 5, 9, 2, 6, 8, 7})
	for n := 0; n < 6; n++ {
		list = append(list, all(n)...)
	}
	for _, p := range list {
		got, e := Inverse(p)
		if e != api.OK || len(got) != len(p) {
			t.Errorf("Inverse(%v) = %v, %v", p, got, e)
			continue
		}
		for i := range p {
			if got[p[i]] != i || p[got[i]] != i {
				t.Errorf("Inverse(%v) = %v: wrong at %d", p, got, i)
			}
		}
	}
}

func TestCycles(t *testing.T) {
	for _, c := range []struct{ p, want []int }{
		{nil, nil},
		{[]int{}, nil},
		{[]int{0}, []int{1}},
		{[]int{1, 0, 3, 4, 2}, []int{3, 2}},
		{[]int{1, 0, 2}, []int{2, 1}},
		{[]int{0, 2, 1}, []int{2, 1}},
		{[]int{0, 1, 2, 3}, []int{1, 1, 1, 1}},
		{[]int{1, 0, 3, 2, 4}, []int{2, 2, 1}},
		{[]int{0, 2, 1, 4, 5, 6, 3, 7}, []int{4, 2, 1, 1}},
		{turn(api.MaxPerm), []int{10}},
		{identity(api.MaxPerm), []int{1, 1, 1, 1, 1, 1, 1, 1, 1, 1}},
		{[]int{0, 2, 1, 4, 5, 3, 7, 8, 9, 6}, []int{4, 3, 2, 1}},
	} {
		if got, e := Cycles(c.p); e != api.OK || !slices.Equal(got, c.want) {
			t.Errorf("Cycles(%v) = %v, %v, want %v", c.p, got, e, c.want)
		}
	}
}

// A number is in a cycle of length k if it first comes back after k steps, so
// k times the number of cycles of length k is the number of such numbers.
func TestCyclesOfAllShortOnes(t *testing.T) {
	for n := 0; n <= 6; n++ {
		for _, p := range all(n) {
			var backAfter [7]int
			for start := range p {
				k := 1
				for i := p[start]; i != start; i = p[i] {
					k++
				}
				backAfter[k]++
			}
			var want []int
			for k := 6; k >= 1; k-- {
				want = append(want, slices.Repeat([]int{k}, backAfter[k]/k)...)
			}
			if got, e := Cycles(p); e != api.OK || !slices.Equal(got, want) {
				t.Errorf("Cycles(%v) = %v, %v, want %v", p, got, e, want)
			}
		}
	}
}

func TestSign(t *testing.T) {
	for _, c := range []struct {
		p    []int
		want int
	}{
		{nil, 1},
		{[]int{0}, 1},
		{[]int{1, 0}, -1},
		{[]int{1, 2, 0}, 1},
		{[]int{2, 1, 0}, -1},
		{[]int{1, 0, 3, 4, 2}, -1},
		{identity(api.MaxPerm), 1},
		{turn(api.MaxPerm), -1},
		{[]int{9, 8, 7, 6, 5, 4, 3, 2, 1, 0}, -1},
		{[]int{8, 7, 6, 5, 4, 3, 2, 1, 0, 9}, 1},
	} {
		if got, e := Sign(c.p); e != api.OK || got != c.want {
			t.Errorf("Sign(%v) = %v, %v, want %v", c.p, got, e, c.want)
		}
	}
}

// The sign is 1 just if the length and the number of cycles are both even or
// both odd.
func TestSignOfAllShortOnes(t *testing.T) {
	for n := 0; n <= 6; n++ {
		for _, p := range all(n) {
			cycles, _ := Cycles(p)
			want := 1
			if (n-len(cycles))%2 == 1 {
				want = -1
			}
			if got, e := Sign(p); e != api.OK || got != want {
				t.Errorf("Sign(%v) = %v, %v, want %v", p, got, e, want)
			}
		}
	}
}

func TestOrder(t *testing.T) {
	for _, c := range []struct {
		p    []int
		want int
	}{
		{nil, 1},
		{[]int{0}, 1},
		{[]int{1, 0, 3, 4, 2}, 6},
		{identity(api.MaxPerm), 1},
		{turn(api.MaxPerm), 10},
		{[]int{1, 0, 3, 4, 2, 6, 7, 8, 9, 5}, 30},
		{[]int{1, 0, 3, 4, 5, 2, 7, 8, 9, 6}, 4},
		{[]int{1, 2, 3, 0, 5, 6, 7, 8, 9, 4}, 12},
	} {
		if got, e := Order(c.p); e != api.OK || got != c.want {
			t.Errorf("Order(%v) = %v, %v, want %v", c.p, got, e, c.want)
		}
	}
}

func TestOrderOfAllShortOnes(t *testing.T) {
	for n := 0; n <= 6; n++ {
		for _, p := range all(n) {
			power, want := slices.Clone(p), 1
			for !slices.Equal(power, identity(n)) {
				for i, v := range power {
					power[i] = p[v]
				}
				want++
			}
			if got, e := Order(p); e != api.OK || got != want {
				t.Errorf("Order(%v) = %v, %v, want %v", p, got, e, want)
			}
		}
	}
}

// P1, and the errors of P4 to P6: what Check refuses is refused with Check's
// error, without a panic and with zero values.
func TestRefusedEverywhere(t *testing.T) {
	for _, c := range refused() {
		if got, e := Times(c.p, c.p); e != c.want || len(got) != 0 {
			t.Errorf("%s: Times = %v, %v, want %v", c.name, got, e, c.want)
		}
		if got, e := Inverse(c.p); e != c.want || len(got) != 0 {
			t.Errorf("%s: Inverse = %v, %v, want %v", c.name, got, e, c.want)
		}
		if got, e := Cycles(c.p); e != c.want || len(got) != 0 {
			t.Errorf("%s: Cycles = %v, %v, want %v", c.name, got, e, c.want)
		}
		if got, e := Sign(c.p); e != c.want || got != 0 {
			t.Errorf("%s: Sign = %v, %v, want %v", c.name, got, e, c.want)
		}
		if got, e := Order(c.p); e != c.want || got != 0 {
			t.Errorf("%s: Order = %v, %v, want %v", c.name, got, e, c.want)
		}
	}
}

// P2: the arguments stay as they are, also behind their ends, and a result can
// be overwritten, also behind its end, without an effect on anything else.
func TestMemory(t *testing.T) {
	const mark = -7
	a := []int{1, 0, 3, 4, 2, mark, mark, mark, mark, mark}
	b := []int{4, 3, 2, 0, 1, mark, mark, mark, mark, mark}
	oldA, oldB := slices.Clone(a), slices.Clone(b)
	calls := map[string]func() []int{
		"Times":   func() []int { l, _ := Times(a[:5], b[:5]); return l },
		"square":  func() []int { l, _ := Times(a[:5], a[:5]); return l },
		"Inverse": func() []int { l, _ := Inverse(a[:5]); return l },
		"Cycles":  func() []int { l, _ := Cycles(a[:5]); return l },
		"Check":   func() []int { return []int{int(Check(a[:5]))} },
		"Sign":    func() []int { x, _ := Sign(a[:5]); return []int{x} },
		"Order":   func() []int { x, _ := Order(a[:5]); return []int{x} },
	}
	for name, call := range calls {
		first, second := call(), call()
		want := slices.Clone(first)
		overwrite(first)
		if !slices.Equal(second, want) {
			t.Errorf("%s: two results share memory, or differ: %v, want %v", name, second, want)
		}
		overwrite(second)
		if third := call(); !slices.Equal(third, want) {
			t.Errorf("%s: an earlier result changed a later one: %v, want %v", name, third, want)
		}
		if !slices.Equal(a, oldA) || !slices.Equal(b, oldB) {
			t.Fatalf("%s: arguments changed to %v, %v", name, a, b)
		}
	}
}

// overwrite fills a result and its spare capacity with a number that no
// argument or result contains.
func overwrite(l []int) {
	l = l[:cap(l)]
	for i := range l {
		l[i] = -8
	}
}
