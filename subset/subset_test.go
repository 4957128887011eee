package subset

import (
	"cmp"
	"math"
	"slices"
	"testing"

	"lotcaster/api"
)

// outside holds numbers that are not in the range 0 to MaxBits.
var outside = []int{-1, -2, -16, api.MaxBits + 1, 32, 64, 65, 1 << 16, math.MaxInt, math.MinInt}

// elements lists the elements of a set, the greatest one first.
func elements(s uint16) []int {
	var list []int
	for i := 15; i >= 0; i-- {
		if s/(1<<i)%2 == 1 {
			list = append(list, i)
		}
	}
	return list
}

// inOrder returns the sets of k elements, sorted by what P13 says of their
// elements and not by their bits.
func inOrder(k int) []uint16 {
	var sets []uint16
	for s := 0; s < 1<<16; s++ {
		if len(elements(uint16(s))) == k {
			sets = append(sets, uint16(s))
		}
	}
	slices.SortFunc(sets, func(a, b uint16) int {
		return slices.CompareFunc(elements(a), elements(b), cmp.Compare[int])
	})
	return sets
}

// P11 for all n and k, against the triangle in which each number is the sum of
// the two above it.
func TestChoose(t *testing.T) {
	var row [api.MaxBits + 1]int
	row[0] = 1
	for n := 0; n <= api.MaxBits; n++ {
		for k, want := range row {
			if got, e := Choose(n, k); e != api.OK || got != want {
				t.Errorf("Choose(%d, %d) = %v, %v, want %v", n, k, got, e, want)
			}
		}
		for k := api.MaxBits; k > 0; k-- {
			row[k] += row[k-1]
		}
	}
}

func TestChooseOfKnownOnes(t *testing.T) {
	for _, c := range []struct{ n, k, want int }{
		{0, 0, 1}, {0, 1, 0}, {0, 16, 0}, {1, 0, 1}, {1, 1, 1}, {2, 1, 2},
		{5, 2, 10}, {5, 3, 10}, {5, 6, 0}, {16, 0, 1}, {16, 1, 16},
		{16, 2, 120}, {16, 8, 12870}, {16, 15, 16}, {16, 16, 1}, {15, 16, 0},
	} {
		if got, e := Choose(c.n, c.k); e != api.OK || got != c.want {
			t.Errorf("Choose(%d, %d) = %v, %v, want %v", c.n, c.k, got, e, c.want)
		}
	}
}

func TestChooseRefused(t *testing.T) {
	for _, x := range outside {
		for _, good := range []int{0, 1, 8, api.MaxBits} {
			if got, e := Choose(x, good); e != api.ErrArg || got != 0 {
				t.Errorf("Choose(%d, %d) = %v, %v, want ErrArg", x, good, got, e)
			}
			if got, e := Choose(good, x); e != api.ErrArg || got != 0 {
				t.Errorf("Choose(%d, %d) = %v, %v, want ErrArg", good, x, got, e)
			}
		}
		if got, e := Choose(x, x); e != api.ErrArg || got != 0 {
			t.Errorf("Choose(%d, %d) = %v, %v, want ErrArg", x, x, got, e)
		}
	}
}

func TestSize(t *testing.T) {
	for s := 0; s < 1<<16; s++ {
		if got, want := Size(uint16(s)), len(elements(uint16(s))); got != want {
			t.Fatalf("Size(%#x) = %v, want %v", s, got, want)
		}
	}
}

// P13, and counts that agree with it (P11, P12), for all sets.
func TestAllInOrder(t *testing.T) {
	for k := 0; k <= api.MaxBits; k++ {
		sets := inOrder(k)
		if count, e := Choose(api.MaxBits, k); e != api.OK || count != len(sets) {
			t.Errorf("Choose(16, %d) = %v, %v, want %v", k, count, e, len(sets))
		}
		for rank, s := range sets {
			if got := Of(s); got != rank {
				t.Fatalf("Of(%v) = %v, want %v", elements(s), got, rank)
			}
			if got, e := At(k, rank); e != api.OK || got != s {
				t.Fatalf("At(%d, %d) = %v, %v, want %v", k, rank, elements(got), e, elements(s))
			}
			if got := Size(s); got != k {
				t.Fatalf("Size(%v) = %v, want %v", elements(s), got, k)
			}
		}
		if got, e := At(k, len(sets)); e != api.ErrArg || got != 0 {
			t.Errorf("At(%d, %d) = %v, %v, want ErrArg", k, len(sets), elements(got), e)
		}
	}
}

func TestOfKnownOnes(t *testing.T) {
	for _, c := range []struct {
		s       uint16
		k, want int
	}{
		{0, 0, 0},
		{0b1, 1, 0},
		{0b100, 1, 2},
		{0x8000, 1, 15},
		{0b11, 2, 0},
		{0b101, 2, 1},
		{0b110, 2, 2},
		{0b1001, 2, 3},
		{0b1010, 2, 4},
		{0xc000, 2, 119},
		{0x00ff, 8, 0},
		{0xff00, 8, 12869},
		{0x7fff, 15, 0},
		{0xfffe, 15, 15},
		{0xffff, 16, 0},
	} {
		if got := Of(c.s); got != c.want {
			t.Errorf("Of(%v) = %v, want %v", elements(c.s), got, c.want)
		}
		if got, e := At(c.k, c.want); e != api.OK || got != c.s {
			t.Errorf("At(%d, %d) = %v, %v, want %v", c.k, c.want, elements(got), e, elements(c.s))
		}
	}
}

func TestAtRefused(t *testing.T) {
	for _, k := range outside {
		for _, rank := range []int{0, 1, -1, math.MaxInt, math.MinInt} {
			if got, e := At(k, rank); e != api.ErrArg || got != 0 {
				t.Errorf("At(%d, %d) = %v, %v, want ErrArg", k, rank, got, e)
			}
		}
	}
	for _, c := range []struct{ k, rank int }{
		{0, 1}, {0, -1}, {1, 16}, {1, -1}, {2, 120}, {8, 12870}, {8, -1},
		{8, math.MaxInt}, {8, math.MinInt}, {15, 16}, {16, 1}, {16, -1},
	} {
		if got, e := At(c.k, c.rank); e != api.ErrArg || got != 0 {
			t.Errorf("At(%d, %d) = %v, %v, want ErrArg", c.k, c.rank, got, e)
		}
	}
}

// P14 for all sets and all n.
func TestAllNext(t *testing.T) {
	for k := 0; k <= api.MaxBits; k++ {
		sets := inOrder(k)
		for n := 0; n <= api.MaxBits; n++ {
			for i, s := range sets {
				var want uint16
				wantErr := api.ErrNone
				switch {
				case !below(s, n):
					wantErr = api.ErrArg
				case i+1 < len(sets) && below(sets[i+1], n):
					want, wantErr = sets[i+1], api.OK
				}
				if got, e := Next(s, n); e != wantErr || got != want {
					t.Fatalf("Next(%v, %d) = %v, %v, want %v, %v", elements(s), n, elements(got), e, elements(want), wantErr)
				}
			}
		}
	}
}

func below(s uint16, n int) bool {
	return !slices.ContainsFunc(elements(s), func(i int) bool { return i >= n })
}

func TestNext(t *testing.T) {
	for _, c := range []struct {
		s       uint16
		n       int
		want    uint16
		wantErr api.Errno
	}{
		{0b11, 3, 0b101, api.OK},
		{0b101, 3, 0b110, api.OK},
		{0b110, 3, 0, api.ErrNone},
		{0b110, 4, 0b1001, api.OK},
		{0b1011, 4, 0b1101, api.OK},
		{0b0111, 4, 0b1011, api.OK},
		{0b01110, 5, 0b10011, api.OK},
		{0x4000, 16, 0x8000, api.OK},
		{0x4000, 15, 0, api.ErrNone},
		{0x7fff, 16, 0xbfff, api.OK},
		{0x7f80, 16, 0x807f, api.OK},
		{0x8000, 16, 0, api.ErrNone},
		{0xff00, 16, 0, api.ErrNone},
		{0xfffe, 16, 0, api.ErrNone},
		{0xffff, 16, 0, api.ErrNone},
		{0, 0, 0, api.ErrNone},
		{0, 1, 0, api.ErrNone},
		{0, 16, 0, api.ErrNone},
		{1, 0, 0, api.ErrArg},
		{1, 1, 0, api.ErrNone},
		{0b1000, 3, 0, api.ErrArg},
		{0b1100, 3, 0, api.ErrArg},
		{0x8000, 15, 0, api.ErrArg},
		{0xffff, 15, 0, api.ErrArg},
	} {
		if got, e := Next(c.s, c.n); e != c.wantErr || got != c.want {
			t.Errorf("Next(%v, %d) = %v, %v, want %v, %v", elements(c.s), c.n, elements(got), e, elements(c.want), c.wantErr)
		}
	}
}

// The bounds of n come before there being no later set.
func TestNextRefused(t *testing.T) {
	for _, n := range outside {
		for _, s := range []uint16{0, 1, 0b110, 0xff00, 0xffff} {
			if got, e := Next(s, n); e != api.ErrArg || got != 0 {
				t.Errorf("Next(%v, %d) = %v, %v, want ErrArg", elements(s), n, elements(got), e)
			}
		}
	}
}
