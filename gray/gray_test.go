package gray

import (
	"math"
	"slices"
	"testing"

	"lotcaster/api"
)

// reflected builds the code of n bits by its name: the code of n-1 bits, and
// then the same backwards with the new bit set.
func reflected(n int) []uint16 {
	list := []uint16{0}
	for bit := range n {
		for i := len(list) - 1; i >= 0; i-- {
			list = append(list, list[i]+1<<bit)
		}
	}
	return list
}

// P15 for every number, against the reflected list and the definition.
func TestOf(t *testing.T) {
	for i, want := range reflected(16) {
		if got := Of(uint16(i)); got != want || int(got) != i^(i/2) {
			t.Fatalf("Of(%d) = %d, want %d", i, got, want)
		}
	}
}

func TestOfKnownOnes(t *testing.T) {
	for _, c := range []struct{ i, want uint16 }{
		{0, 0}, {1, 1}, {2, 3}, {3, 2}, {4, 6}, {5, 7}, {6, 5}, {7, 4},
		{8, 12}, {255, 128}, {256, 384}, {21845, 32767}, {32767, 16384},
		{32768, 49152}, {43690, 65535}, {65534, 32769}, {65535, 32768},
	} {
		if got := Of(c.i); got != c.want {
			t.Errorf("Of(%d) = %d, want %d", c.i, got, c.want)
		}
		if got := Back(c.want); got != c.i {
			t.Errorf("Back(%d) = %d, want %d", c.want, got, c.i)
		}
	}
}

// P15: Back undoes Of, and Of undoes Back, for every number.
func TestBack(t *testing.T) {
	for i, g := range reflected(16) {
		if got := Back(g); got != uint16(i) {
			t.Fatalf("Back(%d) = %d, want %d", g, got, i)
		}
		if got := Of(Back(uint16(i))); got != uint16(i) {
			t.Fatalf("Of(Back(%d)) = %d", i, got)
		}
	}
}

// P16 for every number that has a successor, against the reflected list: the
// two codes differ in the told bit and in no other one.
func TestBit(t *testing.T) {
	list := reflected(16)
	for i := range len(list) - 1 {
		got, e := Bit(uint16(i))
		if e != api.OK || got < 0 || got > 15 || list[i]^list[i+1] != 1<<got {
			t.Fatalf("Bit(%d) = %d, %v, codes %d and %d", i, got, e, list[i], list[i+1])
		}
	}
}

func TestBitKnownOnes(t *testing.T) {
	for _, c := range []struct {
		i    uint16
		want int
	}{
		{0, 0}, {1, 1}, {2, 0}, {3, 2}, {4, 0}, {5, 1}, {7, 3}, {255, 8},
		{16383, 14}, {32766, 0}, {32767, 15}, {32768, 0}, {65533, 1}, {65534, 0},
	} {
		if got, e := Bit(c.i); e != api.OK || got != c.want {
			t.Errorf("Bit(%d) = %d, %v, want %d", c.i, got, e, c.want)
		}
	}
}

func TestBitOfTheLast(t *testing.T) {
	if got, e := Bit(65535); e != api.ErrNone || got != 0 {
		t.Errorf("Bit(65535) = %d, %v, want ErrNone", got, e)
	}
}

// P17 for every n.
func TestWalk(t *testing.T) {
	for n := 0; n <= api.MaxPerm; n++ {
		if got, e := Walk(n); e != api.OK || !slices.Equal(got, reflected(n)) {
			t.Errorf("Walk(%d) = %v, %v", n, got, e)
		}
	}
}

func TestWalkKnownOnes(t *testing.T) {
	for n, want := range [][]uint16{
		{0}, {0, 1}, {0, 1, 3, 2}, {0, 1, 3, 2, 6, 7, 5, 4},
	} {
		if got, e := Walk(n); e != api.OK || !slices.Equal(got, want) {
			t.Errorf("Walk(%d) = %v, %v, want %v", n, got, e, want)
		}
	}
}

func TestWalkAtTheLimit(t *testing.T) {
	got, e := Walk(10)
	if e != api.OK || len(got) != 1024 || got[1023] != 512 {
		t.Errorf("Walk(10) = %v, %v", got, e)
	}
}

func TestWalkRefused(t *testing.T) {
	for _, n := range []int{
		-1, -2, -10, 11, 12, 16, 17, 63, 64, 65, 1 << 16, 1 << 32, math.MaxInt, math.MinInt,
	} {
		if got, e := Walk(n); e != api.ErrArg || got != nil {
			t.Errorf("Walk(%d) = %v, %v, want ErrArg", n, got, e)
		}
	}
}

// P2: each result is memory of its own, with its spare capacity.
func TestWalkMemory(t *testing.T) {
	for n := 0; n <= api.MaxPerm; n++ {
		first, _ := Walk(n)
		second, _ := Walk(n)
		all := first[:cap(first)]
		for i := range all {
			all[i] = 9999
		}
		third, _ := Walk(n)
		if want := reflected(n); !slices.Equal(second, want) || !slices.Equal(third, want) {
			t.Errorf("results of Walk(%d) share memory", n)
		}
	}
}
