package event

import (
	"math"
	"math/big"
	"slices"
	"testing"

	"lotcaster/api"
)

// bad holds what Check refuses, and why. There are always two events, so that
// the functions that take two can be asked for the same.
var bad = []struct {
	w    []int
	a, b uint16
	want api.Errno
}{
	{nil, 0, 0, api.ErrLarge},
	{[]int{}, 0, 0, api.ErrLarge},
	{nil, 1, 0, api.ErrLarge},
	{same(13, 1), 0, 0, api.ErrLarge},
	{same(13, 0), 0, 0, api.ErrLarge},
	{same(13, 101), 0xffff, 0, api.ErrLarge},
	{same(14, 1), 1, 1 << 15, api.ErrLarge},
	{same(16, 1), 0xffff, 0xffff, api.ErrLarge},
	{same(17, 1), 1, 1, api.ErrLarge},
	{same(64, 1), 1, 1, api.ErrLarge},
	{same(1<<16, 1), 1, 1, api.ErrLarge},
	{same(1<<16+1, 1), 1, 1, api.ErrLarge},
	{[]int{0}, 0, 0, api.ErrArg},
	{[]int{-1}, 1, 1, api.ErrArg},
	{[]int{101}, 1, 1, api.ErrArg},
	{[]int{1, 2, 0}, 1, 2, api.ErrArg},
	{[]int{5, -5, 5}, 7, 7, api.ErrArg},
	{same(12, 101), 1, 1, api.ErrArg},
	{[]int{1, 0}, 4, 0, api.ErrArg},
	{[]int{0, 1}, 0xffff, 0xffff, api.ErrArg},
	{[]int{1, 101}, 0, 4, api.ErrArg},
	{[]int{1}, 2, 0, api.ErrForm},
	{[]int{1}, 0, 2, api.ErrForm},
	{[]int{1}, 3, 1, api.ErrForm},
	{[]int{1}, 1, 3, api.ErrForm},
	{[]int{1}, 1 << 15, 1, api.ErrForm},
	{[]int{1, 1, 2}, 8, 0, api.ErrForm},
	{[]int{1, 1, 2}, 15, 0, api.ErrForm},
	{[]int{1, 1, 2}, 7, 8, api.ErrForm},
	{[]int{1, 1, 2}, 1 << 11, 1 << 14, api.ErrForm},
	{same(12, 100), 1 << 12, 1, api.ErrForm},
	{same(12, 100), 1, 1 << 12, api.ErrForm},
	{same(12, 1), 0xffff, 0xffff, api.ErrForm},
	{same(12, 1), 0xfff, 0x8000, api.ErrForm},
}

// same returns n cases of the same weight.
func same(n, weight int) []int {
	return slices.Repeat([]int{weight}, n)
}

// numbers gives numbers that look as if they were drawn at random.
type numbers uint64

func (x *numbers) below(n int) int {
	*x = *x*6364136223846793005 + 1442695040888963407
	return int(uint64(*x) >> 33 % uint64(n))
}

// space draws n cases with weights up to weight.
func (x *numbers) space(n, weight int) []int {
	w := make([]int, n)
	for i := range w {
		w[i] = 1 + x.below(weight)
	}
	return w
}

// events draws count events of a space of n cases.
func (x *numbers) events(n, count int) []uint16 {
	l := make([]uint16, count)
	for i := range l {
		l[i] = uint16(x.below(1 << n))
	}
	return l
}

// spaces holds spaces of all sizes: with equal weights, with those at the
// limits, and drawn ones.
func spaces() [][]int {
	list := [][]int{{1, 1, 2}, {100, 1}, {1, 100}, {2, 3}, {6, 10, 15}, append(same(11, 100), 93)}
	random := numbers(1)
	for n := 1; n <= api.MaxCases; n++ {
		list = append(list, same(n, 1), same(n, 100), random.space(n, 3), random.space(n, 10), random.space(n, 100))
	}
	return list
}

// wantedChance follows the words of the chapter.
func wantedChance(w []int, a uint16) *big.Rat {
	sum, total := 0, 0
	for i, weight := range w {
		total += weight
		if a&(1<<i) != 0 {
			sum += weight
		}
	}
	return big.NewRat(int64(sum), int64(total))
}

// wantedGiven follows the usual definition: the probability of both by that
// of b.
func wantedGiven(w []int, a, b uint16) *big.Rat {
	return new(big.Rat).Quo(wantedChance(w, a&b), wantedChance(w, b))
}

// wantedApart follows the words of P61.
func wantedApart(w []int, a, b uint16) bool {
	product := new(big.Rat).Mul(wantedChance(w, a), wantedChance(w, b))
	return wantedChance(w, a&b).Cmp(product) == 0
}

// wantedSome follows the words of P62: it adds up the cases one by one.
func wantedSome(w []int, l []uint16, least int) *big.Rat {
	sum := new(big.Rat)
	for i := range w {
		count := 0
		for _, event := range l {
			if event&(1<<i) != 0 {
				count++
			}
		}
		if count >= least {
			sum.Add(sum, wantedChance(w, 1<<i))
		}
	}
	return sum
}

// lowest returns r, whose two numbers are small, as a Ratio.
func lowest(r *big.Rat) api.Ratio {
	return api.Ratio{P: int(r.Num().Int64()), Q: int(r.Denom().Int64())}
}

// P58 for what it refuses, and the order of its errors.
func TestCheckRefuses(t *testing.T) {
	for _, c := range bad {
		if e := Check(c.w, c.a, c.b); e != c.want {
			t.Errorf("Check(%d cases, %b, %b) = %v, want %v", len(c.w), c.a, c.b, e, c.want)
		}
	}
}

// P58 for all sizes, without events and with the event of all cases.
func TestCheckSizes(t *testing.T) {
	for n := range 100 {
		want := api.OK
		if n < 1 || n > 12 {
			want = api.ErrLarge
		}
		if e := Check(same(n, 1)); e != want {
			t.Errorf("Check(%d cases) = %v, want %v", n, e, want)
		}
		if e := Check(same(n, 1), uint16(1<<n-1)); e != want {
			t.Errorf("Check(%d cases, all of them) = %v, want %v", n, e, want)
		}
	}
}

// P58 for all weights in and near the range, at every index.
func TestCheckWeights(t *testing.T) {
	weights := []int{1 << 31, 1 << 32, 1<<32 + 1, -1 << 32, math.MaxInt, math.MinInt, math.MinInt + 1}
	for n := -150; n <= 150; n++ {
		weights = append(weights, n)
	}
	for _, weight := range weights {
		want := api.ErrArg
		if weight >= 1 && weight <= 100 {
			want = api.OK
		}
		for size := 1; size <= api.MaxCases; size++ {
			for i := range size {
				w := same(size, 2)
				w[i] = weight
				if e := Check(w); e != want {
					t.Errorf("Check(%v) = %v, want %v", w, e, want)
				}
				if e := Check(w, 1, uint16(1<<size-1)); e != want {
					t.Errorf("Check(%v, events) = %v, want %v", w, e, want)
				}
			}
		}
	}
}

// P58 for all events.
func TestCheckEvents(t *testing.T) {
	for n := 1; n <= api.MaxCases; n++ {
		w := same(n, 1)
		for event := range 1 << 16 {
			want := api.OK
			if event >= 1<<n {
				want = api.ErrForm
			}
			if e := Check(w, uint16(event)); e != want {
				t.Fatalf("Check(%v, %b) = %v, want %v", w, event, e, want)
			}
		}
	}
}

// P58 for any number of events, with a wrong one at any index.
func TestCheckManyEvents(t *testing.T) {
	for _, count := range []int{1, 2, 3, 12, 13, 100} {
		l := slices.Repeat([]uint16{7, 0, 4}, count)[:count]
		if e := Check([]int{1, 1, 2}, l...); e != api.OK {
			t.Errorf("Check(%d events) = %v, want OK", count, e)
		}
		for i := range l {
			wrong := slices.Clone(l)
			wrong[i] = 8
			if e := Check([]int{1, 1, 2}, wrong...); e != api.ErrForm {
				t.Errorf("Check(%d events, wrong at %d) = %v, want ErrForm", count, i, e)
			}
		}
	}
	if e := Check([]int{1}, make([]uint16, 1<<20)...); e != api.OK {
		t.Errorf("Check(2^20 events) = %v, want OK", e)
	}
}

// P59 for all events of many spaces.
func TestChance(t *testing.T) {
	for _, w := range spaces() {
		for a := range uint16(1 << len(w)) {
			want := lowest(wantedChance(w, a))
			if x, e := Chance(w, a); e != api.OK || x != want {
				t.Fatalf("Chance(%v, %b) = %v, %v, want %v", w, a, x, e, want)
			}
		}
	}
}

func TestChanceKnownOnes(t *testing.T) {
	for _, c := range []struct {
		w    []int
		a    uint16
		want api.Ratio
	}{
		{[]int{1, 1, 2}, 4, api.Ratio{P: 1, Q: 2}},
		{[]int{1, 1, 2}, 1, api.Ratio{P: 1, Q: 4}},
		{[]int{1, 1, 2}, 5, api.Ratio{P: 3, Q: 4}},
		{[]int{1, 1, 2}, 0, api.Ratio{P: 0, Q: 1}},
		{[]int{1, 1, 2}, 7, api.Ratio{P: 1, Q: 1}},
		{[]int{1}, 0, api.Ratio{P: 0, Q: 1}},
		{[]int{100}, 1, api.Ratio{P: 1, Q: 1}},
		{[]int{1, 2, 3, 4}, 10, api.Ratio{P: 3, Q: 5}},
		{same(12, 100), 1 << 11, api.Ratio{P: 1, Q: 12}},
		{same(12, 100), 0xfff, api.Ratio{P: 1, Q: 1}},
		{append(same(11, 100), 93), 1 << 11, api.Ratio{P: 93, Q: 1193}},
		{append(same(11, 100), 93), 0x7ff, api.Ratio{P: 1100, Q: 1193}},
	} {
		if x, e := Chance(c.w, c.a); e != api.OK || x != c.want {
			t.Errorf("Chance(%v, %b) = %v, %v, want %v", c.w, c.a, x, e, c.want)
		}
	}
}

// pairs returns all pairs of events of a small space, or some of a great one.
func pairs(n int) [][2]uint16 {
	var list [][2]uint16
	if n <= 6 {
		for i := range 1 << (2 * n) {
			list = append(list, [2]uint16{uint16(i >> n), uint16(i & (1<<n - 1))})
		}
		return list
	}
	all := uint16(1<<n - 1)
	random := numbers(2)
	for range 300 {
		l := random.events(n, 2)
		a, b := l[0], l[1]
		list = append(list, [2]uint16{a, b}, [2]uint16{a, a}, [2]uint16{a, all &^ a}, [2]uint16{a & b, b}, [2]uint16{a, all}, [2]uint16{all, a}, [2]uint16{0, a}, [2]uint16{a, 0})
	}
	return list
}

// P60.
func TestGiven(t *testing.T) {
	for _, w := range spaces() {
		for _, pair := range pairs(len(w)) {
			a, b := pair[0], pair[1]
			var want api.Ratio
			wantError := api.ErrZero
			if b != 0 {
				want, wantError = lowest(wantedGiven(w, a, b)), api.OK
			}
			if x, e := Given(w, a, b); e != wantError || x != want {
				t.Fatalf("Given(%v, %b, %b) = %v, %v, want %v, %v", w, a, b, x, e, want, wantError)
			}
		}
	}
}

func TestGivenKnownOnes(t *testing.T) {
	for _, c := range []struct {
		w         []int
		a, b      uint16
		want      api.Ratio
		wantError api.Errno
	}{
		{[]int{1, 1, 2}, 1, 5, api.Ratio{P: 1, Q: 3}, api.OK},
		{[]int{1, 1, 2}, 5, 1, api.Ratio{P: 1, Q: 1}, api.OK},
		{[]int{1, 1, 2}, 3, 5, api.Ratio{P: 1, Q: 3}, api.OK},
		{[]int{1, 1, 2}, 4, 6, api.Ratio{P: 2, Q: 3}, api.OK},
		{[]int{1, 1, 2}, 4, 7, api.Ratio{P: 1, Q: 2}, api.OK},
		{[]int{1, 1, 2}, 2, 5, api.Ratio{P: 0, Q: 1}, api.OK},
		{[]int{1, 1, 2}, 0, 5, api.Ratio{P: 0, Q: 1}, api.OK},
		{[]int{1, 1, 2}, 7, 2, api.Ratio{P: 1, Q: 1}, api.OK},
		{[]int{1, 1, 2}, 5, 0, api.Ratio{}, api.ErrZero},
		{[]int{1, 1, 2}, 0, 0, api.Ratio{}, api.ErrZero},
		{same(12, 100), 0xfff, 0, api.Ratio{}, api.ErrZero},
		{same(12, 100), 1 << 11, 0xffe, api.Ratio{P: 1, Q: 11}, api.OK},
		{append(same(11, 100), 93), 1 << 11, 0xffe, api.Ratio{P: 93, Q: 1093}, api.OK},
		// That a is wrong comes before that b is empty.
		{[]int{1, 1, 2}, 8, 0, api.Ratio{}, api.ErrForm},
		{[]int{1, 0, 2}, 1, 0, api.Ratio{}, api.ErrArg},
		{nil, 0, 0, api.Ratio{}, api.ErrLarge},
	} {
		if x, e := Given(c.w, c.a, c.b); e != c.wantError || x != c.want {
			t.Errorf("Given(%v, %b, %b) = %v, %v, want %v, %v", c.w, c.a, c.b, x, e, c.want, c.wantError)
		}
	}
}

// P61.
func TestApart(t *testing.T) {
	count := map[bool]int{}
	for _, w := range spaces() {
		for _, pair := range pairs(len(w)) {
			a, b := pair[0], pair[1]
			want := wantedApart(w, a, b)
			if x, e := Apart(w, a, b); e != api.OK || x != want {
				t.Fatalf("Apart(%v, %b, %b) = %v, %v, want %v", w, a, b, x, e, want)
			}
			if a != 0 && b != 0 && a != 1<<len(w)-1 && b != 1<<len(w)-1 {
				count[want]++
			}
		}
	}
	if count[true] < 100 || count[false] < 100 {
		t.Errorf("too few of a kind: %v", count)
	}
}

func TestApartKnownOnes(t *testing.T) {
	coins := same(8, 1)
	for _, c := range []struct {
		w    []int
		a, b uint16
		want bool
	}{
		// The number of the case tells how three coins fell.
		{coins, 0b10101010, 0b11001100, true},
		{coins, 0b10101010, 0b11110000, true},
		{coins, 0b10101010, 0b11101000, false},
		{coins, 0b10101010, 0b10101010, false},
		{coins, 0b10101010, 0b01010101, false},
		{coins, 0b01100110, 0b10101010, true},
		// Two coins that are not fair: with 1/3 and 1/5.
		{[]int{8, 4, 2, 1}, 0b1010, 0b1100, true},
		{[]int{8, 4, 1, 2}, 0b1010, 0b1100, false},
		// Nothing and everything are independent of any event.
		{[]int{1, 1, 2}, 0, 5, true},
		{[]int{1, 1, 2}, 5, 0, true},
		{[]int{1, 1, 2}, 7, 5, true},
		{[]int{1, 1, 2}, 5, 7, true},
		{[]int{1, 1, 2}, 0, 0, true},
		{[]int{1, 1, 2}, 7, 7, true},
		{[]int{1}, 0, 1, true},
		{[]int{1, 1}, 1, 2, false},
		{[]int{1, 1}, 1, 1, false},
		{[]int{1, 1, 1, 1}, 3, 5, true},
		{[]int{1, 1, 1, 2}, 3, 5, false},
		{same(12, 100), 0x03f, 0x1c7, true},
		{same(12, 100), 0x03f, 0x1cf, false},
	} {
		if x, e := Apart(c.w, c.a, c.b); e != api.OK || x != c.want {
			t.Errorf("Apart(%v, %b, %b) = %v, %v, want %v", c.w, c.a, c.b, x, e, c.want)
		}
	}
}

// bounds holds numbers of events, from fewer to more than there can be.
func bounds() []int {
	list := []int{
		math.MinInt, math.MinInt + 1, -1 << 32, -1<<32 + 1, -1 << 31,
		math.MaxInt, math.MaxInt - 1, 1 << 32, 1<<32 + 1, 1 << 31, 1 << 16, 1 << 8,
	}
	for n := -2; n <= 15; n++ {
		list = append(list, n)
	}
	return list
}

// P62: least may be any number.
func TestSome(t *testing.T) {
	random := numbers(3)
	for _, w := range spaces() {
		for count := 0; count <= api.MaxCases; count++ {
			l := random.events(len(w), count)
			for _, least := range bounds() {
				want := lowest(wantedSome(w, l, least))
				if x, e := Some(w, l, least); e != api.OK || x != want {
					t.Fatalf("Some(%v, %b, %d) = %v, %v, want %v", w, l, least, x, e, want)
				}
			}
		}
	}
}

// P62 for all short lists of events of a small space.
func TestSomeOfFew(t *testing.T) {
	w := []int{3, 1, 4}
	for n := range 1 << 12 {
		for count := 0; count <= 4; count++ {
			l := []uint16{uint16(n & 7), uint16(n >> 3 & 7), uint16(n >> 6 & 7), uint16(n >> 9 & 7)}[:count]
			for least := -1; least <= 5; least++ {
				want := lowest(wantedSome(w, l, least))
				if x, e := Some(w, l, least); e != api.OK || x != want {
					t.Fatalf("Some(%v, %b, %d) = %v, %v, want %v", w, l, least, x, e, want)
				}
			}
		}
	}
}

func TestSomeKnownOnes(t *testing.T) {
	one, none := api.Ratio{P: 1, Q: 1}, api.Ratio{P: 0, Q: 1}
	for _, c := range []struct {
		w     []int
		l     []uint16
		least int
		want  api.Ratio
	}{
		{[]int{1, 1, 2}, []uint16{1, 5}, 0, one},
		{[]int{1, 1, 2}, []uint16{1, 5}, 1, api.Ratio{P: 3, Q: 4}},
		{[]int{1, 1, 2}, []uint16{1, 5}, 2, api.Ratio{P: 1, Q: 4}},
		{[]int{1, 1, 2}, []uint16{1, 5}, 3, none},
		// An event that is there twice occurs twice.
		{[]int{1, 1, 2}, []uint16{4, 4}, 2, api.Ratio{P: 1, Q: 2}},
		{[]int{1, 1, 2}, []uint16{4, 4, 4}, 3, api.Ratio{P: 1, Q: 2}},
		{[]int{1, 1, 2}, []uint16{4, 4, 4}, 4, none},
		{[]int{1, 1, 2}, []uint16{0, 7}, 1, one},
		{[]int{1, 1, 2}, []uint16{0, 7}, 2, none},
		{[]int{1, 1, 2}, nil, 0, one},
		{[]int{1, 1, 2}, nil, -1, one},
		{[]int{1, 1, 2}, nil, 1, none},
		{[]int{1, 1, 2}, []uint16{}, math.MinInt, one},
		{[]int{1, 1, 2}, []uint16{}, math.MaxInt, none},
		{[]int{5, 6, 7}, []uint16{0}, 0, one},
		{[]int{5, 6, 7}, []uint16{0}, 1, none},
		// Of three coins, at least two.
		{same(8, 1), []uint16{0b10101010, 0b11001100, 0b11110000}, 2, api.Ratio{P: 1, Q: 2}},
		{same(8, 1), []uint16{0b10101010, 0b11001100, 0b11110000}, 3, api.Ratio{P: 1, Q: 8}},
		{same(12, 100), slices.Repeat([]uint16{0xfff}, 12), 12, one},
		{same(12, 100), slices.Repeat([]uint16{0xfff}, 12), 13, none},
		{append(same(11, 100), 93), slices.Repeat([]uint16{1 << 11}, 12), 12, api.Ratio{P: 93, Q: 1193}},
	} {
		if x, e := Some(c.w, c.l, c.least); e != api.OK || x != c.want {
			t.Errorf("Some(%v, %b, %d) = %v, %v, want %v", c.w, c.l, c.least, x, e, c.want)
		}
	}
}

// P62 for too many events, which come last in the order of errors.
func TestSomeOfTooMany(t *testing.T) {
	wrongLast := append(slices.Repeat([]uint16{1}, 20), 2)
	for _, c := range []struct {
		w    []int
		l    []uint16
		want api.Errno
	}{
		{[]int{1}, slices.Repeat([]uint16{1}, 12), api.OK},
		{[]int{1}, slices.Repeat([]uint16{1}, 13), api.ErrLarge},
		{[]int{1}, make([]uint16, 13), api.ErrLarge},
		{[]int{1}, make([]uint16, 1<<16), api.ErrLarge},
		{same(12, 1), slices.Repeat([]uint16{0xfff}, 1<<16+1), api.ErrLarge},
		{[]int{1}, wrongLast, api.ErrForm},
		{[]int{0}, slices.Repeat([]uint16{1}, 13), api.ErrArg},
		{[]int{0}, wrongLast, api.ErrArg},
		{nil, slices.Repeat([]uint16{1}, 13), api.ErrLarge},
		{same(13, 0), wrongLast, api.ErrLarge},
	} {
		for _, least := range bounds() {
			x, e := Some(c.w, c.l, least)
			if e != c.want || e != api.OK && x != (api.Ratio{}) {
				t.Errorf("Some(%v, %d events, %d) = %v, %v, want error %v", c.w, len(c.l), least, x, e, c.want)
			}
		}
	}
}

// P59 to P62: what Check refuses is refused with its error.
func TestRefused(t *testing.T) {
	none := api.Ratio{}
	for _, c := range bad {
		if x, e := Given(c.w, c.a, c.b); e != c.want || x != none {
			t.Errorf("Given(%d cases, %b, %b) = %v, %v, want error %v", len(c.w), c.a, c.b, x, e, c.want)
		}
		if x, e := Apart(c.w, c.a, c.b); e != c.want || x {
			t.Errorf("Apart(%d cases, %b, %b) = %v, %v, want error %v", len(c.w), c.a, c.b, x, e, c.want)
		}
		for _, least := range bounds() {
			if x, e := Some(c.w, []uint16{c.a, c.b}, least); e != c.want || x != none {
				t.Errorf("Some(%d cases, %b, %b, %d) = %v, %v, want error %v", len(c.w), c.a, c.b, least, x, e, c.want)
			}
		}
		for _, a := range []uint16{c.a, c.b} {
			want := Check(c.w, a)
			if x, e := Chance(c.w, a); e != want || e != api.OK && x != none {
				t.Errorf("Chance(%d cases, %b) = %v, %v, want error %v", len(c.w), a, x, e, want)
			}
		}
	}
}

// P59 for what it refuses.
func TestChanceRefuses(t *testing.T) {
	for _, c := range []struct {
		w    []int
		a    uint16
		want api.Errno
	}{
		{nil, 0, api.ErrLarge},
		{same(13, 0), 1 << 14, api.ErrLarge},
		{[]int{1, 0}, 1, api.ErrArg},
		{[]int{1, 101}, 4, api.ErrArg},
		{[]int{1, 100}, 4, api.ErrForm},
		{[]int{1, 100}, 7, api.ErrForm},
		{same(12, 1), 1 << 12, api.ErrForm},
		{same(12, 1), 0xffff, api.ErrForm},
	} {
		if x, e := Chance(c.w, c.a); e != c.want || x != (api.Ratio{}) {
			t.Errorf("Chance(%d cases, %b) = %v, %v, want error %v", len(c.w), c.a, x, e, c.want)
		}
	}
}

// P2: nothing is changed, not even behind the ends, and what was asked before
// does not matter.
func TestNothingIsKept(t *testing.T) {
	random := numbers(4)
	for range 200 {
		n := 1 + random.below(api.MaxCases)
		weights, events := random.space(16, 100), random.events(n, 16)
		wholeWeights, wholeEvents := slices.Clone(weights), slices.Clone(events)
		w, l := weights[:n], events[:1+random.below(api.MaxCases)]
		least := random.below(4)
		chance, _ := Chance(w, l[0])
		some, _ := Some(w, l, least)
		apart, _ := Apart(w, l[0], events[15])
		given, _ := Given(w, l[0], events[15])
		if e := Check(w, l...); e != api.OK {
			t.Errorf("Check(%v, %b) = %v, want OK", w, l, e)
		}
		if !slices.Equal(weights, wholeWeights) || !slices.Equal(events, wholeEvents) {
			t.Fatalf("arguments changed to %v, %b from %v, %b", weights, events, wholeWeights, wholeEvents)
		}
		if x, _ := Chance(w, l[0]); x != chance {
			t.Errorf("Chance(%v, %b) = %v and then %v", w, l[0], chance, x)
		}
		if x, _ := Some(w, l, least); x != some {
			t.Errorf("Some(%v, %b, %d) = %v and then %v", w, l, least, some, x)
		}
		if x, _ := Apart(w, l[0], events[15]); x != apart {
			t.Errorf("Apart(%v, %b, %b) = %v and then %v", w, l[0], events[15], apart, x)
		}
		if x, _ := Given(w, l[0], events[15]); x != given {
			t.Errorf("Given(%v, %b, %b) = %v and then %v", w, l[0], events[15], given, x)
		}
	}
}
