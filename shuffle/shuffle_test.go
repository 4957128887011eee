package shuffle

import (
	"bytes"
	"math"
	"slices"
	"testing"

	"lotcaster/api"
	"lotcaster/perm"
	"lotcaster/tape"
)

// numbers gives numbers that look as if they were drawn at random.
type numbers uint64

func (x *numbers) below(n int) int {
	*x = *x*6364136223846793005 + 1442695040888963407
	return int(uint64(*x) >> 33 % uint64(n))
}

// tape draws n bits.
func (x *numbers) tape(n int) []byte {
	l := make([]byte, n)
	for i := range l {
		l[i] = byte(x.below(2))
	}
	return l
}

// lots draws a lot list of n elements.
func (x *numbers) lots(n int) []int {
	l := make([]int, n)
	for i := range l {
		l[i] = x.below(i + 1)
	}
	return l
}

// written returns the tape that the digits spell.
func written(digits string) []byte {
	l := make([]byte, len(digits))
	for i := range l {
		l[i] = digits[i] - '0'
	}
	return l
}

// allTapes returns all tapes of n bits.
func allTapes(n int) [][]byte {
	list := [][]byte{{}}
	for range n {
		var longer [][]byte
		for _, l := range list {
			longer = append(longer, append(slices.Clone(l), 0), append(slices.Clone(l), 1))
		}
		list = longer
	}
	return list
}

// allLots returns all lot lists of n elements.
func allLots(n int) [][]int {
	list := [][]int{{}}
	for i := range n {
		var longer [][]int
		for _, l := range list {
			for lot := 0; lot <= i; lot++ {
				longer = append(longer, append(slices.Clone(l), lot))
			}
		}
		list = longer
	}
	return list
}

// extremes holds numbers that are no lots.
var extremes = []int{
	-1, -2, -10, 10, 11, 255, 256, 1 << 16, 1 << 31, 1 << 32, 1<<32 + 1, -1 << 31, -1 << 32,
	-1<<32 + 1, math.MaxInt, math.MaxInt - 1, math.MinInt, math.MinInt + 1,
}

// wantedDeal follows the words of P68: it makes room for index i by an append.
func wantedDeal(l []int) []int {
	p := []int{}
	for i, lot := range l {
		if lot == i {
			p = append(p, i)
			continue
		}
		p = append(p, p[lot])
		p[lot] = i
	}
	return p
}

// wantedCast follows the words of P70 and of chapter 16 for an n in the range:
// it takes groups of bits off the tape.
func wantedCast(l []byte, n int) ([]int, int, api.Errno) {
	lots, total := []int{}, 0
	for i := range n {
		width := 0
		for power := 1; power < i+1; power *= 2 {
			width++
		}
		lot := i + 1
		for lot > i {
			if len(l) < width {
				return nil, 0, api.ErrShort
			}
			lot = 0
			for _, bit := range l[:width] {
				lot = 2*lot + int(bit)
			}
			l, total = l[width:], total+width
		}
		lots = append(lots, lot)
	}
	return wantedDeal(lots), total, api.OK
}

// bad holds what Check refuses, and why.
var bad = []struct {
	l    []int
	want api.Errno
}{
	{make([]int, 11), api.ErrLarge},
	{make([]int, 12), api.ErrLarge},
	{make([]int, 256), api.ErrLarge},
	{make([]int, 1<<16), api.ErrLarge},
	{slices.Repeat([]int{-1}, 11), api.ErrLarge},
	{slices.Repeat([]int{1}, 11), api.ErrLarge},
	{append(make([]int, 10), 11), api.ErrLarge},
	{append([]int{-1}, make([]int, 10)...), api.ErrLarge},
	{[]int{0, 1, 2, 3, 4, 5, 6, 7, 8, 9, 10}, api.ErrLarge},
	{[]int{1}, api.ErrArg},
	{[]int{-1}, api.ErrArg},
	{[]int{0, 2}, api.ErrArg},
	{[]int{1, 0}, api.ErrArg},
	{[]int{1, 2, 0}, api.ErrArg},
	{[]int{0, -1, 0}, api.ErrArg},
	{[]int{0, 0, 0, -1}, api.ErrArg},
	{[]int{0, 1, 2, 4}, api.ErrArg},
	{[]int{1, 2, 3, 4, 5, 6, 7, 8, 9, 10}, api.ErrArg},
	{[]int{0, 1, 2, 3, 4, 5, 6, 7, 8, 10}, api.ErrArg},
	{slices.Repeat([]int{-1}, 10), api.ErrArg},
}

// P67 for what it refuses.
func TestCheckRefuses(t *testing.T) {
	for _, c := range bad {
		if e := Check(c.l); e != c.want {
			t.Errorf("Check(%d elements, %v...) = %v, want %v", len(c.l), c.l[0], e, c.want)
		}
	}
}

// P67 for all short lists of small numbers.
func TestCheckShort(t *testing.T) {
	var l [4]int
	count := [5]int{}
	for i := range 7 * 7 * 7 * 7 {
		for j, rest := 0, i; j < 4; j, rest = j+1, rest/7 {
			l[j] = rest%7 - 1
		}
		want := api.OK
		for n := range 5 {
			if n > 0 && (l[n-1] < 0 || l[n-1] > n-1) {
				want = api.ErrArg
			}
			e := Check(l[:n])
			if e != want {
				t.Fatalf("Check(%v) = %v, want %v", l[:n], e, want)
			}
			if e == api.OK {
				count[n]++
			}
		}
	}
	if count[4] != 24 {
		t.Errorf("%d lists of 4 elements are lot lists, want 24", count[4])
	}
}

// P67 for every number at every index of lists of all sizes.
func TestCheckElements(t *testing.T) {
	for n := 1; n <= api.MaxPerm; n++ {
		for i := range n {
			for _, lot := range append([]int{0, 1, 2, 3, 4, 5, 6, 7, 8, 9}, extremes...) {
				l := make([]int, n)
				l[i] = lot
				want := api.OK
				if lot < 0 || lot > i {
					want = api.ErrArg
				}
				if e := Check(l); e != want {
					t.Errorf("Check(%v) = %v, want %v", l, e, want)
				}
			}
		}
	}
}

// P67 for lists of all sizes, the empty ones included.
func TestCheckSizes(t *testing.T) {
	if e := Check(nil); e != api.OK {
		t.Errorf("Check(nil) = %v, want OK", e)
	}
	random := numbers(1)
	for n := range 30 {
		want := api.OK
		if n > 10 {
			want = api.ErrLarge
		}
		if e := Check(random.lots(n)); e != want {
			t.Errorf("Check(%d lots) = %v, want %v", n, e, want)
		}
	}
}

// P68 and P69 for all lot lists of up to 8 elements: Deal builds what the
// words say, gives each permutation once, and Lots gives the list back.
func TestDealAndLots(t *testing.T) {
	want := 1
	for n := range 9 {
		if n > 0 {
			want *= n
		}
		seen := map[[10]int]bool{}
		for _, l := range allLots(n) {
			p, e := Deal(l)
			if e != api.OK || !slices.Equal(p, wantedDeal(l)) || perm.Check(p) != api.OK {
				t.Fatalf("Deal(%v) = %v, %v, want %v", l, p, e, wantedDeal(l))
			}
			key := [10]int{}
			copy(key[:], p)
			seen[key] = true
			if back, e := Lots(p); e != api.OK || !slices.Equal(back, l) {
				t.Fatalf("Lots(%v) = %v, %v, want %v", p, back, e, l)
			}
		}
		if len(seen) != want {
			t.Errorf("Deal gives %d permutations of %d numbers, want %d", len(seen), n, want)
		}
	}
}

// P68 and P69 for drawn lists of the greatest sizes.
func TestDealAndLotsLong(t *testing.T) {
	random := numbers(2)
	for range 20000 {
		l := random.lots(9 + random.below(2))
		p, e := Deal(l)
		if e != api.OK || !slices.Equal(p, wantedDeal(l)) {
			t.Fatalf("Deal(%v) = %v, %v, want %v", l, p, e, wantedDeal(l))
		}
		if back, e := Lots(p); e != api.OK || !slices.Equal(back, l) {
			t.Fatalf("Lots(%v) = %v, %v, want %v", p, back, e, l)
		}
	}
}

func TestDealKnownOnes(t *testing.T) {
	for _, c := range []struct{ l, p []int }{
		{[]int{}, []int{}},
		{[]int{0}, []int{0}},
		{[]int{0, 0}, []int{1, 0}},
		{[]int{0, 1}, []int{0, 1}},
		{[]int{0, 0, 1}, []int{1, 2, 0}},
		{[]int{0, 0, 0}, []int{2, 0, 1}},
		{[]int{0, 0, 2}, []int{1, 0, 2}},
		{[]int{0, 1, 0}, []int{2, 1, 0}},
		{[]int{0, 1, 1}, []int{0, 2, 1}},
		{[]int{0, 0, 1, 1}, []int{1, 3, 0, 2}},
		{[]int{0, 0, 1, 2}, []int{1, 2, 3, 0}},
		{[]int{0, 0, 0, 0, 0, 0, 0, 0, 0, 0}, []int{9, 0, 1, 2, 3, 4, 5, 6, 7, 8}},
		{[]int{0, 1, 2, 3, 4, 5, 6, 7, 8, 9}, []int{0, 1, 2, 3, 4, 5, 6, 7, 8, 9}},
		{[]int{0, 0, 1, 2, 3, 4, 5, 6, 7, 8}, []int{1, 2, 3, 4, 5, 6, 7, 8, 9, 0}},
		{[]int{0, 1, 2, 3, 4, 4, 3, 2, 1, 0}, []int{9, 8, 7, 6, 5, 4, 3, 2, 1, 0}},
	} {
		if p, e := Deal(c.l); e != api.OK || !slices.Equal(p, c.p) {
			t.Errorf("Deal(%v) = %v, %v, want %v", c.l, p, e, c.p)
		}
		if l, e := Lots(c.p); e != api.OK || !slices.Equal(l, c.l) {
			t.Errorf("Lots(%v) = %v, %v, want %v", c.p, l, e, c.l)
		}
	}
	if p, e := Deal(nil); e != api.OK || len(p) != 0 {
		t.Errorf("Deal(nil) = %v, %v, want nothing", p, e)
	}
	if l, e := Lots(nil); e != api.OK || len(l) != 0 {
		t.Errorf("Lots(nil) = %v, %v, want nothing", l, e)
	}
}

// P68 for what it refuses.
func TestDealRefuses(t *testing.T) {
	refuses := func(l []int, want api.Errno) {
		t.Helper()
		if p, e := Deal(l); e != want || len(p) != 0 {
			t.Errorf("Deal(%d elements, %v...) = %v, %v, want %v", len(l), l[0], p, e, want)
		}
	}
	for _, c := range bad {
		refuses(c.l, c.want)
	}
	for _, lot := range extremes {
		for n := 1; n <= api.MaxPerm; n++ {
			for i := range n {
				l := make([]int, n)
				l[i] = lot
				refuses(l, api.ErrArg)
			}
		}
		refuses(slices.Repeat([]int{lot}, 11), api.ErrLarge)
	}
}

// P69 for all short lists of small numbers: it refuses just what is not a
// permutation.
func TestLotsShort(t *testing.T) {
	for i := range 6 * 6 * 6 * 6 {
		p := []int{i%6 - 1, i/6%6 - 1, i/36%6 - 1, i/216 - 1}
		for n := range 5 {
			l, e := Lots(p[:n])
			if want := perm.Check(p[:n]); e != want || e != api.OK && len(l) != 0 {
				t.Fatalf("Lots(%v) = %v, %v, want %v", p[:n], l, e, want)
			}
			if e == api.OK && !slices.Equal(wantedDeal(l), p[:n]) {
				t.Fatalf("Lots(%v) = %v, which gives %v", p[:n], l, wantedDeal(l))
			}
		}
	}
}

// P69 for what it refuses.
func TestLotsRefuses(t *testing.T) {
	refuses := func(p []int, want api.Errno) {
		t.Helper()
		if l, e := Lots(p); e != want || len(l) != 0 {
			t.Errorf("Lots(%d elements, %v...) = %v, %v, want %v", len(p), p[0], l, e, want)
		}
	}
	refuses([]int{0, 1, 2, 3, 4, 5, 6, 7, 8, 9, 10}, api.ErrLarge)
	refuses(make([]int, 11), api.ErrLarge)
	refuses(make([]int, 1<<16), api.ErrLarge)
	refuses(slices.Repeat([]int{-1}, 11), api.ErrLarge)
	refuses([]int{1}, api.ErrForm)
	refuses([]int{0, 0}, api.ErrForm)
	refuses([]int{0, 0, 1}, api.ErrForm)
	refuses([]int{0, 2}, api.ErrForm)
	refuses([]int{1, 2, 3}, api.ErrForm)
	refuses(make([]int, 10), api.ErrForm)
	for _, number := range extremes {
		for n := 1; n <= api.MaxPerm; n++ {
			for i := range n {
				p := make([]int, n)
				for j := range p {
					p[j] = j
				}
				p[i] = number
				refuses(p, api.ErrForm)
			}
		}
	}
}

// checkCast compares one permutation with the words of the chapter.
func checkCast(t *testing.T, l []byte, n int) api.Errno {
	t.Helper()
	want, wantRead, wantError := wantedCast(l, n)
	p, read, e := Cast(l, n)
	if e != wantError || !slices.Equal(p, want) || read != wantRead {
		t.Fatalf("Cast(%v, %d) = %v, %v, %v, want %v, %v, %v", l, n, p, read, e, want, wantRead, wantError)
	}
	return e
}

// P70 for all short tapes.
func TestCastShort(t *testing.T) {
	for size := range 13 {
		for _, l := range allTapes(size) {
			for n := range 7 {
				checkCast(t, l, n)
			}
		}
	}
}

// P70 for drawn tapes, some of which begin with ones, so that numbers are
// rejected.
func TestCastLong(t *testing.T) {
	random := numbers(3)
	count := map[api.Errno]int{}
	for range 20000 {
		l := random.tape(random.below(api.MaxTape + 1))
		if len(l) > 100 {
			l = l[:len(l)-random.below(100)]
		}
		copy(l, bytes.Repeat([]byte{1}, random.below(30)))
		n := random.below(api.MaxPerm + 1)
		count[checkCast(t, l, n)]++
	}
	if count[api.OK] < 1000 || count[api.ErrShort] < 1000 {
		t.Errorf("the tapes are long enough %d times, and too short %d times", count[api.OK], count[api.ErrShort])
	}
	for n := range api.MaxPerm + 1 {
		checkCast(t, bytes.Repeat([]byte{1}, api.MaxTape), n)
		checkCast(t, make([]byte, api.MaxTape), n)
	}
}

// P70: Cast is Deal of what Row gives, and each lot list is read from its own
// bits, at every length of the tape.
func TestCastReadsLots(t *testing.T) {
	random := numbers(4)
	most := []int{1, 2, 3, 4, 5, 6, 7, 8, 9, 10}
	widths := []int{0, 1, 2, 2, 3, 3, 3, 3, 4, 4}
	for range 2000 {
		n := random.below(api.MaxPerm + 1)
		lots := random.lots(n)
		var l []byte
		for i, lot := range lots {
			for bit := widths[i] - 1; bit >= 0; bit-- {
				l = append(l, byte(lot>>bit&1))
			}
		}
		p, read, e := Cast(append(l, random.tape(random.below(9))...), n)
		if e != api.OK || !slices.Equal(p, wantedDeal(lots)) || read != len(l) {
			t.Fatalf("Cast(%v, %d) = %v, %v, %v, want %v, %v", l, n, p, read, e, wantedDeal(lots), len(l))
		}
		if row, _, e := tape.Row(l, most[:n]); e != api.OK || !slices.Equal(row, lots) {
			t.Fatalf("tape.Row(%v, %v) = %v, %v, want %v", l, most[:n], row, e, lots)
		}
		for end := range l {
			if p, read, e := Cast(l[:end], n); e != api.ErrShort || len(p) != 0 || read != 0 {
				t.Fatalf("Cast(%v, %d) = %v, %v, %v, want ErrShort", l[:end], n, p, read, e)
			}
		}
	}
}

// P70: among all tapes of one size, each permutation is drawn equally often
// with each number of bits.
func TestCastIsUniform(t *testing.T) {
	const size = 14
	tapes := allTapes(size)
	factorial := 1
	for n := range 7 {
		if n > 0 {
			factorial *= n
		}
		count := map[int]map[[6]int]int{}
		for _, l := range tapes {
			p, read, e := Cast(l, n)
			if e != api.OK {
				continue
			}
			if count[read] == nil {
				count[read] = map[[6]int]int{}
			}
			key := [6]int{}
			copy(key[:], p)
			count[read][key]++
		}
		if len(count) == 0 {
			t.Errorf("no permutation of %d numbers is drawn from %d bits", n, size)
		}
		for read, counted := range count {
			if len(counted) != factorial {
				t.Errorf("%d bits give %d permutations of %d numbers, want %d", read, len(counted), n, factorial)
			}
			first := -1
			for p, times := range counted {
				if first < 0 {
					first = times
				}
				if times != first {
					t.Errorf("%d bits give %v %d times, and another permutation %d times", read, p, times, first)
				}
			}
		}
	}
}

func TestCastKnownOnes(t *testing.T) {
	for _, c := range []struct {
		digits string
		n      int
		want   []int
		read   int
		e      api.Errno
	}{
		{"", 0, nil, 0, api.OK},
		{"1101", 0, nil, 0, api.OK},
		{"", 1, []int{0}, 0, api.OK},
		{"1101", 1, []int{0}, 0, api.OK},
		{"", 2, nil, 0, api.ErrShort},
		{"0", 2, []int{1, 0}, 1, api.OK},
		{"1", 2, []int{0, 1}, 1, api.OK},
		{"01", 2, []int{1, 0}, 1, api.OK},
		{"0", 3, nil, 0, api.ErrShort},
		{"01", 3, nil, 0, api.ErrShort},
		{"010", 3, []int{1, 0, 2}, 3, api.OK},
		{"001", 3, []int{1, 2, 0}, 3, api.OK},
		{"01101", 3, []int{1, 2, 0}, 5, api.OK},
		{"011", 3, nil, 0, api.ErrShort},
		{"0110", 3, nil, 0, api.ErrShort},
		{"11110", 3, []int{0, 1, 2}, 5, api.OK},
		{"00101", 4, []int{1, 3, 0, 2}, 5, api.OK},
		{"0010", 4, nil, 0, api.ErrShort},
		{"0000000000000000000000000", 10, []int{9, 0, 1, 2, 3, 4, 5, 6, 7, 8}, 25, api.OK},
		{"000000000000000000000000", 10, nil, 0, api.ErrShort},
		{"1101110010111011110001001", 10, []int{0, 1, 2, 3, 4, 5, 6, 7, 8, 9}, 25, api.OK},
	} {
		p, read, e := Cast(written(c.digits), c.n)
		if e != c.e || !slices.Equal(p, c.want) || read != c.read {
			t.Errorf("Cast(%s, %d) = %v, %v, %v, want %v, %v, %v", c.digits, c.n, p, read, e, c.want, c.read, c.e)
		}
	}
}

// P70 for what it refuses, and the order of its errors.
func TestCastRefuses(t *testing.T) {
	refuses := func(l []byte, n int, want api.Errno) {
		t.Helper()
		if p, read, e := Cast(l, n); e != want || len(p) != 0 || read != 0 {
			t.Errorf("Cast(%d bytes, %d) = %v, %v, %v, want %v", len(l), n, p, read, e, want)
		}
	}
	outOfRange := []int{
		-1, -2, -10, 11, 12, 30, 31, 256, 1024, 1025, 1 << 16, 1 << 31, 1 << 32, 1<<32 + 1, -1 << 31, -1 << 32,
		-1<<32 + 1, math.MaxInt, math.MaxInt - 1, math.MinInt, math.MinInt + 1,
	}
	for _, c := range []struct {
		l    []byte
		want api.Errno
	}{
		{make([]byte, 201), api.ErrLarge},
		{bytes.Repeat([]byte{2}, 201), api.ErrLarge},
		{make([]byte, 1<<16), api.ErrLarge},
		{[]byte{2}, api.ErrForm},
		{[]byte("010"), api.ErrForm},
		{[]byte{255, 0, 0}, api.ErrForm},
		// A wrong byte counts even behind the bits that are read.
		{append(make([]byte, 199), 2), api.ErrForm},
	} {
		for n := range api.MaxPerm + 1 {
			refuses(c.l, n, c.want)
		}
		for _, n := range outOfRange {
			refuses(c.l, n, c.want)
		}
	}
	for _, n := range outOfRange {
		refuses(nil, n, api.ErrArg)
		refuses([]byte{1}, n, api.ErrArg)
		refuses(make([]byte, 200), n, api.ErrArg)
	}
	for n := 2; n <= api.MaxPerm; n++ {
		refuses(nil, n, api.ErrShort)
	}
	for n := 3; n <= api.MaxPerm; n++ {
		refuses(bytes.Repeat([]byte{1}, 2), n, api.ErrShort)
	}
	// All numbers below 5 are rejected until the tape ends.
	refuses(append([]byte{0, 0, 0, 0, 0}, bytes.Repeat([]byte{1}, 195)...), 5, api.ErrShort)
}

// P2: arguments are not changed, with the memory behind them.
func TestArgumentsStay(t *testing.T) {
	lots := []int{0, 0, 1, 3, 2, 77, 78, 79}
	order := []int{0, 1, 2, 3, 4, 5, -7, -8}
	bits := append(written("010011100101"), 7, 8, 9)
	lotsBefore, orderBefore, bitsBefore := slices.Clone(lots), slices.Clone(order), slices.Clone(bits)
	for n := range 6 {
		Check(lots[:n])
		Deal(lots[:n])
		Deal(lots[:n+2])
		slices.Reverse(order[:n])
		slices.Reverse(orderBefore[:n])
		Lots(order[:n])
		Lots(order[:n+2])
		for end := range len(bits) {
			Cast(bits[:end], n)
		}
		if !slices.Equal(lots, lotsBefore) || !slices.Equal(order, orderBefore) || !slices.Equal(bits, bitsBefore) {
			t.Fatalf("the arguments became %v, %v and %v", lots, order, bits)
		}
	}
}

// P2: results are new memory, and the same arguments give the same results.
func TestResultsAreNew(t *testing.T) {
	lots, order, bits := []int{0, 0, 1, 1}, []int{1, 3, 0, 2}, written("00101")
	results := func() [][]int {
		dealt, _ := Deal(lots)
		found, _ := Lots(order)
		drawn, _, _ := Cast(bits, 4)
		return [][]int{dealt, found, drawn}
	}
	want := [][]int{slices.Clone(order), slices.Clone(lots), slices.Clone(order)}
	first := results()
	for range 3 {
		again := results()
		for i := range again {
			if !slices.Equal(again[i], want[i]) {
				t.Fatalf("the results are %v, want %v", again, want)
			}
			whole := again[i][:cap(again[i])]
			for j := range whole {
				whole[j] = -5
			}
		}
	}
	clear(lots)
	clear(order)
	clear(bits)
	for i := range first {
		if !slices.Equal(first[i], want[i]) {
			t.Errorf("a result became %v, want %v", first[i], want[i])
		}
	}
}
