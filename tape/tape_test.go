package tape

import (
	"bytes"
	"fmt"
	"math"
	"slices"
	"strconv"
	"testing"

	"lotcaster/api"
)

// numbers gives numbers that look as if they were drawn at random.
type numbers uint64

func (x *numbers) below(n int) int {
	*x = *x*6364136223846793005 + 1442695040888963407
	return int(uint64(*x) >> 33 % uint64(n))
}

// tape draws n bits.
func (x *numbers) tape(n int) []byte {
	l := make([]byte, n)
	for i := range l {
		l[i] = byte(x.below(2))
	}
	return l
}

// written returns the tape that the digits spell.
func written(digits string) []byte {
	l := make([]byte, len(digits))
	for i := range l {
		l[i] = digits[i] - '0'
	}
	return l
}

// all returns all tapes of n bits.
func all(n int) [][]byte {
	var list [][]byte
	for i := range 1 << n {
		list = append(list, written(fmt.Sprintf("%0*b", n+1, i)[1:]))
	}
	return list
}

// outOfRange holds what no number is drawn below.
var outOfRange = []int{
	0, -1, -2, -1024, 1025, 1026, 2048, 1 << 16, 1<<16 + 1, 1 << 31, 1<<32 + 1, 1 << 32, 1<<32 + 2,
	-1 << 31, -1 << 32, -1<<32 + 1, math.MaxInt, math.MinInt, math.MinInt + 1,
}

// wantedBits follows the words of P64.
func wantedBits(n int) int {
	b := 0
	for power := 1; power < n; power *= 2 {
		b++
	}
	return b
}

// wantedDraw follows the words of P65 for an n in the range: each time it takes
// the next bits off the tape.
func wantedDraw(l []byte, n int) (int, int, api.Errno) {
	width := wantedBits(n)
	if width == 0 {
		return 0, 0, api.OK
	}
	read := 0
	for len(l) >= width {
		digits := ""
		for _, bit := range l[:width] {
			digits += strconv.Itoa(int(bit))
		}
		number, _ := strconv.ParseInt(digits, 2, 64)
		l, read = l[width:], read+width
		if number < int64(n) {
			return int(number), read, api.OK
		}
	}
	return 0, 0, api.ErrShort
}

// wantedRow follows the words of P66.
func wantedRow(l []byte, most []int) ([]int, int, api.Errno) {
	row, total := []int{}, 0
	for _, n := range most {
		if n < 1 || n > 1024 {
			return nil, 0, api.ErrArg
		}
		number, read, e := wantedDraw(l, n)
		if e != api.OK {
			return nil, 0, e
		}
		row, total, l = append(row, number), total+read, l[read:]
	}
	return row, total, api.OK
}

// bad holds what Check refuses, and why.
var bad = []struct {
	l    []byte
	want api.Errno
}{
	{make([]byte, 201), api.ErrLarge},
	{make([]byte, 256), api.ErrLarge},
	{make([]byte, 1<<16), api.ErrLarge},
	{bytes.Repeat([]byte{1}, 201), api.ErrLarge},
	{bytes.Repeat([]byte{2}, 201), api.ErrLarge},
	{append([]byte{255}, make([]byte, 200)...), api.ErrLarge},
	{append(make([]byte, 200), 2), api.ErrLarge},
	{[]byte{2}, api.ErrForm},
	{[]byte{3}, api.ErrForm},
	{[]byte{128}, api.ErrForm},
	{[]byte{255}, api.ErrForm},
	{[]byte("0"), api.ErrForm},
	{[]byte("1"), api.ErrForm},
	{[]byte{0, 0, 0, 2}, api.ErrForm},
	{[]byte{2, 0, 0, 0}, api.ErrForm},
	{append(make([]byte, 199), 2), api.ErrForm},
	{bytes.Repeat([]byte{2}, 200), api.ErrForm},
}

// P63.
func TestCheckRefuses(t *testing.T) {
	for _, c := range bad {
		if e := Check(c.l); e != c.want {
			t.Errorf("Check(%d bytes, %v...) = %v, want %v", len(c.l), c.l[0], e, c.want)
		}
	}
}

// P63 for all bytes, at every index of tapes of all sizes.
func TestCheckBytes(t *testing.T) {
	for value := range 256 {
		want := api.ErrForm
		if value == 0 || value == 1 {
			want = api.OK
		}
		for _, size := range []int{1, 2, 7, 64, 199, 200} {
			for i := range size {
				l := make([]byte, size)
				l[i] = byte(value)
				if e := Check(l); e != want {
					t.Fatalf("Check(%v) = %v, want %v", l, e, want)
				}
			}
		}
	}
}

// P63 for all sizes, the empty one included.
func TestCheckSizes(t *testing.T) {
	if e := Check(nil); e != api.OK {
		t.Errorf("Check(nil) = %v, want OK", e)
	}
	random := numbers(1)
	for n := range 400 {
		want := api.OK
		if n > 200 {
			want = api.ErrLarge
		}
		if e := Check(random.tape(n)); e != want {
			t.Errorf("Check(%d bits) = %v, want %v", n, e, want)
		}
	}
}

// P64 for all numbers in the range.
func TestBits(t *testing.T) {
	for n := 1; n <= api.MaxDraw; n++ {
		b, e := Bits(n)
		if e != api.OK || 1<<b < n || b > 0 && 1<<(b-1) >= n || b != wantedBits(n) {
			t.Errorf("Bits(%d) = %v, %v", n, b, e)
		}
	}
}

func TestBitsKnownOnes(t *testing.T) {
	for n, want := range map[int]int{1: 0, 2: 1, 3: 2, 4: 2, 5: 3, 8: 3, 9: 4, 16: 4, 17: 5, 512: 9, 513: 10, 1000: 10, 1023: 10, 1024: 10} {
		if b, e := Bits(n); e != api.OK || b != want {
			t.Errorf("Bits(%d) = %v, %v, want %v", n, b, e, want)
		}
	}
}

// P64 for what it refuses.
func TestBitsRefuses(t *testing.T) {
	for _, n := range outOfRange {
		if b, e := Bits(n); e != api.ErrArg || b != 0 {
			t.Errorf("Bits(%d) = %v, %v, want ErrArg", n, b, e)
		}
	}
}

// checkDraw compares one draw with the words of the chapter.
func checkDraw(t *testing.T, l []byte, n int) {
	t.Helper()
	want, wantRead, wantError := wantedDraw(l, n)
	if x, read, e := Draw(l, n); e != wantError || x != want || read != wantRead {
		t.Fatalf("Draw(%v, %d) = %v, %v, %v, want %v, %v, %v", l, n, x, read, e, want, wantRead, wantError)
	}
}

// P65 for all short tapes and small numbers.
func TestDrawShort(t *testing.T) {
	for size := range 11 {
		for _, l := range all(size) {
			for n := 1; n <= 18; n++ {
				checkDraw(t, l, n)
			}
		}
	}
}

// P65 for all numbers, with tapes of all sizes: drawn ones, and those whose
// first numbers are all rejected unless none is.
func TestDrawLong(t *testing.T) {
	random := numbers(2)
	for n := 1; n <= api.MaxDraw; n++ {
		for range 20 {
			checkDraw(t, random.tape(random.below(api.MaxTape+1)), n)
			l := random.tape(api.MaxTape)
			ones := random.below(api.MaxTape + 1)
			copy(l, bytes.Repeat([]byte{1}, ones))
			checkDraw(t, l, n)
			checkDraw(t, l[:random.below(api.MaxTape+1)], n)
		}
		checkDraw(t, bytes.Repeat([]byte{1}, api.MaxTape), n)
		checkDraw(t, make([]byte, api.MaxTape), n)
	}
}

// P65: each number that may be drawn is what its own bits give.
func TestDrawEachNumber(t *testing.T) {
	for _, n := range []int{1, 2, 3, 5, 64, 100, 513, 1000, 1023, 1024} {
		width := wantedBits(n)
		for want := range n {
			l := written(fmt.Sprintf("%0*b", width, want))[:width]
			if x, read, e := Draw(l, n); e != api.OK || x != want || read != width {
				t.Errorf("Draw(%v, %d) = %v, %v, %v, want %v, %v", l, n, x, read, e, want, width)
			}
		}
	}
}

// P65: among all tapes of one size, each number is drawn equally often with
// each number of bits.
func TestDrawIsUniform(t *testing.T) {
	for n := 2; n <= 17; n++ {
		width := wantedBits(n)
		count := map[[2]int]int{}
		for _, l := range all(12) {
			if x, read, e := Draw(l, n); e == api.OK {
				count[[2]int{x, read}]++
			}
		}
		rejected := 1<<width - n
		want := 1 << (12 - width)
		for read := width; read <= 12; read += width {
			for x := range n {
				if got := count[[2]int{x, read}]; got != want {
					t.Errorf("%d of the tapes of 12 bits give %d below %d by %d bits, want %d", got, x, n, read, want)
				}
			}
			want = want * rejected >> width
		}
	}
}

func TestDrawKnownOnes(t *testing.T) {
	for _, c := range []struct {
		digits     string
		n          int
		want, read int
		e          api.Errno
	}{
		{"1101", 3, 1, 4, api.OK},
		{"110", 3, 0, 0, api.ErrShort},
		{"11", 3, 0, 0, api.ErrShort},
		{"1", 3, 0, 0, api.ErrShort},
		{"", 3, 0, 0, api.ErrShort},
		{"10", 3, 2, 2, api.OK},
		{"01", 3, 1, 2, api.OK},
		{"1111111100", 3, 0, 10, api.OK},
		{"111111110", 3, 0, 0, api.ErrShort},
		{"", 1, 0, 0, api.OK},
		{"1", 1, 0, 0, api.OK},
		{"1101", 1, 0, 0, api.OK},
		{"", 2, 0, 0, api.ErrShort},
		{"0", 2, 0, 1, api.OK},
		{"1", 2, 1, 1, api.OK},
		{"10", 2, 1, 1, api.OK},
		{"11", 4, 3, 2, api.OK},
		{"110", 6, 0, 0, api.ErrShort},
		{"110111", 6, 0, 0, api.ErrShort},
		{"110111100", 6, 4, 9, api.OK},
		{"1111111111", 1024, 1023, 10, api.OK},
		{"1000000000", 1024, 512, 10, api.OK},
		{"0000000001", 1024, 1, 10, api.OK},
		{"111111111", 1024, 0, 0, api.ErrShort},
		{"11111111110000000011", 1023, 3, 20, api.OK},
		{"1111111111000000001", 1023, 0, 0, api.ErrShort},
	} {
		if x, read, e := Draw(written(c.digits), c.n); e != c.e || x != c.want || read != c.read {
			t.Errorf("Draw(%s, %d) = %v, %v, %v, want %v, %v, %v", c.digits, c.n, x, read, e, c.want, c.read, c.e)
		}
	}
	if x, read, e := Draw(nil, 1); e != api.OK || x != 0 || read != 0 {
		t.Errorf("Draw(nil, 1) = %v, %v, %v, want 0, 0", x, read, e)
	}
}

// P65 for what it refuses, and the order of its errors.
func TestDrawRefuses(t *testing.T) {
	refuses := func(l []byte, n int, want api.Errno) {
		t.Helper()
		if x, read, e := Draw(l, n); e != want || x != 0 || read != 0 {
			t.Errorf("Draw(%d bytes, %d) = %v, %v, %v, want %v", len(l), n, x, read, e, want)
		}
	}
	for _, c := range bad {
		for _, n := range []int{1, 2, 3, 7, 1024} {
			refuses(c.l, n, c.want)
		}
		for _, n := range outOfRange {
			refuses(c.l, n, c.want)
		}
	}
	for _, n := range outOfRange {
		refuses(nil, n, api.ErrArg)
		refuses([]byte{0}, n, api.ErrArg)
		refuses(make([]byte, 200), n, api.ErrArg)
	}
	// A wrong byte counts even behind the bits that are read.
	refuses([]byte{0, 0, 0, 2}, 3, api.ErrForm)
}

// checkRow compares one row with the words of the chapter.
func checkRow(t *testing.T, l []byte, most []int) api.Errno {
	t.Helper()
	want, wantTotal, wantError := wantedRow(l, most)
	row, total, e := Row(l, most)
	if e != wantError || !slices.Equal(row, want) || total != wantTotal {
		t.Fatalf("Row(%v, %v) = %v, %v, %v, want %v, %v, %v", l, most, row, total, e, want, wantTotal, wantError)
	}
	return e
}

// P66 for all short tapes and all short lists of small numbers, among which is
// one out of the range.
func TestRowShort(t *testing.T) {
	for size := range 8 {
		for _, l := range all(size) {
			checkRow(t, l, nil)
			for i := range 7 {
				checkRow(t, l, []int{i})
				for j := range 7 {
					checkRow(t, l, []int{i, j})
					for k := range 7 {
						checkRow(t, l, []int{i, j, k})
					}
				}
			}
		}
	}
}

// P66 for drawn tapes and lists.
func TestRowLong(t *testing.T) {
	random := numbers(3)
	count := map[api.Errno]int{}
	for range 30000 {
		l := random.tape(random.below(api.MaxTape + 1))
		most := make([]int, random.below(api.MaxLine+1))
		limit := 1 << random.below(11)
		for i := range most {
			most[i] = 1 + random.below(limit)
		}
		if len(most) > 0 && random.below(5) == 0 {
			most[random.below(len(most))] = outOfRange[random.below(len(outOfRange))]
		}
		count[checkRow(t, l, most)]++
	}
	for _, e := range []api.Errno{api.OK, api.ErrArg, api.ErrShort} {
		if count[e] < 1000 {
			t.Errorf("only %d times the error %v", count[e], e)
		}
	}
}

// P66: among all tapes of one size, each row is drawn equally often.
func TestRowIsUniform(t *testing.T) {
	count := map[[3]int]int{}
	for _, l := range all(12) {
		if row, total, e := Row(l, []int{2, 4, 8}); e == api.OK && total == 6 {
			count[[3]int(row)]++
		}
	}
	for i := range 64 {
		row := [3]int{i / 32, i / 8 % 4, i % 8}
		if count[row] != 64 {
			t.Errorf("%d of the tapes of 12 bits give %v, want 64", count[row], row)
		}
	}
}

func TestRowKnownOnes(t *testing.T) {
	for _, c := range []struct {
		digits string
		most   []int
		want   []int
		total  int
		e      api.Errno
	}{
		{"1011", []int{3, 1, 4}, []int{2, 0, 3}, 4, api.OK},
		{"1101", []int{3}, []int{1}, 4, api.OK},
		{"110111100", []int{3, 3}, []int{1, 2}, 8, api.OK},
		{"1101111", []int{3, 3}, nil, 0, api.ErrShort},
		{"", nil, nil, 0, api.OK},
		{"1", nil, nil, 0, api.OK},
		{"", []int{1}, []int{0}, 0, api.OK},
		{"", []int{1, 1, 1}, []int{0, 0, 0}, 0, api.OK},
		{"01", []int{1, 2, 1, 2, 1}, []int{0, 0, 0, 1, 0}, 2, api.OK},
		{"01", []int{2, 2, 2}, nil, 0, api.ErrShort},
		{"1", []int{4}, nil, 0, api.ErrShort},
		// The draws come in order, and the first error ends the row.
		{"1", []int{4, 0}, nil, 0, api.ErrShort},
		{"1", []int{0, 4}, nil, 0, api.ErrArg},
		{"1", []int{2, 1025, 4}, nil, 0, api.ErrArg},
		{"1", []int{2, 4, 1025}, nil, 0, api.ErrShort},
		{"00", []int{2, 2, 0}, nil, 0, api.ErrArg},
	} {
		row, total, e := Row(written(c.digits), c.most)
		if e != c.e || !slices.Equal(row, c.want) || total != c.total {
			t.Errorf("Row(%s, %v) = %v, %v, %v, want %v, %v, %v", c.digits, c.most, row, total, e, c.want, c.total, c.e)
		}
	}
}

// P66 for lists of all sizes. The longest tape is just enough for 20 of the
// greatest numbers.
func TestRowSizes(t *testing.T) {
	l := bytes.Repeat([]byte{1}, api.MaxTape)
	for size := range 100 {
		for n, wide := range map[int]int{1: 0, 2: 1, 64: 6, 128: 7, 1024: 10} {
			most := slices.Repeat([]int{n}, size)
			want, wantTotal, wantError := slices.Repeat([]int{n - 1}, size), size*wide, api.OK
			if size > 30 {
				want, wantTotal, wantError = nil, 0, api.ErrLarge
			} else if size*wide > 200 {
				want, wantTotal, wantError = nil, 0, api.ErrShort
			}
			row, total, e := Row(l, most)
			if e != wantError || !slices.Equal(row, want) || total != wantTotal {
				t.Errorf("Row(ones, %d times %d) = %v, %v, %v, want %v, %v, %v", size, n, row, total, e, want, wantTotal, wantError)
			}
		}
	}
}

// P66 for what it refuses, and the order of its errors.
func TestRowRefuses(t *testing.T) {
	refuses := func(l []byte, most []int, want api.Errno) {
		t.Helper()
		if row, total, e := Row(l, most); e != want || len(row) != 0 || total != 0 {
			t.Errorf("Row(%d bytes, %v) = %v, %v, %v, want %v", len(l), most, row, total, e, want)
		}
	}
	tooMany := slices.Repeat([]int{1}, 31)
	for _, c := range bad {
		refuses(c.l, nil, c.want)
		refuses(c.l, []int{1}, c.want)
		refuses(c.l, []int{0}, c.want)
		refuses(c.l, []int{1024, 1025}, c.want)
		refuses(c.l, tooMany, c.want)
		refuses(c.l, make([]int, 31), c.want)
	}
	refuses(nil, tooMany, api.ErrLarge)
	refuses(nil, make([]int, 31), api.ErrLarge)
	refuses(nil, slices.Repeat([]int{2}, 31), api.ErrLarge)
	refuses([]byte{1}, slices.Repeat([]int{1025}, 1<<16), api.ErrLarge)
	for _, n := range outOfRange {
		refuses(nil, []int{n}, api.ErrArg)
		refuses(make([]byte, 200), []int{n}, api.ErrArg)
		refuses(make([]byte, 200), []int{1, 2, 3, n}, api.ErrArg)
		refuses(make([]byte, 200), append(slices.Repeat([]int{2}, 29), n), api.ErrArg)
		refuses(nil, []int{1, n, 2}, api.ErrArg)
		refuses(nil, []int{1, 2, n}, api.ErrShort)
	}
	// A wrong byte counts even behind the bits that are read.
	refuses([]byte{0, 0, 0, 2}, []int{2, 2}, api.ErrForm)
}

// P2: arguments are not changed, with the memory behind them.
func TestArgumentsStay(t *testing.T) {
	memory := append(written("110111100101"), 7, 8, 9)
	most := []int{3, 1, 4, 2, 77, 78, 79}
	before, mostBefore := slices.Clone(memory), slices.Clone(most)
	for end := range 13 {
		for count := range 5 {
			l, list := memory[:end], most[:count]
			Check(l)
			Draw(l, 3)
			Draw(l, 0)
			Row(l, list)
			if !slices.Equal(memory, before) || !slices.Equal(most, mostBefore) {
				t.Fatalf("the arguments became %v and %v", memory, most)
			}
		}
	}
}

// P2: a row is new memory, and the same arguments give the same results.
func TestRowIsNew(t *testing.T) {
	l, most := written("110111100101"), []int{3, 1, 4, 2}
	first, total, _ := Row(l, most)
	for range 3 {
		again, totalAgain, _ := Row(l, most)
		if !slices.Equal(first, again) || total != totalAgain {
			t.Fatalf("Row gave %v, %v and then %v, %v", first, total, again, totalAgain)
		}
		whole := again[:cap(again)]
		for i := range whole {
			whole[i] = -5
		}
		if !slices.Equal(most, []int{3, 1, 4, 2}) || !slices.Equal(first, []int{1, 0, 3, 1}) {
			t.Fatalf("a change of a row changed %v or %v", most, first)
		}
	}
	clear(l)
	clear(most)
	if !slices.Equal(first, []int{1, 0, 3, 1}) {
		t.Errorf("a change of the arguments changed a row: %v", first)
	}
}
