package bottom

import (
	"math"
	"math/big"
	"slices"
	"strings"
	"testing"

	"lotcaster/api"
)

// numbers gives numbers that look as if they were drawn at random.
type numbers uint64

func (x *numbers) below(n int) int {
	*x = *x*6364136223846793005 + 1442695040888963407
	return int(uint64(*x) >> 33 % uint64(n))
}

// zero is a name with the hash value 0 before the last steps of P79. Zero
// bytes behind it don't change that, so names that begin with one another have
// the same mark.
const zero = "\xcc\x24\x31\xc4"

// same holds pairs of names with the same mark, the less one first. Neither
// length nor signed bytes would order all of them so.
var same = [][2]string{
	{"costarring", "liquid"}, {"declinate", "macallums"}, {"altarage", "zinke"}, {"altarages", "zinkes"},
	{"\xe9e\xfff\x80", "\xe9gea\xe9"}, {"\xe9e\xfff\xe9", "\xe9gea\x80"}, {"o\xc3e\xffh\xff", "\xff\xe9\xffp\xff\xe9"},
	{"ghh\x80", "\xc3\x80a\xc3\xffa"}, {"ho\xff\xe9ah", "h\x80pp\xffa"}, {"a\xc3poh\xe9", "\xffa\xffga\xff"},
	{"hgepog", "\xc3\xe9g\x80\x80\xc3"}, {zero, zero + "\x00"}, {zero, zero + "\x00\x00\x00"},
	{zero + "\x00\x00", zero + "\x00\x00\x00\x00\x00\x00\x00\x00"},
}

// name draws a name of at most 12 bytes, sometimes of any bytes, sometimes one
// that has the mark of another one.
func (x *numbers) name() string {
	switch x.below(4) {
	case 0:
		return same[x.below(len(same))][x.below(2)]
	case 1:
		return zero + strings.Repeat("\x00", x.below(9))
	case 2:
		return strings.Repeat("a", x.below(3)) + strings.Repeat("b", x.below(3))
	}
	b := make([]byte, x.below(13))
	for i := range b {
		b[i] = byte(x.below(256))
	}
	return string(b)
}

// names draws n names.
func (x *numbers) names(n int) []string {
	l := make([]string, n)
	for i := range l {
		l[i] = x.name()
	}
	return l
}

// mixed returns the names in a drawn order.
func (x *numbers) mixed(l []string) []string {
	l = slices.Clone(l)
	for i := range l {
		j := x.below(i + 1)
		l[i], l[j] = l[j], l[i]
	}
	return l
}

// wantedMark follows the words of P79 with numbers of any size.
func wantedMark(name string) uint32 {
	rest := func(x *big.Int) *big.Int { return x.Mod(x, big.NewInt(1<<32)) }
	h := big.NewInt(2166136261)
	for i := 0; i < len(name); i++ {
		h.Xor(h, big.NewInt(int64(name[i])))
		rest(h.Mul(h, big.NewInt(16777619)))
	}
	x := new(big.Int).Xor(h, new(big.Int).Div(h, big.NewInt(1<<15)))
	y := rest(new(big.Int).Mul(x, big.NewInt(2246822519)))
	return uint32(new(big.Int).Xor(y, new(big.Int).Div(y, big.NewInt(1<<13))).Uint64())
}

// marks holds the marks that wantedMark has returned to keptMark.
var marks = map[string]uint32{}

// keptMark is wantedMark for names that are looked at often.
func keptMark(name string) uint32 {
	mark, ok := marks[name]
	if !ok {
		mark = wantedMark(name)
		marks[name] = mark
	}
	return mark
}

// isLess tells whether a comes before b by the words of P80.
func isLess(a, b string) bool {
	if keptMark(a) != keptMark(b) {
		return keptMark(a) < keptMark(b)
	}
	for i := 0; i < len(a) && i < len(b); i++ {
		if a[i] != b[i] {
			return a[i] < b[i]
		}
	}
	return len(a) < len(b)
}

// wantedCheck follows the words of P80.
func wantedCheck(s api.Sample) api.Errno {
	if s.Most < 1 || s.Most > 30 {
		return api.ErrArg
	}
	if len(s.Names) > s.Most {
		return api.ErrLarge
	}
	for i := range s.Names {
		if len(s.Names[i]) > 12 {
			return api.ErrLarge
		}
		if i > 0 && !isLess(s.Names[i-1], s.Names[i]) {
			return api.ErrForm
		}
	}
	return api.OK
}

// wantedNames returns each of the names that has fewer than most different
// names before it, where their number says.
func wantedNames(most int, l []string) []string {
	different := map[string]bool{}
	for _, name := range l {
		different[name] = true
	}
	places := make([]string, min(most, len(different)))
	for name := range different {
		before := 0
		for other := range different {
			if isLess(other, name) {
				before++
			}
		}
		if before < len(places) {
			places[before] = name
		}
	}
	return places
}

// sketch returns what Of returns for names that it takes.
func sketch(t *testing.T, most int, l []string) api.Sample {
	t.Helper()
	s, e := Of(most, l)
	if e != api.OK {
		t.Fatalf("Of(%d, %q) = %v, want OK", most, l, e)
	}
	return s
}

func isSame(a, b api.Sample) bool {
	return a.Most == b.Most && slices.Equal(a.Names, b.Names)
}

func isZero(s api.Sample) bool {
	return s.Most == 0 && len(s.Names) == 0
}

// extremes holds numbers that are out of every range.
var extremes = []int{
	-1, -2, -12, -30, 31, 32, 64, 255, 256, 257, 1 << 16, 1 << 31, 1 << 32, 1<<32 + 1, 1<<32 + 30, -1 << 31,
	-1 << 32, -1<<32 + 1, math.MaxInt, math.MaxInt - 1, math.MinInt, math.MinInt + 1,
}

// noMosts returns numbers that no sketch has as its Most.
func noMosts() []int {
	return append([]int{0}, extremes...)
}

// P79 for known names, whose marks another program computed.
func TestKnownMarks(t *testing.T) {
	for _, c := range []struct {
		name string
		want uint32
	}{
		{"", 760700053}, {"a", 3035041849}, {"b", 395911255}, {"c", 962227387}, {"d", 2960788033},
		{"ab", 1994101313}, {"ba", 1968202387}, {"abc", 3629703853}, {"\x00", 2614109414},
		{"\x00\x00", 2910591531}, {"\xff", 2808874518}, {"\x80", 3438070125}, {"\x7f", 1563943378},
		{"é", 347283115}, {"日本語", 594492462}, {"abcdefghijkl", 1917596408}, {"abcdefghijklm", 3996377094},
		{"hall", 3024342666}, {"lotcaster", 2531292792}, {"            ", 2392236067}, {zero, 0},
		{zero + "\x00", 0}, {"costarring", 4272950645}, {"liquid", 4272950645}, {"altarages", 236177278},
	} {
		if m := Mark(c.name); m != c.want {
			t.Errorf("Mark(%q) = %d, want %d", c.name, m, c.want)
		}
	}
}

// P79 for all names of at most two bytes, and for longer ones, too long for a
// sketch among them.
func TestMarks(t *testing.T) {
	check := func(name string) {
		t.Helper()
		if m := Mark(name); m != wantedMark(name) {
			t.Fatalf("Mark(%q) = %d, want %d", name, m, wantedMark(name))
		}
	}
	for a := range 256 {
		check(string([]byte{byte(a)}))
		for b := range 256 {
			check(string([]byte{byte(a), byte(b)}))
		}
	}
	random := numbers(1)
	for n := range 300 {
		b := make([]byte, n)
		for range 5 {
			for i := range b {
				b[i] = byte(random.below(256))
			}
			check(string(b))
		}
	}
}

// P80 for pairs of names with the same mark.
func TestSameMarks(t *testing.T) {
	for _, pair := range same {
		less, greater := pair[0], pair[1]
		if Mark(less) != Mark(greater) {
			t.Fatalf("%q and %q have not the same mark", less, greater)
		}
		right, wrong := []string{less, greater}, []string{greater, less}
		if e := Check(api.Sample{Most: 2, Names: right}); e != api.OK {
			t.Errorf("Check of %q = %v, want OK", right, e)
		}
		if e := Check(api.Sample{Most: 2, Names: wrong}); e != api.ErrForm {
			t.Errorf("Check of %q = %v, want ErrForm", wrong, e)
		}
		for _, l := range [][]string{right, wrong} {
			if s := sketch(t, 2, l); !slices.Equal(s.Names, right) {
				t.Errorf("Of(2, %q) = %q", l, s.Names)
			}
			if s := sketch(t, 1, l); !slices.Equal(s.Names, right[:1]) {
				t.Errorf("Of(1, %q) = %q", l, s.Names)
			}
		}
	}
}

// P80 and P81 for all the names of a sketch with one mark, each of which
// begins with the one before it.
func TestOneMark(t *testing.T) {
	var right []string
	for n := range 9 {
		right = append(right, zero+strings.Repeat("\x00", n))
	}
	random := numbers(2)
	for most := 1; most <= 30; most++ {
		got := sketch(t, most, random.mixed(right))
		if want := right[:min(most, 9)]; !slices.Equal(got.Names, want) || got.Most != most {
			t.Errorf("Of(%d, ...) = %v, want %v", most, got, want)
		}
		if e := Check(got); e != api.OK {
			t.Errorf("Check of %v = %v, want OK", got, e)
		}
	}
}

// P80 for sketches of all sizes.
func TestSizes(t *testing.T) {
	random := numbers(3)
	all := wantedNames(40, random.names(400))
	if len(all) != 40 {
		t.Fatalf("there are %d names only", len(all))
	}
	for most := 1; most <= 30; most++ {
		if e := Check(api.Sample{Most: most}); e != api.OK {
			t.Errorf("Check of no name of %d = %v, want OK", most, e)
		}
		if e := Check(api.Sample{Most: most, Names: []string{}}); e != api.OK {
			t.Errorf("Check of no name of %d = %v, want OK", most, e)
		}
		for n := range all {
			want := api.OK
			if n > most {
				want = api.ErrLarge
			}
			if e := Check(api.Sample{Most: most, Names: all[:n]}); e != want {
				t.Errorf("Check of %d names of %d = %v, want %v", n, most, e, want)
			}
		}
	}
	for _, most := range noMosts() {
		for n := range all {
			if e := Check(api.Sample{Most: most, Names: all[:n]}); e != api.ErrArg {
				t.Errorf("Check of %d names of %d = %v, want ErrArg", n, most, e)
			}
		}
	}
}

// refused returns sketches that Check refuses, and why. The marks of b, c, d and
// a rise in this order.
func refused() []struct {
	s    api.Sample
	want api.Errno
} {
	long := strings.Repeat("x", 13)
	return []struct {
		s    api.Sample
		want api.Errno
	}{
		{api.Sample{}, api.ErrArg},
		{api.Sample{Most: 0, Names: []string{"b"}}, api.ErrArg},
		{api.Sample{Most: -1, Names: []string{"a", "b"}}, api.ErrArg},
		{api.Sample{Most: 31, Names: []string{long}}, api.ErrArg},
		{api.Sample{Most: 31, Names: make([]string, 32)}, api.ErrArg},
		{api.Sample{Most: 1, Names: []string{"b", "c"}}, api.ErrLarge},
		{api.Sample{Most: 1, Names: []string{"b", "b"}}, api.ErrLarge},
		{api.Sample{Most: 1, Names: []string{"c", "b"}}, api.ErrLarge},
		{api.Sample{Most: 2, Names: []string{"", "", ""}}, api.ErrLarge},
		{api.Sample{Most: 30, Names: make([]string, 31)}, api.ErrLarge},
		{api.Sample{Most: 30, Names: make([]string, 1<<16)}, api.ErrLarge},
		{api.Sample{Most: 1, Names: []string{long}}, api.ErrLarge},
		{api.Sample{Most: 1, Names: []string{strings.Repeat("x", 256)}}, api.ErrLarge},
		{api.Sample{Most: 1, Names: []string{strings.Repeat("x", 1<<16)}}, api.ErrLarge},
		{api.Sample{Most: 1, Names: []string{zero + strings.Repeat("\x00", 9)}}, api.ErrLarge},
		{api.Sample{Most: 9, Names: []string{"b", "b", long}}, api.ErrForm},
		{api.Sample{Most: 9, Names: []string{"c", "b", long}}, api.ErrForm},
		{api.Sample{Most: 9, Names: []string{long, "c", "b"}}, api.ErrLarge},
		{api.Sample{Most: 9, Names: []string{"b", long, "b"}}, api.ErrLarge},
		{api.Sample{Most: 9, Names: []string{"b", "c", long}}, api.ErrLarge},
		{api.Sample{Most: 9, Names: []string{long, long}}, api.ErrLarge},
		{api.Sample{Most: 9, Names: []string{"", long, long}}, api.ErrLarge},
		{api.Sample{Most: 9, Names: []string{"a", "a"}}, api.ErrForm},
		{api.Sample{Most: 9, Names: []string{"", ""}}, api.ErrForm},
		{api.Sample{Most: 9, Names: []string{zero, zero}}, api.ErrForm},
		{api.Sample{Most: 9, Names: []string{"a", "b"}}, api.ErrForm},
		{api.Sample{Most: 9, Names: []string{"b", "c", "d", "a", "d"}}, api.ErrForm},
		{api.Sample{Most: 9, Names: []string{"b", "c", "a", "d"}}, api.ErrForm},
		{api.Sample{Most: 30, Names: make([]string, 30)}, api.ErrForm},
	}
}

// P80, P82 and P83 for sketches that are refused.
func TestRefusedSketches(t *testing.T) {
	right := api.Sample{Most: 9, Names: []string{"b", "c", "d", "a"}}
	if e := Check(right); e != api.OK {
		t.Fatalf("Check of %v = %v, want OK", right, e)
	}
	checkPair := func(a, b api.Sample, want api.Errno) {
		t.Helper()
		if s, e := Join(a, b); e != want || !isZero(s) {
			t.Errorf("Join(%.50v, %.50v) = %v, %v, want %v", a, b, s, e, want)
		}
		if both, all, e := Alike(a, b); e != want || both != 0 || all != 0 {
			t.Errorf("Alike(%.50v, %.50v) = %d, %d, %v, want %v", a, b, both, all, e, want)
		}
	}
	for _, c := range refused() {
		if e := Check(c.s); e != c.want || e != wantedCheck(c.s) {
			t.Errorf("Check(%.50v) = %v, want %v", c.s, e, c.want)
		}
		for most := 1; most <= 30; most++ {
			checkPair(c.s, api.Sample{Most: most}, c.want)
			checkPair(api.Sample{Most: most}, c.s, c.want)
		}
		checkPair(c.s, right, c.want)
		checkPair(right, c.s, c.want)
		for _, d := range refused() {
			checkPair(c.s, d.s, c.want)
		}
	}
}

// P80 for all short lists of few names, some of them too long.
func TestShortLists(t *testing.T) {
	few := []string{"", "a", "b", zero, zero + "\x00", "0123456789ab", "0123456789abc"}
	for n, count := 0, 1; n < 5; n, count = n+1, count*len(few) {
		for i := range count {
			l := make([]string, n)
			for j, rest := 0, i; j < n; j, rest = j+1, rest/len(few) {
				l[j] = few[rest%len(few)]
			}
			for most := range 6 {
				s := api.Sample{Most: most, Names: l}
				if e := Check(s); e != wantedCheck(s) {
					t.Fatalf("Check(%d, %q) = %v, want %v", most, l, e, wantedCheck(s))
				}
				checkOf(t, most, l)
			}
		}
	}
}

// checkOf compares Of with the words of P81.
func checkOf(t *testing.T, most int, l []string) {
	t.Helper()
	s, e := Of(most, l)
	want := api.OK
	if most < 1 || most > 30 {
		want = api.ErrArg
	} else if slices.ContainsFunc(l, func(name string) bool { return len(name) > 12 }) {
		want = api.ErrLarge
	}
	if e != want {
		t.Fatalf("Of(%d, %.200q) = %v, want %v", most, l, e, want)
	}
	if e != api.OK {
		if !isZero(s) {
			t.Fatalf("Of(%d, %.200q) = %v, %v", most, l, s, e)
		}
		return
	}
	if s.Most != most || !slices.Equal(s.Names, wantedNames(most, l)) {
		t.Fatalf("Of(%d, %q) = %q, want %q", most, l, s.Names, wantedNames(most, l))
	}
	if e := Check(s); e != api.OK {
		t.Fatalf("Check of Of(%d, %q) = %v, want OK", most, l, e)
	}
}

// P81 for drawn lists, which hold some names more than once.
func TestDrawnLists(t *testing.T) {
	random := numbers(4)
	for range 4000 {
		l := random.names(random.below(50))
		checkOf(t, 1+random.below(30), l)
		checkOf(t, 1+random.below(30), append(l, l[:random.below(len(l)+1)]...))
	}
	for most := 1; most <= 30; most++ {
		checkOf(t, most, nil)
		checkOf(t, most, []string{})
		checkOf(t, most, random.names(most))
		checkOf(t, most, random.names(500))
		checkOf(t, most, slices.Repeat([]string{"again"}, 100))
	}
}

// P81 for names of all lengths at every index, and for a Most out of the
// range, which comes first.
func TestOfRefuses(t *testing.T) {
	random := numbers(5)
	lengths := []int{0, 1, 11, 12, 13, 14, 30, 255, 256, 257, 268, 1 << 16}
	for n := 1; n < 40; n++ {
		l := random.names(n)
		for i := range l {
			kept := l[i]
			for _, length := range lengths {
				l[i] = strings.Repeat("y", length)
				checkOf(t, 1+(n+i)%30, l)
			}
			l[i] = kept
		}
		for _, most := range noMosts() {
			checkOf(t, most, l)
			checkOf(t, most, append(slices.Clone(l), "thirteen byte"))
		}
	}
	for _, most := range noMosts() {
		checkOf(t, most, nil)
	}
	// Bytes count, not characters.
	checkOf(t, 5, []string{"ééééééé"})
	if _, e := Of(5, []string{"ééééééé"}); e != api.ErrLarge {
		t.Errorf("Of with a name of 7 characters and 14 bytes = %v, want ErrLarge", e)
	}
	if _, e := Of(5, []string{"éééééé"}); e != api.OK {
		t.Errorf("Of with a name of 6 characters and 12 bytes = %v, want OK", e)
	}
}

// P81 for a long list, which holds each name twice. Few of them are in the sketch.
func TestLongList(t *testing.T) {
	l := make([]string, 1<<14)
	for i := range l {
		l[i] = string([]byte{byte(i), byte(i >> 8 & 31)})
	}
	byMark := slices.Clone(l)
	slices.SortFunc(byMark, func(a, b string) int {
		if isLess(a, b) {
			return -1
		}
		if isLess(b, a) {
			return 1
		}
		return 0
	})
	byMark = slices.Compact(byMark)
	for _, most := range []int{1, 2, 29, 30} {
		if s := sketch(t, most, l); !slices.Equal(s.Names, byMark[:most]) {
			t.Errorf("Of(%d, a long list) = %q, want %q", most, s.Names, byMark[:most])
		}
	}
}

// P82 and P83 against what their words say of the names of both sketches.
func checkPair(t *testing.T, a, b api.Sample) {
	t.Helper()
	s, e := Join(a, b)
	want := wantedNames(a.Most, slices.Concat(a.Names, b.Names))
	if e != api.OK || s.Most != a.Most || !slices.Equal(s.Names, want) {
		t.Fatalf("Join(%v, %v) = %v, %v, want %v", a, b, s, e, want)
	}
	in := map[string]int{}
	for _, name := range slices.Concat(a.Names, b.Names) {
		in[name]++
	}
	wantedBoth := 0
	for _, name := range want {
		if in[name] == 2 {
			wantedBoth++
		}
	}
	if both, all, e := Alike(a, b); e != api.OK || both != wantedBoth || all != len(want) {
		t.Fatalf("Alike(%v, %v) = %d, %d, %v, want %d, %d", a, b, both, all, e, wantedBoth, len(want))
	}
}

// P82 and P83 for drawn sketches: a joined sketch is the one of all names, in
// whichever order and groups they are joined.
func TestJoins(t *testing.T) {
	random := numbers(6)
	for range 4000 {
		most := 1 + random.below(30)
		x, y, z := random.names(random.below(40)), random.names(random.below(40)), random.names(random.below(40))
		y = append(y, x[:random.below(len(x)+1)]...)
		a, b, c := sketch(t, most, x), sketch(t, most, y), sketch(t, most, z)
		checkPair(t, a, b)
		checkPair(t, b, a)
		checkPair(t, a, c)
		ab, _ := Join(a, b)
		if all := sketch(t, most, random.mixed(slices.Concat(x, y))); !isSame(ab, all) {
			t.Fatalf("Join(%v, %v) = %v, want %v", a, b, ab, all)
		}
		bc, _ := Join(b, c)
		left, _ := Join(ab, c)
		right, _ := Join(a, bc)
		if !isSame(left, right) {
			t.Fatalf("joining %v, %v and %v gives %v or %v", a, b, c, left, right)
		}
	}
}

// The chapter's example, and P82 and P83 with an empty sketch.
func TestJoinWithItself(t *testing.T) {
	random := numbers(7)
	for most := 1; most <= 30; most++ {
		none := api.Sample{Most: most}
		for n := range 40 {
			s := sketch(t, most, random.names(n))
			if joined, e := Join(s, s); e != api.OK || !isSame(joined, s) {
				t.Errorf("Join(%v, %v) = %v, %v", s, s, joined, e)
			}
			if both, all, e := Alike(s, s); both != len(s.Names) || all != len(s.Names) || e != api.OK {
				t.Errorf("Alike(%v, %v) = %d, %d, %v", s, s, both, all, e)
			}
			for _, pair := range [][2]api.Sample{{s, none}, {none, s}} {
				checkPair(t, pair[0], pair[1])
				if joined, e := Join(pair[0], pair[1]); e != api.OK || !isSame(joined, s) {
					t.Errorf("Join(%v, %v) = %v, %v", pair[0], pair[1], joined, e)
				}
			}
		}
	}
}

// P82 and P83 for sketches with each Most: different ones are refused.
func TestDifferentMost(t *testing.T) {
	for i := 1; i <= 30; i++ {
		for j := 1; j <= 30; j++ {
			for _, l := range [][]string{nil, {"b"}} {
				a, b := sketch(t, i, l), sketch(t, j, []string{"b"})
				if i == j {
					checkPair(t, a, b)
					continue
				}
				if s, e := Join(a, b); e != api.ErrForm || !isZero(s) {
					t.Errorf("Join(%v, %v) = %v, %v, want ErrForm", a, b, s, e)
				}
				if both, all, e := Alike(a, b); e != api.ErrForm || both != 0 || all != 0 {
					t.Errorf("Alike(%v, %v) = %d, %d, %v, want ErrForm", a, b, both, all, e)
				}
			}
		}
	}
}

// The marks of b, c, d and a rise in this order.
func TestKnownOnes(t *testing.T) {
	for _, c := range []struct {
		most      int
		a, b      []string
		joined    []string
		both, all int
	}{
		{1, nil, nil, nil, 0, 0},
		{1, []string{"a"}, []string{"b"}, []string{"b"}, 0, 1},
		{1, []string{"a"}, []string{"a"}, []string{"a"}, 1, 1},
		{2, []string{"a"}, []string{"b"}, []string{"b", "a"}, 0, 2},
		{2, []string{"b", "a"}, []string{"c", "d"}, []string{"b", "c"}, 0, 2},
		{2, []string{"c", "a"}, []string{"b", "a"}, []string{"b", "c"}, 0, 2},
		{2, []string{"c", "a"}, []string{"b", "c"}, []string{"b", "c"}, 1, 2},
		{3, []string{"c", "a"}, []string{"b", "a"}, []string{"b", "c", "a"}, 1, 3},
		{3, []string{"b", "c", "a"}, []string{"b", "d", "a"}, []string{"b", "c", "d"}, 1, 3},
		{4, []string{"b", "c", "a"}, []string{"b", "d", "a"}, []string{"b", "c", "d", "a"}, 2, 4},
		{30, []string{"d", "a", "c", "b"}, []string{"b", "", "d"}, []string{"b", "", "c", "d", "a"}, 2, 5},
	} {
		a, b := sketch(t, c.most, c.a), sketch(t, c.most, c.b)
		if s, e := Join(a, b); e != api.OK || s.Most != c.most || !slices.Equal(s.Names, c.joined) {
			t.Errorf("Join(%v, %v) = %v, %v, want %v", a, b, s, e, c.joined)
		}
		if both, all, e := Alike(a, b); e != api.OK || both != c.both || all != c.all {
			t.Errorf("Alike(%v, %v) = %d, %d, %v, want %d, %d", a, b, both, all, e, c.both, c.all)
		}
	}
}

// P2: arguments are not changed, with the memory behind them.
func TestArgumentsStay(t *testing.T) {
	x := []string{"b", "c", "d", "a", "spare", "spare", "spare"}
	y := []string{"b", "", "d", "spare", "spare", "spare", "spare"}
	l := []string{"d", "a", "c", "d", "b", "", "spare", "spare"}
	keptX, keptY, keptL := slices.Clone(x), slices.Clone(y), slices.Clone(l)
	for most := range 9 {
		for n := range 7 {
			a, b := api.Sample{Most: most, Names: x[:min(n, 4)]}, api.Sample{Most: most, Names: y[:min(n, 3)]}
			Check(a)
			Of(most, l[:n])
			Join(a, b)
			Join(b, a)
			Join(a, api.Sample{Most: most})
			Join(api.Sample{Most: most}, b)
			Alike(a, b)
			Alike(b, a)
			if !slices.Equal(x, keptX) || !slices.Equal(y, keptY) || !slices.Equal(l, keptL) {
				t.Fatalf("the names became %q, %q and %q", x, y, l)
			}
		}
	}
}

// P2: results are new memory, and the same arguments give the same results.
func TestResultsAreNew(t *testing.T) {
	right := []string{"b", "c", "d", "a"}
	for _, most := range []int{4, 5, 30} {
		given := slices.Clone(right)
		s, none := api.Sample{Most: most, Names: given}, api.Sample{Most: most}
		results := func() [4]api.Sample {
			var list [4]api.Sample
			list[0], _ = Of(most, given)
			list[1], _ = Join(s, none)
			list[2], _ = Join(none, s)
			list[3], _ = Join(s, s)
			return list
		}
		first := results()
		for range 3 {
			for i, again := range results() {
				if again.Most != most || !slices.Equal(again.Names, right) {
					t.Fatalf("result %d for %d is %v, want %v", i, most, again, right)
				}
				whole := again.Names[:cap(again.Names)]
				for j := range whole {
					whole[j] = "written over"
				}
			}
		}
		if !slices.Equal(given, right) {
			t.Errorf("the names became %q", given)
		}
		clear(given)
		for i := range first {
			if !slices.Equal(first[i].Names, right) {
				t.Errorf("result %d for %d became %v, want %v", i, most, first[i], right)
			}
		}
	}
}
