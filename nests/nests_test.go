package nests

import (
	"math"
	"slices"
	"strings"
	"testing"

	"lotcaster/api"
)

// outside holds numbers that are not in the range 0 to MaxNest.
var outside = []int{-1, -2, -15, api.MaxNest + 1, 30, 64, 1 << 32, math.MaxInt, math.MinInt}

// catalan holds the numbers of balanced strings with 0 to MaxNest pairs.
var catalan = []int{
	1, 1, 2, 5, 14, 42, 132, 429, 1430, 4862, 16796, 58786, 208012, 742900, 2674440, 9694845,
}

// refused holds strings that are not balanced, or too long ones.
var refused = []struct {
	s    string
	want api.Errno
}{
	{"(", api.ErrShort},
	{"((", api.ErrShort},
	{"(()", api.ErrShort},
	{"()(", api.ErrShort},
	{"()()((", api.ErrShort},
	{strings.Repeat("(", 30), api.ErrShort},
	{strings.Repeat("(", 16) + strings.Repeat(")", 14), api.ErrShort},
	{strings.Repeat("()", 14) + "((", api.ErrShort},
	{")", api.ErrForm},
	{")(", api.ErrForm},
	{"())", api.ErrForm},
	{"())(", api.ErrForm},
	{"(()))(", api.ErrForm},
	{strings.Repeat(")", 30), api.ErrForm},
	{strings.Repeat("(", 14) + strings.Repeat(")", 16), api.ErrForm},
	{strings.Repeat("()", 14) + "))", api.ErrForm},
	{"x", api.ErrArg},
	{" ", api.ErrArg},
	{"\x00", api.ErrArg},
	{"\xff", api.ErrArg},
	{"'", api.ErrArg},
	{"*", api.ErrArg},
	{"[]", api.ErrArg},
	{"() ", api.ErrArg},
	{" ()", api.ErrArg},
	{"()\n", api.ErrArg},
	{"（）", api.ErrArg},
	{"(\u0128)", api.ErrArg},
	{strings.Repeat("()", 14) + "(x", api.ErrArg},
	// The first byte with an error counts, and a missing end comes last.
	{")x", api.ErrForm},
	{"())x", api.ErrForm},
	{"x)", api.ErrArg},
	{"()x)", api.ErrArg},
	{"(x", api.ErrArg},
	{"((x)", api.ErrArg},
	{"(()x", api.ErrArg},
	{"())((((", api.ErrForm},
	// The length, in bytes, is looked at before the bytes.
	{strings.Repeat("()", 16), api.ErrLarge},
	{strings.Repeat("(", 31), api.ErrLarge},
	{strings.Repeat(")", 31), api.ErrLarge},
	{strings.Repeat("x", 31), api.ErrLarge},
	{strings.Repeat("()", 15) + "(", api.ErrLarge},
	{strings.Repeat("()", 15) + ")", api.ErrLarge},
	{strings.Repeat("()", 15) + "x", api.ErrLarge},
	{strings.Repeat("（", 11), api.ErrLarge},
	{strings.Repeat("()", 1<<20), api.ErrLarge},
}

// all returns every balanced string with n pairs: the first pair holds one and
// has another one behind it.
func all(n int) []string {
	lists := [][]string{{""}}
	for pairs := 1; pairs <= n; pairs++ {
		var list []string
		for inner := range pairs {
			for _, held := range lists[inner] {
				for _, behind := range lists[pairs-1-inner] {
					list = append(list, "("+held+")"+behind)
				}
			}
		}
		slices.Sort(list)
		lists = append(lists, list)
	}
	return lists[n]
}

// wanted says in the words of the chapter what Check returns for a string that
// is not too long.
func wanted(s string) api.Errno {
	for i := range len(s) {
		if s[i] != '(' && s[i] != ')' {
			return api.ErrArg
		}
		if prefix := s[:i+1]; strings.Count(prefix, ")") > strings.Count(prefix, "(") {
			return api.ErrForm
		}
	}
	if strings.Count(s, "(") > strings.Count(s, ")") {
		return api.ErrShort
	}
	return api.OK
}

// eachString calls f for all strings of n of the letters.
func eachString(n int, letters []string, f func(s string)) {
	var extend func(begun string, left int)
	extend = func(begun string, left int) {
		if left == 0 {
			f(begun)
			return
		}
		for _, letter := range letters {
			extend(begun+letter, left-1)
		}
	}
	extend("", n)
}

// P27 against the numbers and, for few pairs, the strings themselves.
func TestCount(t *testing.T) {
	for n, want := range catalan {
		if got, e := Count(n); e != api.OK || got != want {
			t.Errorf("Count(%d) = %v, %v, want %v", n, got, e, want)
		}
	}
	for n := 0; n <= 11; n++ {
		if got, e := Count(n); e != api.OK || got != len(all(n)) {
			t.Errorf("Count(%d) = %v, %v, want %v", n, got, e, len(all(n)))
		}
	}
}

func TestCountRefused(t *testing.T) {
	for _, n := range outside {
		if got, e := Count(n); e != api.ErrArg || got != 0 {
			t.Errorf("Count(%d) = %v, %v, want ErrArg", n, got, e)
		}
	}
}

// P28 for all short strings, against the definition.
func TestCheckShort(t *testing.T) {
	check := func(s string) {
		if e, want := Check(s), wanted(s); e != want {
			t.Fatalf("Check(%q) = %v, want %v", s, e, want)
		}
	}
	for n := 0; n <= 8; n++ {
		eachString(n, []string{"(", ")", "x"}, check)
	}
	for n := 9; n <= 14; n++ {
		eachString(n, []string{"(", ")"}, check)
	}
}

// P28 for all bytes, alone, inside and behind.
func TestCheckBytes(t *testing.T) {
	for b := range 256 {
		letter := string([]byte{byte(b)})
		for _, s := range []string{letter, "(" + letter, "()" + letter, "(" + letter + ")", letter + ")"} {
			if e, want := Check(s), wanted(s); e != want {
				t.Errorf("Check(%q) = %v, want %v", s, e, want)
			}
		}
	}
}

func TestCheckKnownOnes(t *testing.T) {
	for _, s := range []string{
		"", "()", "(())", "()()", "((()))", "(()())", "()(())",
		strings.Repeat("()", 15), strings.Repeat("(", 15) + strings.Repeat(")", 15),
	} {
		if e := Check(s); e != api.OK {
			t.Errorf("Check(%q) = %v", s, e)
		}
	}
	for _, c := range refused {
		if e := Check(c.s); e != c.want {
			t.Errorf("Check(%q) = %v, want %v", c.s, e, c.want)
		}
	}
}

// P29 for all balanced strings of up to 11 pairs: their index is their place
// in the sorted list of all.
func TestOfAndAt(t *testing.T) {
	for n := 0; n <= 11; n++ {
		for k, s := range all(n) {
			if got, e := Of(s); e != api.OK || got != k {
				t.Fatalf("Of(%q) = %v, %v, want %v", s, got, e, k)
			}
			if got, e := At(n, k); e != api.OK || got != s {
				t.Fatalf("At(%d, %d) = %q, %v, want %q", n, k, got, e, s)
			}
		}
	}
}

// P29 for many pairs: At gives growing balanced strings, and Of their index.
func TestOfAndAtLong(t *testing.T) {
	for n := 12; n <= api.MaxNest; n++ {
		before := ""
		for k := 0; k < catalan[n]; k += 1 + k%97 {
			s, e := At(n, k)
			if e != api.OK || len(s) != 2*n || Check(s) != api.OK || s <= before {
				t.Fatalf("At(%d, %d) = %q, %v, behind %q", n, k, s, e, before)
			}
			if got, e := Of(s); e != api.OK || got != k {
				t.Fatalf("Of(%q) = %v, %v, want %v", s, got, e, k)
			}
			before = s
		}
	}
}

func TestOfAndAtKnownOnes(t *testing.T) {
	for _, c := range []struct {
		n, k int
		s    string
	}{
		{0, 0, ""},
		{1, 0, "()"},
		{2, 0, "(())"},
		{2, 1, "()()"},
		{3, 0, "((()))"},
		{3, 1, "(()())"},
		{3, 2, "(())()"},
		{3, 3, "()(())"},
		{3, 4, "()()()"},
		{4, 9, "()((()))"},
		{15, 0, strings.Repeat("(", 15) + strings.Repeat(")", 15)},
		{15, 1, strings.Repeat("(", 14) + ")(" + strings.Repeat(")", 14)},
		{15, 9694845 - 2674440, "()" + strings.Repeat("(", 14) + strings.Repeat(")", 14)},
		{15, 9694843, strings.Repeat("()", 13) + "(())"},
		{15, 9694844, strings.Repeat("()", 15)},
	} {
		if got, e := Of(c.s); e != api.OK || got != c.k {
			t.Errorf("Of(%q) = %v, %v, want %v", c.s, got, e, c.k)
		}
		if got, e := At(c.n, c.k); e != api.OK || got != c.s {
			t.Errorf("At(%d, %d) = %q, %v, want %q", c.n, c.k, got, e, c.s)
		}
	}
}

// P29: what is not balanced is refused as by Check.
func TestOfRefused(t *testing.T) {
	for _, c := range refused {
		if got, e := Of(c.s); e != c.want || got != 0 {
			t.Errorf("Of(%q) = %v, %v, want %v", c.s, got, e, c.want)
		}
	}
}

func TestAtRefused(t *testing.T) {
	for n, count := range catalan {
		for _, k := range []int{-1, -2, math.MinInt, count, count + 1, 1 << 32, math.MaxInt} {
			if got, e := At(n, k); e != api.ErrArg || got != "" {
				t.Errorf("At(%d, %d) = %q, %v, want ErrArg", n, k, got, e)
			}
		}
	}
	for _, n := range outside {
		for _, k := range []int{0, 1, -1, math.MaxInt, math.MinInt} {
			if got, e := At(n, k); e != api.ErrArg || got != "" {
				t.Errorf("At(%d, %d) = %q, %v, want ErrArg", n, k, got, e)
			}
		}
	}
}

// countAhead counts the sequences of votes one by one; lead is by how much the
// first candidate is ahead.
func countAhead(a, b, lead int) int {
	if a == 0 && b == 0 {
		return 1
	}
	count := 0
	if a > 0 {
		count += countAhead(a-1, b, lead+1)
	}
	if b > 0 && lead > 1 {
		count += countAhead(a, b-1, lead-1)
	}
	return count
}

// choose is the number of subsets of k of n elements.
func choose(n, k int) int {
	count := 1
	for i := 1; i <= k; i++ {
		count = count * (n - k + i) / i
	}
	return count
}

// P30 for few votes, against the sequences themselves.
func TestAheadFew(t *testing.T) {
	for a := 0; a <= 11; a++ {
		for b := 0; b <= 11; b++ {
			want := 0
			if a > 0 {
				want = countAhead(a, b, 0)
			}
			if got, e := Ahead(a, b); e != api.OK || got != want {
				t.Errorf("Ahead(%d, %d) = %v, %v, want %v", a, b, got, e, want)
			}
		}
	}
}

// P30 for all arguments, against the formula of the ballot problem.
func TestAhead(t *testing.T) {
	for a := 0; a <= api.MaxNest; a++ {
		for b := 0; b <= api.MaxNest; b++ {
			want := 0
			if a > b {
				want = choose(a+b, b) * (a - b) / (a + b)
			}
			if got, e := Ahead(a, b); e != api.OK || got != want {
				t.Errorf("Ahead(%d, %d) = %v, %v, want %v", a, b, got, e, want)
			}
		}
	}
}

func TestAheadKnownOnes(t *testing.T) {
	for _, c := range []struct{ a, b, want int }{
		{0, 0, 0}, {0, 1, 0}, {0, 15, 0}, {1, 0, 1}, {1, 1, 0}, {1, 2, 0}, {2, 0, 1}, {2, 1, 1},
		{2, 2, 0}, {3, 1, 2}, {3, 2, 2}, {4, 2, 5}, {15, 0, 1}, {15, 1, 14}, {15, 14, 2674440},
		{15, 15, 0}, {14, 15, 0},
	} {
		if got, e := Ahead(c.a, c.b); e != api.OK || got != c.want {
			t.Errorf("Ahead(%d, %d) = %v, %v, want %v", c.a, c.b, got, e, c.want)
		}
	}
}

func TestAheadRefused(t *testing.T) {
	for _, x := range outside {
		for _, other := range []int{0, 1, 5, api.MaxNest, x} {
			if got, e := Ahead(x, other); e != api.ErrArg || got != 0 {
				t.Errorf("Ahead(%d, %d) = %v, %v, want ErrArg", x, other, got, e)
			}
			if got, e := Ahead(other, x); e != api.ErrArg || got != 0 {
				t.Errorf("Ahead(%d, %d) = %v, %v, want ErrArg", other, x, got, e)
			}
		}
	}
}
