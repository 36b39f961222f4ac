package bits_test

import (
	"fmt"
	"math"
	"math/big"
	"slices"
	"strconv"
	"strings"
	"testing"

	"logjam/bits"
	"logjam/internal/draws"
)

const full = bits.Set(math.MaxUint64)

// beside are numbers that are in no set.
var beside = []int{
	-1, -2, -63, -64, -65, -128, 64, 65, 127, 128, 255, 256, 1 << 31, 1<<32 + 1, -1 << 31, -1<<32 + 1,
	math.MaxInt, math.MaxInt - 1, math.MinInt, math.MinInt + 1, math.MinInt + 63,
}

// sets are those at the edges, each number alone, each number missing, and drawn ones.
func sets() []bits.Set {
	l := []bits.Set{0, full, 3, 6, 1 | 1<<63, 1<<63 | 1<<62, 0x5555555555555555, 0xaaaaaaaaaaaaaaaa, 1<<32 - 1, full &^ (1<<32 - 1)}
	for n := range 64 {
		l = append(l, 1<<n, full&^(1<<n), 1<<n-1)
	}
	d := draws.Row(1)
	for k := range 200 {
		s := bits.Set(d.Next())
		for range k % 4 {
			s &= bits.Set(d.Next())
		}
		l = append(l, s)
	}
	return l
}

// numbers are all that a set may have, and some that none has.
func numbers() []int {
	l := slices.Clone(beside)
	for n := range 64 {
		l = append(l, n)
	}
	return l
}

// members are the numbers of a set by its weights: what a set is, told without the calls that are tested.
func members(s bits.Set) []int {
	l := []int{}
	for n := 0; s > 0; n++ {
		if s%2 == 1 {
			l = append(l, n)
		}
		s /= 2
	}
	return l
}

// weights is the set of some numbers, each of them once and from 0 to 63.
func weights(l []int) bits.Set {
	s := bits.Set(0)
	for _, n := range l {
		s += 1 << n
	}
	return s
}

// P2.1

func TestOfIsTheNumbersOfAList(t *testing.T) {
	for _, x := range []struct {
		l    []int
		want bits.Set
	}{
		{nil, 0}, {[]int{}, 0}, {[]int{0}, 1}, {[]int{1}, 2}, {[]int{63}, 1 << 63}, {[]int{62, 63}, 3 << 62},
		{[]int{5, 3, 4}, 56}, {[]int{3, 3, 3}, 8}, {[]int{0, 63, 0}, 1<<63 + 1}, {[]int{-1, 2, 64}, 4},
		{[]int{2, -1, 3, 64, 4}, 28}, {[]int{math.MinInt, math.MaxInt}, 0}, {beside, 0}, {members(full), full},
	} {
		if got := bits.Of(x.l...); got != x.want {
			t.Errorf("Of(%v): %x, not %x", x.l, got, x.want)
		}
	}
	if got := bits.Of(); got != 0 {
		t.Errorf("Of(): %x", got)
	}
	if got := bits.Of(1, 0, 63); got != 1<<63+3 {
		t.Errorf("Of(1, 0, 63): %x", got)
	}
}

func TestOfLeavesItsListAsItIs(t *testing.T) {
	l := append(make([]int, 0, 8), 9, 70, 2, 2, -1)
	room := l[:8]
	want := slices.Clone(room)
	if got := bits.Of(l...); got != 1<<9+1<<2 {
		t.Errorf("%x", got)
	}
	if !slices.Equal(room, want) {
		t.Errorf("%v", room)
	}
}

func TestAllIsAllBelow(t *testing.T) {
	for n := range 64 {
		want := bits.Set(0)
		for k := range n {
			want += 1 << k
		}
		if got := bits.All(n); got != want {
			t.Errorf("All(%d): %x, not %x", n, got, want)
		}
	}
	for _, n := range beside {
		want := bits.Set(0)
		if n > 0 {
			want = full
		}
		if got := bits.All(n); got != want {
			t.Errorf("All(%d): %x, not %x", n, got, want)
		}
	}
}

func TestHasWithAndWithout(t *testing.T) {
	for _, s := range sets() {
		in := members(s)
		for n := range 64 {
			has := slices.Contains(in, n)
			if s.Has(n) != has {
				t.Fatalf("%x has %d: %v", s, n, !has)
			}
			with, without := s, s
			if has {
				without -= 1 << n
			} else {
				with += 1 << n
			}
			if got := s.With(n); got != with {
				t.Fatalf("%x with %d: %x", s, n, got)
			}
			if got := s.Without(n); got != without {
				t.Fatalf("%x without %d: %x", s, n, got)
			}
		}
	}
}

func TestNumbersBesideAreInNoSetAndChangeNone(t *testing.T) {
	for _, s := range sets() {
		for _, n := range beside {
			if s.Has(n) {
				t.Fatalf("%x has %d", s, n)
			}
			if got := s.With(n); got != s {
				t.Fatalf("%x with %d: %x", s, n, got)
			}
			if got := s.Without(n); got != s {
				t.Fatalf("%x without %d: %x", s, n, got)
			}
		}
	}
}

func TestASetStaysAsItIs(t *testing.T) {
	s := bits.Of(1, 5)
	s.With(7)
	s.Without(5)
	s.Up(1)
	s.Pick(1)
	s.List()
	if s != 34 {
		t.Errorf("%x", s)
	}
}

// P2.2

func TestCountAndFirst(t *testing.T) {
	for _, s := range sets() {
		l := members(s)
		if got := s.Count(); got != len(l) {
			t.Errorf("count of %x: %d", s, got)
		}
		want := -1
		if len(l) > 0 {
			want = l[0]
		}
		if got := s.First(); got != want {
			t.Errorf("first of %x: %d, not %d", s, got, want)
		}
	}
}

func TestNextIsTheLeastAbove(t *testing.T) {
	for _, s := range sets() {
		l := members(s)
		for _, n := range numbers() {
			want := -1
			if k := slices.IndexFunc(l, func(x int) bool { return x > n }); k >= 0 {
				want = l[k]
			}
			if got := s.Next(n); got != want {
				t.Fatalf("next of %x, %d: %d, not %d", s, n, got, want)
			}
		}
	}
}

func TestNextWhereThereIsNone(t *testing.T) {
	for _, x := range []struct {
		s       bits.Set
		n, want int
	}{
		{0, -1, -1}, {0, 0, -1}, {0, 63, -1}, {0, math.MinInt, -1}, {0, math.MaxInt, -1},
		{1, -1, 0}, {1, math.MinInt, 0}, {1, 0, -1}, {full, 62, 63}, {full, 63, -1}, {full, 64, -1}, {full, math.MaxInt, -1},
		{1 << 63, 62, 63}, {1 << 63, -1, 63}, {1 << 63, 63, -1}, {1 << 63, math.MaxInt - 1, -1},
	} {
		if got := x.s.Next(x.n); got != x.want {
			t.Errorf("next of %x, %d: %d, not %d", x.s, x.n, got, x.want)
		}
	}
}

func TestPickIsTheOneThatOthersAreBelow(t *testing.T) {
	for _, s := range sets() {
		l := members(s)
		for _, n := range numbers() {
			want := -1
			if n >= 0 && n < len(l) {
				want = l[n]
			}
			if got := s.Pick(n); got != want {
				t.Fatalf("pick of %x, %d: %d, not %d", s, n, got, want)
			}
		}
	}
}

func TestPickWhereThereIsNone(t *testing.T) {
	for _, x := range []struct {
		s       bits.Set
		n, want int
	}{
		{0, 0, -1}, {0, -1, -1}, {1, 0, 0}, {1, 1, -1}, {1, -1, -1}, {full, 63, 63}, {full, 64, -1}, {full, -1, -1},
		{full, math.MinInt, -1}, {full, math.MaxInt, -1}, {40, 0, 3}, {40, 1, 5}, {40, 2, -1},
	} {
		if got := x.s.Pick(x.n); got != x.want {
			t.Errorf("pick of %x, %d: %d, not %d", x.s, x.n, got, x.want)
		}
	}
}

func TestListIsAllRising(t *testing.T) {
	for _, s := range sets() {
		if got, want := s.List(), members(s); !slices.Equal(got, want) {
			t.Errorf("list of %x: %v, not %v", s, got, want)
		}
	}
}

func TestListIsNewMemory(t *testing.T) {
	s := bits.Of(2, 4)
	l := s.List()
	l[0] = 9
	_ = append(l[:1], 8)
	if again := s.List(); !slices.Equal(again, []int{2, 4}) {
		t.Errorf("%v", again)
	}
}

// P2.3

// modulo is n modulo 64, from 0 to 63, of a sum that may go past an int.
func modulo(k, n int) int {
	sum := new(big.Int).Add(big.NewInt(int64(k)), big.NewInt(int64(n)))
	return int(sum.Mod(sum, big.NewInt(64)).Int64())
}

func TestUpMovesEachNumber(t *testing.T) {
	moves := numbers()
	for n := range 64 {
		moves = append(moves, -n, 64+n, -64-n, 64*n, -64*n-1, math.MaxInt-n, math.MinInt+n)
	}
	for _, s := range sets() {
		for _, n := range moves {
			want := bits.Set(0)
			for _, k := range members(s) {
				want += 1 << modulo(k, n)
			}
			if got := s.Up(n); got != want {
				t.Fatalf("%x up %d: %x, not %x", s, n, got, want)
			}
		}
	}
}

func TestUpAtTheEdges(t *testing.T) {
	for _, x := range []struct {
		l    []int
		n    int
		want []int
	}{
		{[]int{0, 1}, 63, []int{0, 63}}, {[]int{0, 1}, 0, []int{0, 1}}, {[]int{0, 1}, 64, []int{0, 1}},
		{[]int{0, 1}, 1, []int{1, 2}}, {[]int{0, 1}, -1, []int{0, 63}}, {[]int{63}, 1, []int{0}}, {[]int{0}, -64, []int{0}},
		{[]int{5}, -6, []int{63}}, {[]int{5}, 65, []int{6}}, {[]int{5}, -65, []int{4}},
		{[]int{0}, math.MaxInt, []int{63}}, {[]int{0}, math.MinInt, []int{0}}, {[]int{2}, math.MinInt + 1, []int{3}},
		{nil, 7, nil}, {members(full), 7, members(full)},
	} {
		if got := bits.Of(x.l...).Up(x.n); got != weights(x.want) {
			t.Errorf("%v up %d: %v, not %v", x.l, x.n, members(got), x.want)
		}
	}
}

// P2.4

// written is the text of a set, told without the calls that are tested.
func written(s bits.Set) string {
	if s == 0 {
		return "-"
	}
	var l []string
	for _, n := range members(s) {
		l = append(l, fmt.Sprint(n))
	}
	return strings.Join(l, ",")
}

func TestText(t *testing.T) {
	for _, x := range []struct {
		l    []int
		want string
	}{
		{nil, "-"}, {[]int{0}, "0"}, {[]int{9}, "9"}, {[]int{10}, "10"}, {[]int{63}, "63"}, {[]int{63, 0}, "0,63"},
		{[]int{2, 10, 1}, "1,2,10"}, {[]int{9, 10, 11}, "9,10,11"},
	} {
		if got := bits.Text(bits.Of(x.l...)); got != x.want {
			t.Errorf("%v: %q, not %q", x.l, got, x.want)
		}
	}
	for _, s := range sets() {
		if got := bits.Text(s); got != written(s) {
			t.Errorf("%x: %q, not %q", s, got, written(s))
		}
	}
}

func TestTextsAreParsed(t *testing.T) {
	for _, s := range sets() {
		if got, ok := bits.Parse(written(s)); got != s || !ok {
			t.Errorf("%q: %x, %v", written(s), got, ok)
		}
	}
}

func TestTextsThatAreNoSets(t *testing.T) {
	for _, x := range []string{
		"", " ", "\n", "-\n", "--", "-0", "-1", " -", "- ", "-,0", "0,-", "-,-", "+0", "+1", "1,+2", "1,-2", "−",
		" 0", "0 ", "0\n", "0, 1", "0 ,1", "0 1", "\t1", "1\x00",
		"00", "01", "007", "0,01", "00,1", "063", "1,02,3",
		"2,1", "0,63,62", "10,9", "5,6,5", "1,0",
		"1,1", "0,0", "63,63", "0,1,1", "0,0,1",
		"64", "0,64", "63,64", "65", "99", "100", "127", "128", "255", "256", "1000", "-64", "0,-1",
		"4294967296", "4294967297", "18446744073709551615", "18446744073709551616", "18446744073709551617",
		"9223372036854775807", "9223372036854775808", "-9223372036854775808", "-9223372036854775809",
		",", ",0", "0,", ",,", "0,,1", "0,1,", ",0,1", "0,1,,", "63,",
		"a", "0a", "a0", "0,a", "0x1", "0x", "1_0", "1e1", "1.0", "0.", "0b1", "0o7", "1;2", "{1}", "[]", "²", "１", "\xff", "1,\xff",
		strings.Repeat("1", 5000), strings.Repeat("0", 5000), strings.Repeat(",", 5000), strings.Repeat("1,", 5000),
		written(full) + ",", written(full) + ",64", "," + written(full), written(full) + "," + written(full),
	} {
		if s, ok := bits.Parse(x); s != 0 || ok {
			t.Errorf("%q: %x, %v", x, s, ok)
		}
	}
}

// Of all short texts of the bytes that a set's text has, and of some others, just those are taken that some set has.
func TestShortTexts(t *testing.T) {
	const from = "0136,- +"
	short := map[string]bits.Set{"-": 0}
	for a := range 64 {
		short[strconv.Itoa(a)] = 1 << a
		for b := a + 1; b < 64; b++ {
			short[strconv.Itoa(a)+","+strconv.Itoa(b)] = 1<<a | 1<<b
			for c := b + 1; c < 10; c++ {
				short[fmt.Sprintf("%d,%d,%d", a, b, c)] = 1<<a | 1<<b | 1<<c
			}
		}
	}
	texts := []string{""}
	for k := 0; k < len(texts); k++ {
		want, is := short[texts[k]]
		if got, ok := bits.Parse(texts[k]); got != want || ok != is {
			t.Fatalf("%q: %x, %v", texts[k], got, ok)
		}
		for n := range len(from) {
			if len(texts[k]) < 5 {
				texts = append(texts, texts[k]+from[n:n+1])
			}
		}
	}
}
