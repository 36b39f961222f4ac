package decl_test

import (
	"encoding/binary"
	"math"
	"slices"
	"strings"
	"testing"

	"logjam/api"
	"logjam/decl"
	"logjam/internal/draws"
	"logjam/octet"
)

// Objects of each kind that may be, wherever they stand; and a cell that what stands first guards.
var (
	mutex = api.Decl{Kind: api.Mutex}
	rw    = api.Decl{Kind: api.Rw}
	sem   = api.Decl{Kind: api.Sem, A: 2, B: 3}
	cond  = api.Decl{Kind: api.Cond}
	bar   = api.Decl{Kind: api.Bar}
	pool  = api.Decl{Kind: api.Pool, A: 4}
	cell  = api.Decl{Kind: api.Cell, A: 5, B: 0}
)

// bad is an object of a kind that has no numbers, with one.
var bad = api.Decl{Kind: api.Bar, A: 1}

// none are numbers of no kind: those next to the ends, and those that fewer bits would take for a kind.
var none = []int{math.MinInt, math.MinInt + 1, -1<<32 + 1, -1 << 31, -1<<16 + 3, -256 + 7, -256, -249, -8, -7, -3, -2, -1,
	0, 8, 9, 15, 16 + 1, 64 + 3, 128 + 6, 255, 256, 256 + 1, 256 + 7, 1<<16 + 2, 1 << 31, 1<<31 + 6, 1 << 32, 1<<32 + 1, 1<<32 + 3, 1<<32 + 7, math.MaxInt - 1, math.MaxInt}

// numbers are those at the edges of what objects may have, next to them, and such as fewer bits would take for others.
var numbers = []int{math.MinInt, math.MinInt + 1, -1 << 32, -1<<32 + 1, -1<<31 - 1, -1 << 31, -1<<31 + 1, -1000, -2, -1,
	0, 1, 2, 3, 4, 5, 6, 7, 8, 31, 32, 33, 127, 128, 255, 256, 257, 999, 1000, 1001, 1 << 16, 1<<31 - 2, 1<<31 - 1, 1 << 31, 1<<31 + 1,
	1<<32 - 1, 1 << 32, 1<<32 + 1, 1<<32 + 2, 1<<32 + 1000, 1 << 62, math.MaxInt - 1, math.MaxInt}

const nine = "\xff\xff\xff\xff\xff\xff\xff\xff\xff"

// wrongOne is what is wrong with one object of a list, as the chapter says it.
func wrongOne(l []api.Decl, d api.Decl) api.Errno {
	switch d.Kind {
	case 1, 2, 4, 5:
		if d.A != 0 || d.B != 0 {
			return api.ErrForm
		}
	case 3:
		if d.B < 1 || d.B > 1000 || d.A < 0 || d.A > d.B {
			return api.ErrArg
		}
	case 6:
		if d.A < 1 || d.A > 1000 {
			return api.ErrArg
		}
		if d.B != 0 {
			return api.ErrForm
		}
	case 7:
		if d.A < -2147483648 || d.A > 2147483647 || d.B < 0 || d.B >= len(l) {
			return api.ErrArg
		}
		if k := l[d.B].Kind; k != 1 && k != 2 {
			return api.ErrArg
		}
	default:
		return api.ErrKind
	}
	return api.OK
}

// wrong is where, and what, is wrong with objects.
func wrong(l []api.Decl) (int, api.Errno) {
	if len(l) > 32 {
		return 0, api.ErrLong
	}
	for k, d := range l {
		if e := wrongOne(l, d); e != api.OK {
			return k, e
		}
	}
	return 0, api.OK
}

// written is the bytes of objects that may be, by the library's numbers.
func written(l []api.Decl) string {
	b := []byte{byte(len(l))}
	for _, d := range l {
		b = append(b, byte(d.Kind))
		switch d.Kind {
		case 3:
			b = binary.AppendUvarint(b, uint64(d.A))
			b = binary.AppendUvarint(b, uint64(d.B))
		case 6:
			b = binary.AppendUvarint(b, uint64(d.A))
		case 7:
			b = binary.AppendVarint(b, int64(d.A))
			b = binary.AppendUvarint(b, uint64(d.B))
		}
	}
	return string(b)
}

// num is a number that is read; all that no int has room for is the same, and in no range.
func num(i *octet.In) int {
	if n := i.Num(); n <= math.MaxInt {
		return int(n)
	}
	return math.MaxInt
}

// readOne is one object that is read.
func readOne(i *octet.In) (api.Decl, api.Errno) {
	d := api.Decl{Kind: i.Byte()}
	if i.Err() == api.OK && (d.Kind < 1 || d.Kind > 7) {
		return d, api.ErrKind
	}
	switch d.Kind {
	case 3:
		d.A = num(i)
		d.B = num(i)
	case 6:
		d.A = num(i)
	case 7:
		d.A = i.Int()
		d.B = num(i)
	}
	return d, i.Err()
}

// read is what Get should answer.
func read(s string) ([]api.Decl, int, api.Errno) {
	i := octet.Open(s)
	many := num(i)
	if i.Err() != api.OK {
		return nil, 0, i.Err()
	}
	if many > 32 {
		return nil, 0, api.ErrLong
	}
	var l []api.Decl
	for range many {
		d, e := readOne(i)
		if e != api.OK {
			return nil, 0, e
		}
		l = append(l, d)
	}
	if _, e := wrong(l); e != api.OK {
		return nil, 0, e
	}
	return l, len(s) - i.Left(), api.OK
}

// kept fails, if what is done with a list changes it, or its spare room.
func kept(t *testing.T, l []api.Decl, do func(l []api.Decl)) {
	t.Helper()
	room := append(slices.Clone(l), api.Decl{Kind: 77, A: 78, B: 79}, api.Decl{Kind: 80, A: 81, B: 82})
	was := slices.Clone(room)
	do(room[:len(l)])
	if !slices.Equal(room, was) {
		t.Errorf("%v became %v", was, room)
	}
}

// checks fails, if Check tells anything but what should be, or if Put does not tell the same.
func checks(t *testing.T, l []api.Decl, where int, want api.Errno) {
	t.Helper()
	kept(t, l, func(l []api.Decl) {
		if k, e := decl.Check(l); k != where || e != want {
			t.Errorf("check of %v: %d, %v, not %d, %v", l, k, e, where, want)
		}
	})
	kept(t, l, func(l []api.Decl) {
		if s, e := decl.Put(l); e != want || (e == api.OK) != (s != "") {
			t.Errorf("put of %v: %x, %v, not %v", l, s, e, want)
		}
	})
}

// puts fails, if objects are not put as these bytes, or are not what is got of them.
func puts(t *testing.T, l []api.Decl, want string) {
	t.Helper()
	kept(t, l, func(l []api.Decl) {
		if got, e := decl.Put(l); got != want || e != api.OK {
			t.Errorf("put of %v: %x, %v, not %x", l, got, e, want)
		}
	})
	gets(t, want, l, len(want), api.OK)
}

// gets fails, if Get tells anything but what should be.
func gets(t *testing.T, s string, want []api.Decl, many int, err api.Errno) {
	t.Helper()
	if l, n, e := decl.Get(s); !slices.Equal(l, want) || n != many || e != err {
		t.Errorf("get of %x: %v, %d, %v, not %v, %d, %v", s, l, n, e, want, many, err)
	}
}

// refused fails, if Get tells anything but an error.
func refused(t *testing.T, s string, err api.Errno) {
	t.Helper()
	gets(t, s, nil, 0, err)
}

// P8.1

func TestName(t *testing.T) {
	for kind, want := range map[int]string{
		1: "mutex", 2: "rw", 3: "sem", 4: "cond", 5: "bar", 6: "pool", 7: "cell",
	} {
		if got := decl.Name(kind); got != want {
			t.Errorf("name of %d: %q, not %q", kind, got, want)
		}
	}
}

func TestNameOfNoKind(t *testing.T) {
	for _, kind := range none {
		if got := decl.Name(kind); got != "" {
			t.Errorf("name of %d: %q", kind, got)
		}
	}
	for kind := -300; kind <= 600; kind++ {
		if got := decl.Name(kind); (got != "") != (kind >= 1 && kind <= 7) {
			t.Errorf("name of %d: %q", kind, got)
		}
	}
}

func TestObjectsAreNumberedFrom0OnAsTheyAreDeclared(t *testing.T) {
	l := []api.Decl{mutex, rw, sem, cond, bar, pool, cell}
	for k, letter := range "mxscbpv" {
		for obj := range l {
			// No letter stands for a rw alone.
			want := obj == k && letter != 'x'
			if got := decl.Fits(l, byte(letter), obj); got != want {
				t.Errorf("%c, %d: %v", letter, obj, got)
			}
		}
	}
}

// P8.2

func TestNoObjects(t *testing.T) {
	for _, l := range [][]api.Decl{nil, {}} {
		if k, e := decl.Check(l); k != 0 || e != api.OK {
			t.Errorf("check of none: %d, %v", k, e)
		}
		if s, e := decl.Put(l); s != "\x00" || e != api.OK {
			t.Errorf("put of none: %x, %v", s, e)
		}
	}
}

func TestOneOfEachKind(t *testing.T) {
	for _, d := range []api.Decl{mutex, rw, sem, cond, bar, pool} {
		checks(t, []api.Decl{d}, 0, api.OK)
	}
	checks(t, []api.Decl{mutex, cell}, 0, api.OK)
	checks(t, []api.Decl{mutex, rw, sem, cond, bar, pool, cell}, 0, api.OK)
}

func TestASemAtTheEdges(t *testing.T) {
	for _, x := range []struct {
		a, b int
		want api.Errno
	}{
		{-1, 0, api.ErrArg}, {0, 0, api.ErrArg}, {1, 0, api.ErrArg}, {0, -1, api.ErrArg}, {-1, -1, api.ErrArg}, {-2, -1, api.ErrArg},
		{-1, 1, api.ErrArg}, {0, 1, api.OK}, {1, 1, api.OK}, {2, 1, api.ErrArg},
		{-1, 500, api.ErrArg}, {0, 500, api.OK}, {499, 500, api.OK}, {500, 500, api.OK}, {501, 500, api.ErrArg},
		{-1, 1000, api.ErrArg}, {0, 1000, api.OK}, {1000, 1000, api.OK}, {1001, 1000, api.ErrArg},
		{-1, 1001, api.ErrArg}, {0, 1001, api.ErrArg}, {1000, 1001, api.ErrArg}, {1001, 1001, api.ErrArg}, {1002, 1001, api.ErrArg},
		{1<<32 + 1, 2, api.ErrArg}, {1, 1<<32 + 2, api.ErrArg}, {math.MinInt, 2, api.ErrArg}, {0, math.MinInt, api.ErrArg}, {0, math.MaxInt, api.ErrArg}, {math.MaxInt, math.MaxInt, api.ErrArg},
	} {
		checks(t, []api.Decl{{Kind: api.Sem, A: x.a, B: x.b}}, 0, x.want)
	}
}

func TestAPoolAtTheEdges(t *testing.T) {
	for _, x := range []struct {
		a    int
		want api.Errno
	}{
		{-1, api.ErrArg}, {0, api.ErrArg}, {1, api.OK}, {2, api.OK}, {999, api.OK}, {1000, api.OK}, {1001, api.ErrArg},
		{1<<32 + 1, api.ErrArg}, {math.MinInt, api.ErrArg}, {math.MaxInt, api.ErrArg},
	} {
		checks(t, []api.Decl{{Kind: api.Pool, A: x.a}}, 0, x.want)
	}
}

func TestACellAtTheEdgesOfItsValue(t *testing.T) {
	for _, x := range []struct {
		a    int
		want api.Errno
	}{
		{-2147483649, api.ErrArg}, {-2147483648, api.OK}, {-2147483647, api.OK}, {-1, api.OK}, {0, api.OK}, {1, api.OK},
		{2147483646, api.OK}, {2147483647, api.OK}, {2147483648, api.ErrArg},
		{1 << 32, api.ErrArg}, {math.MinInt, api.ErrArg}, {math.MaxInt, api.ErrArg},
	} {
		checks(t, []api.Decl{mutex, {Kind: api.Cell, A: x.a}}, min(int(x.want), 1), x.want)
	}
}

func TestWhatGuardsACell(t *testing.T) {
	other := api.Decl{Kind: api.Cell, A: 1, B: 1}
	for _, x := range []struct {
		guard api.Decl
		want  api.Errno
	}{
		{mutex, api.OK}, {rw, api.OK}, {sem, api.ErrArg}, {cond, api.ErrArg}, {bar, api.ErrArg}, {pool, api.ErrArg},
	} {
		at := min(int(x.want), 1)
		checks(t, []api.Decl{x.guard, {Kind: api.Cell, A: 5, B: 0}}, at, x.want)
		checks(t, []api.Decl{{Kind: api.Cell, A: 5, B: 1}, x.guard}, 0, x.want)
		checks(t, []api.Decl{pool, {Kind: api.Cell, A: 5, B: 3}, bar, x.guard}, at, x.want)
	}
	checks(t, []api.Decl{{Kind: api.Cell}}, 0, api.ErrArg)
	checks(t, []api.Decl{{Kind: api.Cell, B: 1}, {Kind: api.Cell}}, 0, api.ErrArg)
	checks(t, []api.Decl{mutex, {Kind: api.Cell, B: 1}}, 1, api.ErrArg)
	checks(t, []api.Decl{cell, mutex, other}, 0, api.ErrArg)
	checks(t, []api.Decl{{Kind: api.Cell, A: 7, B: 2}, other, mutex}, 1, api.ErrArg)
}

func TestTheNumberOfWhatGuardsACell(t *testing.T) {
	for _, x := range []struct {
		b    int
		want api.Errno
	}{
		{math.MinInt, api.ErrArg}, {-1 << 32, api.ErrArg}, {-1, api.ErrArg}, {0, api.OK}, {1, api.ErrArg}, {2, api.OK}, {3, api.ErrArg}, {4, api.ErrArg},
		{31, api.ErrArg}, {32, api.ErrArg}, {256, api.ErrArg}, {258, api.ErrArg}, {1 << 32, api.ErrArg}, {1<<32 + 2, api.ErrArg}, {math.MaxInt, api.ErrArg},
	} {
		checks(t, []api.Decl{mutex, {Kind: api.Cell, A: 1, B: x.b}, rw}, min(int(x.want), 1), x.want)
	}
}

func TestWhatGuardsACellIsItselfHeldAgainstTheRules(t *testing.T) {
	checks(t, []api.Decl{{Kind: api.Mutex, A: 1}, cell}, 0, api.ErrForm)
	checks(t, []api.Decl{{Kind: api.Cell, A: 1, B: 1}, {Kind: api.Rw, B: 1}}, 1, api.ErrForm)
}

func TestANumberThatTheKindHasNot(t *testing.T) {
	for _, n := range numbers {
		if n == 0 {
			continue
		}
		for _, kind := range []int{api.Mutex, api.Rw, api.Cond, api.Bar} {
			checks(t, []api.Decl{{Kind: kind, A: n}}, 0, api.ErrForm)
			checks(t, []api.Decl{{Kind: kind, B: n}}, 0, api.ErrForm)
			checks(t, []api.Decl{{Kind: kind, A: n, B: n}}, 0, api.ErrForm)
			checks(t, []api.Decl{{Kind: kind, A: n, B: -n}}, 0, api.ErrForm)
		}
		checks(t, []api.Decl{{Kind: api.Pool, A: 1, B: n}}, 0, api.ErrForm)
		checks(t, []api.Decl{{Kind: api.Pool, A: 1000, B: n}}, 0, api.ErrForm)
	}
}

func TestOutOfRangeIsToldAheadOfANumberThatTheKindHasNot(t *testing.T) {
	for _, a := range []int{math.MinInt, -1, 0, 1001, 1<<32 + 1, math.MaxInt} {
		for _, b := range numbers {
			checks(t, []api.Decl{{Kind: api.Pool, A: a, B: b}}, 0, api.ErrArg)
		}
	}
}

func TestNoKind(t *testing.T) {
	for _, kind := range none {
		for _, a := range numbers {
			for _, b := range numbers {
				d := api.Decl{Kind: kind, A: a, B: b}
				if k, e := decl.Check([]api.Decl{mutex, d, rw}); k != 1 || e != api.ErrKind {
					t.Errorf("check of %v: %d, %v", d, k, e)
				}
			}
		}
		checks(t, []api.Decl{{Kind: kind}}, 0, api.ErrKind)
		checks(t, []api.Decl{{Kind: kind, A: 1, B: 1}}, 0, api.ErrKind)
	}
}

func TestHowManyThereMayBe(t *testing.T) {
	for _, d := range []api.Decl{mutex, rw, sem, cond, bar, pool} {
		checks(t, slices.Repeat([]api.Decl{d}, 31), 0, api.OK)
		checks(t, slices.Repeat([]api.Decl{d}, 32), 0, api.OK)
		checks(t, slices.Repeat([]api.Decl{d}, 33), 0, api.ErrLong)
		checks(t, slices.Repeat([]api.Decl{d}, 256), 0, api.ErrLong)
	}
	l := slices.Repeat([]api.Decl{{Kind: api.Cell, A: -1, B: 31}}, 32)
	checks(t, l, 0, api.ErrArg)
	l[31] = rw
	checks(t, l, 0, api.OK)
	checks(t, append(l, mutex), 0, api.ErrLong)
}

func TestTooManyIsToldAheadOfABadOne(t *testing.T) {
	for _, d := range []api.Decl{{}, bad, {Kind: api.Sem}, {Kind: 8}, {Kind: api.Cell, B: 32}} {
		for at := range 33 {
			l := slices.Repeat([]api.Decl{mutex}, 33)
			l[at] = d
			checks(t, l, 0, api.ErrLong)
		}
	}
}

func TestWhereTheFirstBadOneStands(t *testing.T) {
	bads := []struct {
		d    api.Decl
		want api.Errno
	}{
		{api.Decl{}, api.ErrKind}, {api.Decl{Kind: 8, A: 1}, api.ErrKind}, {api.Decl{Kind: api.Sem, A: 2, B: 1}, api.ErrArg},
		{api.Decl{Kind: api.Pool, B: 1}, api.ErrArg}, {api.Decl{Kind: api.Cell, B: -1}, api.ErrArg}, {api.Decl{Kind: api.Pool, A: 1, B: 1}, api.ErrForm}, {bad, api.ErrForm},
	}
	for first := range 32 {
		for _, x := range bads {
			l := slices.Repeat([]api.Decl{mutex}, 32)
			l[first] = x.d
			checks(t, l, first, x.want)
			for _, y := range bads {
				for later := first + 1; later < 32; later += 1 + later/4 {
					l[later] = y.d
				}
				checks(t, l, first, x.want)
			}
		}
	}
}

func TestEachKindWithAllNumbersWhereverItStands(t *testing.T) {
	around := []api.Decl{mutex, sem, rw, cond, {Kind: api.Cell, A: 5, B: 2}, bar, {Kind: api.Cell, A: 5, B: 0}, pool}
	for at := range around {
		l := slices.Clone(around)
		for kind := -1; kind <= 9; kind++ {
			for _, a := range numbers {
				for _, b := range numbers {
					l[at] = api.Decl{Kind: kind, A: a, B: b}
					where, want := wrong(l)
					if k, e := decl.Check(l); k != where || e != want {
						t.Fatalf("check of %v: %d, %v, not %d, %v", l, k, e, where, want)
					}
				}
			}
		}
	}
}

// P8.3

func TestByteByByte(t *testing.T) {
	for _, x := range []struct {
		l    []api.Decl
		want string
	}{
		{nil, "\x00"},
		{[]api.Decl{mutex, cell}, "\x02\x01\x07\x0a\x00"},
		{[]api.Decl{mutex}, "\x01\x01"},
		{[]api.Decl{rw}, "\x01\x02"},
		{[]api.Decl{cond}, "\x01\x04"},
		{[]api.Decl{bar}, "\x01\x05"},
		{[]api.Decl{{Kind: api.Sem, A: 0, B: 1}}, "\x01\x03\x00\x01"},
		{[]api.Decl{{Kind: api.Sem, A: 127, B: 127}}, "\x01\x03\x7f\x7f"},
		{[]api.Decl{{Kind: api.Sem, A: 127, B: 128}}, "\x01\x03\x7f\x80\x01"},
		{[]api.Decl{{Kind: api.Sem, A: 300, B: 1000}}, "\x01\x03\xac\x02\xe8\x07"},
		{[]api.Decl{{Kind: api.Sem, A: 1000, B: 1000}}, "\x01\x03\xe8\x07\xe8\x07"},
		{[]api.Decl{{Kind: api.Pool, A: 1}}, "\x01\x06\x01"},
		{[]api.Decl{{Kind: api.Pool, A: 128}}, "\x01\x06\x80\x01"},
		{[]api.Decl{{Kind: api.Pool, A: 1000}}, "\x01\x06\xe8\x07"},
		{[]api.Decl{rw, {Kind: api.Cell, A: 0}}, "\x02\x02\x07\x00\x00"},
		{[]api.Decl{rw, {Kind: api.Cell, A: -1}}, "\x02\x02\x07\x01\x00"},
		{[]api.Decl{rw, {Kind: api.Cell, A: 63}}, "\x02\x02\x07\x7e\x00"},
		{[]api.Decl{rw, {Kind: api.Cell, A: -64}}, "\x02\x02\x07\x7f\x00"},
		{[]api.Decl{rw, {Kind: api.Cell, A: 64}}, "\x02\x02\x07\x80\x01\x00"},
		{[]api.Decl{rw, {Kind: api.Cell, A: -65}}, "\x02\x02\x07\x81\x01\x00"},
		{[]api.Decl{{Kind: api.Cell, A: 2147483647, B: 1}, mutex}, "\x02\x07\xfe\xff\xff\xff\x0f\x01\x01"},
		{[]api.Decl{{Kind: api.Cell, A: -2147483648, B: 1}, rw}, "\x02\x07\xff\xff\xff\xff\x0f\x01\x02"},
		{[]api.Decl{mutex, rw, sem, cond, bar, pool, cell, {Kind: api.Cell, A: -3, B: 1}}, "\x08\x01\x02\x03\x02\x03\x04\x05\x06\x04\x07\x0a\x00\x07\x05\x01"},
		{slices.Repeat([]api.Decl{bar}, 32), "\x20" + strings.Repeat("\x05", 32)},
		{append(slices.Repeat([]api.Decl{{Kind: api.Cell, A: 1, B: 31}}, 31), mutex), "\x20" + strings.Repeat("\x07\x02\x1f", 31) + "\x01"},
	} {
		puts(t, x.l, x.want)
	}
}

// behind are bytes of which none belongs to what stands ahead of them.
var behind = []string{"", "\x00", "\x01", "\x07", "\x08", "\x7f", "\x80", "\xff", "\x80\x00", "\x01\x03\x00", nine + "\xff", strings.Repeat("\x03", 500)}

func TestGetOfWhatWasPut(t *testing.T) {
	for _, l := range [][]api.Decl{
		nil, {mutex}, {rw}, {sem}, {cond}, {bar}, {pool}, {mutex, cell}, {{Kind: api.Cell, A: -300, B: 1}, rw},
		{{Kind: api.Sem, A: 1000, B: 1000}}, {{Kind: api.Pool, A: 1000}}, {mutex, {Kind: api.Cell, A: 2147483647}}, {rw, {Kind: api.Cell, A: -2147483648}},
		{mutex, rw, sem, cond, bar, pool, cell}, slices.Repeat([]api.Decl{pool}, 32),
	} {
		s, e := decl.Put(l)
		if e != api.OK {
			t.Errorf("put of %v: %v", l, e)
		}
		for _, rest := range behind {
			gets(t, s+rest, l, len(s), api.OK)
		}
	}
}

func TestGetOfNothing(t *testing.T) { refused(t, "", api.ErrEnd) }

func TestGetOfACountThatIsTooGreat(t *testing.T) {
	for _, n := range []uint64{33, 34, 64, 127, 128, 255, 256, 257, 1 << 16, 1<<31 - 1, 1 << 31, 1<<31 + 1, 1<<32 - 1, 1 << 32, 1<<32 + 1, 1<<32 + 32,
		1 << 62, 1<<63 - 1, 1 << 63, 1<<63 + 1, math.MaxUint64 - 1, math.MaxUint64} {
		count := string(binary.AppendUvarint(nil, n))
		for _, rest := range append(behind, strings.Repeat("\x01", 33)) {
			refused(t, count+rest, api.ErrLong)
		}
	}
}

func TestGetOfTheGreatestCount(t *testing.T) {
	gets(t, "\x20"+strings.Repeat("\x01", 40), slices.Repeat([]api.Decl{mutex}, 32), 33, api.OK)
	refused(t, "\x20"+strings.Repeat("\x01", 31), api.ErrEnd)
	refused(t, "\x21"+strings.Repeat("\x01", 40), api.ErrLong)
}

// misput are numbers that are not in as few bytes as there may be, or have too many bits.
var misput = []string{"\x80\x00", "\x81\x00", "\x83\x00", "\xff\x00", "\x80\x80\x00", "\x81\x80\x00", "\xff\xff\xff\xff\x00", nine[:8] + "\x00",
	nine + "\x00", nine + "\x02", nine + "\x7f", nine + "\x80", nine + "\x80\x01", nine + "\xff\x01"}

// cut are numbers that end too early.
var cut = []string{"", "\x80", "\x81", "\xff", "\x80\x80", "\xff\xff\xff\xff", nine[:8], nine}

func TestGetOfACountThatIsWrong(t *testing.T) {
	for _, s := range misput {
		for _, rest := range behind {
			refused(t, s+rest, api.ErrForm)
		}
	}
	for _, s := range cut {
		refused(t, s, api.ErrEnd)
	}
}

func TestGetOfAByteThatIsNoKind(t *testing.T) {
	for n := range 256 {
		if n >= 1 && n <= 7 {
			continue
		}
		kind := string([]byte{byte(n)})
		for _, rest := range behind {
			refused(t, "\x01"+kind+rest, api.ErrKind)
			refused(t, "\x02"+kind+rest, api.ErrKind)
			refused(t, "\x03\x01\x03\x00\x01"+kind+rest, api.ErrKind)
		}
	}
}

// heads are bytes of objects behind which a number must stand, and behind that some more bytes, or none.
var heads = []string{"\x01\x03", "\x01\x03\x00", "\x01\x06", "\x01\x07", "\x01\x07\x00", "\x02\x01\x03", "\x02\x01\x03\x7f", "\x02\x01\x06", "\x02\x01\x07", "\x02\x01\x07\x7f", "\x03\x03\x00\x01\x06\x01\x07\x02", "\x03\x06\x00\x07\x00\x00\x03"}

func TestGetOfBytesThatEndTooEarly(t *testing.T) {
	for _, h := range heads {
		for _, s := range cut {
			refused(t, h+s, api.ErrEnd)
		}
	}
	for _, s := range []string{"\x01", "\x02\x01", "\x02\x03\x00\x01", "\x20", "\x03\x07\x00\x00\x02"} {
		refused(t, s, api.ErrEnd)
	}
	whole := "\x08\x01\x02\x03\x02\xe8\x07\x04\x05\x06\xe8\x07\x07\xfe\xff\xff\xff\x0f\x00\x07\x05\x01"
	for n := range len(whole) {
		refused(t, whole[:n], api.ErrEnd)
	}
	gets(t, whole, []api.Decl{mutex, rw, {Kind: api.Sem, A: 2, B: 1000}, cond, bar, {Kind: api.Pool, A: 1000}, {Kind: api.Cell, A: 2147483647}, {Kind: api.Cell, A: -3, B: 1}}, len(whole), api.OK)
}

func TestGetOfNumbersThatAreNotWrittenSo(t *testing.T) {
	for _, h := range heads {
		for _, s := range misput {
			for _, rest := range behind {
				refused(t, h+s+rest, api.ErrForm)
			}
		}
	}
}

func TestGetOfNumbersThatAreOutOfRange(t *testing.T) {
	for _, n := range []uint64{1001, 1 << 16, 1<<31 - 1, 1 << 31, 1<<31 + 1, 1<<32 - 1, 1 << 32, 1<<32 + 1, 1<<32 + 2, 1 << 62, 1<<63 - 1, 1 << 63, 1<<63 + 1, 1<<63 + 1<<32 + 2, math.MaxUint64 - 1, math.MaxUint64} {
		s := string(binary.AppendUvarint(nil, n))
		for _, rest := range behind {
			refused(t, "\x01\x03"+s+"\x02"+rest, api.ErrArg)
			refused(t, "\x01\x03\x00"+s+rest, api.ErrArg)
			refused(t, "\x01\x03\x01"+s+rest, api.ErrArg)
			refused(t, "\x01\x03"+s+s+rest, api.ErrArg)
			refused(t, "\x01\x06"+s+rest, api.ErrArg)
			refused(t, "\x03\x01\x07\x00"+s+"\x02"+rest, api.ErrArg)
		}
	}
	for _, s := range []string{"\x01\x03\x00\x00", "\x01\x03\x02\x01", "\x01\x06\x00", "\x02\x01\x03\x01\x00"} {
		for _, rest := range behind {
			refused(t, s+rest, api.ErrArg)
		}
	}
}

func TestGetOfACellWhoseValueIsNoWord(t *testing.T) {
	for _, n := range []uint64{1 << 32, 1<<32 + 1, 1<<32 + 2, 1<<33 - 1, 1 << 33, 1<<33 + 1, 1 << 34, 1 << 62, 1<<63 - 1, 1 << 63, 1<<63 + 1, math.MaxUint64 - 1, math.MaxUint64} {
		refused(t, "\x02\x01\x07"+string(binary.AppendUvarint(nil, n))+"\x00", api.ErrArg)
	}
	// A word is one, though the number that it is put as is above 2^31.
	for _, n := range []int{1 << 30, 2147483647, -1<<30 - 1, -2147483648} {
		l := []api.Decl{mutex, {Kind: api.Cell, A: n}}
		gets(t, written(l), l, 9, api.OK)
	}
}

func TestGetOfACellThatNothingGuards(t *testing.T) {
	for _, s := range []string{
		"\x01\x07\x00\x00", "\x01\x07\x00\x01", "\x02\x01\x07\x00\x01", "\x02\x01\x07\x00\x02", "\x02\x01\x07\x00\x1f", "\x02\x01\x07\x00\x20", "\x02\x01\x07\x00\x7f", "\x02\x01\x07\x00\x80\x02",
		"\x02\x03\x00\x01\x07\x00\x00", "\x02\x04\x07\x00\x00", "\x02\x05\x07\x00\x00", "\x02\x06\x01\x07\x00\x00", "\x03\x01\x07\x00\x00\x07\x00\x01",
	} {
		for _, rest := range behind {
			refused(t, s+rest, api.ErrArg)
		}
	}
	gets(t, "\x03\x07\x00\x02\x07\x02\x02\x02", []api.Decl{{Kind: api.Cell, B: 2}, {Kind: api.Cell, A: 1, B: 2}, rw}, 8, api.OK)
}

func TestWhichErrorComesFirst(t *testing.T) {
	for _, x := range []struct {
		s    string
		want api.Errno
	}{
		// The count's, ahead of all that stands behind it.
		{"\x21", api.ErrLong}, {"\x21\x00", api.ErrLong}, {"\x21\x03\x80\x00", api.ErrLong}, {"\xa1\x00", api.ErrForm}, {"\xa1\x00\x00", api.ErrForm}, {nine + "\x02\x00", api.ErrForm},
		// A kind's, ahead of what is wrong behind it.
		{"\x01\x08\x80\x00", api.ErrKind}, {"\x02\x08", api.ErrKind}, {"\x02\x00\x03\x80\x00", api.ErrKind}, {"\x02\x08\x09", api.ErrKind}, {"\x02\x08\x06\x00", api.ErrKind},
		// One object's, ahead of the next one's.
		{"\x02\x06\x80\x00\x08", api.ErrForm}, {"\x02\x03\x01\x80\x00\x00", api.ErrForm}, {"\x02\x07\x80\x00\x00\x08", api.ErrForm}, {"\x03\x01\x08\x06\x80\x00", api.ErrKind}, {"\x03\x01\x06\x81\x00\x09", api.ErrForm},
		// The first number's, ahead of the second one's.
		{"\x01\x03\x80\x00\x80", api.ErrForm}, {"\x01\x03\x80", api.ErrEnd}, {"\x01\x07\xff\x00\x80", api.ErrForm}, {"\x01\x07\x80\x80\x80", api.ErrEnd},
		// What is wrong with the bytes, and what is no kind, ahead of what may not be.
		{"\x01\x03\x05", api.ErrEnd}, {"\x01\x03\x05\x80\x00", api.ErrForm}, {"\x02\x06\x00", api.ErrEnd}, {"\x02\x06\x00\x08", api.ErrKind}, {"\x02\x06\x00\x06\x80\x00", api.ErrForm},
		{"\x02\x06\x00\x07\x00", api.ErrEnd}, {"\x02\x07\x00\x00\x00", api.ErrKind}, {"\x03\x03\x09\x01\x07\x00\x09", api.ErrEnd}, {"\x01\x06" + nine + "\x01", api.ErrArg}, {"\x02\x06" + nine + "\x01", api.ErrEnd},
		{"\x02\x06" + nine + "\x01\x08", api.ErrKind}, {"\x01\x03" + nine + "\x01\x80\x00", api.ErrForm}, {"\x02\x06\x00\x03\x01\x00", api.ErrArg},
	} {
		refused(t, x.s, x.want)
	}
}

// P8.4

// stands are the kinds that each letter stands for.
var stands = map[byte][]int{
	'u': {api.Mutex, api.Rw}, 's': {api.Sem}, 'p': {api.Pool}, 'c': {api.Cond}, 'm': {api.Mutex}, 'b': {api.Bar}, 'v': {api.Cell}, 'q': {api.Mutex, api.Pool},
}

func TestFitsOfEachByteWithEachKind(t *testing.T) {
	l := []api.Decl{mutex, rw, sem, cond, bar, pool, cell}
	for n := range 256 {
		letter := byte(n)
		for obj, d := range l {
			want := slices.Contains(stands[letter], d.Kind)
			kept(t, l, func(l []api.Decl) {
				if got := decl.Fits(l, letter, obj); got != want {
					t.Errorf("fits of %q, %s: %v", letter, decl.Name(d.Kind), got)
				}
			})
		}
	}
}

func TestFitsOfWhatIsNoKind(t *testing.T) {
	for n := range 256 {
		for _, kind := range none {
			if decl.Fits([]api.Decl{{Kind: kind}}, byte(n), 0) {
				t.Errorf("%q fits kind %d", byte(n), kind)
			}
		}
	}
}

func TestFitsOfObjectsThatAreNotThere(t *testing.T) {
	full := slices.Repeat([]api.Decl{mutex}, 32)
	for n := range 256 {
		for _, l := range [][]api.Decl{nil, {}, {mutex}, {rw, sem, cond}, {bar, pool, cell, mutex}, full[:31], full} {
			for _, obj := range []int{math.MinInt, math.MinInt + 1, -1 << 32, -256, -2, -1, len(l), len(l) + 1, 32, 256, 1 << 32, 1<<32 + 1, math.MaxInt} {
				if decl.Fits(l, byte(n), obj) {
					t.Errorf("%q fits %d of %d", byte(n), obj, len(l))
				}
			}
		}
	}
}

func TestFitsWhereverTheObjectStands(t *testing.T) {
	for at := range 32 {
		for letter, kinds := range stands {
			for _, kind := range kinds {
				// All others are what no letter stands for that stands for this one.
				l := slices.Repeat([]api.Decl{{Kind: 8}}, 32)
				l[at].Kind = kind
				for obj := range l {
					if got := decl.Fits(l, letter, obj); got != (obj == at) {
						t.Errorf("%q fits %d, where %d is: %v", letter, obj, at, got)
					}
				}
			}
		}
	}
}

// P8.5

// same fails, if Get of bytes tells anything but what should be, or what it tells is put as other bytes than these. It tells whether there were objects.
func same(t *testing.T, s string) bool {
	l, n, e := decl.Get(s)
	if want, many, err := read(s); !slices.Equal(l, want) || n != many || e != err {
		t.Fatalf("get of %x: %v, %d, %v, not %v, %d, %v", s, l, n, e, want, many, err)
	}
	if e != api.OK {
		return false
	}
	if got, f := decl.Put(l); got != s[:n] || f != api.OK {
		t.Fatalf("put of %v: %x, %v, not %x", l, got, f, s[:n])
	}
	return true
}

func TestAllShortTexts(t *testing.T) {
	same(t, "")
	b := make([]byte, 3)
	for n := range 1 << 24 {
		b[0], b[1], b[2] = byte(n>>16), byte(n>>8), byte(n)
		s := string(b)
		if n < 1<<8 {
			same(t, s[2:])
		}
		if n < 1<<16 {
			same(t, s[1:])
		}
		same(t, s)
	}
}

// drawnNumber are bytes of a number of any length, that now and then is not written as it is put.
func drawnNumber(d *draws.Row) []byte {
	b := binary.AppendUvarint(nil, d.Next()>>(d.Next()%64))
	if d.Next()%16 != 0 {
		b = binary.AppendUvarint(nil, d.Next()%6)
	}
	if d.Next()%32 == 0 {
		b[len(b)-1] |= 0x80
		b = append(b, byte(d.Next()%2))
	}
	return b
}

// drawnText is bytes that begin with a count; so many objects stand behind it, or some more or less, of which most may be.
func drawnText(d *draws.Row) string {
	many := d.Next() % 6
	b := []byte{byte(many)}
	for range many + d.Next()%8/7 - d.Next()%8/7*min(many, 1) {
		kind := d.Next()%7 + 1
		if d.Next()%32 == 0 {
			kind = d.Next() % 256
		}
		b = append(b, byte(kind))
		switch kind {
		case api.Sem, api.Cell:
			b = append(b, drawnNumber(d)...)
			b = append(b, drawnNumber(d)...)
		case api.Pool:
			b = append(b, drawnNumber(d)...)
		}
	}
	for range d.Next() % 4 {
		b = append(b, byte(d.Next()))
	}
	return string(b)
}

func TestDrawnTexts(t *testing.T) {
	d := draws.Row(10)
	met := map[api.Errno]int{}
	for range 500000 {
		s := drawnText(&d)
		same(t, s)
		_, _, e := decl.Get(s)
		met[e]++
	}
	for _, e := range []api.Errno{api.OK, api.ErrArg, api.ErrForm, api.ErrEnd, api.ErrKind} {
		if met[e] < 5000 {
			t.Errorf("just %d of %v", met[e], e)
		}
	}
}

func TestDrawnBytes(t *testing.T) {
	d := draws.Row(11)
	many := 0
	for range 500000 {
		b := make([]byte, 4+d.Next()%12)
		for k := range b {
			b[k] = byte(d.Next() % 8)
			if d.Next()%16 == 0 {
				b[k] = byte(d.Next())
			}
		}
		b[0] = byte(d.Next() % 5)
		if same(t, string(b)) {
			many++
		}
	}
	if many < 50000 {
		t.Errorf("just %d with objects", many)
	}
}

// drawnList is objects that may be, up to 32, cells among them where something guards them.
func drawnList(d *draws.Row) []api.Decl {
	l := make([]api.Decl, d.Next()%33)
	var guards []int
	for k := range l {
		l[k].Kind = int(d.Next()%7 + 1)
		switch l[k].Kind {
		case api.Mutex, api.Rw:
			guards = append(guards, k)
		case api.Sem:
			l[k].B = int(1 + d.Next()%1000)
			l[k].A = int(d.Next() % uint64(l[k].B+1))
		case api.Pool:
			l[k].A = int(1 + d.Next()%1000)
		}
	}
	for k := range l {
		if l[k].Kind != api.Cell {
			continue
		}
		if len(guards) == 0 {
			l[k].Kind = api.Cond
			continue
		}
		l[k].A = int(int32(d.Next() >> (d.Next() % 64)))
		l[k].B = guards[d.Next()%uint64(len(guards))]
	}
	return l
}

func TestDrawnObjectsAreGotWhateverStandsBehind(t *testing.T) {
	d := draws.Row(12)
	for range 20000 {
		l := drawnList(&d)
		rest := make([]byte, d.Next()%6)
		for k := range rest {
			rest[k] = byte(d.Next())
		}
		checks(t, l, 0, api.OK)
		puts(t, l, written(l))
		gets(t, written(l)+string(rest), l, len(written(l)), api.OK)
	}
}

func TestWhatIsGotIsNewMemory(t *testing.T) {
	s := "\x03\x01\x06\x04\x07\x0a\x00"
	want := []api.Decl{mutex, pool, {Kind: api.Cell, A: 5}}
	one, _, _ := decl.Get(s)
	two, _, _ := decl.Get(s)
	if !slices.Equal(one, want) || !slices.Equal(two, want) {
		t.Fatalf("%v, %v, not %v", one, two, want)
	}
	clear(one)
	if !slices.Equal(two, want) {
		t.Errorf("two lists are one: %v", two)
	}
	gets(t, s, want, len(s), api.OK)
}

func TestTheSameIsAnsweredEachTime(t *testing.T) {
	for range 3 {
		checks(t, []api.Decl{mutex, {Kind: api.Pool}}, 1, api.ErrArg)
		puts(t, []api.Decl{mutex, cell}, "\x02\x01\x07\x0a\x00")
		refused(t, "\x01\x08", api.ErrKind)
		gets(t, "\x01\x01\x01", []api.Decl{mutex}, 2, api.OK)
	}
}
