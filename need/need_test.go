package need_test

import (
	"encoding/binary"
	"fmt"
	"math"
	"slices"
	"strings"
	"testing"

	"logjam/api"
	"logjam/bits"
	"logjam/decl"
	"logjam/internal/draws"
	"logjam/need"
	"logjam/octet"
)

// Where the objects of all stand. The first seven are one of each kind, in the order of the kinds.
const (
	aMutex = iota
	aRw
	aSem
	aCond
	aBar
	aPool
	aCell
	otherMutex
	otherRw
	greatSem
	greatPool
	leastSem
	leastPool
	thirdMutex
	fourthMutex
	fifthMutex
)

// all are objects that may be, of each kind.
func all() []api.Decl {
	return []api.Decl{
		aMutex: {Kind: api.Mutex}, aRw: {Kind: api.Rw}, aSem: {Kind: api.Sem, A: 2, B: 3}, aCond: {Kind: api.Cond}, aBar: {Kind: api.Bar},
		aPool: {Kind: api.Pool, A: 4}, aCell: {Kind: api.Cell, A: 5, B: 0}, otherMutex: {Kind: api.Mutex}, otherRw: {Kind: api.Rw},
		greatSem: {Kind: api.Sem, A: 0, B: 1000}, greatPool: {Kind: api.Pool, A: 1000}, leastSem: {Kind: api.Sem, A: 1, B: 1}, leastPool: {Kind: api.Pool, A: 1},
		thirdMutex: {Kind: api.Mutex}, fourthMutex: {Kind: api.Mutex}, fifthMutex: {Kind: api.Mutex},
	}
}

// Needs that may be, of the objects of all.
var (
	lock  = api.Need{Kind: api.Lock, Obj: aMutex}
	read  = api.Need{Kind: api.Read, Obj: aRw}
	write = api.Need{Kind: api.Write, Obj: otherRw}
	down  = api.Need{Kind: api.Down, Obj: aSem, N: 2}
	take  = api.Need{Kind: api.Take, Obj: aPool, N: 4}
	lock2 = api.Need{Kind: api.Lock, Obj: otherMutex}
	lock3 = api.Need{Kind: api.Lock, Obj: thirdMutex}
	take2 = api.Need{Kind: api.Take, Obj: greatPool, N: 1}
	down2 = api.Need{Kind: api.Down, Obj: greatSem, N: 1}
)

// Needs that may not be: of no kind, of an object that is not there, of one of another kind, and of too much.
var (
	badKind   = api.Need{Kind: 6, Obj: aMutex}
	notThere  = api.Need{Kind: api.Lock, Obj: 16}
	otherKind = api.Need{Kind: api.Lock, Obj: aRw}
	tooMuch   = api.Need{Kind: api.Down, Obj: aSem, N: 4}
)

// none are numbers of no kind: those next to the ends, and those that fewer bits would take for a kind.
var none = []int{math.MinInt, math.MinInt + 1, math.MinInt + 5, -1<<32 + 1, -1 << 31, -1<<31 + 4, -1<<16 + 3, -256 + 5, -256 + 1, -256, -8, -5, -4, -3, -2, -1,
	0, 6, 7, 8, 8 + 1, 15, 16 + 1, 32 + 2, 64 + 3, 128 + 5, 255, 256, 256 + 1, 256 + 4, 256 + 5, 1<<16 + 2, 1 << 31, 1<<31 + 5, 1 << 32, 1<<32 + 1, 1<<32 + 4, 1<<32 + 5, math.MaxInt - 1, math.MaxInt}

// numbers are those at the edges of what a need may ask, next to them, and such as fewer bits would take for others.
var numbers = []int{math.MinInt, math.MinInt + 1, -1 << 32, -1<<32 + 1, -1<<31 - 1, -1 << 31, -1000, -256, -255, -2, -1,
	0, 1, 2, 3, 4, 5, 127, 128, 256, 257, 999, 1000, 1001, 1<<16 + 1, 1<<31 - 1, 1 << 31, 1<<31 + 1, 1 << 32, 1<<32 + 1, 1<<32 + 1000, 1 << 62, math.MaxInt - 1, math.MaxInt}

// missing are numbers of objects that are not there, whatever objects there may be.
var missing = []int{math.MinInt, math.MinInt + 1, -1 << 32, -1<<32 + 1, -1 << 31, -256, -255, -2, -1, 32, 64, 256, 257, 1 << 16, 1<<31 - 1, 1 << 31, 1 << 32, 1<<32 + 1, math.MaxInt - 1, math.MaxInt}

const nine = "\xff\xff\xff\xff\xff\xff\xff\xff\xff"

// wrongNeed is what is wrong with one need, as the chapter says it.
func wrongNeed(d []api.Decl, n api.Need) api.Errno {
	if n.Kind < 1 || n.Kind > 5 {
		return api.ErrKind
	}
	if n.Obj < 0 || n.Obj >= len(d) {
		return api.ErrArg
	}
	o := d[n.Obj]
	may := false
	switch n.Kind {
	case 1:
		may = o.Kind == 1 && n.N == 0
	case 2, 3:
		may = o.Kind == 2 && n.N == 0
	case 4:
		may = o.Kind == 3 && n.N >= 1 && n.N <= o.B
	case 5:
		may = o.Kind == 6 && n.N >= 1 && n.N <= o.A
	}
	if !may {
		return api.ErrArg
	}
	return api.OK
}

// wrongWay is what is wrong with one way.
func wrongWay(d []api.Decl, way []api.Need) api.Errno {
	if len(way) == 0 {
		return api.ErrForm
	}
	if len(way) > 4 {
		return api.ErrLong
	}
	for _, n := range way {
		if e := wrongNeed(d, n); e != api.OK {
			return e
		}
	}
	for k, n := range way {
		for _, m := range way[:k] {
			if m.Obj == n.Obj || m.Kind == 4 || n.Kind == 4 {
				return api.ErrForm
			}
		}
	}
	return api.OK
}

// wrong is what is wrong with a wait.
func wrong(d []api.Decl, w [][]api.Need) api.Errno {
	if len(w) == 0 {
		return api.ErrForm
	}
	if len(w) > 4 {
		return api.ErrLong
	}
	for _, way := range w {
		if e := wrongWay(d, way); e != api.OK {
			return e
		}
	}
	return api.OK
}

// written is the bytes of a wait that may be, by the library's numbers.
func written(w [][]api.Need) string {
	b := []byte{byte(len(w))}
	for _, way := range w {
		b = append(b, byte(len(way)))
		for _, n := range way {
			b = append(b, byte(n.Kind))
			b = binary.AppendUvarint(b, uint64(n.Obj))
			if n.Kind > 3 {
				b = binary.AppendUvarint(b, uint64(n.N))
			}
		}
	}
	return string(b)
}

// num is a number that is read; all that no int has room for is the same, and in no range.
func num(i *octet.In) int {
	if n := i.Num(); n <= math.MaxInt {
		return int(n)
	}
	return math.MaxInt
}

// readNeed is one need that is read.
func readNeed(i *octet.In) (api.Need, api.Errno) {
	n := api.Need{Kind: i.Byte()}
	if i.Err() == api.OK && (n.Kind < 1 || n.Kind > 5) {
		return n, api.ErrKind
	}
	n.Obj = num(i)
	if n.Kind == 4 || n.Kind == 5 {
		n.N = num(i)
	}
	return n, i.Err()
}

// readWays is ways that are read, whether they may be or not.
func readWays(i *octet.In) ([][]api.Need, api.Errno) {
	var w [][]api.Need
	ways := num(i)
	if i.Err() == api.OK && ways > 4 {
		return nil, api.ErrLong
	}
	for range ways {
		var way []api.Need
		needs := num(i)
		if i.Err() == api.OK && needs > 4 {
			return nil, api.ErrLong
		}
		for range needs {
			n, e := readNeed(i)
			if e != api.OK {
				return nil, e
			}
			way = append(way, n)
		}
		w = append(w, way)
	}
	return w, i.Err()
}

// reading is what Get should answer.
func reading(d []api.Decl, s string) ([][]api.Need, int, api.Errno) {
	i := octet.Open(s)
	w, e := readWays(i)
	if e == api.OK {
		e = wrong(d, w)
	}
	if e != api.OK {
		return nil, 0, e
	}
	return w, len(s) - i.Left(), api.OK
}

// equal tells whether two waits are the same.
func equal(v, w [][]api.Need) bool { return slices.EqualFunc(v, w, slices.Equal) }

// roomy is a list with spare room in which something stands.
func roomy[T any](l []T, spare T) []T { return append(slices.Clone(l), spare, spare) }

// kept fails, if what is done with objects and a wait changes them, or their spare room.
func kept(t *testing.T, d []api.Decl, w [][]api.Need, do func(d []api.Decl, w [][]api.Need)) {
	t.Helper()
	laid := func() ([]api.Decl, [][]api.Need) {
		ways := roomy(w, []api.Need{lock3})
		for k := range ways {
			ways[k] = roomy(ways[k], api.Need{Kind: 77, Obj: 78, N: 79})
		}
		return roomy(d, api.Decl{Kind: 80, A: 81, B: 82}), ways
	}
	objects, ways := laid()
	objectsWere, waysWere := laid()
	short := slices.Clone(ways)
	for k := range short {
		short[k] = ways[k][:len(ways[k])-2]
	}
	shortWere := slices.Clone(short)
	do(objects[:len(d)], short[:len(w)])
	for k := range short {
		if len(short[k]) != len(shortWere[k]) || len(short[k]) > 0 && &short[k][0] != &shortWere[k][0] {
			t.Errorf("%v: way %d is another one", w, k)
		}
	}
	if !slices.Equal(objects, objectsWere) || !equal(ways, waysWere) {
		t.Errorf("%v, %v became %v, %v", objectsWere, waysWere, objects, ways)
	}
}

// checks fails, if Check tells anything but what should be, or if Put does not tell the same.
func checks(t *testing.T, d []api.Decl, w [][]api.Need, want api.Errno) {
	t.Helper()
	kept(t, d, w, func(d []api.Decl, w [][]api.Need) {
		if e := need.Check(d, w); e != want {
			t.Errorf("check of %v with %v: %v, not %v", w, d, e, want)
		}
	})
	kept(t, d, w, func(d []api.Decl, w [][]api.Need) {
		if s, e := need.Put(d, w); e != want || (e == api.OK) != (s != "") {
			t.Errorf("put of %v with %v: %x, %v, not %v", w, d, s, e, want)
		}
	})
}

// checksWay fails, if Check of a way tells anything but what should be, wherever it stands.
func checksWay(t *testing.T, d []api.Decl, want api.Errno, l ...api.Need) {
	t.Helper()
	checks(t, d, [][]api.Need{l}, want)
	for at := range 4 {
		w := slices.Repeat([][]api.Need{{{Kind: api.Lock, Obj: 0}}}, 4)
		w[at] = l
		if len(d) > 0 && d[0].Kind == api.Mutex {
			checks(t, d, w, want)
		}
	}
}

// puts fails, if a wait is not put as these bytes, or is not what is got of them.
func puts(t *testing.T, d []api.Decl, w [][]api.Need, want string) {
	t.Helper()
	kept(t, d, w, func(d []api.Decl, w [][]api.Need) {
		if got, e := need.Put(d, w); got != want || e != api.OK {
			t.Errorf("put of %v: %x, %v, not %x", w, got, e, want)
		}
	})
	gets(t, d, want, w, len(want), api.OK)
}

// gets fails, if Get tells anything but what should be.
func gets(t *testing.T, d []api.Decl, s string, want [][]api.Need, many int, err api.Errno) {
	t.Helper()
	kept(t, d, nil, func(d []api.Decl, _ [][]api.Need) {
		if w, n, e := need.Get(d, s); !equal(w, want) || n != many || e != err {
			t.Errorf("get of %x: %v, %d, %v, not %v, %d, %v", s, w, n, e, want, many, err)
		}
	})
}

// refused fails, if Get tells anything but an error.
func refused(t *testing.T, s string, err api.Errno) {
	t.Helper()
	gets(t, all(), s, nil, 0, err)
}

func TestTheObjectsMayBe(t *testing.T) {
	if k, e := decl.Check(all()); e != api.OK {
		t.Fatalf("object %d: %v", k, e)
	}
}

// P9.1

func TestEachKindOfNeedWithEachKindOfObject(t *testing.T) {
	fit := map[int][]int{api.Lock: {api.Mutex}, api.Read: {api.Rw}, api.Write: {api.Rw}, api.Down: {api.Sem}, api.Take: {api.Pool}}
	for kind := api.Lock; kind <= api.Take; kind++ {
		for obj, o := range all() {
			for _, n := range numbers {
				want := api.ErrArg
				if slices.Contains(fit[kind], o.Kind) && (kind < api.Down && n == 0 || kind == api.Down && n >= 1 && n <= o.B || kind == api.Take && n >= 1 && n <= o.A) {
					want = api.OK
				}
				if e := need.Check(all(), [][]api.Need{{{Kind: kind, Obj: obj, N: n}}}); e != want {
					t.Errorf("kind %d, %s, %d: %v, not %v", kind, decl.Name(o.Kind), n, e, want)
				}
			}
		}
	}
	for _, n := range []api.Need{lock, read, write, down, take} {
		checksWay(t, all(), api.OK, n)
	}
}

func TestAWriteAndAReadOfEachRw(t *testing.T) {
	for _, kind := range []int{api.Read, api.Write} {
		for _, obj := range []int{aRw, otherRw} {
			checksWay(t, all(), api.OK, api.Need{Kind: kind, Obj: obj})
		}
	}
}

func TestAWayIsSeveralNeedsAndAWaitSeveralWays(t *testing.T) {
	checksWay(t, all(), api.OK, lock, read, write, take)
	checks(t, all(), [][]api.Need{{lock, take}, {down}, {read}, {write, lock, take2}}, api.OK)
}

// P9.2

func TestNoWays(t *testing.T) {
	for _, d := range [][]api.Decl{nil, {}, all()} {
		for _, w := range [][][]api.Need{nil, {}} {
			if e := need.Check(d, w); e != api.ErrForm {
				t.Errorf("check of no ways: %v", e)
			}
			if s, e := need.Put(d, w); s != "" || e != api.ErrForm {
				t.Errorf("put of no ways: %x, %v", s, e)
			}
		}
	}
}

func TestHowManyWaysThereMayBe(t *testing.T) {
	for _, n := range []api.Need{lock, read, write, down, take} {
		for many, want := range []api.Errno{api.ErrForm, api.OK, api.OK, api.OK, api.OK, api.ErrLong, api.ErrLong, api.ErrLong, api.ErrLong} {
			checks(t, all(), slices.Repeat([][]api.Need{{n}}, many), want)
		}
		for _, many := range []int{255, 256, 257, 1<<16 + 1} {
			checks(t, all(), slices.Repeat([][]api.Need{{n}}, many), api.ErrLong)
		}
	}
}

func TestNoNeeds(t *testing.T) {
	for _, l := range [][]api.Need{nil, {}} {
		for many := 1; many <= 4; many++ {
			for at := range many {
				w := slices.Repeat([][]api.Need{{lock}}, many)
				w[at] = l
				if e := need.Check(all(), w); e != api.ErrForm {
					t.Errorf("check of way %d of %d without needs: %v", at, many, e)
				}
				if s, e := need.Put(all(), w); s != "" || e != api.ErrForm {
					t.Errorf("put of way %d of %d without needs: %x, %v", at, many, s, e)
				}
			}
			checks(t, all(), slices.Repeat([][]api.Need{l}, many), api.ErrForm)
			checks(t, nil, slices.Repeat([][]api.Need{l}, many), api.ErrForm)
		}
	}
}

func TestHowManyNeedsThereMayBe(t *testing.T) {
	l := []api.Need{lock, lock2, lock3, {Kind: api.Lock, Obj: fourthMutex}, {Kind: api.Lock, Obj: fifthMutex}, read, write, take, take2}
	for many, want := range []api.Errno{api.ErrForm, api.OK, api.OK, api.OK, api.OK, api.ErrLong, api.ErrLong, api.ErrLong, api.ErrLong} {
		checksWay(t, all(), want, l[:many]...)
	}
	for _, many := range []int{255, 256, 257, 258, 1<<16 + 1} {
		checksWay(t, all(), api.ErrLong, slices.Repeat([]api.Need{lock}, many)...)
	}
	checks(t, all(), slices.Repeat([][]api.Need{l[:4]}, 4), api.OK)
	checks(t, all(), slices.Repeat([][]api.Need{l[:5]}, 4), api.ErrLong)
}

func TestObjectsThatAreNotThere(t *testing.T) {
	d := all()
	for kind := api.Lock; kind <= api.Take; kind++ {
		for _, n := range numbers {
			for _, obj := range append(slices.Clone(missing), len(d), len(d)+1) {
				w := [][]api.Need{{{Kind: kind, Obj: obj, N: n}}}
				if e := need.Check(d, w); e != api.ErrArg {
					t.Errorf("check of %v: %v", w, e)
				}
				if s, e := need.Put(d, w); s != "" || e != api.ErrArg {
					t.Errorf("put of %v: %x, %v", w, s, e)
				}
			}
		}
		for _, obj := range append(slices.Clone(missing), 0, 1, 31) {
			checks(t, nil, [][]api.Need{{{Kind: kind, Obj: obj, N: kind / api.Down}}}, api.ErrArg)
			checks(t, []api.Decl{}, [][]api.Need{{{Kind: kind, Obj: obj, N: kind / api.Down}}}, api.ErrArg)
		}
	}
}

func TestEachPlaceOfAsManyObjectsAsThereMayBe(t *testing.T) {
	for _, x := range []struct {
		o api.Decl
		n api.Need
	}{
		{api.Decl{Kind: api.Mutex}, api.Need{Kind: api.Lock}}, {api.Decl{Kind: api.Rw}, api.Need{Kind: api.Read}}, {api.Decl{Kind: api.Rw}, api.Need{Kind: api.Write}},
		{api.Decl{Kind: api.Sem, B: 7}, api.Need{Kind: api.Down, N: 7}}, {api.Decl{Kind: api.Pool, A: 7}, api.Need{Kind: api.Take, N: 7}},
	} {
		for at := range 32 {
			d := slices.Repeat([]api.Decl{{Kind: api.Cond}}, 32)
			d[at] = x.o
			for obj := range 32 {
				n := x.n
				n.Obj = obj
				want := api.ErrArg
				if obj == at {
					want = api.OK
				}
				if e := need.Check(d, [][]api.Need{{n}}); e != want {
					t.Errorf("%v, object %d there: %v, not %v", n, at, e, want)
				}
			}
			n := x.n
			n.Obj = at
			checks(t, d[:at], [][]api.Need{{n}}, api.ErrArg)
			checks(t, d[:at+1], [][]api.Need{{n}}, api.OK)
		}
	}
}

func TestNoKind(t *testing.T) {
	d := all()
	for _, kind := range none {
		for _, obj := range append(slices.Clone(missing), aMutex, aRw, aSem, aCond, aBar, aPool, aCell, len(d)) {
			for _, n := range numbers {
				w := [][]api.Need{{{Kind: kind, Obj: obj, N: n}}}
				if e := need.Check(d, w); e != api.ErrKind {
					t.Errorf("check of %v: %v", w, e)
				}
				if e := need.Check(nil, w); e != api.ErrKind {
					t.Errorf("check of %v without objects: %v", w, e)
				}
			}
			checksWay(t, d, api.ErrKind, api.Need{Kind: kind, Obj: obj})
		}
	}
}

func TestHowMuchANeedAsks(t *testing.T) {
	for _, x := range []struct {
		kind, obj, n int
		want         api.Errno
	}{
		{api.Lock, aMutex, -1, api.ErrArg}, {api.Lock, aMutex, 0, api.OK}, {api.Lock, aMutex, 1, api.ErrArg}, {api.Lock, aMutex, 1 << 32, api.ErrArg},
		{api.Read, aRw, -1, api.ErrArg}, {api.Read, aRw, 0, api.OK}, {api.Read, aRw, 1, api.ErrArg}, {api.Read, aRw, 256, api.ErrArg},
		{api.Write, aRw, -1, api.ErrArg}, {api.Write, aRw, 0, api.OK}, {api.Write, aRw, 1, api.ErrArg}, {api.Write, aRw, math.MinInt, api.ErrArg},
		{api.Down, aSem, -1, api.ErrArg}, {api.Down, aSem, 0, api.ErrArg}, {api.Down, aSem, 1, api.OK}, {api.Down, aSem, 2, api.OK}, {api.Down, aSem, 3, api.OK}, {api.Down, aSem, 4, api.ErrArg}, {api.Down, aSem, 1<<32 + 1, api.ErrArg},
		{api.Down, greatSem, 0, api.ErrArg}, {api.Down, greatSem, 1, api.OK}, {api.Down, greatSem, 999, api.OK}, {api.Down, greatSem, 1000, api.OK}, {api.Down, greatSem, 1001, api.ErrArg},
		{api.Down, leastSem, 0, api.ErrArg}, {api.Down, leastSem, 1, api.OK}, {api.Down, leastSem, 2, api.ErrArg}, {api.Down, leastSem, math.MaxInt, api.ErrArg},
		{api.Take, aPool, -1, api.ErrArg}, {api.Take, aPool, 0, api.ErrArg}, {api.Take, aPool, 1, api.OK}, {api.Take, aPool, 3, api.OK}, {api.Take, aPool, 4, api.OK}, {api.Take, aPool, 5, api.ErrArg}, {api.Take, aPool, 1<<32 + 1, api.ErrArg},
		{api.Take, greatPool, 0, api.ErrArg}, {api.Take, greatPool, 1, api.OK}, {api.Take, greatPool, 999, api.OK}, {api.Take, greatPool, 1000, api.OK}, {api.Take, greatPool, 1001, api.ErrArg},
		{api.Take, leastPool, 0, api.ErrArg}, {api.Take, leastPool, 1, api.OK}, {api.Take, leastPool, 2, api.ErrArg}, {api.Take, leastPool, math.MinInt, api.ErrArg},
	} {
		checksWay(t, all(), x.want, api.Need{Kind: x.kind, Obj: x.obj, N: x.n})
	}
}

func TestAnObjectThatStandsTwiceInAWay(t *testing.T) {
	readOther := api.Need{Kind: api.Read, Obj: otherRw}
	less := api.Need{Kind: api.Take, Obj: aPool, N: 1}
	for _, l := range [][]api.Need{
		{lock, lock}, {read, read}, {write, write}, {take, take}, {take, less}, {less, take}, {write, readOther}, {readOther, write},
		{lock, read, lock}, {lock, lock, read}, {read, lock, lock}, {write, lock, take, readOther}, {lock, read, write, lock}, {take, lock, read, less},
		{lock, lock, lock}, {lock, lock, lock, lock}, {readOther, lock, write}, {lock, take2, lock2, lock2},
	} {
		checksWay(t, all(), api.ErrForm, l...)
	}
}

func TestADownThatStandsNotAlone(t *testing.T) {
	for _, n := range []api.Need{lock, read, write, take, take2, down2, down} {
		checksWay(t, all(), api.ErrForm, down, n)
		checksWay(t, all(), api.ErrForm, n, down)
	}
	for _, l := range [][]api.Need{{down, lock, read}, {lock, down, read}, {lock, read, down}, {lock, read, write, down}, {down, down2, lock, read}, {down2, lock, take, write}} {
		checksWay(t, all(), api.ErrForm, l...)
	}
}

func TestTheSameInAnotherWay(t *testing.T) {
	readOther := api.Need{Kind: api.Read, Obj: otherRw}
	for _, w := range [][][]api.Need{
		{{lock}, {lock}}, {{read}, {read}, {read}, {read}}, {{write}, {readOther}}, {{take}, {take, lock}}, {{down}, {down}}, {{down}, {down2}, {down}},
		{{down}, {lock}}, {{lock}, {down}}, {{lock, take}, {down}, {take, lock}, {down2}}, {{lock, read, write, take}, {lock, read, write, take}, {take, write, read, lock}, {lock, read, readOther, take}},
	} {
		checks(t, all(), w, api.OK)
	}
}

func TestWhichErrorOfCheckComesFirst(t *testing.T) {
	five := []api.Need{lock, lock2, lock3, read, write}
	fiveBad := []api.Need{badKind, badKind, badKind, badKind, badKind}
	for _, x := range []struct {
		w    [][]api.Need
		want api.Errno
	}{
		// How many ways there are, ahead of what is wrong with them.
		{[][]api.Need{{}, {lock}, {lock}, {lock}, {lock}}, api.ErrLong}, {[][]api.Need{{badKind}, {}, {}, {}, {}}, api.ErrLong}, {[][]api.Need{{notThere}, {lock}, {lock}, {lock}, {lock, lock}}, api.ErrLong},
		// How many needs there are, ahead of what is wrong with them.
		{[][]api.Need{fiveBad}, api.ErrLong}, {[][]api.Need{{lock, lock, lock, lock, lock}}, api.ErrLong}, {[][]api.Need{{down, notThere, tooMuch, lock, lock}}, api.ErrLong},
		// One need behind the other; of one its kind ahead of its object and number.
		{[][]api.Need{{badKind, notThere}}, api.ErrKind}, {[][]api.Need{{notThere, badKind}}, api.ErrArg}, {[][]api.Need{{lock, badKind, otherKind}}, api.ErrKind}, {[][]api.Need{{lock, otherKind, badKind}}, api.ErrArg}, {[][]api.Need{{tooMuch, badKind}}, api.ErrArg},
		{[][]api.Need{{{Kind: 0, Obj: -1, N: -1}}}, api.ErrKind}, {[][]api.Need{{{Kind: api.Lock, Obj: -1, N: -1}}}, api.ErrArg},
		// Each need ahead of what a way has twice.
		{[][]api.Need{{lock, lock, badKind}}, api.ErrKind}, {[][]api.Need{{lock, lock, notThere}}, api.ErrArg}, {[][]api.Need{{down, lock, badKind}}, api.ErrKind}, {[][]api.Need{{down, tooMuch}}, api.ErrArg},
		{[][]api.Need{{badKind, badKind}}, api.ErrKind}, {[][]api.Need{{notThere, notThere}}, api.ErrArg}, {[][]api.Need{{down, down2, lock, otherKind}}, api.ErrArg},
		// One way behind the other.
		{[][]api.Need{{}, {badKind}}, api.ErrForm}, {[][]api.Need{{badKind}, {}}, api.ErrKind}, {[][]api.Need{{}, five}, api.ErrForm}, {[][]api.Need{five, {}}, api.ErrLong}, {[][]api.Need{{lock, lock}, {badKind}}, api.ErrForm}, {[][]api.Need{{lock, lock}, five}, api.ErrForm},
		{[][]api.Need{{down, lock}, {notThere}}, api.ErrForm}, {[][]api.Need{{notThere}, {down, lock}}, api.ErrArg}, {[][]api.Need{{notThere}, fiveBad}, api.ErrArg}, {[][]api.Need{fiveBad, {notThere}}, api.ErrLong}, {[][]api.Need{{lock}, {otherKind}, {badKind}, {}}, api.ErrArg}, {[][]api.Need{{lock}, {read}, {badKind}, five}, api.ErrKind},
	} {
		checks(t, all(), x.w, x.want)
		if e := wrong(all(), x.w); e != x.want {
			t.Errorf("of %v the tests' own reading is %v, not %v", x.w, e, x.want)
		}
	}
}

// some are needs that may be and such as may not, of most kinds and objects.
var some = []api.Need{lock, read, {Kind: api.Read, Obj: otherRw}, write, down, down2, take, {Kind: api.Take, Obj: aPool, N: 1}, badKind, notThere, tooMuch, {Kind: api.Lock, Obj: aMutex, N: 1}}

// eachWay calls something with all ways of the needs of some, of none to as many as most.
func eachWay(most int, do func(l []api.Need)) {
	var more func(l []api.Need)
	more = func(l []api.Need) {
		do(l)
		if len(l) == most {
			return
		}
		for _, n := range some {
			more(append(slices.Clone(l), n))
		}
	}
	more(nil)
}

func TestAllWaysOfSomeNeeds(t *testing.T) {
	d := all()
	many := 0
	eachWay(4, func(l []api.Need) {
		want := wrongWay(d, l)
		if e := need.Check(d, [][]api.Need{l}); e != want {
			t.Fatalf("check of %v: %v, not %v", l, e, want)
		}
		if want == api.OK {
			many++
		}
	})
	if many < 50 {
		t.Errorf("just %d may be", many)
	}
}

func TestAllWaitsOfSomeWays(t *testing.T) {
	d := all()
	var l [][]api.Need
	eachWay(2, func(way []api.Need) { l = append(l, way) })
	l = append(l, slices.Repeat([]api.Need{badKind}, 5), []api.Need{lock, read, write, take})
	for _, one := range l {
		for _, two := range l {
			w := [][]api.Need{one, two}
			want := wrong(d, w)
			if e := need.Check(d, w); e != want {
				t.Fatalf("check of %v: %v, not %v", w, e, want)
			}
			s, e := need.Put(d, w)
			if e != want || e != api.OK && s != "" || e == api.OK && s != written(w) {
				t.Fatalf("put of %v: %x, %v, not %v", w, s, e, want)
			}
		}
	}
}

func TestNoPanicWithObjectsThatMayNotBe(t *testing.T) {
	w := [][]api.Need{{lock}, {read, write}, {down}, {take}}
	for _, kind := range append(slices.Clone(none), 1, 2, 3, 4, 5, 6, 7) {
		for _, n := range []int{math.MinInt, -1, 0, 1, 1001, math.MaxInt} {
			for _, many := range []int{1, 9, 33, 300} {
				d := slices.Repeat([]api.Decl{{Kind: kind, A: n, B: n}}, many)
				need.Check(d, w)
				need.Put(d, w)
				need.Get(d, "\x01\x04\x01\x00\x02\x41\x03\x80\x02\x05\x05\x01")
				for k := api.Lock; k <= api.Take; k++ {
					need.Check(d, [][]api.Need{{{Kind: k, Obj: many - 1, N: n}, {Kind: k, Obj: many - 1, N: n}}})
				}
			}
		}
	}
}

// P9.3

func TestByteByByte(t *testing.T) {
	for _, x := range []struct {
		w    [][]api.Need
		want string
	}{
		{[][]api.Need{{lock}}, "\x01\x01\x01\x00"},
		{[][]api.Need{{read}}, "\x01\x01\x02\x01"},
		{[][]api.Need{{write}}, "\x01\x01\x03\x08"},
		{[][]api.Need{{down}}, "\x01\x01\x04\x02\x02"},
		{[][]api.Need{{take}}, "\x01\x01\x05\x05\x04"},
		{[][]api.Need{{{Kind: api.Down, Obj: greatSem, N: 1}}}, "\x01\x01\x04\x09\x01"},
		{[][]api.Need{{{Kind: api.Down, Obj: greatSem, N: 127}}}, "\x01\x01\x04\x09\x7f"},
		{[][]api.Need{{{Kind: api.Down, Obj: greatSem, N: 128}}}, "\x01\x01\x04\x09\x80\x01"},
		{[][]api.Need{{{Kind: api.Down, Obj: greatSem, N: 300}}}, "\x01\x01\x04\x09\xac\x02"},
		{[][]api.Need{{{Kind: api.Down, Obj: greatSem, N: 1000}}}, "\x01\x01\x04\x09\xe8\x07"},
		{[][]api.Need{{{Kind: api.Take, Obj: greatPool, N: 127}}}, "\x01\x01\x05\x0a\x7f"},
		{[][]api.Need{{{Kind: api.Take, Obj: greatPool, N: 128}}}, "\x01\x01\x05\x0a\x80\x01"},
		{[][]api.Need{{{Kind: api.Take, Obj: greatPool, N: 1000}}}, "\x01\x01\x05\x0a\xe8\x07"},
		{[][]api.Need{{lock, read, write, take}}, "\x01\x04\x01\x00\x02\x01\x03\x08\x05\x05\x04"},
		{[][]api.Need{{take, lock}, {down}, {read}}, "\x03\x02\x05\x05\x04\x01\x00\x01\x04\x02\x02\x01\x02\x01"},
		{[][]api.Need{{lock}, {lock}, {lock}, {lock}}, "\x04\x01\x01\x00\x01\x01\x00\x01\x01\x00\x01\x01\x00"},
		{[][]api.Need{{lock, lock2}, {lock2, lock}}, "\x02\x02\x01\x00\x01\x07\x02\x01\x07\x01\x00"},
		{[][]api.Need{{take2, {Kind: api.Take, Obj: leastPool, N: 1}, take}, {{Kind: api.Down, Obj: leastSem, N: 1}}}, "\x02\x03\x05\x0a\x01\x05\x0c\x01\x05\x05\x04\x01\x04\x0b\x01"},
	} {
		puts(t, all(), x.w, x.want)
		if s := written(x.w); s != x.want {
			t.Errorf("of %v the tests' own bytes are %x, not %x", x.w, s, x.want)
		}
	}
}

func TestTheChaptersExample(t *testing.T) {
	d := []api.Decl{{Kind: api.Mutex}, {Kind: api.Sem, B: 1}, {Kind: api.Pool, A: 3}}
	w := [][]api.Need{{{Kind: api.Lock, Obj: 0}, {Kind: api.Take, Obj: 2, N: 3}}, {{Kind: api.Down, Obj: 1, N: 1}}}
	puts(t, d, w, "\x02\x02\x01\x00\x05\x02\x03\x01\x04\x01\x01")
	texts(t, w, "lock 0 + take 2:3 | down 1:1")
}

func TestTheLastOfAsManyObjectsAsThereMayBe(t *testing.T) {
	d := slices.Repeat([]api.Decl{{Kind: api.Pool, A: 1000}}, 32)
	puts(t, d, [][]api.Need{{{Kind: api.Take, Obj: 31, N: 1000}, {Kind: api.Take, Obj: 30, N: 1}}}, "\x01\x02\x05\x1f\xe8\x07\x05\x1e\x01")
}

func TestPutOfAWaitThatMayNotBe(t *testing.T) {
	for _, x := range []struct {
		w    [][]api.Need
		want api.Errno
	}{
		{nil, api.ErrForm}, {[][]api.Need{{}}, api.ErrForm}, {[][]api.Need{{lock}, {}}, api.ErrForm}, {slices.Repeat([][]api.Need{{lock}}, 5), api.ErrLong}, {[][]api.Need{slices.Repeat([]api.Need{lock}, 5)}, api.ErrLong},
		{[][]api.Need{{lock}, {badKind}}, api.ErrKind}, {[][]api.Need{{lock, notThere}}, api.ErrArg}, {[][]api.Need{{lock}, {otherKind}}, api.ErrArg}, {[][]api.Need{{down}, {tooMuch}}, api.ErrArg}, {[][]api.Need{{lock}, {take, take}}, api.ErrForm}, {[][]api.Need{{lock, down}}, api.ErrForm},
	} {
		if s, e := need.Put(all(), x.w); s != "" || e != x.want {
			t.Errorf("put of %v: %x, %v, not %v", x.w, s, e, x.want)
		}
	}
}

// behind are bytes of which none belongs to what stands ahead of them.
var behind = []string{"", "\x00", "\x01", "\x05", "\x06", "\x7f", "\x80", "\xff", "\x80\x00", "\x01\x01\x00", nine + "\xff", strings.Repeat("\x01", 500)}

func TestGetOfWhatWasPut(t *testing.T) {
	for _, w := range [][][]api.Need{
		{{lock}}, {{read}}, {{write}}, {{down}}, {{take}}, {{down2}, {down}}, {{lock, take}, {down}}, {{lock, read, write, take}, {take2}, {down}, {lock2, lock3}},
		{{{Kind: api.Take, Obj: greatPool, N: 1000}, lock}}, {{{Kind: api.Down, Obj: greatSem, N: 128}}, {lock}}, slices.Repeat([][]api.Need{{take, read, lock2, write}}, 4),
	} {
		s, e := need.Put(all(), w)
		if e != api.OK {
			t.Errorf("put of %v: %v", w, e)
		}
		for _, rest := range behind {
			gets(t, all(), s+rest, w, len(s), api.OK)
		}
	}
}

func TestGetOfNothing(t *testing.T) {
	refused(t, "", api.ErrEnd)
	gets(t, nil, "", nil, 0, api.ErrEnd)
}

// tooGreat are counts above 4; fewer bits would take some of them for less.
var tooGreat = []uint64{5, 6, 32, 127, 128, 255, 256, 257, 260, 1<<16 + 1, 1<<31 - 1, 1 << 31, 1<<31 + 1, 1<<32 - 1, 1 << 32, 1<<32 + 1, 1<<32 + 4, 1 << 62, 1<<63 - 1, 1 << 63, 1<<63 + 1, 1<<63 + 4, math.MaxUint64 - 1, math.MaxUint64}

func TestGetOfACountThatIsTooGreat(t *testing.T) {
	for _, n := range tooGreat {
		count := string(binary.AppendUvarint(nil, n))
		for _, rest := range append(slices.Clone(behind), strings.Repeat("\x01\x01\x00", 10)) {
			refused(t, count+rest, api.ErrLong)
			refused(t, "\x01"+count+rest, api.ErrLong)
			refused(t, "\x02\x01\x01\x00"+count+rest, api.ErrLong)
			refused(t, "\x04\x01\x01\x00\x01\x01\x00\x01\x01\x00"+count+rest, api.ErrLong)
			// What comes ahead may not be, but the count is told first.
			refused(t, "\x02\x00"+count+rest, api.ErrLong)
			refused(t, "\x02\x01\x01\x1f"+count+rest, api.ErrLong)
			refused(t, "\x02\x02\x01\x00\x01\x00"+count+rest, api.ErrLong)
		}
	}
}

func TestGetOfTheGreatestCount(t *testing.T) {
	gets(t, all(), "\x04\x01\x01\x00\x01\x01\x00\x01\x01\x00\x01\x01\x00\x01\x01\x00", slices.Repeat([][]api.Need{{lock}}, 4), 13, api.OK)
	refused(t, "\x05\x01\x01\x00\x01\x01\x00\x01\x01\x00\x01\x01\x00\x01\x01\x00", api.ErrLong)
	gets(t, all(), "\x01\x04\x01\x00\x01\x07\x01\x0d\x01\x0e\x01\x0f", [][]api.Need{{lock, lock2, lock3, {Kind: api.Lock, Obj: fourthMutex}}}, 10, api.OK)
	refused(t, "\x01\x05\x01\x00\x01\x07\x01\x0d\x01\x0e\x01\x0f", api.ErrLong)
}

func TestGetOfACountOf0(t *testing.T) {
	for _, rest := range behind {
		refused(t, "\x00"+rest, api.ErrForm)
		refused(t, "\x01\x00"+rest, api.ErrForm)
		refused(t, "\x02\x01\x01\x00\x00"+rest, api.ErrForm)
		refused(t, "\x02\x00\x01\x01\x00"+rest, api.ErrForm)
		refused(t, "\x04\x00\x00\x00\x00"+rest, api.ErrForm)
	}
	refused(t, "\x04\x00\x00\x00", api.ErrEnd)
	refused(t, "\x02\x00", api.ErrEnd)
	refused(t, "\x02\x00\x05", api.ErrLong)
	refused(t, "\x02\x00\x01\x06", api.ErrKind)
	refused(t, "\x02\x00\x01\x01\x1f", api.ErrForm)
}

// misput are numbers that are not in as few bytes as there may be, or have too many bits.
var misput = []string{"\x80\x00", "\x81\x00", "\x84\x00", "\xff\x00", "\x80\x80\x00", "\x81\x80\x00", "\xff\xff\xff\xff\x00", nine[:8] + "\x00",
	nine + "\x00", nine + "\x02", nine + "\x7f", nine + "\x80", nine + "\x80\x01", nine + "\xff\x01"}

// cut are numbers that end too early.
var cut = []string{"", "\x80", "\x81", "\xff", "\x80\x80", "\xff\xff\xff\xff", nine[:8], nine}

// heads are bytes behind which a number must stand: a count, an object, or how much is asked of it.
var heads = []string{"", "\x01", "\x02\x01\x01\x00", "\x02\x00", "\x02\x01\x01\x1f", "\x01\x01\x01", "\x01\x01\x02", "\x01\x01\x03", "\x01\x01\x04", "\x01\x01\x05", "\x01\x01\x04\x02", "\x01\x01\x05\x05", "\x01\x01\x04\x7f", "\x01\x01\x05\x00",
	"\x01\x02\x01\x00\x05", "\x01\x02\x01\x00\x05\x05", "\x01\x02\x01\x00\x01", "\x02\x01\x04\x02\x01\x01\x05\x05", "\x02\x02\x01\x00\x01\x00\x01\x04\x02", "\x03\x01\x04\x02\x7f\x01\x01\x10\x01\x03"}

func TestGetOfNumbersThatAreNotWrittenSo(t *testing.T) {
	for _, h := range heads {
		for _, s := range misput {
			for _, rest := range behind {
				refused(t, h+s+rest, api.ErrForm)
			}
		}
	}
}

func TestGetOfBytesThatEndTooEarly(t *testing.T) {
	for _, h := range heads {
		for _, s := range cut {
			refused(t, h+s, api.ErrEnd)
		}
	}
	for _, s := range []string{"\x01\x01", "\x01\x02\x01\x00", "\x01\x02\x05\x05\x04", "\x02\x01\x01\x00\x01", "\x04\x01\x01\x00\x01\x01\x00\x01\x01\x00", "\x01\x04\x01\x00\x01\x07\x01\x0d"} {
		refused(t, s, api.ErrEnd)
	}
	w := [][]api.Need{{lock, read, write, take}, {{Kind: api.Down, Obj: greatSem, N: 1000}}, {take, {Kind: api.Take, Obj: greatPool, N: 128}}}
	whole := "\x03\x04\x01\x00\x02\x01\x03\x08\x05\x05\x04\x01\x04\x09\xe8\x07\x02\x05\x05\x04\x05\x0a\x80\x01"
	for n := range len(whole) {
		refused(t, whole[:n], api.ErrEnd)
	}
	gets(t, all(), whole, w, len(whole), api.OK)
}

func TestGetOfAByteThatIsNoKind(t *testing.T) {
	for n := range 256 {
		if n >= api.Lock && n <= api.Take {
			continue
		}
		kind := string([]byte{byte(n)})
		for _, rest := range behind {
			refused(t, "\x01\x01"+kind+rest, api.ErrKind)
			refused(t, "\x01\x02"+kind+rest, api.ErrKind)
			refused(t, "\x01\x02\x01\x00"+kind+rest, api.ErrKind)
			refused(t, "\x02\x01\x04\x02\x01\x01"+kind+rest, api.ErrKind)
			// What comes ahead may not be, but the kind is told first.
			refused(t, "\x02\x00\x01"+kind+rest, api.ErrKind)
			refused(t, "\x01\x02\x01\x1f"+kind+rest, api.ErrKind)
			refused(t, "\x01\x03\x01\x00\x01\x00"+kind+rest, api.ErrKind)
		}
	}
}

func TestGetOfNumbersThatAreOutOfRange(t *testing.T) {
	for _, n := range []uint64{1001, 1 << 16, 1<<31 - 1, 1 << 31, 1<<31 + 1, 1<<32 - 1, 1 << 32, 1<<32 + 1, 1<<32 + 2, 1<<32 + 5, 1 << 62, 1<<63 - 1, 1 << 63, 1<<63 + 1, 1<<63 + 2, 1<<63 + 1<<32 + 1, math.MaxUint64 - 1, math.MaxUint64} {
		s := string(binary.AppendUvarint(nil, n))
		for _, rest := range behind {
			for _, kind := range []string{"\x01", "\x02", "\x03"} {
				refused(t, "\x01\x01"+kind+s+rest, api.ErrArg)
				refused(t, "\x02\x01"+kind+s+"\x00"+rest, api.ErrArg)
			}
			for _, kind := range []string{"\x04", "\x05"} {
				refused(t, "\x01\x01"+kind+s+"\x01"+rest, api.ErrArg)
				refused(t, "\x01\x01"+kind+s+s+rest, api.ErrArg)
			}
			refused(t, "\x01\x01\x04\x02"+s+rest, api.ErrArg)
			refused(t, "\x01\x01\x04\x09"+s+rest, api.ErrArg)
			refused(t, "\x01\x01\x05\x05"+s+rest, api.ErrArg)
			refused(t, "\x01\x02\x01\x00\x05\x0a"+s+rest, api.ErrArg)
		}
	}
	for _, s := range []string{"\x01\x01\x01\x10", "\x01\x01\x01\x01", "\x01\x01\x02\x00", "\x01\x01\x04\x02\x00", "\x01\x01\x04\x02\x04", "\x01\x01\x05\x05\x00", "\x01\x01\x05\x05\x05", "\x01\x01\x04\x05\x01", "\x01\x01\x05\x02\x01"} {
		for _, rest := range behind {
			refused(t, s+rest, api.ErrArg)
		}
	}
}

func TestGetOfWhatAWayHasTwice(t *testing.T) {
	for _, rest := range behind {
		refused(t, "\x01\x02\x01\x00\x01\x00"+rest, api.ErrForm)
		refused(t, "\x01\x02\x02\x01\x03\x01"+rest, api.ErrForm)
		refused(t, "\x01\x02\x05\x05\x01\x05\x05\x02"+rest, api.ErrForm)
		refused(t, "\x01\x02\x04\x02\x01\x01\x00"+rest, api.ErrForm)
		refused(t, "\x01\x02\x01\x00\x04\x02\x01"+rest, api.ErrForm)
		refused(t, "\x02\x01\x01\x00\x02\x04\x02\x01\x04\x09\x01"+rest, api.ErrForm)
		gets(t, all(), "\x02\x01\x01\x00\x01\x01\x00"+rest, [][]api.Need{{lock}, {lock}}, 7, api.OK)
	}
}

func TestGetWithoutObjects(t *testing.T) {
	for _, d := range [][]api.Decl{nil, {}} {
		gets(t, d, "\x01\x01\x01\x00", nil, 0, api.ErrArg)
		gets(t, d, "\x01\x01\x05\x00\x01", nil, 0, api.ErrArg)
		gets(t, d, "\x01\x00", nil, 0, api.ErrForm)
		gets(t, d, "\x01\x01\x00", nil, 0, api.ErrKind)
		gets(t, d, "\x05", nil, 0, api.ErrLong)
	}
}

func TestWhichErrorOfGetComesFirst(t *testing.T) {
	for _, x := range []struct {
		s    string
		want api.Errno
	}{
		// A count's, ahead of all that stands behind it.
		{"\x05", api.ErrLong}, {"\x05\x00", api.ErrLong}, {"\x05\x80\x00", api.ErrLong}, {"\x85\x00", api.ErrForm}, {nine + "\x02\x01", api.ErrForm}, {"\x85", api.ErrEnd},
		{"\x01\x05", api.ErrLong}, {"\x01\x05\x06", api.ErrLong}, {"\x01\x05\x01\x80\x00", api.ErrLong}, {"\x01\x85\x00\x06", api.ErrForm}, {"\x02\x05\x80\x00", api.ErrLong},
		// A kind's, ahead of what is wrong behind it.
		{"\x01\x01\x06\x80\x00", api.ErrKind}, {"\x01\x02\x06", api.ErrKind}, {"\x01\x02\x00\x01\x80\x00", api.ErrKind}, {"\x02\x01\x06\x05", api.ErrKind}, {"\x02\x01\x06\x80\x00", api.ErrKind},
		// A need's, ahead of the next one's, and a way's ahead of the next one's.
		{"\x01\x02\x01\x80\x00\x06", api.ErrForm}, {"\x01\x02\x04\x02\x80\x00\x06", api.ErrForm}, {"\x02\x01\x01\x80\x00\x05", api.ErrForm}, {"\x02\x01\x06\x00\x05", api.ErrKind}, {"\x02\x05\x01\x06", api.ErrLong}, {"\x02\x01\x05\x05\x80\x00\x05", api.ErrForm},
		// The first number's, ahead of the second one's.
		{"\x01\x01\x04\x80\x00\x80", api.ErrForm}, {"\x01\x01\x04\x80", api.ErrEnd}, {"\x01\x01\x05\xff\x00\x80", api.ErrForm}, {"\x01\x01\x05\x80\x80\x80", api.ErrEnd},
		// What is wrong with the bytes, what is too long, and what is no kind, ahead of what may not be.
		{"\x01\x02\x01\x1f", api.ErrEnd}, {"\x01\x02\x01\x1f\x06", api.ErrKind}, {"\x01\x02\x01\x1f\x01\x80\x00", api.ErrForm}, {"\x01\x02\x01\x00\x01\x00\x01", api.ErrForm}, {"\x02\x02\x01\x00\x01\x00\x01", api.ErrEnd},
		{"\x02\x01\x01\x1f\x05", api.ErrLong}, {"\x02\x01\x04\x02\x00", api.ErrEnd}, {"\x02\x01\x04\x02\x00\x80\x00", api.ErrForm}, {"\x02\x01\x04\x02\x00\x01\x00", api.ErrKind}, {"\x02\x00\x80\x00", api.ErrForm}, {"\x03\x00\x00\x01\x06", api.ErrKind},
		{"\x01\x01\x01" + nine + "\x01", api.ErrArg}, {"\x01\x02\x01" + nine + "\x01", api.ErrEnd}, {"\x01\x02\x01" + nine + "\x01\x06", api.ErrKind}, {"\x01\x01\x04" + nine + "\x01\x80\x00", api.ErrForm}, {"\x01\x01\x04" + nine + "\x01", api.ErrEnd},
		// Of what may not be, Check's order.
		{"\x02\x00\x01\x01\x1f", api.ErrForm}, {"\x02\x01\x01\x1f\x00", api.ErrArg}, {"\x02\x02\x01\x00\x01\x00\x01\x01\x1f", api.ErrForm}, {"\x01\x03\x01\x00\x01\x00\x01\x1f", api.ErrArg}, {"\x01\x02\x04\x02\x01\x01\x01", api.ErrArg},
	} {
		refused(t, x.s, x.want)
		if _, _, e := reading(all(), x.s); e != x.want {
			t.Errorf("of %x the tests' own reading is %v, not %v", x.s, e, x.want)
		}
	}
}

// P9.4

// texts fails, if Text tells anything but what should be.
func texts(t *testing.T, w [][]api.Need, want string) {
	t.Helper()
	kept(t, nil, w, func(_ []api.Decl, w [][]api.Need) {
		if got := need.Text(w); got != want {
			t.Errorf("text of %v: %q, not %q", w, got, want)
		}
	})
}

func TestText(t *testing.T) {
	for _, x := range []struct {
		w    [][]api.Need
		want string
	}{
		{nil, ""}, {[][]api.Need{}, ""}, {[][]api.Need{{}}, ""}, {[][]api.Need{nil}, ""}, {[][]api.Need{{}, {}}, " | "}, {[][]api.Need{nil, nil, nil}, " |  | "},
		{[][]api.Need{{lock}, {}}, "lock 0 | "}, {[][]api.Need{{}, {lock}}, " | lock 0"}, {[][]api.Need{{lock}, {}, {read}}, "lock 0 |  | read 1"},
		{[][]api.Need{{lock}}, "lock 0"}, {[][]api.Need{{read}}, "read 1"}, {[][]api.Need{{write}}, "write 8"}, {[][]api.Need{{down}}, "down 2:2"}, {[][]api.Need{{take}}, "take 5:4"},
		{[][]api.Need{{lock, read, write, take}}, "lock 0 + read 1 + write 8 + take 5:4"}, {[][]api.Need{{lock}, {read}, {write}, {down}}, "lock 0 | read 1 | write 8 | down 2:2"},
		{[][]api.Need{{take, lock}, {down}, {lock, lock, lock}}, "take 5:4 + lock 0 | down 2:2 | lock 0 + lock 0 + lock 0"}, {[][]api.Need{{down, down}}, "down 2:2 + down 2:2"},
		{slices.Repeat([][]api.Need{{lock, down}}, 5), strings.TrimSuffix(strings.Repeat("lock 0 + down 2:2 | ", 5), " | ")}, {[][]api.Need{slices.Repeat([]api.Need{take}, 9)}, strings.TrimSuffix(strings.Repeat("take 5:4 + ", 9), " + ")},
		{[][]api.Need{{{Kind: api.Lock, Obj: 31, N: 7}}, {{Kind: api.Read, Obj: 10, N: -1}, {Kind: api.Write, Obj: 11, N: 1}}}, "lock 31 | read 10 + write 11"},
		{[][]api.Need{{{Kind: api.Down, Obj: 100, N: 1000}, {Kind: api.Take, Obj: 0, N: 0}}}, "down 100:1000 + take 0:0"},
		{[][]api.Need{{{}}}, "none 0"}, {[][]api.Need{{badKind, lock}, {{Kind: -1, Obj: 4, N: 5}}}, "none 0 + lock 0 | none 4"},
	} {
		texts(t, x.w, x.want)
	}
}

func TestTextOfEachKindWithAllNumbers(t *testing.T) {
	for kind, name := range []string{"none", "lock", "read", "write", "down", "take", "none"} {
		for _, obj := range numbers {
			for _, n := range numbers {
				want := fmt.Sprintf("%s %d", name, obj)
				if name == "down" || name == "take" {
					want = fmt.Sprintf("%s:%d", want, n)
				}
				texts(t, [][]api.Need{{{Kind: kind, Obj: obj, N: n}}}, want)
			}
		}
	}
}

func TestTextOfNoKind(t *testing.T) {
	for _, kind := range none {
		texts(t, [][]api.Need{{{Kind: kind, Obj: 3, N: 4}, lock}, {{Kind: kind, Obj: -3}}}, "none 3 + lock 0 | none -3")
	}
}

func TestTextOfTheLeastAndTheGreatestNumbers(t *testing.T) {
	for _, x := range []struct {
		n    api.Need
		want string
	}{
		{api.Need{Kind: api.Lock, Obj: math.MinInt, N: math.MinInt}, "lock -9223372036854775808"},
		{api.Need{Kind: api.Down, Obj: math.MinInt, N: math.MaxInt}, "down -9223372036854775808:9223372036854775807"},
		{api.Need{Kind: api.Take, Obj: math.MaxInt, N: math.MinInt}, "take 9223372036854775807:-9223372036854775808"},
		{api.Need{Kind: math.MaxInt, Obj: -1, N: -1}, "none -1"},
		{api.Need{Kind: api.Take, Obj: -1, N: -10}, "take -1:-10"},
	} {
		texts(t, [][]api.Need{{x.n}}, x.want)
	}
}

// objects fails, if Objects tells anything but what should be.
func objects(t *testing.T, w [][]api.Need, kind int, want ...int) {
	t.Helper()
	kept(t, nil, w, func(_ []api.Decl, w [][]api.Need) {
		if got := bits.Set(need.Objects(w, kind)); !slices.Equal(got.List(), want) {
			t.Errorf("objects of kind %d of %v: %v, not %v", kind, w, got.List(), want)
		}
	})
}

func TestObjectsOfEachKind(t *testing.T) {
	w := [][]api.Need{{lock, read, take2}, {down}, {lock3, write, take, lock}, {down2}, {lock2, {Kind: api.Read, Obj: otherRw}}}
	objects(t, w, api.Lock, aMutex, otherMutex, thirdMutex)
	objects(t, w, api.Read, aRw, otherRw)
	objects(t, w, api.Write, otherRw)
	objects(t, w, api.Down, aSem, greatSem)
	objects(t, w, api.Take, aPool, greatPool)
	for _, kind := range none {
		objects(t, w, kind)
	}
}

func TestObjectsOfNoNeeds(t *testing.T) {
	for _, w := range [][][]api.Need{nil, {}, {nil}, {{}, {}}} {
		for kind := -1; kind <= 7; kind++ {
			objects(t, w, kind)
		}
	}
	for kind := range 7 {
		if kind != api.Lock {
			objects(t, [][]api.Need{{lock}, {lock2, lock}}, kind)
		}
	}
}

func TestObjectsAreThoseFrom0To63(t *testing.T) {
	for kind := api.Lock; kind <= api.Take; kind++ {
		var l []api.Need
		for _, obj := range []int{-1, 0, 63, 64, 1, 31, 32, 62, 65, 127, 128, 256, 1 << 32, 1<<32 + 5, -64, -63, math.MinInt, math.MaxInt} {
			l = append(l, api.Need{Kind: kind, Obj: obj, N: 1})
		}
		objects(t, [][]api.Need{l}, kind, 0, 1, 31, 32, 62, 63)
		for _, n := range l {
			want := []int{n.Obj}
			if n.Obj < 0 || n.Obj > 63 {
				want = nil
			}
			objects(t, [][]api.Need{{n}}, kind, want...)
			objects(t, [][]api.Need{{n}, {n}}, kind, want...)
		}
		for obj := range 64 {
			objects(t, [][]api.Need{{{Kind: kind, Obj: obj}}}, kind, obj)
			if got := need.Objects([][]api.Need{{{Kind: kind, Obj: obj}}}, kind); got != 1<<obj {
				t.Errorf("object %d: %x", obj, got)
			}
		}
	}
}

func TestObjectsThatAreNamedTwice(t *testing.T) {
	objects(t, [][]api.Need{{take, take}, {take}, {take2, take}}, api.Take, aPool, greatPool)
	objects(t, [][]api.Need{{down}, {{Kind: api.Down, Obj: aSem, N: 1}}}, api.Down, aSem)
	// By two kinds of need it is of both.
	both := [][]api.Need{{{Kind: api.Read, Obj: aRw}}, {{Kind: api.Write, Obj: aRw}}}
	objects(t, both, api.Read, aRw)
	objects(t, both, api.Write, aRw)
}

func TestObjectsWhateverIsAsked(t *testing.T) {
	for _, n := range numbers {
		objects(t, [][]api.Need{{{Kind: api.Lock, Obj: 9, N: n}}}, api.Lock, 9)
		objects(t, [][]api.Need{{{Kind: api.Down, Obj: 9, N: n}}}, api.Down, 9)
	}
}

func TestObjectsOfNeedsOfNoKind(t *testing.T) {
	for _, kind := range none {
		w := [][]api.Need{{{Kind: kind, Obj: 3}, lock}}
		objects(t, w, kind, 3)
		objects(t, w, api.Lock, 0)
	}
}

// P9.5

// same fails, if Get of bytes tells anything but what should be, or what it tells is put as other bytes than these. It tells what was wrong.
func same(t *testing.T, d []api.Decl, s string) api.Errno {
	w, n, e := need.Get(d, s)
	if want, many, err := reading(d, s); !equal(w, want) || n != many || e != err {
		t.Fatalf("get of %x with %v: %v, %d, %v, not %v, %d, %v", s, d, w, n, e, want, many, err)
	}
	if e != api.OK {
		return e
	}
	if got, f := need.Put(d, w); got != s[:n] || f != api.OK {
		t.Fatalf("put of %v with %v: %x, %v, not %x", w, d, got, f, s[:n])
	}
	return e
}

func TestAllShortTexts(t *testing.T) {
	d := all()
	same(t, d, "")
	b := make([]byte, 3)
	for n := range 1 << 24 {
		b[0], b[1], b[2] = byte(n>>16), byte(n>>8), byte(n)
		s := string(b)
		if n < 1<<8 {
			same(t, d, s[2:])
		}
		if n < 1<<16 {
			same(t, d, s[1:])
		}
		same(t, d, s)
	}
}

func TestAllShortTextsBehindWhatEachWaitBeginsWith(t *testing.T) {
	for _, d := range [][]api.Decl{nil, all(), {{Kind: api.Pool, A: 1000}, {Kind: api.Sem, A: 1, B: 1}, {Kind: api.Rw}, {Kind: api.Mutex}}} {
		many := 0
		for _, head := range []string{"\x01\x01", "\x01\x02\x01\x03", "\x02\x01\x04\x01", "\x02\x01\x05\x00\x01\x01"} {
			for a := range 8 {
				for n := range 1 << 16 {
					s := head + string([]byte{byte(a), byte(n >> 8), byte(n)})
					if same(t, d, s) == api.OK {
						many++
					}
				}
			}
		}
		if len(d) > 0 && many < 500 || len(d) == 0 && many > 0 {
			t.Errorf("%d with %v", many, d)
		}
	}
}

// drawnObjects is objects that may be, up to 32, of which most can be waited for.
func drawnObjects(r *draws.Row) []api.Decl {
	d := make([]api.Decl, 1+r.Next()%32)
	for k := range d {
		switch r.Next() % 5 {
		case 0:
			d[k] = api.Decl{Kind: api.Mutex}
		case 1:
			d[k] = api.Decl{Kind: api.Rw}
		case 2:
			most := 1 + r.Next()%1000>>(r.Next()%10)
			d[k] = api.Decl{Kind: api.Sem, A: int(r.Next() % (most + 1)), B: int(most)}
		case 3:
			d[k] = api.Decl{Kind: api.Pool, A: int(1 + r.Next()%1000>>(r.Next()%10))}
		case 4:
			d[k] = api.Decl{Kind: int(api.Cond + r.Next()%2)}
		}
	}
	return d
}

// drawnNeed is a need that may be, and true; or false, if the object that was drawn can't be waited for.
func drawnNeed(r *draws.Row, d []api.Decl) (api.Need, bool) {
	obj := int(r.Next() % uint64(len(d)))
	n := api.Need{Obj: obj}
	switch d[obj].Kind {
	case api.Mutex:
		n.Kind = api.Lock
	case api.Rw:
		n.Kind = api.Read + int(r.Next()%2)
	case api.Sem:
		n.Kind, n.N = api.Down, 1+int(r.Next()%uint64(d[obj].B))
	case api.Pool:
		n.Kind, n.N = api.Take, 1+int(r.Next()%uint64(d[obj].A))
	default:
		return api.Need{}, false
	}
	return n, true
}

// drawnWait is a wait of needs each of which may be; most such waits may be.
func drawnWait(r *draws.Row, d []api.Decl) [][]api.Need {
	var w [][]api.Need
	for range 1 + r.Next()%4 {
		var l []api.Need
		for range 1 + r.Next()%4 {
			n, ok := drawnNeed(r, d)
			if !ok || len(l) > 0 && n.Kind == api.Down && r.Next()%16 != 0 {
				continue
			}
			l = append(l, n)
			if n.Kind == api.Down && r.Next()%16 != 0 {
				break
			}
		}
		if len(l) > 0 || r.Next()%16 == 0 {
			w = append(w, l)
		}
	}
	return w
}

func TestDrawnWaitsAreGotWhateverStandsBehind(t *testing.T) {
	r := draws.Row(20)
	met := map[api.Errno]int{}
	for range 50000 {
		d := drawnObjects(&r)
		w := drawnWait(&r, d)
		want := wrong(d, w)
		met[want]++
		checks(t, d, w, want)
		if want != api.OK {
			continue
		}
		rest := make([]byte, r.Next()%6)
		for k := range rest {
			rest[k] = byte(r.Next())
		}
		puts(t, d, w, written(w))
		gets(t, d, written(w)+string(rest), w, len(written(w)), api.OK)
	}
	if met[api.OK] < 10000 || met[api.ErrForm] < 1000 {
		t.Errorf("just %v", met)
	}
}

func TestDrawnTexts(t *testing.T) {
	r := draws.Row(21)
	met := map[api.Errno]int{}
	for range 500000 {
		d := drawnObjects(&r)
		b := []byte(written(drawnWait(&r, d)))
		// Some bytes of what may be become others, and some are taken away or laid behind it.
		for range r.Next() % 4 {
			b[r.Next()%uint64(len(b))] = byte(r.Next() >> (r.Next() % 64))
		}
		if r.Next()%8 == 0 {
			b = b[:r.Next()%uint64(len(b))]
		}
		for range r.Next() % 4 {
			b = append(b, byte(r.Next()))
		}
		met[same(t, d, string(b))]++
	}
	for _, e := range []api.Errno{api.OK, api.ErrArg, api.ErrForm, api.ErrEnd, api.ErrLong, api.ErrKind} {
		if met[e] < 5000 {
			t.Errorf("just %d of %v", met[e], e)
		}
	}
}

func TestDrawnBytes(t *testing.T) {
	r := draws.Row(22)
	d := []api.Decl{{Kind: api.Mutex}, {Kind: api.Mutex}, {Kind: api.Rw}, {Kind: api.Sem, A: 1, B: 4}, {Kind: api.Pool, A: 5}, {Kind: api.Rw}}
	met := map[api.Errno]int{}
	for range 500000 {
		b := make([]byte, 4+r.Next()%16)
		for k := range b {
			b[k] = byte(r.Next() % 6)
			if r.Next()%32 == 0 {
				b[k] = byte(r.Next())
			}
		}
		b[0], b[1] = byte(r.Next()%4), byte(r.Next()%3)
		met[same(t, d, string(b))]++
	}
	for _, e := range []api.Errno{api.OK, api.ErrArg, api.ErrForm, api.ErrEnd, api.ErrLong, api.ErrKind} {
		if met[e] < 2000 {
			t.Errorf("just %d of %v", met[e], e)
		}
	}
}

func TestWhatIsGotIsNewMemory(t *testing.T) {
	s := "\x03\x02\x01\x00\x05\x05\x04\x01\x04\x02\x02\x02\x02\x01\x03\x08"
	want := [][]api.Need{{lock, take}, {down}, {read, write}}
	one, _, _ := need.Get(all(), s)
	two, _, _ := need.Get(all(), s)
	if !equal(one, want) || !equal(two, want) {
		t.Fatalf("%v, %v, not %v", one, two, want)
	}
	// What is written over one way, its spare room too, is to be seen in no other way, nor in another answer.
	for k := range one {
		spare := one[k][:cap(one[k])]
		were := slices.Clone(spare)
		for n := range spare {
			spare[n] = badKind
		}
		for other := range one {
			if other != k && !slices.Equal(one[other], want[other]) {
				t.Errorf("way %d changes way %d: %v", k, other, one[other])
			}
		}
		copy(spare, were)
	}
	clear(one[:cap(one)])
	if !equal(two, want) {
		t.Errorf("two waits are one: %v", two)
	}
	gets(t, all(), s, want, len(s), api.OK)
}

func TestTheSameIsAnsweredEachTime(t *testing.T) {
	for range 3 {
		checks(t, all(), [][]api.Need{{lock}, {notThere}}, api.ErrArg)
		puts(t, all(), [][]api.Need{{lock, take}}, "\x01\x02\x01\x00\x05\x05\x04")
		refused(t, "\x01\x01\x06", api.ErrKind)
		gets(t, all(), "\x01\x01\x02\x01\x01", [][]api.Need{{read}}, 4, api.OK)
		texts(t, [][]api.Need{{lock, take}}, "lock 0 + take 5:4")
		objects(t, [][]api.Need{{lock, take}}, api.Take, aPool)
	}
}

func TestObjectsThatChangeLaterAreThoseOfTheCall(t *testing.T) {
	d := all()
	checks(t, d, [][]api.Need{{tooMuch}}, api.ErrArg)
	d[aSem].B = 4
	checks(t, d, [][]api.Need{{tooMuch}}, api.OK)
	d[aSem] = api.Decl{Kind: api.Cond}
	checks(t, d, [][]api.Need{{tooMuch}}, api.ErrArg)
}
