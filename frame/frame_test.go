package frame_test

import (
	"fmt"
	"math"
	"slices"
	"testing"

	"logjam/api"
	"logjam/frame"
	"logjam/internal/draws"
	"logjam/internal/lists"
)

// The limits, as the document has them.
const (
	locals = 8
	room   = 16
	deep   = 8
)

// edges are numbers at which something may change, and the greatest and least ones.
var edges = []int{
	math.MinInt, math.MinInt + 1, -1 << 62, -1<<32 - 1, -1 << 32, -1<<32 + 1, -1<<31 - 1, -1 << 31, -1<<31 + 1, -17, -16, -9, -8, -7, -2, -1,
	0, 1, 2, 3, 6, 7, 8, 9, 10, 15, 16, 17, 31, 32, 63, 64, 199, 200, 255, 256, 1<<31 - 2, 1<<31 - 1, 1 << 31, 1<<31 + 1, 1<<32 - 1, 1 << 32, 1<<32 + 1, 1<<32 + 7, 1 << 62, math.MaxInt - 1, math.MaxInt,
}

// lowest are numbers, and the word of the lowest 32 bits of each.
var lowest = map[int]int{
	0: 0, 1: 1, -1: -1, 7: 7, 1<<31 - 1: 1<<31 - 1, -1 << 31: -1 << 31, 1<<31 - 2: 1<<31 - 2, -1<<31 + 1: -1<<31 + 1,
	1 << 31: -1 << 31, 1<<31 + 1: -1<<31 + 1, -1<<31 - 1: 1<<31 - 1, -1<<31 - 2: 1<<31 - 2,
	1<<32 - 1: -1, 1 << 32: 0, 1<<32 + 1: 1, 1<<32 + 5: 5, -1 << 32: 0, -1<<32 - 1: -1, -1<<32 + 9: 9, 3 << 31: -1 << 31, 3<<31 - 1: 1<<31 - 1,
	1 << 40: 0, 1<<40 - 3: -3, 1 << 62: 0, math.MaxInt: -1, math.MaxInt - 1: -2, math.MinInt: 0, math.MinInt + 1: 1, math.MinInt + 1<<31: -1 << 31,
}

// spare is what stands in spare room.
var spare = api.Frame{Fn: 91, Pc: 92, N: 3, L: [8]int{93, 94}, S: [16]int{95, 96, 97, 98}}

// answer is what a call answers: those of these that it has.
type answer struct {
	frames []api.Frame
	taken  []int
	value  int
	ok     bool
}

// same tells whether two answers are one; nil and empty lists are alike.
func (a answer) same(b answer) bool {
	return slices.Equal(a.frames, b.frames) && slices.Equal(a.taken, b.taken) && a.value == b.value && a.ok == b.ok
}

// deed is a call of the package, but for the frames, with which it is done.
type deed struct {
	name string
	a, b int
}

// do does it.
func (d deed) do(l []api.Frame) answer {
	r := answer{}
	switch d.name {
	case "Push":
		r.frames, r.ok = frame.Push(l, d.a)
	case "Pop":
		r.frames, r.taken, r.ok = frame.Pop(l, d.a)
	case "Top":
		r.value, r.ok = frame.Top(l)
	case "Turn":
		r.frames = frame.Turn(l, d.a)
	case "Call":
		r.frames, r.ok = frame.Call(l, d.a, d.b)
	case "Ret":
		r.frames, r.value, r.ok = frame.Ret(l)
	case "Local":
		r.value = frame.Local(l, d.a)
	case "Store":
		r.frames = frame.Store(l, d.a, d.b)
	case "Go":
		r.frames = frame.Go(l, d.a)
	default:
		panic("no call: " + d.name)
	}
	return r
}

// asked is what a call answers of frames with spare room; it fails, if these are changed, or the answer lies where they do.
func asked(t *testing.T, l []api.Frame, d deed) answer {
	t.Helper()
	roomy := lists.Room(l, spare)
	got := d.do(roomy)
	if !slices.Equal(roomy[:cap(roomy)], append(slices.Clone(l), spare, spare)) {
		t.Fatalf("%v: %v became %v", d, l, roomy[:cap(roomy)])
	}
	if !lists.Apart(roomy, got.frames) {
		t.Fatalf("%v: what is answered of %v lies there, too", d, l)
	}
	return got
}

// does fails, if a call answers of frames anything but what should be.
func does(t *testing.T, l []api.Frame, d deed, want answer) {
	t.Helper()
	if got := asked(t, l, d); !got.same(want) {
		t.Fatalf("%v of %v: %v, not %v", d, l, got, want)
	}
}

// with is a frame with these values, and all else as it is.
func with(f api.Frame, values ...int) api.Frame {
	f.S, f.N = [16]int{}, len(values)
	copy(f.S[:], values)
	return f
}

// row is 1 .. n.
func row(n int) []int {
	var l []int
	for k := range n {
		l = append(l, k+1)
	}
	return l
}

// odd is a frame that differs from those of other numbers everywhere, and has n values; with more behind them, where none are.
func odd(number, n int) api.Frame {
	f := api.Frame{Fn: 1000 + number, Pc: 2000 + number, N: n}
	for k := range f.L {
		f.L[k] = 3000 + 100*number + k
	}
	for k := range f.S {
		f.S[k] = -4000 - 100*number - k
	}
	return f
}

// odds is so many odd frames, the last of which has n values, and the others as many as there are ahead of them.
func odds(many, n int) []api.Frame {
	var l []api.Frame
	for k := range many {
		l = append(l, odd(k, k))
	}
	l[many-1].N = n
	return l
}

// then is frames with another one in the last one's place, which is the last one changed.
func then(l []api.Frame, change func(f *api.Frame)) []api.Frame {
	c := slices.Clone(l)
	change(&c[len(c)-1])
	return c
}

// deeds are all calls with numbers at edges.
func deeds() []deed {
	l := []deed{{name: "Top"}, {name: "Ret"}}
	for _, a := range edges {
		for _, name := range []string{"Push", "Pop", "Turn", "Local", "Go"} {
			l = append(l, deed{name: name, a: a})
		}
		for _, b := range []int{math.MinInt, -1, 0, 1, 7, 8, 1 << 32, math.MaxInt} {
			l = append(l, deed{"Call", b, a}, deed{"Store", a, b})
		}
	}
	return l
}

// P14.1

func TestTheExampleOfTheChapter(t *testing.T) {
	want := api.Frame{Fn: 2, Pc: 0, N: 1}
	want.S[0], want.L[0] = 5, 7
	does(t, frame.New(2, 7), deed{name: "Push", a: 5}, answer{frames: []api.Frame{want}, ok: true})
}

func TestOnlyWhatIsNamedIsChanged(t *testing.T) {
	for many := 1; many <= 10; many++ {
		l := odds(many, 5)
		f := l[many-1]
		does(t, l, deed{name: "Push", a: 6}, answer{ok: true, frames: then(l, func(f *api.Frame) { f.S[5], f.N = 6, 6 })})
		does(t, l, deed{name: "Pop", a: 2}, answer{ok: true, taken: []int{f.S[3], f.S[4]}, frames: then(l, func(f *api.Frame) { f.S[3], f.S[4], f.N = 0, 0, 3 })})
		does(t, l, deed{name: "Pop", a: 0}, answer{ok: true, frames: l})
		does(t, l, deed{name: "Top"}, answer{ok: true, value: f.S[4]})
		does(t, l, deed{name: "Turn", a: 6}, answer{frames: then(l, func(f *api.Frame) { f.S[4] = 6 })})
		does(t, l, deed{name: "Local", a: 6}, answer{value: f.L[6]})
		does(t, l, deed{name: "Store", a: 6, b: 7}, answer{frames: then(l, func(f *api.Frame) { f.L[6] = 7 })})
		does(t, l, deed{name: "Go", a: 6}, answer{frames: then(l, func(f *api.Frame) { f.Pc = 6 })})
		if many < deep {
			behind := api.Frame{Fn: 6, L: [8]int{f.S[4]}}
			does(t, l, deed{"Call", 6, 1}, answer{ok: true, frames: append(then(l, func(f *api.Frame) { f.S[4], f.N = 0, 4 }), behind)})
		}
		if n := many - 2; n >= 0 {
			does(t, l, deed{name: "Ret"}, answer{ok: true, value: f.S[4], frames: then(l[:many-1], func(g *api.Frame) { g.S[n], g.N = f.S[4], n+1 })})
		}
	}
}

func TestWhatIsLaidOrKeptIsAWord(t *testing.T) {
	for n, w := range lowest {
		l := []api.Frame{with(odd(1, 0), 4), with(odd(2, 0), 5, 6)}
		does(t, l, deed{name: "Push", a: n}, answer{ok: true, frames: []api.Frame{l[0], with(l[1], 5, 6, w)}})
		does(t, l, deed{name: "Turn", a: n}, answer{frames: []api.Frame{l[0], with(l[1], 5, w)}})
		does(t, l, deed{"Store", 3, n}, answer{frames: then(l, func(f *api.Frame) { f.L[3] = w })})
		if got, want := frame.New(3, 1, n, n, 2), []api.Frame{{Fn: 3, L: [8]int{1, w, w, 2}}}; !slices.Equal(got, want) {
			t.Fatalf("New with %d: %v, not %v", n, got, want)
		}
	}
}

// A frame that none of the calls made may have what is no word; what is laid or kept of it is one.
func TestWhatIsHandedOnIsAWord(t *testing.T) {
	for n, w := range lowest {
		l := []api.Frame{odd(1, 0), with(odd(2, 0), 5, n)}
		want := []api.Frame{l[0], with(l[1], 5), {Fn: 7, L: [8]int{w}}}
		if got := asked(t, l, deed{"Call", 7, 1}); !got.ok || !slices.Equal(got.frames, want) {
			t.Fatalf("called with %d: %v, not %v", n, got, want)
		}
		if got := asked(t, l, deed{name: "Ret"}); !got.ok || len(got.frames) != 1 || got.frames[0].S[0] != w {
			t.Fatalf("%d is returned: %v, not %d", n, got, w)
		}
	}
}

func TestFunctionsAndPlacesAreAnyNumbers(t *testing.T) {
	for _, n := range edges {
		if got, want := frame.New(n, 4), []api.Frame{{Fn: n, L: [8]int{4}}}; !slices.Equal(got, want) {
			t.Fatalf("New of %d: %v", n, got)
		}
		l := odds(2, 1)
		does(t, l, deed{name: "Go", a: n}, answer{frames: then(l, func(f *api.Frame) { f.Pc = n })})
		does(t, l, deed{"Call", n, 0}, answer{ok: true, frames: append(slices.Clone(l), api.Frame{Fn: n})})
	}
}

// What is open is answered in any way, but it is, and nothing is changed that was handed in.
func TestFramesOfNoSuchManyValues(t *testing.T) {
	for _, n := range edges {
		if 0 <= n && n <= room {
			continue
		}
		for _, l := range [][]api.Frame{
			{odd(1, n)}, {odd(1, 3), odd(2, n)}, {odd(1, n), odd(2, 3)}, {odd(1, n), odd(2, n)}, {odd(1, n), odd(2, 16)},
			then(odds(7, 2), func(f *api.Frame) { f.N = n }), then(odds(8, 2), func(f *api.Frame) { f.N = n }),
		} {
			for _, d := range deeds() {
				asked(t, l, d)
			}
			if !frame.Same(l, slices.Clone(l)) {
				t.Fatalf("%v is not itself", l)
			}
		}
	}
}

func TestNothingPanics(t *testing.T) {
	for _, l := range [][]api.Frame{nil, {}, {{}}, {odd(1, 16)}, {{}, {}}, odds(8, 8), odds(8, 16), odds(20, 9), odds(300, 16)[290:], odds(300, 1)} {
		for _, d := range deeds() {
			asked(t, l, d)
		}
	}
}

// P14.2

func TestNewWithArguments(t *testing.T) {
	for n := range 30 {
		args := lists.Room(row(n), 77)
		got := frame.New(5, args...)
		want := api.Frame{Fn: 5}
		for k := range min(n, locals) {
			want.L[k] = k + 1
		}
		if len(got) != 1 || got[0] != want {
			t.Errorf("with %d arguments: %v, not %v", n, got, want)
		}
		if !slices.Equal(args[:cap(args)], append(row(n), 77, 77)) {
			t.Errorf("the arguments became %v", args[:cap(args)])
		}
	}
	if got := frame.New(0); len(got) != 1 || got[0] != (api.Frame{}) {
		t.Errorf("without arguments: %v", got)
	}
	if got := frame.New(1, nil...); len(got) != 1 || got[0] != (api.Frame{Fn: 1}) {
		t.Errorf("of nil: %v", got)
	}
	if got := frame.New(1, row(100000)...); len(got) != 1 || got[0] != (api.Frame{Fn: 1, L: [8]int{1, 2, 3, 4, 5, 6, 7, 8}}) {
		t.Errorf("with many: %v", got)
	}
}

func TestPushOntoEachManyValues(t *testing.T) {
	for n := range room {
		l := []api.Frame{odd(1, 4), with(odd(2, 0), row(n)...)}
		for _, v := range []int{0, 1, -1, 99, 1<<31 - 1, -1 << 31} {
			does(t, l, deed{name: "Push", a: v}, answer{ok: true, frames: []api.Frame{l[0], with(l[1], append(row(n), v)...)}})
		}
	}
}

func TestPushWithoutRoom(t *testing.T) {
	for _, v := range edges {
		does(t, []api.Frame{with(odd(2, 0), row(16)...)}, deed{name: "Push", a: v}, answer{})
		does(t, []api.Frame{odd(1, 2), odd(2, 16)}, deed{name: "Push", a: v}, answer{})
		does(t, nil, deed{name: "Push", a: v}, answer{})
		does(t, []api.Frame{}, deed{name: "Push", a: v}, answer{})
	}
	// How many values the others have is nothing to the last one.
	l := []api.Frame{odd(1, 16), odd(2, 15)}
	does(t, l, deed{name: "Push", a: 3}, answer{ok: true, frames: then(l, func(f *api.Frame) { f.S[15], f.N = 3, 16 })})
}

func TestPopOfEachManyValues(t *testing.T) {
	for has := range room + 1 {
		l := []api.Frame{odd(1, 16), with(odd(2, 0), row(has)...)}
		for n := range has + 1 {
			does(t, l, deed{name: "Pop", a: n}, answer{ok: true, taken: row(has)[has-n:], frames: []api.Frame{l[0], with(l[1], row(has-n)...)}})
		}
		for _, n := range edges {
			if n < 0 || n > has {
				does(t, l, deed{name: "Pop", a: n}, answer{})
			}
		}
	}
}

func TestPopWithoutAFrame(t *testing.T) {
	for _, n := range edges {
		does(t, nil, deed{name: "Pop", a: n}, answer{})
		does(t, []api.Frame{}, deed{name: "Pop", a: n}, answer{})
	}
}

func TestPopTellsTheDeepestFirst(t *testing.T) {
	l := []api.Frame{with(api.Frame{}, 40, -30, 20, -10)}
	does(t, l, deed{name: "Pop", a: 3}, answer{ok: true, taken: []int{-30, 20, -10}, frames: []api.Frame{with(api.Frame{}, 40)}})
}

func TestPlacesWithoutAValueAreZero(t *testing.T) {
	l := frame.New(1)
	for v := range 10 {
		l, _ = frame.Push(l, v+1)
	}
	one, _, _ := frame.Pop(l, 4)
	two, _ := frame.Call(l, 2, 4)
	for _, f := range []api.Frame{one[0], two[0]} {
		if f.S != [16]int{1, 2, 3, 4, 5, 6} {
			t.Errorf("%v has values that it has no more", f)
		}
	}
	if l, _, _ = frame.Pop(l, 10); l[0] != (api.Frame{Fn: 1}) {
		t.Errorf("%v had no values at first, and was as if new", l)
	}
}

func TestTop(t *testing.T) {
	for n := 1; n <= room; n++ {
		does(t, []api.Frame{odd(1, 4), with(odd(2, 0), row(n)...)}, deed{name: "Top"}, answer{ok: true, value: n})
		does(t, []api.Frame{with(odd(2, 0), row(n)...)}, deed{name: "Top"}, answer{ok: true, value: n})
	}
	does(t, []api.Frame{with(odd(2, 0), 9, 0)}, deed{name: "Top"}, answer{ok: true, value: 0})
	does(t, []api.Frame{with(odd(2, 0), 9, -1<<31)}, deed{name: "Top"}, answer{ok: true, value: -1 << 31})
	for _, l := range [][]api.Frame{nil, {}, {{}}, {odd(1, 0)}, {odd(1, 5), odd(2, 0)}} {
		does(t, l, deed{name: "Top"}, answer{})
	}
}

func TestTurn(t *testing.T) {
	for n := 1; n <= room; n++ {
		for _, v := range []int{0, 1, -1, 99, 1<<31 - 1, -1 << 31} {
			l := []api.Frame{odd(1, 4), with(odd(2, 0), row(n)...)}
			does(t, l, deed{name: "Turn", a: v}, answer{frames: []api.Frame{l[0], with(l[1], append(row(n-1), v)...)}})
		}
	}
	for _, v := range edges {
		for _, l := range [][]api.Frame{nil, {}, {{}}, {odd(1, 0)}, {odd(1, 5), odd(2, 0)}} {
			does(t, l, deed{name: "Turn", a: v}, answer{frames: l})
		}
	}
}

// P14.3

func TestCallTakesValuesAsLocals(t *testing.T) {
	for has := range room + 1 {
		for n := range min(has, locals) + 1 {
			l := []api.Frame{odd(1, 16), with(odd(2, 0), row(has)...)}
			behind := api.Frame{Fn: 9}
			copy(behind.L[:], row(has)[has-n:])
			does(t, l, deed{"Call", 9, n}, answer{ok: true, frames: []api.Frame{l[0], with(l[1], row(has-n)...), behind}})
		}
	}
}

func TestCallOfNoSuchMany(t *testing.T) {
	for has := range room + 1 {
		for _, n := range edges {
			if n < 0 || n > has || n > locals {
				does(t, []api.Frame{odd(1, 16), with(odd(2, 0), row(has)...)}, deed{"Call", 9, n}, answer{})
			}
		}
	}
	for _, n := range edges {
		does(t, nil, deed{"Call", 9, n}, answer{})
		does(t, []api.Frame{}, deed{"Call", 9, n}, answer{})
	}
}

func TestCallOnEachManyFrames(t *testing.T) {
	for many := 1; many <= deep+3; many++ {
		for n := range locals + 1 {
			l := odds(many, 12)
			if many >= deep {
				does(t, l, deed{"Call", 3, n}, answer{})
				continue
			}
			behind := api.Frame{Fn: 3}
			copy(behind.L[:], l[many-1].S[12-n:12])
			want := append(then(l, func(f *api.Frame) {
				for k := range n {
					f.S[11-k] = 0
				}
				f.N -= n
			}), behind)
			does(t, l, deed{"Call", 3, n}, answer{ok: true, frames: want})
		}
	}
}

func TestCallsUpToTheDeepest(t *testing.T) {
	l := frame.New(0, 5)
	for n := range 20 {
		next, ok := frame.Call(l, n+1, 0)
		if ok != (len(l) < deep) {
			t.Fatalf("call on %d frames: %v", len(l), ok)
		}
		if ok {
			l = next
		}
	}
	for k, f := range l {
		if want := (api.Frame{Fn: k}); k > 0 && f != want {
			t.Errorf("frame %d: %v, not %v", k, f, want)
		}
	}
}

func TestRetOfTheOnlyFrame(t *testing.T) {
	for n := 1; n <= room; n++ {
		does(t, []api.Frame{with(odd(1, 0), row(n)...)}, deed{name: "Ret"}, answer{ok: true, value: n})
	}
	does(t, []api.Frame{with(odd(1, 0), 0)}, deed{name: "Ret"}, answer{ok: true})
	does(t, []api.Frame{with(odd(1, 0), 3, -1<<31)}, deed{name: "Ret"}, answer{ok: true, value: -1 << 31})
}

func TestRetOntoEachManyValues(t *testing.T) {
	for has := range room + 1 {
		for n := 1; n <= room; n++ {
			l := []api.Frame{odd(1, 16), with(odd(2, 0), row(has)...), with(odd(3, 0), slices.Repeat([]int{50}, n)...)}
			l[2].S[n-1] = -60
			if has == room {
				does(t, l, deed{name: "Ret"}, answer{})
				continue
			}
			does(t, l, deed{name: "Ret"}, answer{ok: true, value: -60, frames: []api.Frame{l[0], with(l[1], append(row(has), -60)...)}})
		}
	}
}

func TestRetWithoutAValue(t *testing.T) {
	for _, l := range [][]api.Frame{nil, {}, {{}}, {odd(1, 0)}, {odd(1, 5), odd(2, 0)}, {odd(1, 16), odd(2, 0)}, {odd(1, 0), odd(2, 0)}} {
		does(t, l, deed{name: "Ret"}, answer{})
	}
}

func TestWhatIsCalledReturnsToWhereItWasCalled(t *testing.T) {
	l := frame.Go(frame.New(4, 1, 2), 17)
	for _, v := range []int{10, 20, 30} {
		l, _ = frame.Push(l, v)
	}
	l, _ = frame.Call(l, 6, 2)
	l = frame.Go(frame.Store(l, 1, 8), 3)
	l, _ = frame.Push(l, 7)
	l, _ = frame.Push(l, 70)
	l, v, ok := frame.Ret(l)
	want := []api.Frame{with(api.Frame{Fn: 4, Pc: 17, L: [8]int{1, 2}}, 10, 70)}
	if !slices.Equal(l, want) || v != 70 || !ok {
		t.Errorf("%v, %d, %v, not %v", l, v, ok, want)
	}
}

// P14.4

func TestLocal(t *testing.T) {
	l := odds(2, 3)
	for k := range locals {
		does(t, l, deed{name: "Local", a: k}, answer{value: l[1].L[k]})
		does(t, l[:1], deed{name: "Local", a: k}, answer{value: l[0].L[k]})
	}
	for _, k := range edges {
		if k < 0 || k >= locals {
			does(t, l, deed{name: "Local", a: k}, answer{})
		}
		does(t, nil, deed{name: "Local", a: k}, answer{})
		does(t, []api.Frame{}, deed{name: "Local", a: k}, answer{})
	}
}

func TestStore(t *testing.T) {
	for many := 1; many <= 9; many++ {
		l := odds(many, 3)
		for k := range locals {
			for _, v := range []int{0, 1, -1, 1<<31 - 1, -1 << 31} {
				does(t, l, deed{"Store", k, v}, answer{frames: then(l, func(f *api.Frame) { f.L[k] = v })})
			}
		}
		for _, k := range edges {
			if k < 0 || k >= locals {
				does(t, l, deed{"Store", k, 5}, answer{frames: l})
			}
		}
	}
	for _, k := range edges {
		does(t, nil, deed{"Store", k, 5}, answer{})
		does(t, []api.Frame{}, deed{"Store", k, 5}, answer{})
	}
}

func TestWhatIsStoredIsTheLocal(t *testing.T) {
	l := frame.New(0, row(8)...)
	for k := range locals {
		for n, w := range lowest {
			l = frame.Store(l, k, n)
			if got := frame.Local(l, k); got != w {
				t.Fatalf("local %d, in which %d is kept: %d", k, n, got)
			}
		}
		l = frame.Store(l, k, 50+k)
	}
	if l[0].L != [8]int{50, 51, 52, 53, 54, 55, 56, 57} {
		t.Errorf("%v", l)
	}
}

func TestGo(t *testing.T) {
	for _, pc := range edges {
		for many := 1; many <= 9; many++ {
			l := odds(many, 3)
			does(t, l, deed{name: "Go", a: pc}, answer{frames: then(l, func(f *api.Frame) { f.Pc = pc })})
		}
		does(t, nil, deed{name: "Go", a: pc}, answer{})
		does(t, []api.Frame{}, deed{name: "Go", a: pc}, answer{})
	}
}

// same fails, if Same tells anything but what should be, whichever of both is named first.
func same(t *testing.T, a, b []api.Frame, want bool) {
	t.Helper()
	for _, x := range [][2][]api.Frame{{a, b}, {b, a}} {
		one, two := lists.Room(x[0], spare), lists.Room(x[1], odd(5, 5))
		if got := frame.Same(one, two); got != want {
			t.Errorf("%v and %v: %v", x[0], x[1], got)
		}
		if !slices.Equal(one[:cap(one)], append(slices.Clone(x[0]), spare, spare)) || !slices.Equal(two[:cap(two)], append(slices.Clone(x[1]), odd(5, 5), odd(5, 5))) {
			t.Errorf("%v and %v became %v and %v", x[0], x[1], one[:cap(one)], two[:cap(two)])
		}
	}
}

func TestSameOfOtherLengths(t *testing.T) {
	l := odds(10, 4)
	for n := range 11 {
		for k := range 11 {
			same(t, l[:n], slices.Clone(l[:k]), n == k)
			same(t, make([]api.Frame, n), make([]api.Frame, k), n == k)
		}
	}
	for _, x := range [][2][]api.Frame{{nil, nil}, {nil, {}}, {{}, {}}} {
		if !frame.Same(x[0], x[1]) || !frame.Same(x[1], x[0]) {
			t.Errorf("%v and %v are not the same", x[0], x[1])
		}
	}
	if frame.Same(nil, make([]api.Frame, 1)) || frame.Same(make([]api.Frame, 1), nil) || frame.Same([]api.Frame{}, make([]api.Frame, 1)) {
		t.Error("none and one are the same")
	}
}

// fields are ways to change one field, or one place of one, of a frame.
func fields() map[string]func(f *api.Frame) {
	m := map[string]func(f *api.Frame){
		"the function":    func(f *api.Frame) { f.Fn++ },
		"the place":       func(f *api.Frame) { f.Pc++ },
		"one value less":  func(f *api.Frame) { f.N-- },
		"one value more":  func(f *api.Frame) { f.N++ },
		"no value":        func(f *api.Frame) { f.N = -1 },
		"2^32 functions":  func(f *api.Frame) { f.Fn += 1 << 32 },
		"2^32 places":     func(f *api.Frame) { f.Pc -= 1 << 32 },
		"a local's sign":  func(f *api.Frame) { f.L[2] = -f.L[2] },
		"a value's sign":  func(f *api.Frame) { f.S[2] = -f.S[2] },
		"two locals turn": func(f *api.Frame) { f.L[0], f.L[1] = f.L[1], f.L[0] },
		"two values turn": func(f *api.Frame) { f.S[0], f.S[1] = f.S[1], f.S[0] },
	}
	for k := range locals {
		m[fmt.Sprint("local ", k)] = func(f *api.Frame) { f.L[k]++ }
	}
	for k := range room {
		m[fmt.Sprint("value ", k)] = func(f *api.Frame) { f.S[k]++ }
	}
	return m
}

func TestSameOfOneFieldThatDiffers(t *testing.T) {
	for name, change := range fields() {
		for many := 1; many <= 9; many++ {
			for at := range many {
				a, b := odds(many, 5), odds(many, 5)
				same(t, a, b, true)
				change(&b[at])
				if frame.Same(a, b) || frame.Same(b, a) {
					t.Fatalf("what differs in frame %d of %d is not told: %s", at, many, name)
				}
				same(t, b, slices.Clone(b), true)
			}
		}
	}
}

func TestSameAsksInWhichOrderFramesStand(t *testing.T) {
	a, b := odd(1, 2), odd(2, 2)
	same(t, []api.Frame{a, b}, []api.Frame{b, a}, false)
	same(t, []api.Frame{a, b}, []api.Frame{a, a}, false)
	same(t, []api.Frame{a, b, b}, []api.Frame{a, b}, false)
	same(t, []api.Frame{a, b}, []api.Frame{a, b}, true)
}

func TestSameTellsWhatIsHeldAgainstItself(t *testing.T) {
	l := odds(8, 3)
	if !frame.Same(l, l) || frame.Same(l, l[:7]) || frame.Same(l[1:], l[:7]) {
		t.Error("frames in one memory are told wrong")
	}
}

// Memory

func TestAnAnswerIsNotChangedByWhatIsDoneToOthers(t *testing.T) {
	ruin := func(l []api.Frame) {
		for k := range l[:cap(l)] {
			l[:cap(l)][k] = odd(66, 6)
		}
	}
	for _, d := range []deed{
		{name: "Push", a: 1}, {name: "Pop", a: 2}, {name: "Pop"}, {name: "Turn", a: 1}, {"Call", 1, 2}, {"Call", 1, 0}, {name: "Ret"}, {"Store", 1, 2}, {"Store", 8, 2}, {name: "Go", a: 1},
	} {
		for _, l := range [][]api.Frame{odds(2, 5), odds(7, 5), then(odds(3, 5), func(f *api.Frame) { f.L[1] = 2 })} {
			a, b := lists.Room(l, spare), lists.Room(l, spare)
			one, two, three := d.do(a), d.do(a), d.do(b)
			if !lists.Apart(a, b, one.frames, two.frames, three.frames) || !lists.Apart(one.taken, two.taken, three.taken) {
				t.Fatalf("%v: two answers lie in one memory", d)
			}
			want := d.do(slices.Clone(l))
			ruin(a)
			ruin(two.frames)
			for k := range two.taken[:cap(two.taken)] {
				two.taken[:cap(two.taken)][k] = 77
			}
			if !one.same(want) || !three.same(want) || !slices.Equal(b, l) {
				t.Errorf("%v: %v and %v, not %v", d, one, three, want)
			}
			ruin(one.frames)
			if !d.do(b).same(want) {
				t.Errorf("%v: %v, not %v", d, d.do(b), want)
			}
		}
	}
}

func TestNewKeepsNoArguments(t *testing.T) {
	args := row(12)
	one, two := frame.New(3, args...), frame.New(3, args...)
	if !lists.Apart(one, two) {
		t.Error("two answers lie in one memory")
	}
	for k := range args {
		args[k] = 99
	}
	one[0].L[0] = 98
	if two[0].L != [8]int{1, 2, 3, 4, 5, 6, 7, 8} {
		t.Errorf("%v", two)
	}
	if l := odds(1, 16); frame.New(1, l[0].S[:]...)[0].L[7] != l[0].S[7] || l[0] != odd(0, 16) {
		t.Errorf("%v", l)
	}
}

func TestTheSameIsAnsweredEachTime(t *testing.T) {
	for range 3 {
		l := []api.Frame{with(odd(1, 0), row(15)...), with(odd(2, 0), 4, 5)}
		does(t, l, deed{name: "Ret"}, answer{ok: true, value: 5, frames: []api.Frame{with(l[0], append(row(15), 5)...)}})
		does(t, []api.Frame{with(l[0], row(16)...), l[1]}, deed{name: "Ret"}, answer{})
		does(t, l, deed{name: "Pop", a: 3}, answer{})
		does(t, l, deed{name: "Top"}, answer{ok: true, value: 5})
	}
}

// Rows of calls, held against a reading by the chapter's words.

// call is a frame as the chapter speaks of it: its values are a list, and what stands where it has none another one.
type call struct {
	fn, at int
	locals [8]int
	values []int
	beside [16]int
}

// frames are calls as they stand in api.
func frames(l []call) []api.Frame {
	var r []api.Frame
	for _, c := range l {
		f := api.Frame{Fn: c.fn, Pc: c.at, N: len(c.values), L: c.locals, S: c.beside}
		copy(f.S[:], c.values)
		r = append(r, f)
	}
	return r
}

// calls are frames as the chapter speaks of them.
func calls(l []api.Frame) []call {
	var r []call
	for _, f := range l {
		r = append(r, call{fn: f.Fn, at: f.Pc, locals: f.L, values: slices.Clone(f.S[:f.N]), beside: f.S})
	}
	return r
}

// word is that of the lowest 32 bits of a number, told by what is left of it.
func word(n int) int {
	n %= 1 << 32
	if n < 0 {
		n += 1 << 32
	}
	if n >= 1<<31 {
		n -= 1 << 32
	}
	return n
}

// read is what a call should answer of calls.
func (d deed) read(l []call) answer {
	last := call{}
	if len(l) > 0 {
		last = l[len(l)-1]
	}
	none, has := len(l) == 0, len(last.values)
	is := func(r ...call) answer { return answer{ok: true, frames: frames(r)} }
	ahead := l[:max(len(l)-1, 0)]
	switch {
	case d.name == "Push" && !none && has < 16:
		last.values = append(slices.Clone(last.values), word(d.a))
		return is(append(slices.Clone(ahead), last)...)
	case d.name == "Pop" && !none && d.a >= 0 && d.a <= has:
		r := is(append(slices.Clone(ahead), last.without(d.a))...)
		r.taken = last.values[has-d.a:]
		return r
	case d.name == "Top" && has > 0:
		return answer{ok: true, value: last.values[has-1]}
	case d.name == "Turn" && has > 0:
		last.values = append(slices.Clone(last.values[:has-1]), word(d.a))
		return answer{frames: frames(append(slices.Clone(ahead), last))}
	case d.name == "Call" && !none && d.b >= 0 && d.b <= has && d.b <= 8 && len(l) < 8:
		behind := call{fn: d.a}
		copy(behind.locals[:], last.values[has-d.b:])
		return is(append(slices.Clone(ahead), last.without(d.b), behind)...)
	case d.name == "Ret" && has > 0:
		return returned(ahead, last.values[has-1])
	case d.name == "Local" && d.a >= 0 && d.a < 8:
		return answer{value: last.locals[d.a]}
	case d.name == "Store" && !none && d.a >= 0 && d.a < 8:
		last.locals[d.a] = word(d.b)
		return answer{frames: frames(append(slices.Clone(ahead), last))}
	case d.name == "Go" && !none:
		last.at = d.a
		return answer{frames: frames(append(slices.Clone(ahead), last))}
	case d.name == "Turn" || d.name == "Store" || d.name == "Go":
		return answer{frames: frames(l)}
	}
	return answer{}
}

// without is a call without the n top values.
func (c call) without(n int) call {
	for k := range n {
		c.beside[len(c.values)-1-k] = 0
	}
	c.values = c.values[:len(c.values)-n]
	return c
}

// returned is what comes of calls, of which the one behind them all returned a value.
func returned(l []call, v int) answer {
	if len(l) == 0 {
		return answer{ok: true, value: v}
	}
	r := deed{name: "Push", a: v}.read(l)
	if r.ok {
		r.value = v
	}
	return r
}

// numbers is a drawn number: mostly a small one, seldom one at an edge, or any.
func number(r *draws.Row) int {
	switch r.Next() % 8 {
	case 0:
		return edges[r.Next()%uint64(len(edges))]
	case 1:
		return int(r.Next()) >> (r.Next() % 64)
	}
	return int(r.Next()%12) - 1
}

// drawn is a drawn call. Those that let more stand there than ahead come more often than those that let less.
func drawn(r *draws.Row) deed {
	all := []string{"Push", "Push", "Push", "Push", "Push", "Push", "Call", "Call", "Call", "Call", "Pop", "Top", "Turn", "Ret", "Local", "Store", "Go"}
	return deed{all[r.Next()%uint64(len(all))], number(r), number(r)}
}

// tally is how often each call was answered with ok, and without.
type tally map[string][2]int

func (y tally) add(d deed, a answer) {
	n := y[d.name]
	if a.ok {
		n[0]++
	} else {
		n[1]++
	}
	y[d.name] = n
}

func TestDrawnRowsOfCalls(t *testing.T) {
	r, times, deepest, most := draws.Row(141), tally{}, 0, 0
	for range 1500 {
		l := frame.New(number(&r), row(int(r.Next()%12))...)
		var had [][]api.Frame
		var were [][]call
		for range r.Next() % 150 {
			d, reading := drawn(&r), calls(l)
			got, want := asked(t, l, d), d.read(reading)
			if !got.same(want) {
				t.Fatalf("%v of %v: %v, not %v", d, l, got, want)
			}
			times.add(d, got)
			had, were = append(had, l), append(were, reading)
			if changes := d.name != "Top" && d.name != "Local"; changes && (got.ok || d.name == "Turn" || d.name == "Store" || d.name == "Go") {
				l = got.frames
			}
			if len(l) > 0 {
				deepest, most = max(deepest, len(l)), max(most, l[len(l)-1].N)
			}
			if len(l) == 0 && r.Next()%3 == 0 {
				l = frame.New(number(&r))
			}
		}
		for k, l := range had {
			if !slices.Equal(l, frames(were[k])) {
				t.Fatalf("%v became %v", frames(were[k]), l)
			}
		}
	}
	for name, n := range times {
		never := name == "Turn" || name == "Local" || name == "Store" || name == "Go"
		if n[1] < 500 || !never && n[0] < 500 {
			t.Errorf("%s: %v times", name, n)
		}
	}
	if deepest != deep || most != room {
		t.Errorf("%d frames, and %d values, at most", deepest, most)
	}
}

func TestDrawnFrames(t *testing.T) {
	r := draws.Row(142)
	for range 20000 {
		var l []api.Frame
		for k := range r.Next() % 10 {
			f := odd(int(k), int(r.Next()%17))
			for n := range f.S {
				f.S[n] = word(number(&r))
			}
			l = append(l, f)
		}
		for range 5 {
			d := drawn(&r)
			does(t, l, d, d.read(calls(l)))
		}
	}
}
