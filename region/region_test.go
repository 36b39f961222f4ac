package region_test

import (
	"cmp"
	"maps"
	"math"
	"slices"
	"testing"

	"logjam/api"
	"logjam/cell"
	"logjam/frame"
	"logjam/internal/draws"
	"logjam/internal/lists"
	"logjam/region"
)

// edges are numbers that cells, objects, and what is told of them may be, rising. Some would be others, if bits were lost.
var edges = []int{
	math.MinInt, math.MinInt + 1, -1<<32 - 1, -1 << 32, -1<<32 + 1, -1<<31 - 1, -1 << 31, -257, -256, -33, -32, -2, -1,
	0, 1, 2, 31, 32, 33, 63, 64, 255, 256, 257, 1 << 16, 1<<31 - 1, 1 << 31, 1<<32 - 1, 1 << 32, 1<<32 + 1, math.MaxInt - 1, math.MaxInt,
}

// nones are counts that change nothing.
var nones = []int{0, -1, -2, -1 << 31, -1<<32 + 1, math.MinInt + 1, math.MinInt}

// numbers are what regions may be numbered.
var numbers = []int{0, -1, 1, 1 << 32, math.MinInt, math.MaxInt}

// spare is what stands in spare room.
var spare = api.Frame{Fn: 91, Pc: 92, N: 3, L: [8]int{93, 94}, S: [16]int{95, 96, 97, 98}}

// pairs is a list of cells, or objects, and a number of each.
func pairs(of ...int) []region.Pair {
	var l []region.Pair
	for k := 0; k+1 < len(of); k += 2 {
		l = append(l, region.Pair{Obj: of[k], N: of[k+1]})
	}
	return l
}

// call is a frame with n values; no number of it is that of another place, or of another function.
func call(fn, n int) api.Frame {
	f := api.Frame{Fn: fn, Pc: 1000*fn + 1, N: n}
	for k := range f.L {
		f.L[k] = -1000*fn - k
	}
	for k := range n {
		f.S[k] = 1000*fn + 100 + k
	}
	return f
}

// calls are frames with so many values, one behind the other.
func calls(values ...int) []api.Frame {
	var l []api.Frame
	for fn, n := range values {
		l = append(l, call(fn+1, n))
	}
	return l
}

// dirty is a frame that has something in places of no value.
func dirty(n int) api.Frame {
	f := call(7, 16)
	f.N = n
	return f
}

// checkpoints are frames: none, one, several, and eight and more of them, with values and without.
func checkpoints() [][]api.Frame {
	return [][]api.Frame{
		nil, {}, {{}}, {{Fn: math.MinInt, Pc: math.MaxInt}}, calls(0), calls(1), calls(2), calls(15), calls(16),
		calls(0, 0), calls(0, 1), calls(1, 0), calls(3, 2), calls(16, 16), calls(16, 0), calls(0, 16), calls(1, 2, 0), calls(0, 2, 1), {call(3, 2), call(3, 2)},
		calls(1, 2, 3, 4, 5, 6, 7, 8), calls(8, 7, 6, 5, 4, 3, 2, 0), calls(0, 0, 0, 0, 0, 0, 0, 0), calls(0, 0, 0, 0, 0, 0, 0, 1), calls(1, 1, 1, 1, 1, 1, 1, 0),
		{dirty(0)}, {dirty(1)}, {dirty(15)}, {dirty(3), dirty(0)}, {dirty(0), dirty(3)},
		slices.Repeat(calls(2), 9), slices.Repeat(calls(0, 3), 10),
	}
}

// top tells whether the last one of frames has a top value.
func top(l []api.Frame) bool { return len(l) > 0 && l[len(l)-1].N > 0 }

// The kinds of what is told of a region.
const (
	wrote = iota
	got
	lost
)

// deed is what is told of a region.
type deed struct{ kind, obj, n int }

func (d deed) of(g *region.Log) {
	switch d.kind {
	case wrote:
		g.Wrote(d.obj, d.n)
	case got:
		g.Got(d.obj, d.n)
	case lost:
		g.Lost(d.obj, d.n)
	}
}

// some is one deed of each kind, and more, on cells and objects of the same numbers.
var some = []deed{
	{wrote, 1, 10}, {got, 1, 3}, {got, 0, 2}, {wrote, 2, 20}, {lost, 1, 1}, {wrote, 1, 11}, {got, 3, 1}, {lost, 3, 1}, {lost, 2, 1},
	{wrote, math.MaxInt, math.MinInt}, {got, math.MinInt, 1 << 40}, {wrote, -1, 0}, {got, -1, 1},
}

// model is a region by the chapter's words: what it began with, and all that was told of it since, in order.
type model struct {
	frames         []api.Frame
	number, aborts int
	deeds          []deed
}

func fresh(l []api.Frame, number int) *model { return &model{frames: slices.Clone(l), number: number} }

func (m *model) clone() *model {
	return &model{slices.Clone(m.frames), m.number, m.aborts, slices.Clone(m.deeds)}
}

func (m *model) again(number int) *model {
	return &model{frames: slices.Clone(m.frames), number: number, aborts: m.aborts + 1}
}

// undo goes from the last deed back to the first one; what was written ahead of it already does not count.
func (m *model) undo() []region.Pair {
	var l []region.Pair
	for k, d := range slices.Backward(m.deeds) {
		ahead := func(a deed) bool { return a.kind == wrote && a.obj == d.obj }
		if d.kind == wrote && !slices.ContainsFunc(m.deeds[:k], ahead) {
			l = append(l, region.Pair{Obj: d.obj, N: d.n})
		}
	}
	return l
}

// holds is how many are held of each object of which some were got, by its number; of some it is 0.
func (m *model) holds() map[int]int {
	held := map[int]int{}
	for _, d := range m.deeds {
		n, had := held[d.obj]
		switch {
		case d.n < 1:
		case d.kind == got:
			held[d.obj] = n + d.n
		case d.kind == lost && had:
			held[d.obj] = max(n-d.n, 0)
		}
	}
	return held
}

func (m *model) held() []region.Pair {
	var l []region.Pair
	held := m.holds()
	for _, obj := range slices.Sorted(maps.Keys(held)) {
		if held[obj] > 0 {
			l = append(l, region.Pair{Obj: obj, N: held[obj]})
		}
	}
	return l
}

func (m *model) told() []api.Frame {
	l := slices.Clone(m.frames)
	if m.aborts > 0 && top(l) {
		last := &l[len(l)-1]
		last.S[last.N-1] = m.aborts
	}
	return l
}

// look is all that can be seen of a region.
type look struct {
	undo, held     []region.Pair
	frames         []api.Frame
	number, aborts int
}

func lookAt(g *region.Log) look { return look{g.Undo(), g.Held(), g.Frames(), g.Number(), g.Aborts()} }

func (m *model) look() look { return look{m.undo(), m.held(), m.told(), m.number, m.aborts} }

func (l look) same(m look) bool {
	return slices.Equal(l.undo, m.undo) && slices.Equal(l.held, m.held) && slices.Equal(l.frames, m.frames) && l.number == m.number && l.aborts == m.aborts
}

// is fails, if a region is anything but what its model says.
func is(t *testing.T, g *region.Log, m *model) {
	t.Helper()
	if g == nil {
		t.Fatal("nil")
	}
	want := m.look()
	for range 2 {
		if l := lookAt(g); !l.same(want) {
			t.Fatalf("%+v, not %+v, behind %v", l, want, m.deeds)
		}
	}
}

// follows fails, if a region is anything but what its model says, behind each of some deeds.
func follows(t *testing.T, g *region.Log, m *model, deeds ...deed) {
	t.Helper()
	for _, d := range deeds {
		d.of(g)
		m.deeds = append(m.deeds, d)
		is(t, g, m)
	}
}

// unchanged fails, if a deed changes anything.
func unchanged(t *testing.T, g *region.Log, d deed) {
	t.Helper()
	ahead := lookAt(g)
	d.of(g)
	if behind := lookAt(g); !behind.same(ahead) {
		t.Fatalf("%v: %+v, not %+v", d, behind, ahead)
	}
}

// undoes fails, if Undo tells anything but these.
func undoes(t *testing.T, g *region.Log, want ...int) {
	t.Helper()
	if l := g.Undo(); !slices.Equal(l, pairs(want...)) {
		t.Fatalf("%v, not %v", l, pairs(want...))
	}
}

// holds fails, if Held tells anything but these.
func holds(t *testing.T, g *region.Log, want ...int) {
	t.Helper()
	if l := g.Held(); !slices.Equal(l, pairs(want...)) {
		t.Fatalf("%v, not %v", l, pairs(want...))
	}
}

// begun is a region, with nothing done, behind so many aborts.
func begun(l []api.Frame, number, aborts int) *region.Log {
	g := region.Begin(l, number)
	for range aborts {
		g = g.Again(number)
	}
	return g
}

// ways go to a region in which nothing was done, each by other calls, and hand each of them to do.
func ways(l []api.Frame, number, aborts int, do func(*region.Log)) {
	do(begun(l, number, aborts))
	do(begun(l, number, aborts).Clone())
	if aborts == 0 {
		return
	}
	// Others of other numbers, in which much was done, were ahead of it.
	g := region.Begin(l, 77)
	for k := range aborts {
		for _, d := range some {
			d.of(g)
		}
		g = g.Clone().Again(k)
	}
	for _, d := range some {
		d.of(g)
	}
	w := region.Begin(l, 5)
	for range aborts - 1 {
		w = w.Again(6)
	}
	for _, d := range some {
		d.of(w)
	}
	do(w.Again(number))
}

// each goes through checkpoints, numbers and aborts, by each way.
func each(t *testing.T, do func(*region.Log, *model)) {
	t.Helper()
	for _, l := range checkpoints() {
		for _, number := range numbers {
			for _, aborts := range []int{0, 1, 2, 5} {
				ways(l, number, aborts, func(g *region.Log) {
					m := &model{frames: slices.Clone(l), number: number, aborts: aborts}
					is(t, g, m)
					do(g, m)
				})
			}
		}
	}
}

func TestTheExample(t *testing.T) {
	g := region.Begin(nil, 1)
	g.Wrote(7, 1)
	g.Wrote(8, 2)
	g.Wrote(7, 3)
	undoes(t, g, 8, 2, 7, 1)
}

// P23.1

func TestBeginIsWithWhatWasHandedIn(t *testing.T) {
	for _, l := range checkpoints() {
		for _, number := range edges {
			g := region.Begin(l, number)
			if g == nil {
				t.Fatal("nil")
			}
			for range 2 {
				if got := g.Frames(); !slices.Equal(got, l) {
					t.Fatalf("%v, not %v", got, l)
				}
				if g.Number() != number || g.Aborts() != 0 {
					t.Fatalf("%d, %d, not %d, 0", g.Number(), g.Aborts(), number)
				}
				undoes(t, g)
				holds(t, g)
			}
		}
	}
}

func TestBeginTwiceOfTheSame(t *testing.T) {
	for _, l := range checkpoints() {
		a := region.Begin(l, 4)
		for _, d := range some {
			d.of(a)
		}
		b := region.Begin(l, 4)
		if a == b {
			t.Fatal("the same one")
		}
		is(t, b, fresh(l, 4))
	}
}

func TestSituations(t *testing.T) {
	each(t, func(*region.Log, *model) {})
}

// Frames

func TestTheTopValueIsHowManyAbortsThereWere(t *testing.T) {
	for n := 1; n <= 16; n++ {
		for _, ahead := range [][]api.Frame{nil, calls(0), calls(3), calls(2, 0), calls(1, 2, 3, 4, 5, 6, 7)} {
			l := append(slices.Clone(ahead), call(9, n))
			g := region.Begin(l, 1)
			for aborts := 1; aborts <= 40; aborts++ {
				g = g.Again(1)
				want := slices.Clone(l)
				want[len(l)-1].S[n-1] = aborts
				for range 2 {
					if got := g.Frames(); !slices.Equal(got, want) {
						t.Fatalf("behind %d: %v, not %v", aborts, got, want)
					}
				}
			}
		}
	}
}

func TestFramesWithoutAborts(t *testing.T) {
	// The top value stays what it was, which is not 0.
	l := calls(1, 3)
	if got := region.Begin(l, 1).Frames(); !slices.Equal(got, l) || got[1].S[2] != 2102 {
		t.Errorf("%v, not %v", got, l)
	}
}

func TestFramesWithoutATopValue(t *testing.T) {
	for _, l := range [][]api.Frame{
		nil, {}, {{}}, calls(0), calls(0, 0), calls(1, 0), calls(16, 0), calls(1, 2, 0), calls(1, 1, 1, 1, 1, 1, 1, 0), {dirty(0)}, {dirty(3), dirty(0)},
	} {
		g := region.Begin(l, 1)
		for aborts := range 20 {
			if got := g.Frames(); !slices.Equal(got, l) || g.Aborts() != aborts {
				t.Fatalf("behind %d: %v, not %v", aborts, got, l)
			}
			g = g.Again(2)
		}
	}
}

func TestFramesAreAsTurnLaysThem(t *testing.T) {
	for _, l := range checkpoints() {
		g := region.Begin(l, 1)
		for aborts := 1; aborts < 300; aborts++ {
			g = g.Again(1)
			if got, want := g.Frames(), frame.Turn(l, aborts); !slices.Equal(got, want) {
				t.Fatalf("behind %d: %v, not %v", aborts, got, want)
			}
		}
	}
}

func TestNoAbortIsLaidOnWhatWasTold(t *testing.T) {
	l := calls(2, 3)
	g := region.Begin(l, 1)
	var told [][]api.Frame
	for aborts := range 6 {
		told = append(told, g.Frames(), g.Frames())
		g = g.Again(1)
		for k, got := range told {
			want := slices.Clone(l)
			if k > 1 {
				want[1].S[2] = k / 2
			}
			if !slices.Equal(got, want) {
				t.Fatalf("behind %d: what was told behind %d is %v, not %v", aborts+1, k/2, got, want)
			}
		}
	}
}

// How many values a frame has is open below 0, and above 16; it ends, without a panic.
func TestFramesOfOtherCountsDoNotPanic(t *testing.T) {
	for _, n := range slices.Concat(edges, []int{17, 18, 100, -3}) {
		for _, l := range [][]api.Frame{{dirty(n)}, {dirty(n), dirty(2)}, {dirty(2), dirty(n)}} {
			g := region.Begin(l, 3)
			for range 3 {
				g.Frames()
				g.Clone().Frames()
				g = g.Again(4)
			}
			undoes(t, g)
			holds(t, g)
			if g.Number() != 4 || g.Aborts() != 3 {
				t.Fatal(g.Number(), g.Aborts())
			}
		}
	}
}

// What is handed in, and what is answered

func TestTheFramesAreNeitherChangedNorKept(t *testing.T) {
	for _, l := range checkpoints() {
		m := fresh(l, 3)
		handed := lists.Room(l, spare)
		g := region.Begin(handed, 3)
		stay := func() {
			t.Helper()
			if !slices.Equal(handed[:cap(handed)], append(slices.Clone(l), spare, spare)) {
				t.Fatalf("%v, not %v", handed[:cap(handed)], l)
			}
		}
		stay()
		is(t, g, m)
		// What the region does, and tells, isn't done there.
		again, twin := g.Again(4), g.Clone()
		for _, d := range some {
			d.of(again)
		}
		for _, r := range []*region.Log{g, again, twin, again.Again(5)} {
			answer := r.Frames()
			if !lists.Apart(handed, answer) {
				t.Fatal("they share memory")
			}
			for k := range answer {
				answer[k] = spare
			}
		}
		stay()
		// Nor the other way.
		for k := range handed[:cap(handed)] {
			handed[:cap(handed)][k] = call(55, 5)
		}
		is(t, g, m)
		is(t, twin, m)
		is(t, g.Again(4), m.again(4))
		w := m.again(4)
		w.deeds = some
		is(t, again, w)
	}
}

func TestAnswersAreNewMemory(t *testing.T) {
	each(t, func(g *region.Log, m *model) {
		follows(t, g, m, some...)
		a, b, c := lookAt(g), lookAt(g), lookAt(g.Clone())
		if !lists.Apart(a.undo, b.undo, c.undo, a.held, b.held, c.held) || !lists.Apart(a.frames, b.frames, c.frames, g.Again(1).Frames()) {
			t.Fatalf("answers share memory: %+v", a)
		}
		for _, l := range []look{a, b} {
			for _, p := range [][]region.Pair{l.undo, l.held} {
				for k := range p[:cap(p)] {
					p[:cap(p)][k] = region.Pair{Obj: -77, N: 66}
				}
				_ = append(p, region.Pair{Obj: -76, N: 65})
			}
			for k := range l.frames[:cap(l.frames)] {
				l.frames[:cap(l.frames)][k] = spare
			}
			_ = append(l.frames, spare)
		}
		is(t, g, m)
		is(t, g.Clone(), m)
		is(t, g.Again(9), m.again(9))
		follows(t, g, m, deed{wrote, 70, 1}, deed{got, 70, 1}, deed{lost, 1, 1})
	})
}

func TestWhatWasToldStays(t *testing.T) {
	each(t, func(g *region.Log, m *model) {
		follows(t, g, m, some...)
		told, kept := lookAt(g), m.look()
		for _, d := range []deed{{wrote, 50, 5}, {got, 1, 7}, {got, -50, 1}, {lost, 0, 5}, {lost, -1, 1}, {wrote, 1, 9}, {got, 0, 1}} {
			d.of(g)
		}
		for _, d := range some {
			d.of(g.Again(8))
			d.of(g.Clone())
		}
		if !told.same(kept) {
			t.Fatalf("%+v became %+v", kept, told)
		}
	})
}

// P23.2: Wrote, Undo

func TestWroteOfOneCell(t *testing.T) {
	for _, obj := range edges {
		for _, was := range edges {
			g := region.Begin(calls(1), 1)
			g.Wrote(obj, was)
			for range 2 {
				undoes(t, g, obj, was)
			}
		}
	}
}

func TestWroteOfOneCellOftener(t *testing.T) {
	for _, obj := range edges {
		g := region.Begin(nil, 1)
		g.Wrote(obj, 5)
		for _, was := range slices.Concat(edges, []int{5, 6, 5}) {
			g.Wrote(obj, was)
			undoes(t, g, obj, 5)
		}
	}
}

func TestWroteOfSeveralCells(t *testing.T) {
	g := region.Begin(nil, 1)
	var want []int
	for k, obj := range edges {
		g.Wrote(obj, k*k-9)
		want = slices.Concat([]int{obj, k*k - 9}, want)
		undoes(t, g, want...)
	}
	// Whatever the order, the one that was written first stands last.
	r := draws.Row(230)
	for range 200 {
		g, want := region.Begin(nil, 1), []int{}
		for k, obj := range draws.Shuffled(&r, edges) {
			g.Wrote(obj, k)
			want = slices.Concat([]int{obj, k}, want)
		}
		undoes(t, g, want...)
		for _, obj := range draws.Shuffled(&r, edges) {
			g.Wrote(obj, -1)
		}
		undoes(t, g, want...)
	}
}

func TestWroteInBetweenOthers(t *testing.T) {
	g := region.Begin(nil, 1)
	for _, step := range []struct {
		cell, was int
		want      []int
	}{
		{3, 30, []int{3, 30}},
		{3, 31, []int{3, 30}},
		{1, 10, []int{1, 10, 3, 30}},
		{3, 32, []int{1, 10, 3, 30}},
		{2, 20, []int{2, 20, 1, 10, 3, 30}},
		{1, 11, []int{2, 20, 1, 10, 3, 30}},
		{3, 30, []int{2, 20, 1, 10, 3, 30}},
		{2, 21, []int{2, 20, 1, 10, 3, 30}},
		{0, 0, []int{0, 0, 2, 20, 1, 10, 3, 30}},
		{0, 1, []int{0, 0, 2, 20, 1, 10, 3, 30}},
	} {
		g.Wrote(step.cell, step.was)
		undoes(t, g, step.want...)
	}
}

func TestWroteOfManyCells(t *testing.T) {
	g := region.Begin(nil, 1)
	var want []int
	for k := range 1000 {
		g.Wrote(k*7%1000, k)
		g.Wrote(k*7%1000, -1)
		want = append(want, k, k*7%1000)
	}
	slices.Reverse(want)
	undoes(t, g, want...)
}

// P23.2: Got, Lost, Held

func TestGotOfOneObject(t *testing.T) {
	for _, obj := range edges {
		for _, n := range edges {
			g := region.Begin(calls(1), 1)
			g.Got(obj, n)
			for range 2 {
				if n < 1 {
					holds(t, g)
				} else {
					holds(t, g, obj, n)
				}
			}
		}
	}
}

func TestGotTwiceAndOftener(t *testing.T) {
	for _, obj := range edges {
		g, sum := region.Begin(nil, 1), 0
		for _, n := range []int{1, 1, 2, 5, 1000, 1 << 31, 1, 1 << 40} {
			g.Got(obj, n)
			sum += n
			holds(t, g, obj, sum)
		}
	}
}

func TestGotOfNone(t *testing.T) {
	for _, n := range nones {
		each := []deed{{got, 4, n}, {got, 5, n}, {got, -1, n}, {got, math.MinInt, n}, {got, math.MaxInt, n}}
		g := region.Begin(calls(2), 1)
		for _, d := range each {
			unchanged(t, g, d)
		}
		holds(t, g)
		g.Got(4, 3)
		for _, d := range each {
			unchanged(t, g, d)
		}
		holds(t, g, 4, 3)
		g.Got(4, 1)
		g.Got(5, 1)
		holds(t, g, 4, 4, 5, 1)
	}
}

func TestLostOfFewerAsManyAndMore(t *testing.T) {
	for _, obj := range edges {
		for _, n := range []int{1, 2, 3, 7, 1000, math.MaxInt - 1} {
			for _, less := range []int{1, 2, 3, 4, 7, 8, 999, 1000, 1001, 1 << 32, math.MaxInt - 2, math.MaxInt - 1, math.MaxInt} {
				g := region.Begin(nil, 1)
				g.Got(obj, n)
				g.Lost(obj, less)
				if less < n {
					holds(t, g, obj, n-less)
				} else {
					holds(t, g)
				}
				// What was lost beyond what was held is nobody's.
				g.Got(obj, 1)
				holds(t, g, obj, max(n-less, 0)+1)
			}
		}
	}
}

func TestLostTwiceAndOftener(t *testing.T) {
	g := region.Begin(nil, 1)
	g.Got(2, 10)
	for _, step := range []struct{ less, left int }{{1, 9}, {1, 8}, {3, 5}, {4, 1}} {
		g.Lost(2, step.less)
		holds(t, g, 2, step.left)
	}
	for range 3 {
		g.Lost(2, 1)
		holds(t, g)
	}
}

func TestLostOfOneAmongOthers(t *testing.T) {
	for k, obj := range edges {
		g, m := region.Begin(nil, 1), fresh(nil, 1)
		for _, o := range edges {
			follows(t, g, m, deed{got, o, 3})
		}
		follows(t, g, m, deed{lost, obj, 1})
		follows(t, g, m, deed{lost, obj, 2})
		if l := g.Held(); len(l) != len(edges)-1 || slices.ContainsFunc(l, func(p region.Pair) bool { return p.Obj == obj }) {
			t.Fatalf("%d: %v", obj, l)
		}
		other := edges[(k+1)%len(edges)]
		follows(t, g, m, deed{lost, other, 9}, deed{got, obj, 5}, deed{lost, other, 1}, deed{got, other, 6})
	}
}

func TestLostOfWhatWasNeverGot(t *testing.T) {
	for _, n := range slices.Concat([]int{1, 2, 1000, math.MaxInt}, nones) {
		g := region.Begin(calls(1), 1)
		for _, obj := range edges {
			unchanged(t, g, deed{lost, obj, n})
		}
		holds(t, g)
		g.Got(5, 2)
		for _, obj := range edges {
			unchanged(t, g, deed{lost, obj, n})
			// Nor does it owe anything.
			q := g.Clone()
			q.Got(obj, 1)
			if obj < 5 {
				holds(t, q, obj, 1, 5, 2)
			} else {
				holds(t, q, 5, 2, obj, 1)
			}
		}
		holds(t, g, 5, 2)
	}
}

func TestLostOfNone(t *testing.T) {
	for _, n := range nones {
		g := region.Begin(calls(1), 1)
		g.Got(5, 2)
		g.Got(6, 1)
		for _, obj := range []int{5, 6, 4, 7, math.MinInt, math.MaxInt} {
			unchanged(t, g, deed{lost, obj, n})
		}
		holds(t, g, 5, 2, 6, 1)
	}
}

func TestGotBehindLostOfAll(t *testing.T) {
	for _, obj := range edges {
		g, m := region.Begin(nil, 1), fresh(nil, 1)
		for n := 1; n < 5; n++ {
			follows(t, g, m, deed{got, obj, n}, deed{lost, obj, n}, deed{got, obj, n + 1})
			holds(t, g, obj, n+1)
			follows(t, g, m, deed{lost, obj, n + 2}, deed{lost, obj, 1})
			holds(t, g)
		}
	}
}

func TestHeldRises(t *testing.T) {
	r := draws.Row(231)
	var want []int
	for k, obj := range edges {
		want = append(want, obj, k+1)
	}
	for range 200 {
		g := region.Begin(nil, 1)
		order := make([]int, len(edges))
		for k := range order {
			order[k] = k
		}
		for _, k := range draws.Shuffled(&r, order) {
			g.Got(edges[k], k+1)
			if l := g.Held(); !slices.IsSortedFunc(l, func(a, b region.Pair) int { return cmp.Compare(a.Obj, b.Obj) }) {
				t.Fatalf("%v", l)
			}
		}
		holds(t, g, want...)
	}
}

func TestHeldOfManyObjects(t *testing.T) {
	g := region.Begin(nil, 1)
	var want []int
	for k := range 1000 {
		g.Got(k*7%1000, k*7%1000+1)
		if k%3 > 0 {
			want = append(want, k, k+1)
		}
	}
	for k := 999; k >= 0; k -= 3 {
		g.Lost(k, k+1)
	}
	holds(t, g, want...)
}

// No int says how many are held then; the most that can be told are told.
func TestGotOfMoreThanCanBeTold(t *testing.T) {
	g := region.Begin(nil, 1)
	g.Got(1, math.MaxInt-2)
	for _, n := range []int{1, 1, 1, 5, math.MaxInt, math.MaxInt} {
		g.Got(1, n)
	}
	holds(t, g, 1, math.MaxInt)
	g.Lost(1, math.MaxInt-3)
	holds(t, g, 1, 3)
}

// What one says of the others

func TestWrotesChangeNothingElse(t *testing.T) {
	each(t, func(g *region.Log, m *model) {
		for range 2 {
			held, frames := g.Held(), g.Frames()
			for _, obj := range edges {
				g.Wrote(obj, obj/2)
				m.deeds = append(m.deeds, deed{wrote, obj, obj / 2})
				if !slices.Equal(g.Held(), held) || !slices.Equal(g.Frames(), frames) || g.Number() != m.number || g.Aborts() != m.aborts {
					t.Fatalf("%d: %+v", obj, lookAt(g))
				}
			}
			follows(t, g, m, some...)
		}
	})
}

func TestGotsAndLostsChangeNothingElse(t *testing.T) {
	each(t, func(g *region.Log, m *model) {
		for range 2 {
			undo, frames := g.Undo(), g.Frames()
			for _, obj := range edges {
				for _, d := range []deed{{got, obj, 3}, {lost, obj, 1}, {lost, obj, 9}, {got, obj, 0}, {got, obj, 2}, {lost, obj, -1}} {
					d.of(g)
					m.deeds = append(m.deeds, d)
					if !slices.Equal(g.Undo(), undo) || !slices.Equal(g.Frames(), frames) || g.Number() != m.number || g.Aborts() != m.aborts {
						t.Fatalf("%v: %+v", d, lookAt(g))
					}
				}
			}
			follows(t, g, m, some...)
		}
	})
}

func TestACellAndAnObjectOfOneNumber(t *testing.T) {
	g := region.Begin(nil, 1)
	g.Wrote(4, 40)
	g.Got(4, 2)
	g.Wrote(4, 41)
	g.Lost(4, 1)
	undoes(t, g, 4, 40)
	holds(t, g, 4, 1)
	g.Lost(4, 1)
	undoes(t, g, 4, 40)
	holds(t, g)
}

// P23.3: Again

func TestAgainIsFromTheSameCheckpointOn(t *testing.T) {
	each(t, func(g *region.Log, m *model) {
		for _, number := range numbers {
			q := g.Again(number)
			if q == nil || q == g {
				t.Fatal("it is none, or the same one")
			}
			is(t, q, m.again(number))
			is(t, g, m)
		}
		follows(t, g, m, some...)
		for _, number := range edges {
			is(t, g.Again(number), m.again(number))
		}
		is(t, g, m)
	})
}

func TestAgainBehindWritesAndGets(t *testing.T) {
	l := calls(2, 1)
	g := region.Begin(l, 7)
	for _, d := range some {
		d.of(g)
		q := g.Again(8)
		undoes(t, q)
		holds(t, q)
		if q.Number() != 8 || q.Aborts() != 1 || g.Number() != 7 || g.Aborts() != 0 {
			t.Fatal(q.Number(), q.Aborts(), g.Number(), g.Aborts())
		}
		if got := q.Frames(); got[1].S[0] != 1 || !slices.Equal(g.Frames(), l) {
			t.Fatalf("%v, %v", got, g.Frames())
		}
	}
}

func TestAgainBehindAgain(t *testing.T) {
	l := calls(3, 2)
	g := region.Begin(l, -1)
	for aborts, number := range slices.Concat(edges, edges) {
		if g.Aborts() != aborts {
			t.Fatalf("%d, not %d", g.Aborts(), aborts)
		}
		g.Wrote(aborts, 5)
		g.Got(aborts, 1)
		g = g.Again(number)
		undoes(t, g)
		holds(t, g)
		if g.Number() != number {
			t.Fatalf("%d, not %d", g.Number(), number)
		}
		want := slices.Clone(l)
		want[1].S[1] = aborts + 1
		if got := g.Frames(); !slices.Equal(got, want) {
			t.Fatalf("%v, not %v", got, want)
		}
	}
}

func TestAgainKnowsNothingOfTheOther(t *testing.T) {
	each(t, func(g *region.Log, m *model) {
		q, w := g.Again(70), m.again(70)
		apart(t, g, q, m, w)
		// Nor behind both have done something.
		r, v := g.Again(71), m.again(71)
		apart(t, r, g, v, m)
		is(t, q, w)
	})
}

// apart fails, if one of two regions knows what the other one does.
func apart(t *testing.T, g, q *region.Log, m, w *model) {
	t.Helper()
	for k, d := range some {
		follows(t, g, m, d)
		is(t, q, w)
		for _, e := range []deed{{wrote, 40 - k, k}, {got, k % 3, 2}, {lost, k % 2, 1}, {wrote, k % 4, 90 + k}, {lost, -1, 9}} {
			follows(t, q, w, e)
			is(t, g, m)
		}
	}
}

// P23.3: Clone

func TestCloneIsTheSameApart(t *testing.T) {
	each(t, func(g *region.Log, m *model) {
		for range 2 {
			q := g.Clone()
			if q == nil || q == g {
				t.Fatal("it is none, or the same one")
			}
			is(t, q, m)
			is(t, g, m)
			w := m.clone()
			apart(t, g, q, m, w)
			is(t, q.Again(5), w.again(5))
			is(t, g.Again(5), m.again(5))
		}
	})
}

func TestCloneOfAClone(t *testing.T) {
	g := region.Begin(calls(1), 1).Again(2)
	g.Wrote(1, 10)
	g.Got(1, 1)
	q := g.Clone()
	q.Wrote(2, 20)
	q.Got(1, 2)
	r := q.Clone()
	r.Wrote(3, 30)
	r.Lost(1, 1)
	q.Wrote(4, 40)
	q.Lost(1, 3)
	g.Wrote(5, 50)
	g.Got(0, 7)
	undoes(t, g, 5, 50, 1, 10)
	undoes(t, q, 4, 40, 2, 20, 1, 10)
	undoes(t, r, 3, 30, 2, 20, 1, 10)
	holds(t, g, 0, 7, 1, 1)
	holds(t, q)
	holds(t, r, 1, 2)
	for _, each := range []*region.Log{g, q, r} {
		if each.Number() != 2 || each.Aborts() != 1 || each.Frames()[0].S[0] != 1 {
			t.Errorf("%+v", lookAt(each))
		}
	}
}

// Of nil

func TestNil(t *testing.T) {
	var g *region.Log
	for range 2 {
		for _, obj := range edges {
			for _, n := range edges {
				g.Wrote(obj, n)
				g.Got(obj, n)
				g.Lost(obj, n)
			}
			if q := g.Again(obj); q != nil {
				t.Errorf("%+v", q)
			}
		}
		if l := lookAt(g); !l.same(look{}) {
			t.Errorf("%+v", l)
		}
		if q := g.Clone(); q != nil {
			t.Errorf("%+v", q)
		}
	}
}

// What a zero one answers is open, but it ends, without a panic.
func TestAZeroOneDoesNotPanic(t *testing.T) {
	g := &region.Log{}
	for _, obj := range edges {
		for _, n := range edges {
			for kind := wrote; kind <= lost; kind++ {
				d := deed{kind, obj, n}
				d.of(g)
				d.of(g.Again(n))
				d.of(g.Clone())
			}
		}
		lookAt(g)
		lookAt(g.Again(obj))
		lookAt(g.Clone())
	}
}

// P23.4

// row is cells that a region goes on, by their numbers, and what it is told of.
type row struct {
	values map[int]int
	told   *region.Log
}

// set lets a cell be something, and tells the region what it was.
func (c row) set(obj, v int) {
	c.told.Wrote(obj, c.values[obj])
	c.values[obj] = v
}

// back is what cells are behind all that Undo tells was set, one behind the other.
func (c row) back() map[int]int {
	values := maps.Clone(c.values)
	for _, p := range c.told.Undo() {
		values[p.Obj] = p.N
	}
	return values
}

func TestUndoLetsCellsBeWhatTheyWere(t *testing.T) {
	tally := [3]int{}
	r := draws.Row(232)
	for range 2000 {
		values := map[int]int{}
		for range 1 + r.Next()%12 {
			values[number(&r)] = number(&r)
		}
		objs := slices.Sorted(maps.Keys(values))
		c, first := row{values, region.Begin(calls(1), 1)}, maps.Clone(values)
		for range r.Next() % 40 {
			obj := objs[r.Next()%uint64(len(objs))]
			v := number(&r)
			switch r.Next() % 4 {
			case 0:
				v = first[obj]
				tally[0]++
			case 1:
				v = c.values[obj]
				tally[1]++
			}
			c.set(obj, v)
			if got := c.back(); !maps.Equal(got, first) {
				t.Fatalf("%v, not %v", got, first)
			}
			// What is taken back begins again, from cells as they were.
			if r.Next()%8 == 0 {
				c = row{c.back(), c.told.Again(2)}
				tally[2]++
			}
		}
	}
	for k, n := range tally {
		if n < 2000 {
			t.Errorf("%d was met %d times", k, n)
		}
	}
}

func TestUndoIsSetInCells(t *testing.T) {
	c := cell.New([]api.Decl{{Kind: api.Cell, A: 5}, {Kind: api.Mutex}, {Kind: api.Cell, A: -6}, {Kind: api.Cell, A: 1 << 31}})
	first := c.All()
	g := region.Begin(nil, 1)
	for _, s := range []struct{ obj, v int }{{2, 7}, {0, 1}, {2, 8}, {2, -6}, {3, 4}, {0, 9}, {3, 1 << 32}} {
		was, _ := c.Get(s.obj)
		g.Wrote(s.obj, was)
		c.Set(s.obj, s.v)
		taken := c.Clone()
		for _, p := range g.Undo() {
			taken.Set(p.Obj, p.N)
		}
		if !slices.Equal(taken.All(), first) {
			t.Fatalf("%v, not %v", taken.All(), first)
		}
	}
}

// All orders, and drawn ones

func TestAllOrdersOfSomeDeeds(t *testing.T) {
	all := []deed{{wrote, 1, 5}, {wrote, 1, 6}, {wrote, 2, 7}, {got, 1, 1}, {got, 2, 2}, {got, 1, 0}, {lost, 1, 1}, {lost, 2, 1}, {lost, 2, 3}}
	met := map[[3]int]int{}
	var goOn func(*region.Log, *model, int)
	goOn = func(g *region.Log, m *model, left int) {
		held := m.holds()
		met[[3]int{len(g.Undo()), held[1], held[2]}]++
		if left == 0 {
			return
		}
		for _, d := range all {
			q, w := g.Clone(), m.clone()
			follows(t, q, w, d)
			goOn(q, w, left-1)
		}
		goOn(g.Again(left), m.again(left), left-1)
		is(t, g, m)
	}
	goOn(region.Begin(calls(1, 2), 9), fresh(calls(1, 2), 9), 4)
	if len(met) < 40 {
		t.Errorf("%d were met: %v", len(met), met)
	}
}

// number is one that is drawn: a small one, one at an edge, or any.
func number(r *draws.Row) int {
	switch r.Next() % 3 {
	case 0:
		return int(r.Next()%8) - 2
	case 1:
		return edges[r.Next()%uint64(len(edges))]
	}
	return int(r.Next())
}

// object is one that is drawn; most are few, so that they are drawn again.
func object(r *draws.Row) int {
	if r.Next()%4 == 0 {
		return edges[r.Next()%uint64(len(edges))]
	}
	return int(r.Next()%7) - 1
}

// count is one that is drawn; all together they are not more than an int can be.
func count(r *draws.Row) int {
	switch r.Next() % 6 {
	case 0:
		return nones[r.Next()%uint64(len(nones))]
	case 1:
		return 1 << (r.Next() % 45)
	}
	return 1 + int(r.Next()%4)
}

// drawn is a deed that is drawn.
func drawn(r *draws.Row) deed {
	switch r.Next() % 3 {
	case 0:
		return deed{wrote, object(r), number(r)}
	case 1:
		return deed{got, object(r), count(r)}
	}
	if r.Next()%8 == 0 {
		return deed{lost, object(r), math.MaxInt}
	}
	return deed{lost, object(r), count(r)}
}

// frames are some that are drawn.
func frames(r *draws.Row) []api.Frame {
	var l []api.Frame
	for range r.Next() % 9 {
		f := api.Frame{Fn: number(r), Pc: number(r), N: int(r.Next() % 17)}
		for k := range f.L {
			f.L[k] = int(int32(r.Next()))
		}
		for k := range f.N {
			f.S[k] = int(int32(r.Next()))
		}
		l = append(l, f)
	}
	return l
}

// What a deed may be, of what a region is.
const (
	firstWrite = iota
	nextWrite
	writeInBetween
	gotNone
	gotAnew
	gotMore
	gotBehindLost
	lostNone
	lostNeverGot
	lostFewer
	lostAsMany
	lostMore
	lostBehindLost
	turned
	notTurned
	cases
)

// which is what a deed is, of what a region is ahead of it.
func (m *model) which(d deed) int {
	same := func(a deed) bool { return a.kind == d.kind && a.obj == d.obj }
	last, ever := len(m.deeds)-1, slices.ContainsFunc(m.deeds, same)
	held, had := m.holds()[d.obj]
	switch {
	case d.kind == wrote && !ever:
		return firstWrite
	case d.kind == wrote && same(m.deeds[last]):
		return nextWrite
	case d.kind == wrote:
		return writeInBetween
	case d.kind == got:
		return whichGot(d.n, held, had)
	}
	return whichLost(d.n, held, had)
}

func whichGot(n, held int, had bool) int {
	switch {
	case n < 1:
		return gotNone
	case held > 0:
		return gotMore
	case had:
		return gotBehindLost
	}
	return gotAnew
}

func whichLost(n, held int, had bool) int {
	switch {
	case n < 1:
		return lostNone
	case !had:
		return lostNeverGot
	case held == 0:
		return lostBehindLost
	case n < held:
		return lostFewer
	case n == held:
		return lostAsMany
	}
	return lostMore
}

func TestDrawnDeeds(t *testing.T) {
	tally := [cases]int{}
	r := draws.Row(233)
	for range 4000 {
		l, n := frames(&r), number(&r)
		g, m := region.Begin(l, n), fresh(l, n)
		is(t, g, m)
		for range r.Next() % 60 {
			switch r.Next() % 20 {
			case 0:
				n := number(&r)
				g, m = g.Again(n), m.again(n)
				is(t, g, m)
			case 1:
				g, m = g.Clone(), m.clone()
				is(t, g, m)
			default:
				d := drawn(&r)
				if held := m.holds()[d.obj]; d.kind == lost && held > 0 && r.Next()%4 == 0 {
					d.n = held
				}
				tally[m.which(d)]++
				follows(t, g, m, d)
			}
			if m.aborts > 0 && top(l) {
				tally[turned]++
			} else if m.aborts > 0 {
				tally[notTurned]++
			}
		}
	}
	for k, n := range tally {
		if n < 500 {
			t.Errorf("%d was met %d times", k, n)
		}
	}
}

// Rules that hold everywhere

func TestRegionsKnowNothingOfOneAnother(t *testing.T) {
	r := draws.Row(234)
	for range 300 {
		regions, wants := make([]*region.Log, 4), make([]*model, 4)
		var l []api.Frame
		for k := range regions {
			// Two are of one list.
			if k != 1 {
				l = frames(&r)
			}
			regions[k], wants[k] = region.Begin(l, k), fresh(l, k)
		}
		for range 40 {
			i, j := r.Next()%4, r.Next()%4
			// Those that were made of one another know nothing of it, too.
			switch r.Next() % 12 {
			case 0:
				regions[i], wants[i] = regions[j].Clone(), wants[j].clone()
			case 1:
				n := number(&r)
				regions[i], wants[i] = regions[j].Again(n), wants[j].again(n)
			default:
				follows(t, regions[i], wants[i], drawn(&r))
			}
			for k := range regions {
				is(t, regions[k], wants[k])
			}
		}
	}
}

func TestAskingChangesNothing(t *testing.T) {
	r := draws.Row(235)
	for range 300 {
		l := frames(&r)
		asked, unasked := begun(l, 3, 2), begun(l, 3, 2)
		for range 40 {
			for range r.Next() % 3 {
				lookAt(asked)
				drawn(&r).of(asked.Clone())
				drawn(&r).of(asked.Again(4))
			}
			d := drawn(&r)
			d.of(asked)
			d.of(unasked)
		}
		if a, b := lookAt(asked), lookAt(unasked); !a.same(b) {
			t.Fatalf("%+v, and %+v without asking", a, b)
		}
	}
}

func TestTheSameCallsToldAgain(t *testing.T) {
	told := func() []look {
		r := draws.Row(236)
		var l []look
		for range 200 {
			g := region.Begin(frames(&r), number(&r))
			for range 30 {
				if r.Next()%10 == 0 {
					g = g.Again(number(&r))
				}
				drawn(&r).of(g)
				l = append(l, lookAt(g))
			}
		}
		return l
	}
	if !slices.EqualFunc(told(), told(), look.same) {
		t.Error("otherwise")
	}
}
