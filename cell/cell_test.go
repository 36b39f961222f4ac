package cell_test

import (
	"math"
	"slices"
	"testing"

	"logjam/api"
	"logjam/cell"
	"logjam/internal/draws"
	"logjam/internal/lists"
)

// words are numbers, and what each one's lowest 32 bits are, with a sign.
var words = []struct{ n, word int }{
	{math.MinInt, 0}, {math.MinInt + 1, 1}, {math.MinInt + 5, 5}, {-1<<32 - 1, -1}, {-1 << 32, 0}, {-1<<32 + 1, 1},
	{-1<<31 - 2, 1<<31 - 2}, {-1<<31 - 1, 1<<31 - 1}, {-1 << 31, -1 << 31}, {-1<<31 + 1, -1<<31 + 1}, {-1 << 16, -1 << 16}, {-256, -256},
	{-5, -5}, {-1, -1}, {0, 0}, {1, 1}, {5, 5}, {127, 127}, {128, 128}, {255, 255}, {256, 256}, {1 << 15, 1 << 15}, {1 << 16, 1 << 16},
	{1<<31 - 2, 1<<31 - 2}, {1<<31 - 1, 1<<31 - 1}, {1 << 31, -1 << 31}, {1<<31 + 1, -1<<31 + 1}, {1<<32 - 2, -2}, {1<<32 - 1, -1},
	{1 << 32, 0}, {1<<32 + 1, 1}, {1<<32 + 5, 5}, {1<<33 - 1, -1}, {3 << 31, -1 << 31}, {7<<40 + 9, 9}, {math.MaxInt - 5, -6}, {math.MaxInt - 1, -2}, {math.MaxInt, -1},
}

// numbers are those of words.
func numbers() []int {
	var l []int
	for _, w := range words {
		l = append(l, w.n)
	}
	return l
}

// Kinds that are no cell: all others, and what is none. Some would be a cell, if bits were lost.
var (
	kinds   = []int{api.Mutex, api.Rw, api.Sem, api.Cond, api.Bar, api.Pool}
	noKinds = []int{math.MinInt, math.MinInt + 7, -1<<32 + 7, -8, -7, -1, 0, 8, 9, 7 + 16, 7 + 1<<8, 7 + 1<<16, 7 + 1<<31, 7 + 1<<32, math.MaxInt - 1, math.MaxInt}
)

// outside are objects that no list of ours has. Some would be there, if bits were lost.
var outside = []int{
	math.MinInt, math.MinInt + 1, -1<<32 - 1, -1 << 32, -1<<32 + 1, -1 << 31, -257, -256, -255, -65, -64, -33, -32, -31, -3, -2, -1,
	1 << 12, 1<<16 + 1, 1<<31 - 1, 1 << 31, 1<<32 - 1, 1 << 32, 1<<32 + 1, 1<<33 + 2, math.MaxInt - 1, math.MaxInt,
}

// one is a cell of a value, and of what guards it.
func one(value, guard int) api.Decl { return api.Decl{Kind: api.Cell, A: value, B: guard} }

// other is an object of another kind, with numbers as a cell has.
func other(kind int) api.Decl { return api.Decl{Kind: kind, A: 7, B: 3} }

// setting is an object that shall be set, and to what.
type setting struct{ obj, v int }

func (s setting) of(c *cell.Cells) bool { return c.Set(s.obj, s.v) }

// model is cells by the chapter's words: objects as they were declared, and all that was set, in order.
type model struct {
	d    []api.Decl
	sets []setting
}

func fresh(d []api.Decl) *model { return &model{d: slices.Clone(d)} }

func (m *model) clone() *model { return &model{m.d, slices.Clone(m.sets)} }

// word is what is left of a number by 2^32, and 2^32 less, if that is above the greatest word.
func word(n int) int {
	n &= 1<<32 - 1
	if n > 1<<31-1 {
		n -= 1 << 32
	}
	return n
}

func (m *model) cell(obj int) bool {
	for place, d := range m.d {
		if place == obj {
			return d.Kind == 7
		}
	}
	return false
}

// value is what a cell was set to last, or at first.
func (m *model) value(obj int) int {
	for _, s := range slices.Backward(m.sets) {
		if s.obj == obj {
			return word(s.v)
		}
	}
	return word(m.d[obj].A)
}

func (m *model) set(s setting) bool {
	if !m.cell(s.obj) {
		return false
	}
	m.sets = append(m.sets, s)
	return true
}

// seen is what can be asked of an object.
type seen struct {
	value int
	is    bool
	guard int
}

func (m *model) seen(obj int) seen {
	if !m.cell(obj) {
		return seen{guard: -1}
	}
	return seen{m.value(obj), true, m.d[obj].B}
}

func (m *model) all() []api.Share {
	var l []api.Share
	for obj := range m.d {
		if m.cell(obj) {
			l = append(l, api.Share{Thread: obj, N: m.value(obj)})
		}
	}
	return l
}

// objs is all objects of a list, some behind its last one, and others that it has not.
func objs(d []api.Decl) []int {
	l := slices.Clone(outside)
	for obj := range len(d) + 3 {
		l = append(l, obj)
	}
	return l
}

func see(c *cell.Cells, obj int) seen {
	v, is := c.Get(obj)
	return seen{v, is, c.Guard(obj)}
}

// look is all that can be seen of cells: of each of some objects what it is, and what All tells.
type look struct {
	each []seen
	all  []api.Share
}

func lookAt(c *cell.Cells, objs []int) look {
	l := look{all: c.All()}
	for _, obj := range objs {
		l.each = append(l.each, see(c, obj))
	}
	return l
}

func (l look) same(m look) bool { return slices.Equal(l.each, m.each) && slices.Equal(l.all, m.all) }

// is fails, if cells are anything but what their model says.
func is(t *testing.T, c *cell.Cells, m *model) {
	t.Helper()
	if c == nil {
		t.Fatal("nil")
	}
	for range 2 {
		for _, obj := range objs(m.d) {
			if got, want := see(c, obj), m.seen(obj); got != want {
				t.Fatalf("%d of %v: %+v, not %+v", obj, m.d, got, want)
			}
		}
		if got, want := c.All(), m.all(); !slices.Equal(got, want) {
			t.Fatalf("%v, not %v", got, want)
		}
	}
}

// follows fails, if a setting answers anything but what its model says, or if cells are anything else behind it.
func follows(t *testing.T, c *cell.Cells, m *model, s setting) bool {
	t.Helper()
	want := m.set(s)
	if got := s.of(c); got != want {
		t.Fatalf("%+v: %v, not %v", s, got, want)
	}
	is(t, c, m)
	return want
}

// refused fails, if what is no cell can be set, or if that changes anything.
func refused(t *testing.T, c *cell.Cells, d []api.Decl, s setting) {
	t.Helper()
	ahead := lookAt(c, objs(d))
	if s.of(c) {
		t.Fatalf("%+v of %v: yes", s, d)
	}
	if behind := lookAt(c, objs(d)); !behind.same(ahead) {
		t.Fatalf("%+v: %+v, not %+v", s, behind, ahead)
	}
}

// tells fails, if All tells anything but these.
func tells(t *testing.T, c *cell.Cells, want ...api.Share) {
	t.Helper()
	if got := c.All(); !slices.Equal(got, want) {
		t.Fatalf("%v, not %v", got, want)
	}
}

// many is so many objects, of which each is a cell whose place leaves this by that.
func many(n, by, left int) []api.Decl {
	var l []api.Decl
	for obj := range n {
		d := other(kinds[obj%len(kinds)])
		if obj%by == left {
			d = one(obj*3-50, obj-1)
		}
		l = append(l, d)
	}
	return l
}

// among is one object of each kind, with a cell at a place between them, and behind all.
func among(place int) []api.Decl {
	var l []api.Decl
	for k, kind := range kinds {
		if k == place {
			l = append(l, one(-4, 1))
		}
		l = append(l, other(kind))
	}
	return append(l, one(9, 0))
}

// without is objects of all kinds but cells, and of what is no kind.
func without() []api.Decl {
	var l []api.Decl
	for _, kind := range slices.Concat(kinds, noKinds) {
		l = append(l, other(kind))
	}
	return l
}

// situations have no cells, one, several, and all, and objects up to the limit and above it.
func situations() [][]api.Decl {
	l := [][]api.Decl{
		nil, {}, {other(api.Mutex)}, without(), without()[:1], {one(5, 0)}, {one(0, 0)}, {one(math.MaxInt, math.MinInt)},
		{one(5, 1), other(api.Mutex)}, {other(api.Rw), one(5, 0)}, {other(api.Mutex), one(1, 0), one(2, 0), other(api.Rw), one(3, 3)},
		{one(1, 1), one(1, 1)}, {one(1, 2), other(api.Sem), one(-1, -1)},
		slices.Concat(without(), []api.Decl{one(8, 4)}, without(), []api.Decl{one(-8, 2)}), slices.Concat([]api.Decl{one(8, 4)}, without(), []api.Decl{one(-8, 2)}),
	}
	for place := range len(kinds) + 1 {
		l = append(l, among(place))
	}
	for _, n := range []int{2, 3, 31, 32, 33, 34, 63, 64, 65, 100, 257} {
		l = append(l, many(n, 1, 0), many(n, 2, 0), many(n, 2, 1), many(n, n, 0), many(n, n, n-1))
	}
	return l
}

// ways go to cells that are as at first, each by other calls, and hand each of them to do.
func ways(d []api.Decl, do func(*cell.Cells)) {
	do(cell.New(d))
	do(cell.New(d).Clone())
	// They were other values, and are set, from the last on.
	off := slices.Clone(d)
	for k := range off {
		off[k].A = ^off[k].A
	}
	set := cell.New(off)
	for obj := len(d) - 1; obj >= 0; obj-- {
		set.Set(obj, d[obj].A)
	}
	do(set)
	// They were set to others, and back, from the first on.
	back := cell.New(d)
	for obj := range d {
		back.Set(obj, obj+100)
	}
	for obj := range d {
		back.Set(obj, d[obj].A)
	}
	do(back.Clone())
	do(back)
}

// each goes through all situations, by each way.
func each(t *testing.T, do func(*cell.Cells, *model)) {
	t.Helper()
	for _, d := range situations() {
		ways(d, func(c *cell.Cells) {
			m := fresh(d)
			is(t, c, m)
			do(c, m)
		})
	}
}

// P22.1

func TestTheExample(t *testing.T) {
	c := cell.New([]api.Decl{one(5, 1), other(api.Mutex)})
	if v, is := c.Get(0); v != 5 || !is {
		t.Fatal(v, is)
	}
	if !c.Set(0, 1<<31) {
		t.Fatal("no")
	}
	if v, is := c.Get(0); v != -1<<31 || !is {
		t.Fatal(v, is)
	}
}

func TestNewAndAllThatIsAsked(t *testing.T) {
	each(t, func(*cell.Cells, *model) {})
}

func TestOfNoObjects(t *testing.T) {
	for _, d := range [][]api.Decl{nil, {}, many(9, 1, 0)[:0]} {
		c := cell.New(d)
		if c == nil {
			t.Fatal("nil")
		}
		for obj := -70; obj < 140; obj++ {
			if got := see(c, obj); got != (seen{0, false, -1}) {
				t.Errorf("%d: %+v", obj, got)
			}
			refused(t, c, nil, setting{obj, 5})
		}
		tells(t, c)
	}
}

func TestOfObjectsNoneOfWhichIsACell(t *testing.T) {
	whole := without()
	for k := range whole {
		for _, d := range [][]api.Decl{whole[k : k+1], {whole[k], whole[k]}, whole[:k], whole[k:]} {
			c := cell.New(d)
			for _, obj := range objs(d) {
				if got := see(c, obj); got != (seen{0, false, -1}) {
					t.Fatalf("%d of %v: %+v", obj, d, got)
				}
				refused(t, c, d, setting{obj, 5})
			}
			tells(t, c)
		}
	}
}

func TestOfOneCellAlone(t *testing.T) {
	for _, w := range words {
		for _, guard := range numbers() {
			c := cell.New([]api.Decl{one(w.n, guard)})
			if got := see(c, 0); got != (seen{w.word, true, guard}) {
				t.Fatalf("%d, %d: %+v", w.n, guard, got)
			}
			if got := see(c, 1); got != (seen{0, false, -1}) {
				t.Fatalf("%+v", got)
			}
			tells(t, c, api.Share{Thread: 0, N: w.word})
		}
	}
}

func TestOfCellsAlone(t *testing.T) {
	c := cell.New([]api.Decl{one(3, 2), one(1<<32+2, 0), one(-1<<31-1, 9)})
	for obj, want := range []seen{{3, true, 2}, {2, true, 0}, {1<<31 - 1, true, 9}, {0, false, -1}} {
		if got := see(c, obj); got != want {
			t.Errorf("%d: %+v, not %+v", obj, got, want)
		}
	}
	tells(t, c, api.Share{Thread: 0, N: 3}, api.Share{Thread: 1, N: 2}, api.Share{Thread: 2, N: 1<<31 - 1})
}

func TestOfCellsAmongAllOtherKinds(t *testing.T) {
	for place := range kinds {
		c := cell.New(among(place))
		for obj := range len(kinds) + 2 {
			want := seen{0, false, -1}
			switch obj {
			case place:
				want = seen{-4, true, 1}
			case len(kinds) + 1:
				want = seen{9, true, 0}
			}
			if got := see(c, obj); got != want {
				t.Errorf("%d of %d: %+v, not %+v", obj, place, got, want)
			}
		}
		tells(t, c, api.Share{Thread: place, N: -4}, api.Share{Thread: len(kinds) + 1, N: 9})
	}
}

func TestOfKindsThatAreNone(t *testing.T) {
	for _, kind := range noKinds {
		d := []api.Decl{one(1, 0), other(kind), one(2, 1), other(kind)}
		c := cell.New(d)
		for obj, want := range []seen{{1, true, 0}, {0, false, -1}, {2, true, 1}, {0, false, -1}} {
			if got := see(c, obj); got != want {
				t.Errorf("%d, of the kind %d: %+v, not %+v", obj, kind, got, want)
			}
		}
		tells(t, c, api.Share{Thread: 0, N: 1}, api.Share{Thread: 2, N: 2})
		refused(t, c, d, setting{1, 5})
		refused(t, c, d, setting{3, 5})
	}
}

func TestOfMoreThan32Objects(t *testing.T) {
	for _, n := range []int{32, 33, 64, 65, 100, 300, 1000} {
		d := slices.Repeat([]api.Decl{other(api.Pool)}, n)
		places := []int{0, 31}
		for _, obj := range []int{32, 63, 64, 99, 255, 256, n - 1} {
			if obj < n && !slices.Contains(places, obj) {
				places = append(places, obj)
			}
		}
		slices.Sort(places)
		var want []api.Share
		for _, obj := range places {
			d[obj] = one(obj*7, n-obj)
			want = append(want, api.Share{Thread: obj, N: obj * 7})
		}
		c := cell.New(d)
		is(t, c, fresh(d))
		tells(t, c, want...)
		for k, obj := range places {
			if got := see(c, obj); got != (seen{obj * 7, true, n - obj}) {
				t.Fatalf("%d of %d: %+v", obj, n, got)
			}
			if !c.Set(obj, 1<<32-2-obj) {
				t.Fatalf("%d of %d: no", obj, n)
			}
			want[k].N = -2 - obj
			tells(t, c, want...)
		}
	}
}

func TestOfAListToldAgain(t *testing.T) {
	for _, d := range situations() {
		a := cell.New(d)
		for obj := range d {
			a.Set(obj, obj)
		}
		b := cell.New(d)
		if a == b {
			t.Fatal("the same one")
		}
		is(t, b, fresh(d))
	}
}

func TestValuesAtFirstAreTheLowest32Bits(t *testing.T) {
	var d []api.Decl
	var want []api.Share
	for _, w := range words {
		want = append(want, api.Share{Thread: len(d), N: w.word})
		d = append(d, one(w.n, 0), other(api.Rw))
	}
	c := cell.New(d)
	for _, s := range want {
		if v, is := c.Get(s.Thread); v != s.N || !is {
			t.Errorf("%d: %d, %v, not %d", d[s.Thread].A, v, is, s.N)
		}
	}
	tells(t, c, want...)
}

// Get

func TestGetOfWhatIsNoCell(t *testing.T) {
	each(t, func(c *cell.Cells, m *model) {
		for _, obj := range slices.Concat(outside, []int{-1, -2, len(m.d), len(m.d) + 1, len(m.d) + 32, -len(m.d), -len(m.d) - 1}) {
			if m.cell(obj) {
				continue
			}
			if v, is := c.Get(obj); v != 0 || is {
				t.Fatalf("%d of %v: %d, %v", obj, m.d, v, is)
			}
		}
	})
}

// Set

func TestSetToEachNumber(t *testing.T) {
	d := many(9, 2, 0)
	for _, w := range words {
		for obj := 0; obj < 9; obj += 2 {
			c, m := cell.New(d), fresh(d)
			if !follows(t, c, m, setting{obj, w.n}) {
				t.Fatalf("%d to %d: no", obj, w.n)
			}
			if v, is := c.Get(obj); v != w.word || !is {
				t.Fatalf("%d: %d, %v, not %d", w.n, v, is, w.word)
			}
			// Whatever it was.
			for _, ahead := range words {
				follows(t, c, m, setting{obj, ahead.n})
				follows(t, c, m, setting{obj, w.n})
				if v, is := c.Get(obj); v != w.word || !is {
					t.Fatalf("%d behind %d: %d, %v, not %d", w.n, ahead.n, v, is, w.word)
				}
				m.sets = m.sets[len(m.sets)-1:]
			}
		}
	}
}

func TestSetOfTheFirstAndOfTheLastOne(t *testing.T) {
	d := []api.Decl{other(api.Mutex), one(1, 0), one(2, 0), other(api.Sem), one(3, 0), other(api.Bar)}
	c := cell.New(d)
	for _, s := range []struct {
		set  setting
		want [3]int
	}{
		{setting{1, 10}, [3]int{10, 2, 3}}, {setting{4, 30}, [3]int{10, 2, 30}}, {setting{1, 10}, [3]int{10, 2, 30}},
		{setting{4, -1}, [3]int{10, 2, -1}}, {setting{1, -1 << 40}, [3]int{0, 2, -1}}, {setting{2, 1 << 31}, [3]int{0, -1 << 31, -1}},
	} {
		if !s.set.of(c) {
			t.Fatalf("%+v: no", s.set)
		}
		tells(t, c, api.Share{Thread: 1, N: s.want[0]}, api.Share{Thread: 2, N: s.want[1]}, api.Share{Thread: 4, N: s.want[2]})
	}
}

func TestSetTwiceAndToWhatItIs(t *testing.T) {
	each(t, func(c *cell.Cells, m *model) {
		last := len(m.d) - 1
		for _, obj := range []int{0, 1, last / 2, last - 1, last} {
			first, is := c.Get(obj)
			for _, v := range []int{first, first + 1<<32, 6, 6, 6 - 1<<32, -6, -6, first} {
				if follows(t, c, m, setting{obj, v}) != is {
					t.Fatalf("%d to %d: not %v", obj, v, is)
				}
			}
		}
	})
}

func TestSetOfWhatIsNoCell(t *testing.T) {
	each(t, func(c *cell.Cells, m *model) {
		for _, obj := range objs(m.d) {
			if m.cell(obj) {
				continue
			}
			for _, v := range []int{0, 1, -1, 5, math.MinInt, math.MaxInt} {
				if c.Set(obj, v) {
					t.Fatalf("%d to %d: yes", obj, v)
				}
			}
		}
		is(t, c, m)
		refused(t, c, m.d, setting{-1, 5})
		refused(t, c, m.d, setting{len(m.d), 5})
	})
}

// Guard

func TestGuardIsAsItWasDeclared(t *testing.T) {
	var d []api.Decl
	for _, guard := range numbers() {
		d = append(d, one(3, guard), api.Decl{Kind: api.Mutex, A: 1, B: guard})
	}
	c := cell.New(d)
	for range 2 {
		for obj := range d {
			want := d[obj].B
			if obj%2 == 1 {
				want = -1
			}
			if got := c.Guard(obj); got != want {
				t.Errorf("%d: %d, not %d", obj, got, want)
			}
			// What it is set to says nothing about it.
			c.Set(obj, obj*100)
		}
	}
}

func TestGuardOfWhatIsNoCell(t *testing.T) {
	each(t, func(c *cell.Cells, m *model) {
		for _, obj := range objs(m.d) {
			if !m.cell(obj) && c.Guard(obj) != -1 {
				t.Fatalf("%d of %v: %d", obj, m.d, c.Guard(obj))
			}
		}
	})
}

// All

func TestAllRises(t *testing.T) {
	r := draws.Row(220)
	each(t, func(c *cell.Cells, m *model) {
		order := make([]int, len(m.d))
		for obj := range order {
			order[obj] = obj
		}
		// In whatever order they were set.
		for _, obj := range draws.Shuffled(&r, order) {
			s := setting{obj, int(r.Next())}
			if s.of(c) != m.set(s) {
				t.Fatalf("%+v", s)
			}
		}
		is(t, c, m)
		l := c.All()
		for k, s := range l {
			if k > 0 && s.Thread <= l[k-1].Thread {
				t.Fatalf("%v", l)
			}
			if v, is := c.Get(s.Thread); v != s.N || !is {
				t.Fatalf("%v: %d, %v", s, v, is)
			}
		}
	})
}

func TestAllIsNewMemory(t *testing.T) {
	each(t, func(c *cell.Cells, m *model) {
		first, second := c.All(), c.All()
		if !lists.Apart(first, second, c.Clone().All()) {
			t.Fatalf("%v and %v share memory", first, second)
		}
		for _, l := range [][]api.Share{first, second} {
			for k := range l[:cap(l)] {
				l[:cap(l)][k] = api.Share{Thread: -9, N: 77}
			}
			_ = append(l, api.Share{Thread: -8, N: 66})
		}
		is(t, c, m)
		// What was told stays so, whatever is done to the cells.
		told := c.All()
		kept := slices.Clone(told)
		for obj := range m.d {
			c.Set(obj, 12345+obj)
		}
		if !slices.Equal(told, kept) {
			t.Fatalf("%v became %v", kept, told)
		}
	})
}

// What is handed in

func TestTheListIsNeitherChangedNorKept(t *testing.T) {
	spare := one(111, 222)
	for _, d := range situations() {
		m := fresh(d)
		handed := lists.Room(d, spare)
		c := cell.New(handed)
		unchanged := func() {
			t.Helper()
			if !slices.Equal(handed, m.d) || handed[:len(d)+1][len(d)] != spare || handed[:len(d)+2][len(d)+1] != spare {
				t.Fatalf("%v, not %v", handed[:len(d)+2], m.d)
			}
		}
		unchanged()
		is(t, c, m)
		// What is done to the cells, or told by them, isn't done to it.
		w := m.clone()
		for _, obj := range objs(d) {
			s := setting{obj, obj ^ 99}
			if s.of(c) != w.set(s) {
				t.Fatalf("%+v", s)
			}
		}
		for k, l := 0, c.All(); k < len(l); k++ {
			l[k] = api.Share{Thread: 4, N: 4}
		}
		c.Clone().Set(0, 8)
		unchanged()
		is(t, c, w)
		// Nor the other way.
		for k := range handed[:len(d)+2] {
			handed[:len(d)+2][k] = one(-77, 55)
		}
		is(t, c, w)
		for k := range handed {
			handed[k] = other(api.Mutex)
		}
		is(t, c, w)
	}
}

// Clone

func TestCloneIsTheSameApart(t *testing.T) {
	each(t, func(c *cell.Cells, m *model) {
		q := c.Clone()
		if q == nil || q == c {
			t.Fatal("it is none, or the same one")
		}
		is(t, q, m)
		is(t, c, m)
		a, b := m.clone(), m.clone()
		last := len(m.d) - 1
		for _, s := range []setting{{0, 1}, {last, 2}, {last / 2, 1 << 31}, {1, -1}, {last - 1, 1<<32 + 4}, {0, 9}} {
			follows(t, c, a, s)
			is(t, q, b)
		}
		for _, s := range []setting{{last, 70}, {1, 71}, {0, 72}, {last / 2, 73}, {0, 74}} {
			follows(t, q, b, s)
			is(t, c, a)
		}
	})
}

func TestCloneOfAClone(t *testing.T) {
	c := cell.New([]api.Decl{one(1, 7), other(api.Cond), one(2, 8)})
	c.Set(0, 10)
	q := c.Clone()
	q.Set(2, 20)
	r := q.Clone()
	r.Set(0, 30)
	q.Set(0, 40)
	tells(t, c, api.Share{Thread: 0, N: 10}, api.Share{Thread: 2, N: 2})
	tells(t, q, api.Share{Thread: 0, N: 40}, api.Share{Thread: 2, N: 20})
	tells(t, r, api.Share{Thread: 0, N: 30}, api.Share{Thread: 2, N: 20})
	for _, each := range []*cell.Cells{c, q, r} {
		if each.Guard(0) != 7 || each.Guard(1) != -1 || each.Guard(2) != 8 {
			t.Error(each.Guard(0), each.Guard(1), each.Guard(2))
		}
	}
}

// Of nil

func TestNil(t *testing.T) {
	var c *cell.Cells
	for range 2 {
		for _, obj := range objs(many(70, 1, 0)) {
			for _, v := range numbers() {
				if c.Set(obj, v) {
					t.Fatalf("Set(%d, %d): yes", obj, v)
				}
			}
			if v, is := c.Get(obj); v != 0 || is {
				t.Errorf("Get(%d): %d, %v", obj, v, is)
			}
			if g := c.Guard(obj); g != -1 {
				t.Errorf("Guard(%d): %d", obj, g)
			}
		}
		if l := c.All(); len(l) != 0 {
			t.Errorf("%v", l)
		}
		if q := c.Clone(); q != nil {
			t.Errorf("%v", q)
		}
	}
}

// What a zero one answers is open, but it ends, without a panic.
func TestAZeroOneDoesNotPanic(t *testing.T) {
	c := &cell.Cells{}
	for _, obj := range objs(many(70, 1, 0)) {
		for _, v := range numbers() {
			c.Set(obj, v)
			see(c, obj)
			see(c.Clone(), obj)
		}
	}
	c.All()
	c.Clone().All()
}

// P22.2

// lasts fails, if a cell is anything but what the last of its own settings made it, or the list at first, by P22.2 alone: others, and what was done to them, are left out.
func lasts(t *testing.T, c *cell.Cells, d []api.Decl, sets []setting) {
	t.Helper()
	last := map[int]int{}
	for _, s := range sets {
		last[s.obj] = s.v
	}
	for obj := range d {
		alone := cell.New(d)
		if v, was := last[obj]; was {
			alone.Set(obj, v)
		}
		if got, want := see(c, obj), see(alone, obj); got != want {
			t.Fatalf("%d: %+v, and %+v by itself, behind %v", obj, got, want, sets)
		}
	}
}

func TestACellIsWhatItWasSetToLast(t *testing.T) {
	d := []api.Decl{one(1, 1), other(api.Mutex), one(2, 1), one(3, 1)}
	c := cell.New(d)
	var sets []setting
	for _, s := range []setting{{2, 20}, {0, 10}, {1, 99}, {2, 21}, {3, 1 << 31}, {0, 1<<32 + 11}, {4, 98}, {-1, 97}, {2, 2}, {0, 1}} {
		s.of(c)
		sets = append(sets, s)
		lasts(t, c, d, sets)
	}
	tells(t, c, api.Share{Thread: 0, N: 1}, api.Share{Thread: 2, N: 2}, api.Share{Thread: 3, N: -1 << 31})
}

func TestAllOrdersOfSomeSettings(t *testing.T) {
	d := []api.Decl{one(1, 1), other(api.Mutex), one(2, 1)}
	var all []setting
	for obj := -1; obj <= 3; obj++ {
		for _, v := range []int{2, 1 << 31} {
			all = append(all, setting{obj, v})
		}
	}
	met := map[[2]int]int{}
	var goOn func(*cell.Cells, *model, int)
	goOn = func(c *cell.Cells, m *model, left int) {
		a, _ := c.Get(0)
		b, _ := c.Get(2)
		met[[2]int{a, b}]++
		if left == 0 {
			lasts(t, c, d, m.sets)
			return
		}
		for _, s := range all {
			q, w := c.Clone(), m.clone()
			follows(t, q, w, s)
			goOn(q, w, left-1)
		}
		is(t, c, m)
	}
	goOn(cell.New(d), fresh(d), 4)
	// The first one is 1, 2 or the least, the other one 2 or the least.
	if len(met) != 3*2 {
		t.Errorf("%v were met", met)
	}
}

// drawn is objects that are drawn: of all kinds, and of none.
func drawn(r *draws.Row) []api.Decl {
	most := []uint64{3, 8, 33, 80, 120}[r.Next()%5]
	cells := r.Next() % 4
	var l []api.Decl
	for range r.Next() % (most + 1) {
		d := api.Decl{Kind: slices.Concat(kinds, noKinds)[r.Next()%uint64(len(kinds)+len(noKinds))]}
		if r.Next()%4 <= cells {
			d.Kind = api.Cell
		}
		d.A, d.B = number(r), number(r)
		l = append(l, d)
	}
	return l
}

// number is one that is drawn: a small one, one at an edge, or any.
func number(r *draws.Row) int {
	switch r.Next() % 3 {
	case 0:
		return int(r.Next()%10) - 3
	case 1:
		return words[r.Next()%uint64(len(words))].n
	}
	return int(r.Next())
}

// object is one that is drawn: of the list, at its ends, or outside.
func object(r *draws.Row, d []api.Decl) int {
	switch r.Next() % 8 {
	case 0:
		return outside[r.Next()%uint64(len(outside))]
	case 1:
		return len(d) - int(r.Next()%4) + 2
	}
	return int(r.Next() % uint64(len(d)+1))
}

func TestDrawnSettings(t *testing.T) {
	const (
		below = iota
		behind
		noCell
		anew
		again
		toWhatItIs
		above
		count
	)
	tally := [count]int{}
	r := draws.Row(221)
	for range 1500 {
		d := drawn(&r)
		c, m := cell.New(d), fresh(d)
		is(t, c, m)
		for range r.Next() % 50 {
			s := setting{object(&r, d), number(&r)}
			if v, is := c.Get(s.obj); is && r.Next()%8 == 0 {
				s.v = v
			}
			was, _ := c.Get(s.obj)
			had := slices.ContainsFunc(m.sets, func(ahead setting) bool { return ahead.obj == s.obj })
			said := follows(t, c, m, s)
			lasts(t, c, d, m.sets)
			if said && s.obj >= api.MaxObjs {
				tally[above]++
			}
			switch {
			case s.obj < 0:
				tally[below]++
			case s.obj >= len(d):
				tally[behind]++
			case !said:
				tally[noCell]++
			case word(s.v) == was:
				tally[toWhatItIs]++
			case had:
				tally[again]++
			default:
				tally[anew]++
			}
		}
	}
	for k, n := range tally {
		if n < 800 {
			t.Errorf("%d was met %d times", k, n)
		}
	}
}

func TestOthersSettingsSayNothing(t *testing.T) {
	r := draws.Row(222)
	for range 300 {
		d := drawn(&r)
		c := cell.New(d)
		for obj := range d {
			ahead := see(c, obj)
			for range r.Next() % 6 {
				if s := (setting{object(&r, d), number(&r)}); s.obj != obj {
					s.of(c)
				}
			}
			if behind := see(c, obj); behind != ahead {
				t.Fatalf("%d: %+v, not %+v", obj, behind, ahead)
			}
		}
	}
}

// Rules that hold everywhere

func TestCellsKnowNothingOfOneAnother(t *testing.T) {
	r := draws.Row(223)
	for range 300 {
		cells, wants := make([]*cell.Cells, 3), make([]*model, 3)
		var d []api.Decl
		for k := range cells {
			// Two are of one list.
			if k != 1 {
				d = drawn(&r)
			}
			cells[k], wants[k] = cell.New(d), fresh(d)
		}
		for range 25 {
			i := r.Next() % 3
			// Those that were made of one another know nothing of it, too.
			if j := r.Next() % 3; r.Next()%10 == 0 {
				cells[i], wants[i] = cells[j].Clone(), wants[j].clone()
			}
			follows(t, cells[i], wants[i], setting{object(&r, wants[i].d), number(&r)})
			for k := range cells {
				is(t, cells[k], wants[k])
			}
		}
	}
}

func TestAskingChangesNothing(t *testing.T) {
	r := draws.Row(224)
	for range 300 {
		d := drawn(&r)
		asked, unasked := cell.New(d), cell.New(d)
		for range 40 {
			s := setting{object(&r, d), number(&r)}
			for range r.Next() % 3 {
				lookAt(asked, objs(d))
				asked.Clone().Set(s.obj, number(&r))
			}
			if a, b := s.of(asked), s.of(unasked); a != b {
				t.Fatalf("%+v: %v, and %v without asking", s, a, b)
			}
		}
		if a, b := lookAt(asked, objs(d)), lookAt(unasked, objs(d)); !a.same(b) {
			t.Fatalf("%+v, and %+v without asking", a, b)
		}
	}
}

func TestTheSameCallsToldAgain(t *testing.T) {
	told := func() []look {
		r := draws.Row(225)
		var l []look
		for range 100 {
			d := drawn(&r)
			c := cell.New(d)
			for range 20 {
				setting{object(&r, d), number(&r)}.of(c)
			}
			l = append(l, lookAt(c, objs(d)))
		}
		return l
	}
	if !slices.EqualFunc(told(), told(), look.same) {
		t.Error("otherwise")
	}
}
