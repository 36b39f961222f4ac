package right_test

import (
	"math"
	"slices"
	"testing"

	"logjam/internal/draws"
	"logjam/internal/threads"
	"logjam/right"
)

// What tests hand in: some threads, and what are none.
var some, none = threads.Some(), threads.None()

// Objects that tests ask for: some, and what are none. Some would be, if bits were lost or went round.
var (
	objs   = []int{0, 1, 2, 15, 16, 30, 31}
	noObjs = []int{
		-1, -2, -31, -32, -33, -63, -64, -65, -1 << 31, -1 << 32, math.MinInt + 1, math.MinInt,
		32, 33, 62, 63, 64, 65, 95, 96, 127, 128, 255, 256, 1<<31 - 1, 1 << 31, 1 << 32, 1<<32 + 1, math.MaxInt - 1, math.MaxInt,
	}
)

// every is all objects, beyond what is above them in a set, and most all numbers of it.
const (
	every  uint64 = 1<<32 - 1
	beyond uint64 = most - every
	most   uint64 = math.MaxUint64
)

// masks have none, one, some, all objects, and what are none.
var masks = []uint64{
	0, 1, 2, 6, 7, 1 << 15, 1 << 16, 1 << 31, 0x55555555, 0xaaaaaaaa, every &^ 1, every >> 1, every,
	1 << 32, 1 << 63, 7 << 32, beyond, beyond | 6, beyond | 1<<31, 0x5555555555555555, 0xaaaaaaaaaaaaaaaa, most &^ 6, most - 1, most,
}

// kind is which of the calls that may change rights.
type kind int

const (
	root kind = iota
	child
	give
	waive
	clean
)

var kinds = []kind{root, child, give, waive, clean}

func (k kind) String() string { return [...]string{"Root", "Child", "Give", "Waive", "Clear"}[k] }

// call is one of the calls, for whom, and of what; but Child and Give none is handed a from, and Root and Clear no mask.
type call struct {
	kind     kind
	from, to int
	mask     uint64
}

func (c call) of(r *right.Rights) {
	switch c.kind {
	case root:
		r.Root(c.to)
	case child:
		r.Child(c.from, c.to, c.mask)
	case give:
		r.Give(c.from, c.to, c.mask)
	case waive:
		r.Waive(c.to, c.mask)
	case clean:
		r.Clear(c.to)
	}
}

// model is rights by the chapter's words: which thread has that on which object.
type model [64][32]bool

// has tells whether a mask has an object, or a set a number from 0 to 63.
func has(set uint64, n int) bool { return set>>n%2 == 1 }

// thread tells whether a number is one.
func thread(t int) bool { return t >= 0 && t <= 63 }

// of is the rights of a thread; what is no thread has none.
func (m *model) of(t int) [32]bool {
	if !thread(t) {
		return [32]bool{}
	}
	return m[t]
}

func (m *model) call(c call) {
	if !thread(c.to) {
		return
	}
	from := m.of(c.from)
	for obj := range 32 {
		one := &m[c.to][obj]
		switch c.kind {
		case root:
			*one = true
		case child:
			*one = from[obj] && has(c.mask, obj)
		case give:
			*one = *one || from[obj] && has(c.mask, obj)
		case waive:
			*one = *one && !has(c.mask, obj)
		case clean:
			*one = false
		}
	}
}

// look is all that can be seen of rights.
type look struct {
	has model
	of  [64]uint64
	who [32]uint64
}

func see(r *right.Rights) look {
	l := look{}
	for t := range 64 {
		l.of[t] = r.Of(t)
		for obj := range 32 {
			l.has[t][obj] = r.Has(t, obj)
		}
	}
	for obj := range 32 {
		l.who[obj] = r.Who(obj)
	}
	return l
}

func (m *model) look() look {
	l := look{has: *m}
	for t := range 64 {
		for obj := range 32 {
			if m[t][obj] {
				l.of[t] |= 1 << obj
				l.who[obj] |= 1 << t
			}
		}
	}
	return l
}

// is fails, if rights are anything but what their model says, or if what is no thread has one, or anybody has one on what is no object.
func is(t *testing.T, r *right.Rights, m model) {
	t.Helper()
	want := m.look()
	if got := see(r); got != want {
		t.Fatalf("%x, not %x", got.of, want.of)
	}
	for _, by := range []int{math.MinInt, -1, 64, math.MaxInt} {
		if r.Of(by) != 0 || r.Has(by, 0) || r.Has(by, 31) {
			t.Fatalf("%d has some, and is no thread", by)
		}
	}
	for _, obj := range []int{math.MinInt, -1, 32, 63, 64, math.MaxInt} {
		if r.Who(obj) != 0 || r.Has(0, obj) || r.Has(63, obj) {
			t.Fatalf("somebody has the right on %d, which is no object", obj)
		}
	}
}

// anybody is all objects on which somebody has the right.
func anybody(r *right.Rights) uint64 {
	all := uint64(0)
	for by := range 64 {
		all |= r.Of(by)
	}
	return all
}

// follows fails, if rights are anything but what their model says behind a call, or if anybody comes to one that nobody had, by P21.3 alone.
func follows(t *testing.T, r *right.Rights, m *model, c call) {
	t.Helper()
	ahead := anybody(r)
	c.of(r)
	m.call(c)
	is(t, r, *m)
	if behind := anybody(r); c.kind != root && behind&^ahead != 0 {
		t.Fatalf("%+v: behind it somebody has rights on %x, ahead on %x", c, behind, ahead)
	}
}

// unchanged fails, if a call changes anything.
func unchanged(t *testing.T, r *right.Rights, c call) {
	t.Helper()
	ahead := see(r)
	c.of(r)
	if see(r) != ahead {
		t.Fatalf("%+v: %x, not %x", c, see(r).of, ahead.of)
	}
}

// share is what one thread has.
type share struct {
	t    int
	objs uint64
}

// stand is the model of rights of which threads have these, and others none.
func stand(shares ...share) model {
	m := model{}
	for _, s := range shares {
		for obj := range 32 {
			m[s.t][obj] = has(s.objs, obj)
		}
	}
	return m
}

// made is new rights of which threads have these, and others none.
func made(t *testing.T, shares ...share) *right.Rights {
	t.Helper()
	r := right.New()
	for _, s := range shares {
		r.Root(s.t)
		r.Waive(s.t, ^s.objs)
	}
	is(t, r, stand(shares...))
	return r
}

// comes fails, if behind a call threads have anything but these, or others any.
func comes(t *testing.T, r *right.Rights, c call, shares ...share) {
	t.Helper()
	c.of(r)
	is(t, r, stand(shares...))
}

// situations have rights of nobody, of one, of several, and of all threads: none, one, some, and all.
func situations() [][]share {
	l := [][]share{
		nil, {{0, 1}}, {{63, 1 << 31}}, {{0, every}}, {{63, every}}, {{31, 6}}, {{32, every &^ 6}},
		{{0, 6}, {1, 3}}, {{0, every}, {63, every}}, {{0, 1}, {63, 1}}, {{0, 0x55555555}, {63, 0xaaaaaaaa}},
		{{0, every}, {1, 6}, {32, 1 << 31}, {62, 1}, {63, 7}},
	}
	whole, one := []share{}, []share{}
	for _, by := range threads.All() {
		whole = append(whole, share{by, every})
		one = append(one, share{by, 1 << (by % 32)})
	}
	return append(l, whole, one)
}

// ways go from new rights to those that threads shall have, each by other calls, and hand each that comes there to do.
func ways(t *testing.T, shares []share, do func(*right.Rights)) {
	t.Helper()
	do(made(t, shares...))
	late := slices.Clone(shares)
	slices.Reverse(late)
	do(made(t, late...))
	// All from one that has each of them, object by object, and then no more.
	giver := 5
	given := right.New()
	given.Root(giver)
	own := uint64(0)
	for _, s := range shares {
		if s.t == giver {
			own = s.objs
		}
		for obj := range 32 {
			if has(s.objs, obj) {
				given.Give(giver, s.t, 1<<obj)
			}
		}
	}
	given.Waive(giver, ^own)
	do(given)
	// As a chain of children, each one of the one ahead, who has all till it is told what it is left.
	chain, last := right.New(), 7
	chain.Root(last)
	for _, s := range shares {
		chain.Child(last, s.t, most)
		if last != s.t {
			chain.Clear(last)
		}
		last = s.t
	}
	chain.Clear(last)
	for _, s := range shares {
		chain.Root(s.t)
		chain.Child(s.t, s.t, s.objs)
	}
	do(chain)
	// Behind a time in which all had all.
	used := right.New()
	for by := range 64 {
		used.Root(by)
	}
	for by := range 64 {
		used.Clear(by)
	}
	for _, s := range shares {
		used.Root(s.t)
		used.Waive(s.t, ^s.objs)
	}
	do(used)
	// A zero one, and one that was made of another one.
	zero := &right.Rights{}
	for _, s := range shares {
		zero.Root(s.t)
		zero.Waive(s.t, ^s.objs)
	}
	do(zero)
	do(made(t, shares...).Clone())
}

// each goes through all situations, by each way.
func each(t *testing.T, do func(*right.Rights, model)) {
	t.Helper()
	for _, shares := range situations() {
		ways(t, shares, func(r *right.Rights) {
			m := stand(shares...)
			is(t, r, m)
			do(r, m)
		})
	}
}

// P21.1

func TestTheExample(t *testing.T) {
	r := right.New()
	comes(t, r, call{kind: root, to: 0}, share{0, every})
	comes(t, r, call{child, 0, 1, 6}, share{0, every}, share{1, 6})
	if !r.Has(1, 1) || !r.Has(1, 2) || r.Has(1, 0) || r.Has(1, 3) || r.Of(1) != 6 {
		t.Error(r.Of(1))
	}
}

func TestNewIsOfNobody(t *testing.T) {
	r := right.New()
	if r == nil {
		t.Fatal("nil")
	}
	for by := -70; by < 140; by++ {
		if r.Of(by) != 0 {
			t.Errorf("%d has %x", by, r.Of(by))
		}
		for obj := -70; obj < 140; obj++ {
			if r.Has(by, obj) {
				t.Errorf("%d has the right on %d", by, obj)
			}
		}
	}
	for obj := -70; obj < 140; obj++ {
		if r.Who(obj) != 0 {
			t.Errorf("%x have the right on %d", r.Who(obj), obj)
		}
	}
	is(t, r, model{})
}

func TestWhatIsNoThreadIsNobody(t *testing.T) {
	each(t, func(r *right.Rights, m model) {
		for _, by := range none {
			for _, mask := range []uint64{0, 6, every, beyond, most} {
				for _, c := range []call{
					{kind: root, to: by}, {waive, 0, by, mask}, {kind: clean, to: by},
					{child, 0, by, mask}, {child, 63, by, mask}, {child, by, by, mask}, {child, none[0], by, mask},
					{give, 0, by, mask}, {give, 63, by, mask}, {give, by, by, mask}, {give, none[0], by, mask},
					// It has none that it could give, either.
					{give, by, 0, mask}, {give, by, 63, mask}, {give, by, 7, mask},
				} {
					c.of(r)
				}
			}
		}
		is(t, r, m)
		for _, by := range none {
			for _, to := range []int{0, 7, 63} {
				q, w := r.Clone(), m
				follows(t, q, &w, call{child, by, to, most})
				if q.Of(to) != 0 {
					t.Fatalf("%d has %x of %d", to, q.Of(to), by)
				}
			}
		}
		is(t, r, m)
	})
}

// Root

func TestRootHasAll(t *testing.T) {
	for by := range 64 {
		r := right.New()
		comes(t, r, call{kind: root, to: by}, share{by, every})
		unchanged(t, r, call{kind: root, to: by})
	}
	each(t, func(r *right.Rights, m model) {
		for _, by := range some {
			follows(t, r, &m, call{kind: root, to: by})
			if r.Of(by) != every {
				t.Fatalf("%d has %x", by, r.Of(by))
			}
		}
	})
}

func TestRootOfOneThatHasSome(t *testing.T) {
	for _, mask := range masks {
		r := made(t, share{9, mask & every}, share{10, 6})
		comes(t, r, call{kind: root, to: 9}, share{9, every}, share{10, 6})
	}
}

// Child

func TestChildHasJustThoseOfTheMask(t *testing.T) {
	for _, c := range []struct{ mask, want uint64 }{
		{0, 0}, {6, 6}, {every, every}, {beyond, 0}, {1 << 32, 0}, {1 << 63, 0}, {most, every}, {beyond | 6, 6}, {1 << 31, 1 << 31},
	} {
		r := made(t, share{0, every})
		comes(t, r, call{child, 0, 1, c.mask}, share{0, every}, share{1, c.want})
		// One that had all has none but these any more.
		r = made(t, share{0, every}, share{1, every})
		comes(t, r, call{child, 0, 1, c.mask}, share{0, every}, share{1, c.want})
	}
}

func TestChildHasNoneThatFromHasNot(t *testing.T) {
	for _, c := range []struct{ from, had, mask, want uint64 }{
		{6, 0, most, 6}, {6, every, most, 6}, {6, every, 12, 4}, {6, 9, 9, 0}, {6, 9, 0, 0}, {6, 6, 6, 6},
		{0, 0, most, 0}, {0, 6, most, 0}, {0, every, every, 0}, {1 << 31, 1, most, 1 << 31}, {every &^ 1, 1, 1, 0}, {6, 9, beyond, 0},
	} {
		r := made(t, share{32, c.from}, share{0, c.had}, share{63, 5})
		comes(t, r, call{child, 32, 0, c.mask}, share{32, c.from}, share{0, c.want}, share{63, 5})
	}
	each(t, func(r *right.Rights, m model) {
		for _, from := range []int{0, 31, 63} {
			for _, to := range []int{0, 1, 63} {
				for _, mask := range []uint64{0, 6, 0x55555555, beyond, most} {
					q, w := r.Clone(), m
					want := r.Of(from) & mask
					follows(t, q, &w, call{child, from, to, mask})
					if q.Of(to) != want {
						t.Fatalf("%d has %x, not %x", to, q.Of(to), want)
					}
				}
			}
		}
	})
}

func TestChildOfNoThreadHasNone(t *testing.T) {
	for _, by := range none {
		for _, mask := range []uint64{0, 6, every, beyond, most} {
			r := made(t, share{0, every}, share{1, 6})
			comes(t, r, call{child, by, 1, mask}, share{0, every})
			unchanged(t, r, call{child, by, 1, mask})
			comes(t, r, call{child, by, 0, mask})
		}
	}
}

// Give

func TestGiveLeavesWhatOneHad(t *testing.T) {
	for _, c := range []struct{ from, had, mask, want uint64 }{
		{6, 0, most, 6}, {6, 9, most, 15}, {6, 9, 12, 13}, {6, 9, 9, 9}, {6, 9, 0, 9}, {6, 6, 6, 6}, {6, every, most, every},
		{0, 0, most, 0}, {0, 6, most, 6}, {0, every, every, every}, {every, 0, every, every}, {every, 1, 1 << 31, 1<<31 | 1},
		{every, 9, beyond, 9}, {every, 9, 1 << 32, 9}, {every, 9, 1 << 63, 9}, {every, 9, most, every}, {every, 0, 6, 6}, {every, 0, 0, 0},
	} {
		r := made(t, share{32, c.from}, share{0, c.had}, share{63, 5})
		comes(t, r, call{give, 32, 0, c.mask}, share{32, c.from}, share{0, c.want}, share{63, 5})
		unchanged(t, r, call{give, 32, 0, c.mask})
	}
	each(t, func(r *right.Rights, m model) {
		for _, from := range []int{0, 31, 63} {
			for _, to := range []int{0, 1, 63} {
				for _, mask := range []uint64{0, 6, 0x55555555, beyond, most} {
					q, w := r.Clone(), m
					want := r.Of(to) | r.Of(from)&mask
					follows(t, q, &w, call{give, from, to, mask})
					if q.Of(to) != want {
						t.Fatalf("%d has %x, not %x", to, q.Of(to), want)
					}
				}
			}
		}
	})
}

func TestGiveOfNoThreadChangesNothing(t *testing.T) {
	r := made(t, share{0, every}, share{1, 6})
	for _, by := range none {
		for _, to := range []int{0, 1, 2, 63} {
			for _, mask := range masks {
				unchanged(t, r, call{give, by, to, mask})
			}
		}
	}
}

func TestFromOneToItself(t *testing.T) {
	for _, own := range []uint64{0, 6, 1 << 31, 0x55555555, every} {
		for _, by := range some {
			for _, mask := range masks {
				r := made(t, share{by, own}, share{17, 5})
				unchanged(t, r, call{give, by, by, mask})
				comes(t, r, call{child, by, by, mask}, share{by, own & mask}, share{17, 5})
			}
		}
	}
}

func TestWhatOneIsGivenItGivesOn(t *testing.T) {
	r := made(t, share{0, every})
	comes(t, r, call{child, 0, 1, 7}, share{0, every}, share{1, 7})
	comes(t, r, call{give, 1, 2, 6}, share{0, every}, share{1, 7}, share{2, 6})
	comes(t, r, call{child, 2, 0, 12}, share{0, 4}, share{1, 7}, share{2, 6})
	comes(t, r, call{kind: clean, to: 1}, share{0, 4}, share{2, 6})
	comes(t, r, call{give, 2, 1, most}, share{0, 4}, share{1, 6}, share{2, 6})
	comes(t, r, call{waive, 0, 2, 6}, share{0, 4}, share{1, 6})
	comes(t, r, call{give, 0, 1, most}, share{0, 4}, share{1, 6})
	comes(t, r, call{give, 1, 0, most}, share{0, 6}, share{1, 6})
}

// Waive and Clear

func TestWaive(t *testing.T) {
	for _, c := range []struct{ had, mask, want uint64 }{
		{6, 0, 6}, {6, 9, 6}, {6, 2, 4}, {6, 3, 4}, {6, 6, 0}, {6, every, 0}, {6, most, 0}, {6, beyond, 6}, {6, beyond | 4, 2}, {6, most &^ 6, 6},
		{0, 0, 0}, {0, 6, 0}, {0, most, 0}, {every, 0, every}, {every, 6, every &^ 6}, {every, every, 0}, {every, most, 0}, {every, beyond, every},
		{every, 1 << 31, every >> 1}, {every, 1, every &^ 1}, {every, 1 << 32, every}, {every, 1 << 63, every},
	} {
		for _, by := range []int{0, 31, 32, 63} {
			r := made(t, share{by, c.had}, share{17, 7}, share{62, every})
			comes(t, r, call{waive, 0, by, c.mask}, share{by, c.want}, share{17, 7}, share{62, every})
			unchanged(t, r, call{waive, 0, by, c.mask})
		}
	}
	each(t, func(r *right.Rights, m model) {
		for _, by := range some {
			for _, mask := range []uint64{0, 6, 0x55555555, beyond, most} {
				q, w := r.Clone(), m
				follows(t, q, &w, call{waive, 0, by, mask})
			}
		}
	})
}

func TestClear(t *testing.T) {
	for _, by := range some {
		for _, had := range []uint64{0, 1, 6, 1 << 31, every} {
			r := made(t, share{by, had}, share{17, 7}, share{61, every})
			comes(t, r, call{kind: clean, to: by}, share{17, 7}, share{61, every})
			unchanged(t, r, call{kind: clean, to: by})
		}
	}
	each(t, func(r *right.Rights, m model) {
		for _, by := range some {
			follows(t, r, &m, call{kind: clean, to: by})
		}
		for by := range 64 {
			follows(t, r, &m, call{kind: clean, to: by})
		}
		if m != (model{}) || anybody(r) != 0 {
			t.Fatal(anybody(r))
		}
	})
}

// What one has is told by who has it, so this would show a right of another one that went with it.
func TestNobodyElsesRightsAreChanged(t *testing.T) {
	for _, by := range some {
		for _, c := range []call{
			{kind: root, to: by}, {child, 0, by, 6}, {child, by, by, 6}, {child, -1, by, 6}, {give, 0, by, most}, {give, 63, by, 6}, {waive, 0, by, most}, {waive, 0, by, 6}, {kind: clean, to: by},
		} {
			for _, shares := range situations() {
				r := made(t, shares...)
				ahead := see(r)
				c.of(r)
				behind := see(r)
				for t2 := range 64 {
					if t2 != by && behind.of[t2] != ahead.of[t2] {
						t.Fatalf("%+v: %d has %x, not %x", c, t2, behind.of[t2], ahead.of[t2])
					}
				}
			}
		}
	}
}

// P21.2

func TestHasAndWhoOfEachObject(t *testing.T) {
	for obj := range 32 {
		r := made(t, share{0, 1 << obj}, share{40, every &^ (1 << obj)}, share{63, 1 << obj})
		for other := range 32 {
			if r.Has(0, other) != (other == obj) || r.Has(40, other) != (other != obj) || r.Has(1, other) {
				t.Errorf("%d of those of %d", other, obj)
			}
			want := uint64(1) << 40
			if other == obj {
				want = 1 | 1<<63
			}
			if r.Who(other) != want {
				t.Errorf("%x have %d, not %x", r.Who(other), other, want)
			}
		}
	}
}

func TestThereIsNoObjectBelow0AndFrom32On(t *testing.T) {
	r := right.New()
	for by := range 64 {
		r.Root(by)
	}
	for _, obj := range noObjs {
		if r.Who(obj) != 0 {
			t.Errorf("%x have the right on %d", r.Who(obj), obj)
		}
		for by := range 64 {
			if r.Has(by, obj) {
				t.Errorf("%d has the right on %d", by, obj)
			}
		}
	}
	// Nor does one come to be that was asked for in a mask.
	r.Child(0, 1, most)
	r.Give(0, 1, beyond)
	if r.Of(1) != every || r.Who(31) != most || r.Who(32) != 0 || r.Who(63) != 0 {
		t.Errorf("%x", r.Of(1))
	}
}

func TestNoThreadHasARight(t *testing.T) {
	r := right.New()
	for by := range 64 {
		r.Root(by)
	}
	for _, by := range none {
		if r.Of(by) != 0 {
			t.Errorf("%d has %x", by, r.Of(by))
		}
		for _, obj := range slices.Concat(objs, noObjs) {
			if r.Has(by, obj) {
				t.Errorf("%d has the right on %d", by, obj)
			}
		}
	}
}

func TestWhoIsNobodyOneSeveralAndAll(t *testing.T) {
	r := right.New()
	for _, obj := range objs {
		if r.Who(obj) != 0 {
			t.Errorf("%x have the right on %d", r.Who(obj), obj)
		}
	}
	r.Root(0)
	who := uint64(1)
	for by := 1; by < 64; by++ {
		r.Give(by-1, by, 1<<31|2)
		who |= 1 << by
		for obj := range 32 {
			want := uint64(1)
			if obj == 1 || obj == 31 {
				want = who
			}
			if r.Who(obj) != want {
				t.Fatalf("%x have the right on %d, not %x", r.Who(obj), obj, want)
			}
		}
	}
	if r.Who(1) != most {
		t.Errorf("%x", r.Who(1))
	}
	for _, by := range []int{31, 0, 63} {
		r.Waive(by, 2)
		who &^= 1 << by
		if r.Who(1) != who || r.Who(31) != most {
			t.Errorf("%x, not %x, and %x", r.Who(1), who, r.Who(31))
		}
	}
}

func TestACloneIsTheSameApart(t *testing.T) {
	each(t, func(r *right.Rights, m model) {
		q, w := r.Clone(), m
		is(t, q, w)
		for _, c := range []call{{kind: root, to: 3}, {child, 3, 0, 6}, {give, 3, 63, 1}, {waive, 0, 63, most}, {kind: clean, to: 3}} {
			follows(t, q, &w, c)
			is(t, r, m)
		}
		p, v := q.Clone(), w
		for _, c := range []call{{kind: clean, to: 0}, {kind: root, to: 63}, {give, 63, 1, 9}, {child, 63, 63, 6}, {waive, 0, 1, 8}} {
			follows(t, r, &m, c)
			is(t, q, w)
			is(t, p, v)
		}
	})
}

func TestACloneOfOneInWhichNobodyHasARight(t *testing.T) {
	for _, r := range []*right.Rights{right.New(), {}, made(t, share{1, 0})} {
		q := r.Clone()
		if q == nil || q == r {
			t.Fatal(q)
		}
		comes(t, q, call{kind: root, to: 1}, share{1, every})
		is(t, r, model{})
		comes(t, r, call{kind: root, to: 2}, share{2, every})
		is(t, q, stand(share{1, every}))
	}
}

func TestNilIsOfNobody(t *testing.T) {
	var r *right.Rights
	for _, by := range slices.Concat(some, none) {
		for _, mask := range masks {
			for _, k := range kinds {
				call{k, 0, by, mask}.of(r)
				call{k, by, 0, mask}.of(r)
				call{k, by, by, mask}.of(r)
			}
		}
	}
	is(t, r, model{})
	if r.Clone() != nil {
		t.Error("it has a clone")
	}
}

func TestAZeroOneIsLikeANewOne(t *testing.T) {
	is(t, &right.Rights{}, model{})
	for _, by := range []int{0, 31, 63, -1, 64} {
		for _, mask := range []uint64{0, 6, every, most} {
			for _, k := range kinds {
				for _, from := range []int{0, 63, by, -1} {
					r, q, m := &right.Rights{}, right.New(), model{}
					c := call{k, from, by, mask}
					follows(t, r, &m, c)
					c.of(q)
					is(t, q, m)
					follows(t, r, &m, call{kind: root, to: 2})
					follows(t, r, &m, call{child, 2, 0, mask})
				}
			}
		}
	}
	zero := right.Rights{}
	if zero.Of(0) != 0 || zero.Who(0) != 0 || zero.Has(0, 0) || zero.Clone() == nil {
		t.Error("it is not")
	}
	zero.Root(0)
	is(t, &zero, stand(share{0, every}))
}

// P21.3

func TestNobodyComesToARightThatNobodyHad(t *testing.T) {
	r := draws.Row(211)
	lost := 0
	for range 300 {
		// All that anybody may ever have is what these have at first.
		q, left := right.New(), uint64(0)
		for range r.Next() % 3 {
			q.Root(int(r.Next() % 4))
		}
		for by := range 4 {
			q.Waive(by, r.Next()&r.Next())
		}
		left = anybody(q)
		for range 40 {
			c := drawn(&r, kinds[1:], []int{-1, 0, 1, 2, 3, 63, 64})
			c.of(q)
			now := anybody(q)
			if now&^left != 0 {
				t.Fatalf("%+v: %x of %x", c, now, left)
			}
			if now != left {
				lost++
			}
			left = now
		}
		for _, from := range threads.All() {
			q.Give(from, 9, most)
			q.Child(9, 10, most)
		}
		if q.Of(9) != left || q.Of(10) != left {
			t.Fatalf("%x, and %x, of %x", q.Of(9), q.Of(10), left)
		}
	}
	if lost < 300 {
		t.Errorf("%d lost some", lost)
	}
}

// All together

// drawn is a call of one of these kinds, among these threads.
func drawn(r *draws.Row, of []kind, among []int) call {
	c := call{kind: of[r.Next()%uint64(len(of))], from: among[r.Next()%uint64(len(among))], to: among[r.Next()%uint64(len(among))]}
	c.mask = []uint64{masks[r.Next()%uint64(len(masks))], r.Next(), r.Next() & r.Next(), r.Next() & r.Next() & 0xffff, 1 << (r.Next() % 64), 0, most}[r.Next()%7]
	return c
}

func TestEachCallOfEachSmallStand(t *testing.T) {
	// Three threads may have each of two objects, 0 and 31.
	pair := func(n int) uint64 { return uint64(n&1) | uint64(n>>1&1)<<31 }
	by, calls := []int{0, 31, 63}, []call{}
	for _, to := range []int{-1, 0, 31, 63} {
		calls = append(calls, call{kind: root, to: to}, call{kind: clean, to: to})
		for _, mask := range []uint64{1, 1 << 31, most} {
			calls = append(calls, call{waive, 0, to, mask})
			for _, from := range []int{0, 31, 63, 64} {
				calls = append(calls, call{child, from, to, mask}, call{give, from, to, mask})
			}
		}
	}
	for k := range 64 {
		shares := []share{{by[0], pair(k)}, {by[1], pair(k >> 2)}, {by[2], pair(k >> 4)}}
		r := made(t, shares...)
		for _, c := range calls {
			q, m := r.Clone(), stand(shares...)
			follows(t, q, &m, c)
		}
	}
}

func TestAllOrdersOfSomeCalls(t *testing.T) {
	all := []call{
		{kind: root, to: 0}, {kind: root, to: 1}, {child, 0, 1, 6}, {child, 1, 0, 3}, {child, 0, 0, 5}, {give, 0, 1, 1}, {give, 1, 0, 6}, {waive, 0, 0, 2}, {waive, 0, 1, 4}, {kind: clean, to: 0},
	}
	met := map[[2]uint64]int{}
	var goOn func(r *right.Rights, m model, left int)
	goOn = func(r *right.Rights, m model, left int) {
		met[[2]uint64{r.Of(0), r.Of(1)}]++
		if left == 0 {
			return
		}
		for _, c := range all {
			q, w := r.Clone(), m
			follows(t, q, &w, c)
			goOn(q, w, left-1)
		}
		is(t, r, m)
	}
	goOn(right.New(), model{}, 3)
	goOn(made(t, share{0, every}, share{1, 9}), stand(share{0, every}, share{1, 9}), 3)
	if len(met) < 50 {
		t.Errorf("%d were met", len(met))
	}
}

func TestDrawnCalls(t *testing.T) {
	// met is what a call found: which kind it was, how much from and to had (none, some, all), and whether they are threads, and one.
	type met struct {
		kind             kind
		from, to         int
		same, noFrom, no bool
	}
	much := func(objs uint64) int {
		switch objs {
		case 0:
			return 0
		case every:
			return 2
		}
		return 1
	}
	tally := map[met]int{}
	r := draws.Row(212)
	for range 800 {
		among := [][]int{{0, 31, 63}, {0, 1, 63, -1, 64}, slices.Concat(some, none[:4]), threads.All()}[r.Next()%4]
		often := [][]kind{kinds, {root, child, child, give, give, waive}, {root, give, give, give, waive, waive, clean}, {root, child, child, child, give}}[r.Next()%4]
		q, m := right.New(), model{}
		if r.Next()%4 > 0 {
			follows(t, q, &m, call{kind: root, to: among[0]})
		}
		for range r.Next() % 50 {
			c := drawn(&r, often, among)
			one := met{kind: c.kind, to: much(q.Of(c.to)), no: !thread(c.to)}
			if c.kind == child || c.kind == give {
				one.from, one.same, one.noFrom = much(q.Of(c.from)), c.from == c.to, !thread(c.from)
			}
			tally[one]++
			follows(t, q, &m, c)
		}
	}
	for _, k := range kinds {
		for to := range 3 {
			if one := (met{kind: k, to: to}); tally[one] < 40 {
				t.Errorf("%+v was met %d times", one, tally[one])
			}
			if k != child && k != give {
				continue
			}
			for from := range 3 {
				if one := (met{kind: k, from: from, to: to}); tally[one] < 40 {
					t.Errorf("%+v was met %d times", one, tally[one])
				}
			}
			for _, one := range []met{{kind: k, from: to, to: to, same: true}, {kind: k, to: to, noFrom: true}} {
				if tally[one] < 30 {
					t.Errorf("%+v was met %d times", one, tally[one])
				}
			}
		}
		if one := (met{kind: k, no: true}); tally[one] < 30 {
			t.Errorf("%+v was met %d times", one, tally[one])
		}
	}
}

func TestTheSameCallsTellTheSame(t *testing.T) {
	r := draws.Row(213)
	for range 10 {
		calls := []call{{kind: root, to: 0}, {kind: root, to: 63}}
		for range 40 {
			calls = append(calls, drawn(&r, kinds, threads.All()))
		}
		var first []look
		for round := range 10 {
			q, looks := right.New(), []look{}
			for _, c := range calls {
				c.of(q)
				looks = append(looks, see(q))
				// What goes by a clone goes as it would without one.
				if round%2 == 1 {
					q = q.Clone()
				}
			}
			if round == 0 {
				first = looks
			}
			if !slices.Equal(looks, first) {
				t.Fatal("they tell something else")
			}
		}
	}
}

func TestRightsKnowNothingOfOneAnother(t *testing.T) {
	r := draws.Row(214)
	for range 100 {
		all, wants := make([]*right.Rights, 3), make([]model, 3)
		for k := range all {
			all[k] = right.New()
		}
		for range 40 {
			i := r.Next() % 3
			// Those that were made of one another know nothing of it, too.
			if j := r.Next() % 3; r.Next()%10 == 0 {
				all[i], wants[i] = all[j].Clone(), wants[j]
			}
			follows(t, all[i], &wants[i], drawn(&r, kinds, []int{-1, 0, 1, 2, 63, 64}))
			for k := range all {
				is(t, all[k], wants[k])
			}
		}
	}
}

func TestAskingChangesNothing(t *testing.T) {
	r := draws.Row(215)
	for range 60 {
		asked, other := right.New(), right.New()
		for range 40 {
			c := drawn(&r, kinds, []int{-1, 0, 1, 2, 63, 64})
			for range r.Next() % 3 {
				see(asked)
				asked.Of(c.from)
				asked.Who(c.from)
				asked.Has(c.to, c.from)
				asked.Clone().Root(3)
			}
			c.of(asked)
			c.of(other)
			if see(asked) != see(other) {
				t.Fatalf("%+v: %x, and %x without asking", c, see(asked).of, see(other).of)
			}
		}
	}
}
