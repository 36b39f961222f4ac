package rw_test

import (
	"math"
	"slices"
	"testing"

	"logjam/api"
	"logjam/internal/draws"
	"logjam/internal/threads"
	"logjam/rw"
)

// What tests hand in: some threads, and what are none.
var some, none = threads.Some(), threads.None()

// kind is which of the calls that may change a lock.
type kind int

const (
	read kind = iota
	write
	leave
)

var kinds = []kind{read, write, leave}

func (k kind) String() string { return [...]string{"Read", "Write", "Leave"}[k] }

// mode is how a thread holds a lock behind such a call, if it is done.
func (k kind) mode() int { return [...]int{read: 1, write: 2, leave: 0}[k] }

// call is one of the calls, and by whom.
type call struct {
	kind kind
	t    int
}

func (c call) of(l *rw.Rw) api.Errno {
	switch c.kind {
	case read:
		return l.Read(c.t)
	case write:
		return l.Write(c.t)
	}
	return l.Leave(c.t)
}

// look is all that can be seen of a lock without changing it.
type look struct {
	modes            [64]int
	writer           int
	readers, holders uint64
}

func see(l *rw.Rw) look {
	s := look{writer: l.Writer(), readers: l.Readers(), holders: l.Holders()}
	for t := range s.modes {
		s.modes[t] = l.Mode(t)
	}
	return s
}

// model is a lock by the chapter's words: how each thread holds it.
type model [64]int

func (m *model) call(c call) api.Errno {
	if c.t < 0 || c.t > 63 {
		return api.ErrArg
	}
	if c.kind == leave {
		if m[c.t] == 0 {
			return api.ErrOwner
		}
		m[c.t] = 0
		return api.OK
	}
	if m[c.t] != 0 {
		return api.ErrHeld
	}
	for _, mode := range m {
		if mode == 2 || mode == 1 && c.kind == write {
			return api.ErrState
		}
	}
	m[c.t] = c.kind.mode()
	return api.OK
}

// look is how a lock looks that is held so.
func (m model) look() look {
	s := look{modes: m, writer: -1}
	weight := uint64(1)
	for t, mode := range m {
		switch mode {
		case 1:
			s.readers += weight
			s.holders += weight
		case 2:
			s.writer = t
			s.holders += weight
		}
		weight += weight
	}
	return s
}

// with is the model, but for how one thread holds it.
func (m model) with(t, mode int) model {
	m[t] = mode
	return m
}

// is fails, if a lock looks otherwise than it should.
func is(t *testing.T, l *rw.Rw, want model) {
	t.Helper()
	for range 2 {
		if got := see(l); got != want.look() {
			t.Fatalf("%+v, not %+v", got, want.look())
		}
	}
}

// answers fails, if a call answers anything but what it should.
func answers(t *testing.T, l *rw.Rw, c call, want api.Errno) {
	t.Helper()
	if got := c.of(l); got != want {
		t.Fatalf("%v: %d, not %d", c, got, want)
	}
}

// made is a new lock, of which calls were made that are all done.
func made(t *testing.T, calls []call) *rw.Rw {
	t.Helper()
	l := &rw.Rw{}
	for _, c := range calls {
		answers(t, l, c, api.OK)
	}
	return l
}

// situation is how three threads hold a lock, and what the first one of them is told there.
type situation struct {
	modes [3]int
	// Calls of these threads, counted from 0 on, each row of which leads there.
	ways [][]call
	told [3]api.Errno
}

// situations are all that there are: nobody holds it, the first one reads, alone and beside others, others read, it writes, another one writes.
var situations = []situation{
	{[3]int{0, 0, 0}, [][]call{
		{},
		{{read, 0}, {leave, 0}},
		{{write, 0}, {leave, 0}},
		{{write, 1}, {leave, 1}},
		{{read, 1}, {read, 0}, {leave, 1}, {leave, 0}},
		{{read, 0}, {read, 1}, {read, 2}, {leave, 0}, {leave, 1}, {leave, 2}},
	}, [3]api.Errno{read: api.OK, write: api.OK, leave: api.ErrOwner}},
	{[3]int{1, 0, 0}, [][]call{
		{{read, 0}},
		{{read, 0}, {leave, 0}, {read, 0}},
		{{write, 0}, {leave, 0}, {read, 0}},
		{{write, 1}, {leave, 1}, {read, 0}},
		{{read, 0}, {read, 1}, {leave, 1}},
		{{read, 1}, {read, 0}, {leave, 1}},
	}, [3]api.Errno{read: api.ErrHeld, write: api.ErrHeld, leave: api.OK}},
	{[3]int{1, 1, 0}, [][]call{
		{{read, 0}, {read, 1}},
		{{read, 1}, {read, 0}},
		{{read, 2}, {read, 1}, {read, 0}, {leave, 2}},
		{{write, 2}, {leave, 2}, {read, 0}, {read, 1}},
	}, [3]api.Errno{read: api.ErrHeld, write: api.ErrHeld, leave: api.OK}},
	{[3]int{1, 1, 1}, [][]call{
		{{read, 0}, {read, 1}, {read, 2}},
		{{read, 2}, {read, 1}, {read, 0}},
		{{read, 0}, {read, 1}, {leave, 0}, {read, 2}, {read, 0}},
	}, [3]api.Errno{read: api.ErrHeld, write: api.ErrHeld, leave: api.OK}},
	{[3]int{0, 1, 0}, [][]call{
		{{read, 1}},
		{{read, 0}, {read, 1}, {leave, 0}},
		{{write, 0}, {leave, 0}, {read, 1}},
		{{read, 1}, {read, 2}, {leave, 2}},
	}, [3]api.Errno{read: api.OK, write: api.ErrState, leave: api.ErrOwner}},
	{[3]int{0, 1, 1}, [][]call{
		{{read, 1}, {read, 2}},
		{{read, 2}, {read, 0}, {read, 1}, {leave, 0}},
	}, [3]api.Errno{read: api.OK, write: api.ErrState, leave: api.ErrOwner}},
	{[3]int{2, 0, 0}, [][]call{
		{{write, 0}},
		{{read, 0}, {leave, 0}, {write, 0}},
		{{write, 0}, {leave, 0}, {write, 0}},
		{{write, 1}, {leave, 1}, {write, 0}},
		{{read, 0}, {read, 1}, {leave, 0}, {leave, 1}, {write, 0}},
	}, [3]api.Errno{read: api.ErrHeld, write: api.ErrHeld, leave: api.OK}},
	{[3]int{0, 2, 0}, [][]call{
		{{write, 1}},
		{{read, 0}, {leave, 0}, {write, 1}},
		{{write, 0}, {leave, 0}, {write, 1}},
		{{read, 2}, {leave, 2}, {write, 1}},
	}, [3]api.Errno{read: api.ErrState, write: api.ErrState, leave: api.ErrOwner}},
}

// each goes through all ways into a situation, with any three of the threads: it hands on calls that lead there, how the lock is held behind them, and who is the first of the three.
func (s situation) each(do func(way []call, ahead model, first int)) {
	for _, a := range some {
		for _, b := range some {
			for _, c := range some {
				if a == b || b == c || a == c {
					continue
				}
				three := [3]int{a, b, c}
				ahead := model{}
				for k, mode := range s.modes {
					ahead[three[k]] = mode
				}
				for _, way := range s.ways {
					calls := slices.Clone(way)
					for k := range calls {
						calls[k].t = three[calls[k].t]
					}
					do(calls, ahead, a)
				}
			}
		}
	}
}

// holds fails, if a call comes to anything but what the situations say.
func holds(t *testing.T, k kind) {
	t.Helper()
	for _, s := range situations {
		s.each(func(way []call, ahead model, first int) {
			l := made(t, way)
			is(t, l, ahead)
			answers(t, l, call{k, first}, s.told[k])
			if s.told[k] == api.OK {
				ahead = ahead.with(first, k.mode())
			}
			is(t, l, ahead)
		})
	}
}

// follows fails, if a call of a lock answers anything but what its model says, or if behind it it looks otherwise, or is what P17.3 rules out.
func follows(t *testing.T, l *rw.Rw, want *model, c call) {
	t.Helper()
	ahead := see(l)
	got := c.of(l)
	if said := want.call(c); got != said {
		t.Fatalf("%v of %+v: %d, not %d", c, ahead, got, said)
	}
	behind := see(l)
	if got != api.OK && ahead != behind {
		t.Fatalf("%v: refused, and %+v behind %+v", c, behind, ahead)
	}
	is(t, l, *want)
	alone(t, behind)
}

// alone fails, if one writes and anybody else holds it, by P17.3 alone.
func alone(t *testing.T, s look) {
	t.Helper()
	writing, holding := 0, 0
	for _, mode := range s.modes {
		if mode != 0 {
			holding++
		}
		if mode == 2 {
			writing++
		}
	}
	if writing > 0 && holding > 1 {
		t.Fatalf("%d write, and %d hold it", writing, holding)
	}
	if s.writer != -1 && (s.readers != 0 || s.holders != 1<<s.writer || s.modes[s.writer] != 2) {
		t.Fatalf("%d writes, and %+v", s.writer, s)
	}
}

// behind is a new lock behind calls, whatever they answer.
func behind(calls []call) *rw.Rw {
	l := &rw.Rw{}
	for _, c := range calls {
		c.of(l)
	}
	return l
}

// P17.1

func TestTheExample(t *testing.T) {
	l := made(t, []call{{read, 1}, {read, 2}})
	answers(t, l, call{write, 3}, api.ErrState)
	is(t, l, model{1: 1, 2: 1})
}

func TestAZeroRwIsFree(t *testing.T) {
	var l rw.Rw
	if l.Writer() != -1 || l.Readers() != 0 || l.Holders() != 0 {
		t.Fatal(l.Writer(), l.Readers(), l.Holders())
	}
	for by := range 64 {
		is(t, &l, model{})
		answers(t, &l, call{leave, by}, api.ErrOwner)
		is(t, &l, model{})
		answers(t, &rw.Rw{}, call{read, by}, api.OK)
		answers(t, new(rw.Rw), call{write, by}, api.OK)
	}
	answers(t, &l, call{write, 0}, api.OK)
	is(t, &l, model{0: 2})
}

func TestThreadsAreNumbersFrom0To63(t *testing.T) {
	for by := range 64 {
		l := &rw.Rw{}
		for _, k := range []kind{read, write} {
			answers(t, l, call{k, by}, api.OK)
			is(t, l, model{}.with(by, k.mode()))
			answers(t, l, call{leave, by}, api.OK)
			is(t, l, model{})
		}
	}
	for _, by := range none {
		for _, k := range kinds {
			l := &rw.Rw{}
			answers(t, l, call{k, by}, api.ErrArg)
			is(t, l, model{})
		}
	}
}

func TestRead(t *testing.T) { holds(t, read) }

func TestWrite(t *testing.T) { holds(t, write) }

func TestLeave(t *testing.T) { holds(t, leave) }

func TestWhatIsNoThreadIsToldFirst(t *testing.T) {
	for _, s := range situations {
		s.each(func(way []call, ahead model, _ int) {
			l := made(t, way)
			for _, by := range none {
				for _, k := range kinds {
					answers(t, l, call{k, by}, api.ErrArg)
				}
			}
			is(t, l, ahead)
		})
	}
}

func TestThatItHoldsItIsToldAheadOfOthers(t *testing.T) {
	// Beside others who read, both would tell that another one holds it, and Write that one reads.
	l := made(t, []call{{read, 5}, {read, 6}})
	for _, by := range []int{5, 6} {
		answers(t, l, call{read, by}, api.ErrHeld)
		answers(t, l, call{write, by}, api.ErrHeld)
	}
	is(t, l, model{5: 1, 6: 1})
	// Who writes is one that writes.
	l = made(t, []call{{write, 5}})
	answers(t, l, call{read, 5}, api.ErrHeld)
	answers(t, l, call{write, 5}, api.ErrHeld)
	is(t, l, model{5: 2})
	answers(t, l, call{read, 6}, api.ErrState)
	answers(t, l, call{write, 6}, api.ErrState)
	answers(t, l, call{leave, 6}, api.ErrOwner)
	is(t, l, model{5: 2})
}

// orders are some orders of all threads.
func orders() [][]int {
	rising := threads.All()
	var odd []int
	for _, by := range rising {
		odd = append(odd, by*37%64)
	}
	falling := slices.Clone(rising)
	slices.Reverse(falling)
	l := [][]int{rising, falling, odd}
	r := draws.Row(17)
	for range 20 {
		l = append(l, draws.Shuffled(&r, rising))
	}
	return l
}

func TestManyReadTillTheLastOneLeaves(t *testing.T) {
	for _, come := range orders() {
		for _, gone := range orders() {
			l, want := &rw.Rw{}, model{}
			for _, by := range come {
				answers(t, l, call{read, by}, api.OK)
				want[by] = 1
			}
			is(t, l, want)
			if l.Readers() != math.MaxUint64 || l.Holders() != math.MaxUint64 {
				t.Fatal(l.Readers(), l.Holders())
			}
			for _, by := range gone[:63] {
				answers(t, l, call{leave, by}, api.OK)
				answers(t, l, call{leave, by}, api.ErrOwner)
				answers(t, l, call{write, by}, api.ErrState)
				answers(t, l, call{write, gone[63]}, api.ErrHeld)
				want[by] = 0
			}
			is(t, l, want)
			answers(t, l, call{leave, gone[63]}, api.OK)
			is(t, l, model{})
			answers(t, l, call{write, gone[0]}, api.OK)
			is(t, l, model{}.with(gone[0], 2))
		}
	}
}

func TestOneWritesTillItLeaves(t *testing.T) {
	for a := range 64 {
		l := made(t, []call{{write, a}})
		for b := range 64 {
			if a == b {
				continue
			}
			answers(t, l, call{read, b}, api.ErrState)
			answers(t, l, call{write, b}, api.ErrState)
			answers(t, l, call{leave, b}, api.ErrOwner)
		}
		is(t, l, model{}.with(a, 2))
		answers(t, l, call{leave, a}, api.OK)
		is(t, l, model{})
		for b := range 64 {
			answers(t, l, call{read, b}, api.OK)
		}
	}
}

func TestWhoReadMayWriteBehindLeavingOnly(t *testing.T) {
	l := made(t, []call{{read, 3}})
	answers(t, l, call{write, 3}, api.ErrHeld)
	answers(t, l, call{leave, 3}, api.OK)
	answers(t, l, call{write, 3}, api.OK)
	answers(t, l, call{read, 3}, api.ErrHeld)
	answers(t, l, call{leave, 3}, api.OK)
	answers(t, l, call{leave, 3}, api.ErrOwner)
	is(t, l, model{})
}

// P17.2

func TestModeWriterReadersAndHoldersBehindEachCall(t *testing.T) {
	for a := range 64 {
		for b := range 64 {
			l, want := &rw.Rw{}, model{}
			for _, k := range []kind{read, leave, write, leave} {
				follows(t, l, &want, call{k, a})
				if k == read && (l.Readers() != 1<<a || l.Holders() != 1<<a || l.Writer() != -1 || l.Mode(a) != 1) {
					t.Fatal(a, l.Readers(), l.Holders(), l.Writer(), l.Mode(a))
				}
				if k == write && (l.Readers() != 0 || l.Holders() != 1<<a || l.Writer() != a || l.Mode(a) != 2) {
					t.Fatal(a, l.Readers(), l.Holders(), l.Writer(), l.Mode(a))
				}
				if b != a {
					for _, other := range kinds {
						follows(t, l, &want, call{other, b})
					}
				}
			}
		}
	}
}

func TestModeOfWhatIsNoThread(t *testing.T) {
	every := make([]call, 64)
	for by := range every {
		every[by] = call{read, by}
	}
	for _, way := range [][]call{{}, {{read, 0}}, {{read, 63}}, {{write, 0}}, {{write, 63}}, every} {
		l := made(t, way)
		for _, by := range none {
			if m := l.Mode(by); m != 0 {
				t.Errorf("Mode(%d) behind %v: %d", by, way, m)
			}
		}
	}
}

func TestAskingChangesNothing(t *testing.T) {
	for _, s := range situations {
		s.each(func(way []call, _ model, first int) {
			for _, k := range kinds {
				asked, other := &rw.Rw{}, &rw.Rw{}
				for _, c := range append(slices.Clone(way), call{k, first}) {
					see(asked)
					asked.Mode(-1)
					asked.Mode(64)
					if a, b := c.of(asked), c.of(other); a != b {
						t.Fatalf("%v: %d, and %d without asking", c, a, b)
					}
				}
				if see(asked) != see(other) {
					t.Fatalf("%+v, and %+v without asking", see(asked), see(other))
				}
			}
		})
	}
}

func TestNil(t *testing.T) {
	var l *rw.Rw
	for range 2 {
		for _, by := range slices.Concat(some, none) {
			for _, k := range kinds {
				answers(t, l, call{k, by}, api.ErrArg)
			}
			if m := l.Mode(by); m != 0 {
				t.Errorf("Mode(%d): %d", by, m)
			}
		}
		is(t, l, model{})
	}
}

// P17.3

func TestAllOrdersOfSomeCalls(t *testing.T) {
	var all []call
	for _, k := range kinds {
		for _, by := range []int{0, 31, 63, 64} {
			all = append(all, call{k, by})
		}
	}
	met := map[model]int{}
	var calls []call
	var goOn func(model)
	goOn = func(want model) {
		met[want]++
		if len(calls) == 4 {
			return
		}
		for _, c := range all {
			l, w := behind(calls), want
			follows(t, l, &w, c)
			calls = append(calls, c)
			goOn(w)
			calls = calls[:len(calls)-1]
		}
	}
	goOn(model{})
	// Nobody, one of three that writes, and all sets of three that read, but that of nobody.
	if len(met) != 1+3+7 {
		t.Errorf("%d were met", len(met))
	}
	for m, n := range met {
		if n < 6 {
			t.Errorf("%v was met %d times", m.look(), n)
		}
	}
}

func TestWhereOneWritesNobodyElseHoldsIt(t *testing.T) {
	among := []int{-1, 0, 1, 2, 31, 63, 64}
	r := draws.Row(173)
	written, shared, free := 0, 0, 0
	for range 3000 {
		calls := make([]call, r.Next()%12)
		for i := range calls {
			calls[i] = call{kinds[r.Next()%3], among[r.Next()%7]}
		}
		l, want := &rw.Rw{}, &model{}
		for _, c := range calls {
			follows(t, l, want, c)
		}
		// Who holds it is asked of each thread by letting it leave such a one.
		holding := []int{}
		for by := range 64 {
			if behind(calls).Leave(by) == api.OK {
				holding = append(holding, by)
			}
		}
		switch {
		case l.Writer() != -1:
			written++
			if !slices.Equal(holding, []int{l.Writer()}) {
				t.Fatalf("%v: %d writes, and %v hold it", calls, l.Writer(), holding)
			}
		case len(holding) > 0:
			shared++
		default:
			free++
		}
	}
	if written < 500 || shared < 500 || free < 500 {
		t.Errorf("%d were written, %d read, %d free", written, shared, free)
	}
}

func TestDrawnCalls(t *testing.T) {
	type met struct {
		kind   kind
		mine   int
		others int
		told   api.Errno
	}
	tally := map[met]int{}
	r := draws.Row(1731)
	for range 2000 {
		among := some[:3]
		switch r.Next() % 4 {
		case 0:
			among = slices.Concat(some, none)
		case 1:
			among = some
		}
		l, want := &rw.Rw{}, &model{}
		for range r.Next() % 60 {
			c := call{kinds[r.Next()%3], among[r.Next()%uint64(len(among))]}
			m := met{kind: c.kind}
			for by, mode := range want {
				if by == c.t {
					m.mine = mode
				} else {
					m.others = max(m.others, mode)
				}
			}
			w := *want
			m.told = w.call(c)
			follows(t, l, want, c)
			tally[m]++
		}
	}
	for _, s := range situations {
		for _, k := range kinds {
			m := met{k, s.modes[0], max(s.modes[1], s.modes[2]), s.told[k]}
			if tally[m] < 300 {
				t.Errorf("%+v was met %d times", m, tally[m])
			}
			if m.told = api.ErrArg; s.modes[0] == 0 && tally[m] < 300 {
				t.Errorf("%+v was met %d times", m, tally[m])
			}
		}
	}
}

func TestTwoLocksKnowNothingOfOneAnother(t *testing.T) {
	r := draws.Row(1732)
	for range 300 {
		locks := make([]rw.Rw, 3)
		wants := make([]model, 3)
		for range 40 {
			i := r.Next() % 3
			follows(t, &locks[i], &wants[i], call{kinds[r.Next()%3], int(r.Next()%4) - 1})
			for k := range locks {
				is(t, &locks[k], wants[k])
			}
		}
	}
	// A thread may write one and read the other, and leave just one of them.
	a, b := &rw.Rw{}, &rw.Rw{}
	answers(t, a, call{write, 1}, api.OK)
	answers(t, b, call{read, 1}, api.OK)
	answers(t, b, call{read, 2}, api.OK)
	answers(t, a, call{leave, 1}, api.OK)
	is(t, a, model{})
	is(t, b, model{1: 1, 2: 1})
	answers(t, a, call{read, 2}, api.OK)
	answers(t, b, call{leave, 2}, api.OK)
	is(t, a, model{2: 1})
	is(t, b, model{1: 1})
}

func TestLocksOfTheSameCallsAreAlike(t *testing.T) {
	r := draws.Row(1733)
	for range 300 {
		a, b := &rw.Rw{}, &rw.Rw{}
		for range 40 {
			c := call{kinds[r.Next()%3], int(r.Next()%5) - 1}
			x, y := c.of(a), c.of(b)
			if x != y || see(a) != see(b) {
				t.Fatalf("%v: %d and %+v, and %d and %+v", c, x, see(a), y, see(b))
			}
		}
	}
}
