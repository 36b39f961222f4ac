package mutex_test

import (
	"math"
	"slices"
	"testing"

	"logjam/api"
	"logjam/internal/draws"
	"logjam/mutex"
)

// The threads that tests hand in: numbers that fewer bits, or one more, would take for others; and what are no threads.
var (
	threads = []int{0, 1, 2, 31, 32, 63, 64, 65, 1<<31 - 1, 1 << 31, 1 << 32, math.MaxInt - 1, math.MaxInt}
	below   = []int{-1, -2, -64, -1 << 31, -1 << 32, math.MinInt + 1, math.MinInt}
)

// kind is which of the calls that may change a mutex.
type kind int

const (
	lock kind = iota
	unlock
	mend
	free
	die
)

var kinds = []kind{lock, unlock, mend, free, die}

func (k kind) String() string { return [...]string{"Lock", "Unlock", "Mend", "Free", "Die"}[k] }

// told is what such a call answers: a code, or yes or no.
type told int

const (
	yes told = -1
	no  told = -2

	done  = told(api.OK)
	arg   = told(api.ErrArg)
	state = told(api.ErrState)
	held  = told(api.ErrHeld)
	owner = told(api.ErrOwner)
	gone  = told(api.ErrLost)
)

// well tells whether what was asked for was done.
func (a told) well() bool { return a == yes || a == done }

// call is one of the calls, and by whom.
type call struct {
	kind kind
	t    int
}

func (c call) of(m *mutex.Mutex) told {
	switch c.kind {
	case lock:
		return told(m.Lock(c.t))
	case unlock:
		return told(m.Unlock(c.t))
	case mend:
		return told(m.Mend(c.t))
	case free:
		return answered(m.Free(c.t))
	}
	return answered(m.Die(c.t))
}

func answered(ok bool) told {
	if ok {
		return yes
	}
	return no
}

// look is all that can be seen of a mutex without changing it.
type look struct {
	owner     int
	bad, lost bool
}

func see(m *mutex.Mutex) look { return look{m.Owner(), m.Bad(), m.Lost()} }

// made is a new mutex, of which calls were made that are all done.
func made(t *testing.T, calls []call) *mutex.Mutex {
	t.Helper()
	m := &mutex.Mutex{}
	for i, c := range calls {
		if a := c.of(m); !a.well() {
			t.Fatalf("%v, at %d: %d", calls, i, a)
		}
	}
	return m
}

// is fails, if a mutex looks otherwise than it should.
func is(t *testing.T, m *mutex.Mutex, want look) {
	t.Helper()
	for range 2 {
		if got := see(m); got != want {
			t.Fatalf("%+v, not %+v", got, want)
		}
	}
}

// answers fails, if a call answers anything but what it should.
func answers(t *testing.T, m *mutex.Mutex, c call, want told) {
	t.Helper()
	if got := c.of(m); got != want {
		t.Fatalf("%v: %d, not %d", c, got, want)
	}
}

// situation is what a mutex may be in; there are no others, since nobody owns a lost one.
type situation int

const (
	idle situation = iota
	owned
	badIdle
	badOwned
	lost
)

var situations = []situation{idle, owned, badIdle, badOwned, lost}

// look is how a mutex looks there, if it is a thread's where anybody owns it.
func (s situation) look(t int) look {
	return [...]look{
		idle:     {-1, false, false},
		owned:    {t, false, false},
		badIdle:  {-1, true, false},
		badOwned: {t, true, false},
		lost:     {-1, false, true},
	}[s]
}

// ways is calls, each row of which leads there: t owns it, where anybody does, and u is another thread.
func (s situation) ways(t, u int) [][]call {
	return [][][]call{
		idle: {
			{},
			{{lock, t}, {unlock, t}},
			{{lock, t}, {free, t}},
			{{lock, t}, {mend, t}, {unlock, t}},
			{{lock, t}, {die, t}, {lock, u}, {mend, u}, {unlock, u}},
			{{lock, u}, {die, u}, {lock, t}, {mend, t}, {free, t}},
		},
		owned: {
			{{lock, t}},
			{{lock, t}, {mend, t}},
			{{lock, u}, {unlock, u}, {lock, t}},
			{{lock, u}, {free, u}, {lock, t}},
			{{lock, t}, {unlock, t}, {lock, t}},
			{{lock, u}, {die, u}, {lock, t}, {mend, t}},
			{{lock, u}, {die, u}, {lock, u}, {mend, u}, {unlock, u}, {lock, t}},
		},
		badIdle: {
			{{lock, t}, {die, t}},
			{{lock, u}, {mend, u}, {die, u}},
			{{lock, t}, {die, t}, {lock, u}, {free, u}},
			{{lock, u}, {die, u}, {lock, t}, {die, t}},
			{{lock, t}, {die, t}, {lock, t}, {mend, t}, {die, t}},
		},
		badOwned: {
			{{lock, t}, {die, t}, {lock, t}},
			{{lock, u}, {die, u}, {lock, t}},
			{{lock, t}, {die, t}, {lock, u}, {free, u}, {lock, t}},
			{{lock, t}, {die, t}, {lock, u}, {die, u}, {lock, t}},
			{{lock, t}, {die, t}, {lock, t}, {mend, t}, {die, t}, {lock, t}},
		},
		lost: {
			{{lock, t}, {die, t}, {lock, t}, {unlock, t}},
			{{lock, t}, {die, t}, {lock, u}, {unlock, u}},
			{{lock, u}, {die, u}, {lock, t}, {free, t}, {lock, u}, {unlock, u}},
		},
	}[s]
}

// row is what a call comes to in a situation.
type row struct {
	kind  kind
	ahead situation
	// What it answers a thread (the owner, where anybody owns it), another one, and what is no thread.
	thread, other, none told
	// What a mutex is in behind it, where it is done; whoever asked for it is the owner then, if anybody is.
	behind situation
}

var rows = []row{
	{lock, idle, done, done, arg, owned},
	{lock, owned, held, state, arg, owned},
	{lock, badIdle, done, done, arg, badOwned},
	{lock, badOwned, held, state, arg, badOwned},
	{lock, lost, gone, gone, arg, lost},

	{unlock, idle, owner, owner, owner, idle},
	{unlock, owned, done, owner, owner, idle},
	{unlock, badIdle, owner, owner, owner, badIdle},
	{unlock, badOwned, done, owner, owner, lost},
	{unlock, lost, owner, owner, owner, lost},

	{mend, idle, owner, owner, owner, idle},
	{mend, owned, done, owner, owner, owned},
	{mend, badIdle, owner, owner, owner, badIdle},
	{mend, badOwned, done, owner, owner, owned},
	{mend, lost, owner, owner, owner, lost},

	{free, idle, no, no, no, idle},
	{free, owned, yes, no, no, idle},
	{free, badIdle, no, no, no, badIdle},
	{free, badOwned, yes, no, no, badIdle},
	{free, lost, no, no, no, lost},

	{die, idle, no, no, no, idle},
	{die, owned, yes, no, no, badIdle},
	{die, badIdle, no, no, no, badIdle},
	{die, badOwned, yes, no, no, badIdle},
	{die, lost, no, no, no, lost},
}

// holds fails, if a call comes to anything but what its rows say, one of each situation.
func holds(t *testing.T, k kind) {
	t.Helper()
	met := 0
	for _, r := range rows {
		if r.kind == k {
			met++
			r.holds(t)
		}
	}
	if met != len(situations) {
		t.Fatalf("%v has %d rows", k, met)
	}
}

// holds fails, if a call comes to anything but what its row says: with each thread as the owner, by it and by each other one and what is none, along each way.
func (r row) holds(t *testing.T) {
	t.Helper()
	for i, own := range threads {
		for _, way := range r.ahead.ways(own, threads[(i+1)%len(threads)]) {
			for _, by := range slices.Concat(threads, below) {
				want := r.other
				switch {
				case by == own:
					want = r.thread
				case by < 0:
					want = r.none
				}
				m := made(t, way)
				is(t, m, r.ahead.look(own))
				answers(t, m, call{r.kind, by}, want)
				if want.well() {
					is(t, m, r.behind.look(by))
				} else {
					is(t, m, r.ahead.look(own))
				}
			}
		}
	}
}

// notBy fails, if anything that only the owner may do is done by one who is not, or if it changes what is seen.
func notBy(t *testing.T, m *mutex.Mutex, by int) {
	t.Helper()
	ahead := see(m)
	answers(t, m, call{unlock, by}, owner)
	answers(t, m, call{mend, by}, owner)
	answers(t, m, call{free, by}, no)
	answers(t, m, call{die, by}, no)
	is(t, m, ahead)
}

// model is a mutex by the chapter's words.
type model look

func (m *model) call(c call) told {
	owns := c.t >= 0 && m.owner == c.t
	switch c.kind {
	case lock:
		return m.lock(c.t, owns)
	case unlock, mend:
		if !owns {
			return owner
		}
		m.unlockOrMend(c.kind)
		return done
	}
	if !owns {
		return no
	}
	m.owner = -1
	if c.kind == die {
		m.bad = true
	}
	return yes
}

func (m *model) lock(t int, owns bool) told {
	if t < 0 {
		return arg
	}
	if m.lost {
		return gone
	}
	if owns {
		return held
	}
	if m.owner != -1 {
		return state
	}
	m.owner = t
	return done
}

func (m *model) unlockOrMend(k kind) {
	if k == unlock {
		m.owner = -1
		m.lost = m.lost || m.bad
	}
	m.bad = false
}

// situation is what a model is in.
func (m model) situation() situation {
	switch {
	case m.lost:
		return lost
	case m.bad && m.owner >= 0:
		return badOwned
	case m.bad:
		return badIdle
	case m.owner >= 0:
		return owned
	}
	return idle
}

// follows fails, if a call of a mutex answers anything but what its model says, or if behind it it looks otherwise, or has come to what P16.3 rules out.
func follows(t *testing.T, m *mutex.Mutex, want *model, c call) {
	t.Helper()
	ahead := see(m)
	got := c.of(m)
	if said := want.call(c); got != said {
		t.Fatalf("%v of %+v: %d, not %d", c, ahead, got, said)
	}
	is(t, m, look(*want))
	mayFollow(t, ahead, c, got, see(m))
}

// mayFollow fails, if what a mutex looks like behind a call can't be, by P16.3 alone, of what it looked like ahead.
func mayFollow(t *testing.T, ahead look, c call, a told, behind look) {
	t.Helper()
	if ahead.lost && !behind.lost {
		t.Fatalf("%v: not lost any more", c)
	}
	if behind.lost && (behind.owner != -1 || behind.bad) {
		t.Fatalf("%v: lost, and %+v", c, behind)
	}
	mended := c.kind == mend && c.t >= 0 && c.t == ahead.owner && a == done
	if ahead.bad && !behind.bad && !behind.lost && !mended {
		t.Fatalf("%v: neither bad any more, nor mended, nor lost", c)
	}
	if ahead.owner != -1 && behind.owner != -1 && ahead.owner != behind.owner {
		t.Fatalf("%v: of %d, who has not let go of it, and of %d", c, ahead.owner, behind.owner)
	}
	if !a.well() && ahead != behind {
		t.Fatalf("%v: refused, and %+v behind %+v", c, behind, ahead)
	}
}

// behind is a new mutex behind calls, whatever they answer.
func behind(calls []call) *mutex.Mutex {
	m := &mutex.Mutex{}
	for _, c := range calls {
		c.of(m)
	}
	return m
}

// owners is who owns a mutex behind calls: each thread is asked to let go of such a one.
func owners(calls []call, among []int) []int {
	var l []int
	for _, t := range among {
		if behind(calls).Free(t) {
			l = append(l, t)
		}
	}
	return l
}

// P16.1

func TestTheExample(t *testing.T) {
	m := &mutex.Mutex{}
	answers(t, m, call{lock, 1}, done)
	answers(t, m, call{die, 1}, yes)
	answers(t, m, call{lock, 2}, done)
	answers(t, m, call{unlock, 2}, done)
	is(t, m, look{-1, false, true})
	answers(t, m, call{lock, 1}, gone)
	answers(t, m, call{lock, 2}, gone)
}

func TestAZeroMutexIsFree(t *testing.T) {
	var m mutex.Mutex
	is(t, &m, look{-1, false, false})
	for _, by := range slices.Concat(below, threads) {
		notBy(t, &m, by)
		is(t, new(mutex.Mutex), look{-1, false, false})
	}
	answers(t, &m, call{lock, 0}, done)
	is(t, &m, look{0, false, false})
}

func TestThreadsAreNumbersFrom0On(t *testing.T) {
	for _, by := range threads {
		m := &mutex.Mutex{}
		answers(t, m, call{lock, by}, done)
		is(t, m, look{by, false, false})
		answers(t, m, call{lock, by}, held)
		answers(t, m, call{unlock, by}, done)
		is(t, m, look{-1, false, false})
	}
	for _, by := range below {
		m := &mutex.Mutex{}
		answers(t, m, call{lock, by}, arg)
		is(t, m, look{-1, false, false})
	}
}

func TestLock(t *testing.T) { holds(t, lock) }

func TestUnlock(t *testing.T) { holds(t, unlock) }

func TestMend(t *testing.T) { holds(t, mend) }

func TestFree(t *testing.T) { holds(t, free) }

func TestDie(t *testing.T) { holds(t, die) }

func TestLockTellsTheFirstError(t *testing.T) {
	for _, by := range below {
		for _, s := range situations {
			for _, way := range s.ways(3, 4) {
				answers(t, made(t, way), call{lock, by}, arg)
			}
		}
	}
	// Of a lost one it tells so also to who owned it last, and to who let it die.
	m := made(t, []call{{lock, 5}, {die, 5}, {lock, 6}, {unlock, 6}})
	for _, by := range []int{5, 6, 7} {
		answers(t, m, call{lock, by}, gone)
	}
	// That it is bad keeps nobody from it, and is no reason to tell the owner, or another one, anything else.
	m = made(t, []call{{lock, 5}, {die, 5}, {lock, 6}})
	answers(t, m, call{lock, 6}, held)
	answers(t, m, call{lock, 5}, state)
	is(t, m, look{6, true, false})
}

func TestWhoOwnedItOwnsItNoMore(t *testing.T) {
	for _, k := range []kind{unlock, free, die} {
		m := made(t, []call{{lock, 7}, {k, 7}})
		ahead := see(m)
		notBy(t, m, 7)
		answers(t, m, call{lock, 8}, done)
		notBy(t, m, 7)
		is(t, m, look{8, ahead.bad, false})
	}
}

func TestAMendedOneIsAsGoodAsNew(t *testing.T) {
	m := made(t, []call{{lock, 1}, {die, 1}, {lock, 2}, {mend, 2}, {mend, 2}, {unlock, 2}, {lock, 3}, {unlock, 3}})
	is(t, m, look{-1, false, false})
	// It may die, and be mended, again and again.
	for k := range 100 {
		answers(t, m, call{lock, k}, done)
		answers(t, m, call{die, k}, yes)
		is(t, m, look{-1, true, false})
		answers(t, m, call{lock, k + 1}, done)
		answers(t, m, call{mend, k + 1}, done)
		answers(t, m, call{unlock, k + 1}, done)
		is(t, m, look{-1, false, false})
	}
}

func TestMendingComesAheadOfDying(t *testing.T) {
	m := made(t, []call{{lock, 1}, {mend, 1}, {die, 1}})
	is(t, m, look{-1, true, false})
	answers(t, m, call{lock, 2}, done)
	answers(t, m, call{unlock, 2}, done)
	is(t, m, look{-1, false, true})
}

// P16.2

func TestOwnerBadAndLostBehindEachCall(t *testing.T) {
	for _, own := range threads {
		for _, s := range situations {
			for _, way := range s.ways(own, 17) {
				is(t, made(t, way), s.look(own))
			}
		}
	}
}

func TestAskingChangesNothing(t *testing.T) {
	for _, s := range situations {
		for _, way := range s.ways(1, 2) {
			for _, k := range kinds {
				for by := range 3 {
					asked, other := &mutex.Mutex{}, &mutex.Mutex{}
					for _, c := range append(slices.Clone(way), call{k, by}) {
						see(asked)
						if a, b := c.of(asked), c.of(other); a != b {
							t.Fatalf("%v: %d, and %d without asking", c, a, b)
						}
						see(asked)
					}
					is(t, asked, see(other))
				}
			}
		}
	}
}

func TestNil(t *testing.T) {
	var m *mutex.Mutex
	for range 2 {
		for _, by := range slices.Concat(below, threads) {
			answers(t, m, call{lock, by}, arg)
			answers(t, m, call{unlock, by}, arg)
			answers(t, m, call{mend, by}, arg)
			answers(t, m, call{free, by}, no)
			answers(t, m, call{die, by}, no)
			is(t, m, look{-1, false, false})
		}
	}
}

// P16.3

func TestWhatIsLostStaysSo(t *testing.T) {
	for _, way := range lost.ways(1, 2) {
		m := made(t, way)
		for range 2 {
			for _, k := range kinds {
				for _, by := range slices.Concat(threads, below) {
					if a := (call{k, by}).of(m); a.well() {
						t.Fatalf("%v of a lost one: %d", call{k, by}, a)
					}
					is(t, m, look{-1, false, true})
				}
			}
		}
	}
}

func TestWhatIsBadStaysSoTillItIsMendedOrLost(t *testing.T) {
	m := made(t, []call{{lock, 1}, {die, 1}})
	for k := range 10 {
		answers(t, m, call{lock, k}, done)
		answers(t, m, call{mend, k + 1}, owner)
		is(t, m, look{k, true, false})
		if k%2 == 0 {
			answers(t, m, call{free, k}, yes)
		} else {
			answers(t, m, call{die, k}, yes)
		}
		answers(t, m, call{mend, k}, owner)
		is(t, m, look{-1, true, false})
	}
	answers(t, m, call{lock, 4}, done)
	answers(t, m, call{mend, 4}, done)
	is(t, m, look{4, false, false})
}

func TestAllOrdersOfSomeCalls(t *testing.T) {
	var all []call
	for _, k := range kinds {
		for by := -1; by < 2; by++ {
			all = append(all, call{k, by})
		}
	}
	met := map[situation]int{}
	var calls []call
	var goOn func(model)
	goOn = func(want model) {
		met[want.situation()]++
		if len(calls) == 5 {
			return
		}
		for _, c := range all {
			m, w := behind(calls), want
			follows(t, m, &w, c)
			calls = append(calls, c)
			goOn(w)
			calls = calls[:len(calls)-1]
		}
	}
	goOn(model{-1, false, false})
	for _, s := range situations {
		if met[s] < 100 {
			t.Errorf("situation %d was met %d times", s, met[s])
		}
	}
}

func TestTwoNeverOwnIt(t *testing.T) {
	among := []int{-1, 0, 1, 2, 64}
	r := draws.Row(16)
	free, one := 0, 0
	for range 3000 {
		calls := make([]call, r.Next()%12)
		for i := range calls {
			calls[i] = call{kinds[r.Next()%5], among[r.Next()%5]}
			if r.Next()%3 == 0 {
				calls[i].kind = lock
			}
		}
		m, want := &mutex.Mutex{}, &model{-1, false, false}
		for _, c := range calls {
			follows(t, m, want, c)
		}
		l := owners(calls, among)
		switch {
		case m.Owner() == -1 && len(l) == 0:
			free++
		case len(l) == 1 && l[0] == m.Owner():
			one++
		default:
			t.Fatalf("%v: of %v, and of %d", calls, l, m.Owner())
		}
	}
	if free < 500 || one < 500 {
		t.Errorf("%d were free, %d somebody's", free, one)
	}
}

func TestDrawnCalls(t *testing.T) {
	type met struct {
		ahead situation
		kind  kind
		a     told
	}
	tally := map[met]int{}
	r := draws.Row(163)
	few := []int{0, 1, 2, -1}
	for range 3000 {
		among := few
		if r.Next()%4 == 0 {
			among = slices.Concat(threads, below)
		}
		m, want := &mutex.Mutex{}, &model{-1, false, false}
		for range r.Next() % 60 {
			c := call{kinds[r.Next()%5], among[r.Next()%uint64(len(among))]}
			if c.kind == unlock && want.bad && r.Next()%4 > 0 {
				c.kind = mend // else most would soon be lost
			}
			if want.owner >= 0 && r.Next()%2 == 0 {
				c.t = want.owner
			}
			ahead, w := want.situation(), *want
			follows(t, m, want, c)
			tally[met{ahead, c.kind, w.call(c)}]++
		}
	}
	for _, row := range rows {
		for _, a := range []told{row.thread, row.other, row.none} {
			if n := tally[met{row.ahead, row.kind, a}]; n < 50 {
				t.Errorf("%v in %d answered %d %d times", row.kind, row.ahead, a, n)
			}
		}
	}
}

func TestTwoMutexesKnowNothingOfOneAnother(t *testing.T) {
	r := draws.Row(1632)
	for range 300 {
		ms := make([]mutex.Mutex, 3)
		wants := []model{{-1, false, false}, {-1, false, false}, {-1, false, false}}
		for range 60 {
			i := r.Next() % 3
			follows(t, &ms[i], &wants[i], call{kinds[r.Next()%5], int(r.Next()%4) - 1})
			for k := range ms {
				is(t, &ms[k], look(wants[k]))
			}
		}
	}
	// A thread may own both, and one lets go of one of them, or loses it.
	a, b := &mutex.Mutex{}, &mutex.Mutex{}
	answers(t, a, call{lock, 1}, done)
	answers(t, b, call{lock, 1}, done)
	answers(t, a, call{die, 1}, yes)
	is(t, a, look{-1, true, false})
	is(t, b, look{1, false, false})
	answers(t, a, call{lock, 2}, done)
	answers(t, a, call{unlock, 2}, done)
	is(t, b, look{1, false, false})
	answers(t, b, call{unlock, 1}, done)
	answers(t, b, call{lock, 2}, done)
	is(t, a, look{-1, false, true})
}

func TestMutexesOfTheSameCallsAreAlike(t *testing.T) {
	r := draws.Row(1633)
	for range 300 {
		a, b := &mutex.Mutex{}, &mutex.Mutex{}
		for range 40 {
			c := call{kinds[r.Next()%5], int(r.Next()%4) - 1}
			x, y := c.of(a), c.of(b)
			if x != y || see(a) != see(b) {
				t.Fatalf("%v: %d and %+v, and %d and %+v", c, x, see(a), y, see(b))
			}
		}
	}
}
