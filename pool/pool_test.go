package pool_test

import (
	"math"
	"slices"
	"testing"

	"logjam/api"
	"logjam/internal/draws"
	"logjam/internal/lists"
	"logjam/internal/threads"
	"logjam/pool"
)

// What tests hand in: some threads, and what are none.
var some, none = threads.Some(), threads.None()

// Numbers of units that tests hand in: such as are below 1, and such as are above all that may be there. Some would be others, if bits were lost or sums went round.
var (
	low  = []int{math.MinInt, math.MinInt + 1, math.MinInt + 1000, -1<<32 - 1, -1 << 32, -1<<32 + 1, -1 << 31, -1 << 16, -1001, -1000, -256, -3, -2, -1, 0}
	high = []int{1001, 1002, 1024, 1 << 16, 1<<16 + 1, 1<<31 - 1, 1 << 31, 1<<31 + 1, 1 << 32, 1<<32 + 1, 1<<32 + 500, math.MaxInt - 1000, math.MaxInt - 1, math.MaxInt}
)

// kind is which of the calls that may change a pool.
type kind int

const (
	take kind = iota
	give
	back
)

var kinds = []kind{take, give, back}

func (k kind) String() string { return [...]string{"Take", "Give", "Back"}[k] }

// call is one of the calls, by whom, and of how many; Back is handed no number of units.
type call struct {
	kind kind
	t, n int
}

// told is what a call answers: of the three one is asked, and the others are zero.
type told struct {
	took bool
	code api.Errno
	many int
}

func (c call) of(p *pool.Pool) told {
	switch c.kind {
	case take:
		return told{took: p.Take(c.t, c.n)}
	case give:
		return told{code: p.Give(c.t, c.n)}
	}
	return told{many: p.Back(c.t)}
}

// wrong is what a call answers that is handed no thread, or is made of nil.
func (k kind) wrong() told {
	if k == give {
		return told{code: api.ErrArg}
	}
	return told{}
}

// look is what can be seen of a pool without changing it, but for its shares.
type look struct {
	total, free int
	held        [64]int
}

func see(p *pool.Pool) look {
	l := look{total: p.Total(), free: p.Free()}
	for t := range l.held {
		l.held[t] = p.Held(t)
	}
	return l
}

// shares is who has how many, by how a pool looks.
func (l look) shares() []api.Share {
	var shares []api.Share
	for t, n := range l.held {
		if n != 0 {
			shares = append(shares, api.Share{Thread: t, N: n})
		}
	}
	return shares
}

// nobody has a unit that is free.
const nobody = -1

// model is a pool by the chapter's words: who has each of its units.
type model []int

// fresh is so many units, all free.
func fresh(total int) model { return slices.Repeat(model{nobody}, total) }

// of is how many one has, or nobody has.
func (m model) of(t int) int {
	n := 0
	for _, who := range m {
		if who == t {
			n++
		}
	}
	return n
}

func (m model) look() look {
	l := look{total: len(m)}
	for _, who := range m {
		if who == nobody {
			l.free++
		} else {
			l.held[who]++
		}
	}
	return l
}

// pass lets so many units that one has, or nobody has, go to another.
func (m model) pass(n, from, to int) {
	for k := range m {
		if n > 0 && m[k] == from {
			m[k] = to
			n--
		}
	}
}

func (m model) call(c call) told {
	if c.t < 0 || c.t > 63 {
		return c.kind.wrong()
	}
	switch c.kind {
	case take:
		if c.n < 1 || c.n > m.of(nobody) {
			return told{}
		}
		m.pass(c.n, nobody, c.t)
		return told{took: true}
	case give:
		if c.n < 1 {
			return told{code: api.ErrArg}
		}
		if m.of(c.t) < c.n {
			return told{code: api.ErrOwner}
		}
		m.pass(c.n, c.t, nobody)
		return told{}
	}
	n := m.of(c.t)
	m.pass(n, c.t, nobody)
	return told{many: n}
}

// looks fails, if a pool looks otherwise than it should, or tells other shares.
func looks(t *testing.T, p *pool.Pool, want look) {
	t.Helper()
	for range 2 {
		if got := see(p); got != want {
			t.Fatalf("%+v, not %+v", got, want)
		}
		if got := p.Shares(); !slices.Equal(got, want.shares()) {
			t.Fatalf("%v, not %v", got, want.shares())
		}
	}
}

// adds fails, if what is free, and what threads have, is not all, or if anything is below 0, by P20.2 alone.
func adds(t *testing.T, p *pool.Pool) {
	t.Helper()
	l := see(p)
	all, shared := l.free, l.free
	for _, n := range l.held {
		if n < 0 {
			t.Fatalf("one has less than nothing: %+v", l)
		}
		all += n
	}
	for _, s := range p.Shares() {
		shared += s.N
	}
	if l.free < 0 || all != l.total || shared != l.total {
		t.Fatalf("%d and, by shares, %d of %+v", all, shared, l)
	}
}

// is fails, if a pool is anything but what its model says.
func is(t *testing.T, p *pool.Pool, want model) {
	t.Helper()
	looks(t, p, want.look())
	adds(t, p)
}

// comes fails, if a call answers anything but what it should, or if behind it other threads have anything but these shares, or if others are free.
func comes(t *testing.T, p *pool.Pool, c call, want told, free int, shares ...api.Share) {
	t.Helper()
	ahead := see(p)
	if got := c.of(p); got != want {
		t.Fatalf("%v of %+v: %+v, not %+v", c, ahead, got, want)
	}
	behind := look{total: ahead.total, free: free}
	for _, s := range shares {
		behind.held[s.Thread] = s.N
	}
	looks(t, p, behind)
}

// refused fails, if a call answers anything but what it should, or changes anything.
func refused(t *testing.T, p *pool.Pool, c call, want told) {
	t.Helper()
	ahead := see(p)
	if got := c.of(p); got != want {
		t.Fatalf("%v of %+v: %+v, not %+v", c, ahead, got, want)
	}
	looks(t, p, ahead)
}

// follows fails, if a call answers anything but what its model says, or if the pool is anything else behind it.
func follows(t *testing.T, p *pool.Pool, m model, c call) told {
	t.Helper()
	ahead := see(p)
	want := m.call(c)
	if got := c.of(p); got != want {
		t.Fatalf("%v of %+v: %+v, not %+v", c, ahead, got, want)
	}
	is(t, p, m)
	return want
}

// stand is a model of so many units of which threads have these.
func stand(total int, shares ...api.Share) model {
	m := fresh(total)
	for _, s := range shares {
		m.pass(s.N, nobody, s.Thread)
	}
	return m
}

// made is a new pool of so many units of which threads have these.
func made(t *testing.T, total int, shares ...api.Share) *pool.Pool {
	t.Helper()
	p := pool.New(total)
	for _, s := range shares {
		if !p.Take(s.Thread, s.N) {
			t.Fatalf("Take(%d, %d): no", s.Thread, s.N)
		}
	}
	is(t, p, stand(total, shares...))
	return p
}

// situation is so many units of which threads have these.
type situation struct {
	total  int
	shares []api.Share
}

// situations have nothing, one, some, all but one and all free, and shares of one, of several, and of all threads.
func situations() []situation {
	var l []situation
	for _, total := range []int{0, 1, 2, 3, 10, 64, 65, 255, 256, 257, 999, 1000} {
		l = append(l, situation{total, nil})
		for _, n := range []int{1, total / 2, total - 1, total} {
			if n < 1 || n > total {
				continue
			}
			l = append(l, situation{total, []api.Share{{Thread: 0, N: n}}}, situation{total, []api.Share{{Thread: 63, N: n}}})
			if n > 1 {
				l = append(l, situation{total, []api.Share{{Thread: 0, N: 1}, {Thread: 63, N: n - 1}}}, situation{total, []api.Share{{Thread: 32, N: n - 1}, {Thread: 1, N: 1}}})
			}
		}
		if total >= 64 {
			l = append(l, situation{total, everybody(1)}, situation{total, everybody(total / 64)})
		}
	}
	return l
}

// everybody is shares of all threads, each of so many.
func everybody(n int) []api.Share {
	var shares []api.Share
	for _, by := range threads.All() {
		shares = append(shares, api.Share{Thread: by, N: n})
	}
	return shares
}

// ways go from a new pool into a situation, each by other calls, and hand each pool that comes there to do.
func (s situation) ways(t *testing.T, do func(*pool.Pool)) {
	t.Helper()
	do(made(t, s.total, s.shares...))
	late := slices.Clone(s.shares)
	slices.Reverse(late)
	do(made(t, s.total, late...))
	many := pool.New(s.total)
	for _, one := range late {
		for range one.N {
			many.Take(one.Thread, 1)
		}
	}
	do(many)
	// All go to one that gives them for those that take them, and gives back what is left.
	passed, left := pool.New(s.total), s.total
	passed.Take(5, s.total)
	for _, one := range s.shares {
		passed.Give(5, one.N)
		passed.Take(one.Thread, one.N)
		left -= one.N
	}
	passed.Give(5, left)
	do(passed)
	// Each one takes all that is free, and gives back what is too much.
	full := pool.New(s.total)
	for _, one := range s.shares {
		n := full.Free()
		full.Take(one.Thread, n)
		full.Give(one.Thread, n-one.N)
	}
	do(full)
	// Behind a time in which others had all, and gave it back by Back.
	used := pool.New(s.total)
	used.Take(62, s.total)
	used.Back(62)
	for _, one := range s.shares {
		used.Take(one.Thread, s.total)
		used.Back(one.Thread)
	}
	for _, one := range s.shares {
		used.Take(one.Thread, one.N)
	}
	do(used)
	// One that was made of another one.
	do(made(t, s.total, s.shares...).Clone())
}

// each goes through all situations, by each way.
func each(t *testing.T, do func(*pool.Pool, model)) {
	t.Helper()
	for _, s := range situations() {
		s.ways(t, func(p *pool.Pool) {
			m := stand(s.total, s.shares...)
			is(t, p, m)
			do(p, m)
		})
	}
}

// P20.1

func TestTheExample(t *testing.T) {
	p := made(t, 3)
	comes(t, p, call{take, 1, 2}, told{took: true}, 1, api.Share{Thread: 1, N: 2})
	comes(t, p, call{take, 2, 2}, told{}, 1, api.Share{Thread: 1, N: 2})
}

func TestNewIsHeldFrom0To1000(t *testing.T) {
	for _, c := range []struct{ total, want int }{
		{math.MinInt, 0}, {-1 << 32, 0}, {-1<<32 + 1, 0}, {-1000, 0}, {-1, 0}, {0, 0}, {1, 1}, {2, 2}, {500, 500}, {998, 998},
		{999, 999}, {1000, 1000}, {1001, 1000}, {1 << 16, 1000}, {1 << 31, 1000}, {1 << 32, 1000}, {1<<32 + 1, 1000}, {math.MaxInt, 1000},
	} {
		p := pool.New(c.total)
		looks(t, p, look{total: c.want, free: c.want})
		refused(t, p, call{take, 0, c.want + 1}, told{})
		if c.want > 0 {
			comes(t, p, call{take, 0, c.want}, told{took: true}, 0, api.Share{Thread: 0, N: c.want})
		}
	}
	for total := range 1003 {
		is(t, pool.New(total), fresh(min(total, 1000)))
	}
}

func TestFreeTotalAndHeldBehindEachKindOfCall(t *testing.T) {
	p := made(t, 10)
	a, b := func(n int) api.Share { return api.Share{Thread: 0, N: n} }, func(n int) api.Share { return api.Share{Thread: 63, N: n} }
	comes(t, p, call{take, 63, 4}, told{took: true}, 6, b(4))
	comes(t, p, call{take, 0, 1}, told{took: true}, 5, a(1), b(4))
	comes(t, p, call{take, 63, 2}, told{took: true}, 3, a(1), b(6))
	comes(t, p, call{take, 0, 4}, told{}, 3, a(1), b(6))
	comes(t, p, call{give, 63, 5}, told{}, 8, a(1), b(1))
	comes(t, p, call{give, 63, 2}, told{code: api.ErrOwner}, 8, a(1), b(1))
	comes(t, p, call{take, 0, 8}, told{took: true}, 0, a(9), b(1))
	comes(t, p, call{give, 0, 0}, told{code: api.ErrArg}, 0, a(9), b(1))
	comes(t, p, call{back, 0, 0}, told{many: 9}, 9, b(1))
	comes(t, p, call{back, 0, 0}, told{}, 9, b(1))
	comes(t, p, call{give, 63, 1}, told{}, 10)
	comes(t, p, call{back, 63, 0}, told{}, 10)
}

func TestThreadsAreNumbersFrom0To63(t *testing.T) {
	for by := range 64 {
		p := made(t, 3)
		comes(t, p, call{take, by, 3}, told{took: true}, 0, api.Share{Thread: by, N: 3})
		comes(t, p, call{give, by, 1}, told{}, 1, api.Share{Thread: by, N: 2})
		comes(t, p, call{back, by, 0}, told{many: 2}, 3)
	}
	each(t, func(p *pool.Pool, m model) {
		for _, by := range none {
			for _, n := range []int{1, len(m), 0, -1, math.MinInt, math.MaxInt} {
				for _, k := range kinds {
					if got := (call{k, by, n}).of(p); got != k.wrong() {
						t.Fatalf("%v(%d, %d): %+v", k, by, n, got)
					}
				}
			}
			if got := p.Held(by); got != 0 {
				t.Fatalf("Held(%d): %d", by, got)
			}
		}
		is(t, p, m)
	})
}

// Take

func TestTakeOfWhatIsNoNumberOfUnits(t *testing.T) {
	each(t, func(p *pool.Pool, m model) {
		for _, by := range []int{0, 63, 5} {
			for _, n := range low {
				refused(t, p, call{take, by, n}, told{})
			}
		}
	})
}

func TestTakeOfWhatIsFree(t *testing.T) {
	each(t, func(p *pool.Pool, m model) {
		free := m.of(nobody)
		for _, by := range []int{0, 1, 5, 32, 63} {
			for _, n := range slices.Concat([]int{free + 1, free + 2}, high) {
				refused(t, p, call{take, by, n}, told{})
			}
		}
		for _, by := range []int{0, 1, 5, 32, 63} {
			q, w := p.Clone(), slices.Clone(m)
			if free == 0 {
				refused(t, q, call{take, by, 1}, told{})
				continue
			}
			had := w.of(by)
			follows(t, q, w, call{take, by, free})
			if got := q.Held(by); q.Free() != 0 || got != had+free {
				t.Fatalf("%d are free, and it has %d, that had %d", q.Free(), got, had)
			}
			refused(t, q, call{take, by, 1}, told{})
			refused(t, q, call{take, 62, 1}, told{})
		}
		if free > 1 {
			follows(t, p, m, call{take, 63, free - 1})
			refused(t, p, call{take, 0, 2}, told{})
			if said := follows(t, p, m, call{take, 0, 1}); !said.took {
				t.Fatal(said)
			}
		}
	})
}

func TestTakeOfOneThatHasSome(t *testing.T) {
	p := made(t, 1000, api.Share{Thread: 7, N: 1})
	comes(t, p, call{take, 7, 1}, told{took: true}, 998, api.Share{Thread: 7, N: 2})
	comes(t, p, call{take, 7, 500}, told{took: true}, 498, api.Share{Thread: 7, N: 502})
	comes(t, p, call{take, 7, 499}, told{}, 498, api.Share{Thread: 7, N: 502})
	comes(t, p, call{take, 7, 498}, told{took: true}, 0, api.Share{Thread: 7, N: 1000})
	comes(t, p, call{take, 7, 1}, told{}, 0, api.Share{Thread: 7, N: 1000})
}

// Give

func TestGiveOfWhatIsNoNumberOfUnits(t *testing.T) {
	each(t, func(p *pool.Pool, m model) {
		// One that has none is told it, too: ErrArg comes ahead of ErrOwner.
		for _, by := range []int{0, 63, 5} {
			for _, n := range low {
				refused(t, p, call{give, by, n}, told{code: api.ErrArg})
			}
		}
	})
}

func TestGiveByNoThreadIsToldAheadOfThatItHasFewer(t *testing.T) {
	p := made(t, 3, api.Share{Thread: 0, N: 2})
	for _, by := range []int{math.MinInt, -1, 64, math.MaxInt} {
		for _, n := range []int{math.MinInt, -1, 0, 1, 2, 3, 1001, math.MaxInt} {
			refused(t, p, call{give, by, n}, told{code: api.ErrArg})
		}
	}
}

func TestGiveOfMoreThanOneHas(t *testing.T) {
	each(t, func(p *pool.Pool, m model) {
		for _, by := range []int{0, 1, 5, 32, 63} {
			has := m.of(by)
			for _, n := range slices.Concat([]int{has + 1, has + 2}, high) {
				refused(t, p, call{give, by, n}, told{code: api.ErrOwner})
			}
		}
	})
}

func TestGiveOfWhatOneHas(t *testing.T) {
	each(t, func(p *pool.Pool, m model) {
		for _, by := range []int{0, 1, 32, 63} {
			has, free := m.of(by), m.of(nobody)
			for _, n := range []int{1, has / 2, has - 1, has} {
				if n < 1 || n > has {
					continue
				}
				q, w := p.Clone(), slices.Clone(m)
				follows(t, q, w, call{give, by, n})
				if q.Held(by) != has-n || q.Free() != free+n {
					t.Fatalf("%d of %d: %d, and %d are free behind %d", n, has, q.Held(by), q.Free(), free)
				}
				// What it gave it has no more, and others may take it.
				refused(t, q, call{give, by, has - n + 1}, told{code: api.ErrOwner})
				refused(t, q, call{take, 2, free + n + 1}, told{})
				if said := follows(t, q, w, call{take, 2, free + n}); !said.took {
					t.Fatal(said)
				}
			}
		}
	})
}

func TestGiveOfOnesOwnAlone(t *testing.T) {
	p := made(t, 10, api.Share{Thread: 0, N: 5}, api.Share{Thread: 63, N: 2})
	refused(t, p, call{give, 63, 3}, told{code: api.ErrOwner})
	refused(t, p, call{give, 1, 1}, told{code: api.ErrOwner})
	comes(t, p, call{give, 63, 1}, told{}, 4, api.Share{Thread: 0, N: 5}, api.Share{Thread: 63, N: 1})
	comes(t, p, call{give, 63, 1}, told{}, 5, api.Share{Thread: 0, N: 5})
	refused(t, p, call{give, 63, 1}, told{code: api.ErrOwner})
	comes(t, p, call{give, 0, 5}, told{}, 10)
	refused(t, p, call{give, 0, 1}, told{code: api.ErrOwner})
}

// Back

func TestBack(t *testing.T) {
	each(t, func(p *pool.Pool, m model) {
		for _, by := range []int{63, 0, 1, 5, 32} {
			has, free := m.of(by), m.of(nobody)
			if said := follows(t, p, m, call{back, by, 0}); said.many != has {
				t.Fatalf("%+v, of %d", said, has)
			}
			if p.Held(by) != 0 || p.Free() != free+has {
				t.Fatalf("%d, and %d are free", p.Held(by), p.Free())
			}
			for range 2 {
				refused(t, p, call{back, by, 0}, told{})
			}
			refused(t, p, call{give, by, 1}, told{code: api.ErrOwner})
		}
		for _, by := range threads.All() {
			follows(t, p, m, call{back, by, 0})
		}
		is(t, p, fresh(len(m)))
		if len(m) > 0 {
			comes(t, p, call{take, 31, len(m)}, told{took: true}, 0, api.Share{Thread: 31, N: len(m)})
			comes(t, p, call{back, 31, 0}, told{many: len(m)}, len(m))
		}
	})
}

// Shares

func TestSharesAreByThreadInWhateverOrderTheyTook(t *testing.T) {
	r := draws.Row(200)
	for _, among := range [][]int{{0}, {63}, {31, 32}, some, threads.All()} {
		var want []api.Share
		for _, by := range among {
			want = append(want, api.Share{Thread: by, N: by%15 + 1})
		}
		for range 20 {
			p := pool.New(1000)
			for _, s := range draws.Shuffled(&r, want) {
				p.Take(s.Thread, s.N)
			}
			if got := p.Shares(); !slices.Equal(got, want) {
				t.Fatalf("%v, not %v", got, want)
			}
		}
	}
}

func TestSharesOfNobody(t *testing.T) {
	for _, p := range []*pool.Pool{pool.New(0), pool.New(1), pool.New(1000)} {
		if l := p.Shares(); len(l) != 0 {
			t.Errorf("%v", l)
		}
	}
	p := made(t, 3)
	refused(t, p, call{take, 1, 4}, told{})
	refused(t, p, call{give, 1, 1}, told{code: api.ErrOwner})
	if l := p.Shares(); len(l) != 0 {
		t.Errorf("%v", l)
	}
}

func TestSharesHaveNoneThatGaveAllBack(t *testing.T) {
	p := made(t, 10, api.Share{Thread: 0, N: 2}, api.Share{Thread: 5, N: 3}, api.Share{Thread: 31, N: 1}, api.Share{Thread: 63, N: 4})
	for _, c := range []struct {
		call call
		want []api.Share
	}{
		{call{give, 5, 2}, []api.Share{{Thread: 0, N: 2}, {Thread: 5, N: 1}, {Thread: 31, N: 1}, {Thread: 63, N: 4}}},
		{call{give, 5, 1}, []api.Share{{Thread: 0, N: 2}, {Thread: 31, N: 1}, {Thread: 63, N: 4}}},
		{call{back, 63, 0}, []api.Share{{Thread: 0, N: 2}, {Thread: 31, N: 1}}},
		{call{back, 0, 0}, []api.Share{{Thread: 31, N: 1}}},
		{call{take, 5, 1}, []api.Share{{Thread: 5, N: 1}, {Thread: 31, N: 1}}},
		{call{give, 31, 1}, []api.Share{{Thread: 5, N: 1}}},
		{call{back, 5, 0}, nil},
	} {
		c.call.of(p)
		if got := p.Shares(); !slices.Equal(got, c.want) {
			t.Fatalf("%v: %v, not %v", c.call, got, c.want)
		}
	}
}

func TestSharesAreNewMemory(t *testing.T) {
	each(t, func(p *pool.Pool, m model) {
		first, second := p.Shares(), p.Shares()
		if !lists.Apart(first, second, p.Clone().Shares()) {
			t.Fatalf("%v and %v share memory", first, second)
		}
		for _, l := range [][]api.Share{first, second} {
			for k := range l[:cap(l)] {
				l[:cap(l)][k] = api.Share{Thread: 9, N: 7}
			}
			_ = append(l, api.Share{Thread: 8, N: 6})
		}
		is(t, p, m)
		// What was told stays so, whatever is done to the pool.
		told := p.Shares()
		kept := slices.Clone(told)
		p.Back(0)
		p.Back(63)
		p.Take(4, 1)
		if !slices.Equal(told, kept) {
			t.Fatalf("%v became %v", kept, told)
		}
	})
}

// Clone

func TestCloneHasTheSameApart(t *testing.T) {
	each(t, func(p *pool.Pool, m model) {
		q := p.Clone()
		if q == nil || q == p {
			t.Fatal("it is none, or the same one")
		}
		is(t, q, m)
		is(t, p, m)
		a, b := slices.Clone(m), slices.Clone(m)
		for _, c := range []call{{take, 5, 1}, {give, 0, 1}, {take, 63, 2}, {back, 63, 0}, {take, 0, 3}, {back, 32, 0}} {
			follows(t, p, a, c)
			is(t, q, b)
		}
		for _, c := range []call{{back, 0, 0}, {take, 62, 2}, {give, 63, 1}, {take, 1, 1}} {
			follows(t, q, b, c)
			is(t, p, a)
		}
	})
}

func TestCloneOfAClone(t *testing.T) {
	p := made(t, 10, api.Share{Thread: 1, N: 4})
	q := p.Clone()
	comes(t, q, call{take, 2, 6}, told{took: true}, 0, api.Share{Thread: 1, N: 4}, api.Share{Thread: 2, N: 6})
	r := q.Clone()
	comes(t, r, call{back, 1, 0}, told{many: 4}, 4, api.Share{Thread: 2, N: 6})
	is(t, p, stand(10, api.Share{Thread: 1, N: 4}))
	is(t, q, stand(10, api.Share{Thread: 1, N: 4}, api.Share{Thread: 2, N: 6}))
}

// Of nil

func TestNil(t *testing.T) {
	var p *pool.Pool
	for range 2 {
		for _, by := range slices.Concat(some, none) {
			for _, n := range slices.Concat(low, []int{1, 2, 1000}, high) {
				for _, k := range kinds {
					if got := (call{k, by, n}).of(p); got != k.wrong() {
						t.Fatalf("%v(%d, %d): %+v", k, by, n, got)
					}
				}
			}
			if got := p.Held(by); got != 0 {
				t.Errorf("Held(%d): %d", by, got)
			}
		}
		looks(t, p, look{})
		if l := p.Shares(); len(l) != 0 {
			t.Errorf("%v", l)
		}
		if q := p.Clone(); q != nil {
			t.Errorf("%v", q)
		}
	}
}

// What a zero one answers is open, but it ends, without a panic.
func TestAZeroOneDoesNotPanic(t *testing.T) {
	for _, n := range slices.Concat(low, []int{1, 2, 1000}, high) {
		for _, by := range slices.Concat(some, none) {
			p := &pool.Pool{}
			for _, k := range []kind{take, give, back, take, give} {
				call{k, by, n}.of(p)
				see(p)
				p.Shares()
				see(p.Clone())
			}
		}
	}
}

// P20.1 and P20.2

func TestWhatIsRefusedChangesNothing(t *testing.T) {
	each(t, func(p *pool.Pool, m model) {
		free, refusals := m.of(nobody), 0
		for _, n := range slices.Concat(low, []int{1, free, free + 1, len(m)}, high) {
			for _, by := range slices.Concat(some, []int{math.MinInt, -1, 64, math.MaxInt}) {
				for _, k := range kinds {
					want := slices.Clone(m)
					said := want.call(call{k, by, n})
					if said.code == api.OK && said != (told{}) || k == give && said.code == api.OK {
						continue
					}
					if got := (call{k, by, n}).of(p); got != said {
						t.Fatalf("%v(%d, %d): %+v, not %+v", k, by, n, got, said)
					}
					refusals++
				}
			}
		}
		is(t, p, m)
		if refusals < 700 {
			t.Errorf("%d were refused", refusals)
		}
		// Not only what is seen is as it was, but what calls come to.
		for _, c := range []call{{take, 5, 2}, {give, 0, 1}, {take, 63, free}, {back, 0, 0}, {take, 1, 1}, {back, 63, 0}, {give, 5, 2}} {
			follows(t, p, m, c)
		}
	})
}

func TestAllOrdersOfSomeCalls(t *testing.T) {
	var all []call
	for _, by := range []int{0, 63} {
		for n := 1; n <= 2; n++ {
			all = append(all, call{take, by, n}, call{give, by, n})
		}
		all = append(all, call{back, by, 0})
	}
	met := map[look]int{}
	var goOn func(*pool.Pool, model, int)
	goOn = func(p *pool.Pool, m model, left int) {
		met[m.look()]++
		if left == 0 {
			return
		}
		for _, c := range all {
			q, w := p.Clone(), slices.Clone(m)
			follows(t, q, w, c)
			goOn(q, w, left-1)
			is(t, p, m)
		}
	}
	for total := range 4 {
		goOn(pool.New(total), fresh(total), 4)
	}
	// Of n units two may have 1 + 2 + .. + (n + 1) shares in all.
	if len(met) != 1+3+6+10 {
		t.Errorf("%d were met", len(met))
	}
}

func TestEachNumberOfSmallPools(t *testing.T) {
	for total := range 9 {
		for a := range total + 1 {
			for b := range total - a + 1 {
				for n := -2; n <= total+2; n++ {
					for _, by := range []int{-1, 0, 31, 63, 64} {
						for _, k := range kinds {
							p, m := pool.New(total), fresh(total)
							p.Take(0, a)
							p.Take(63, b)
							m.pass(a, nobody, 0)
							m.pass(b, nobody, 63)
							follows(t, p, m, call{k, by, n})
						}
					}
				}
			}
		}
	}
}

func TestDrawnCalls(t *testing.T) {
	type met struct {
		kind kind
		took bool
		code api.Errno
		// some tells whether the thread had any ahead of the call.
		some bool
	}
	tally := map[met]int{}
	r := draws.Row(201)
	most := 0
	for range 3000 {
		total := []int{int(r.Next() % 12), int(r.Next() % 12), int(r.Next() % 70), int(r.Next() % 1001), 1000}[r.Next()%5]
		among := [][]int{{0, 31, 63}, some, slices.Concat(some, none), threads.All()}[r.Next()%4]
		often := [][]kind{kinds, {take, take, take, give, give, back}, {take, give}, {take, take, give, give, give}}[r.Next()%4]
		p, m := pool.New(total), fresh(total)
		for range r.Next() % 60 {
			c := call{kind: often[r.Next()%uint64(len(often))], t: among[r.Next()%uint64(len(among))]}
			free, has := m.of(nobody), p.Held(c.t)
			c.n = []int{int(r.Next()%10) - 1, free, free + 1, has, has + 1, 1 + int(r.Next()%uint64(total/5+1)), low[r.Next()%uint64(len(low))], high[r.Next()%uint64(len(high))], 1, 2}[r.Next()%10]
			said := follows(t, p, m, c)
			tally[met{c.kind, said.took, said.code, has > 0}]++
			most = max(most, len(p.Shares()))
		}
	}
	for _, m := range []met{
		{take, true, api.OK, false}, {take, true, api.OK, true}, {take, false, api.OK, false}, {take, false, api.OK, true},
		{give, false, api.OK, true}, {give, false, api.ErrArg, false}, {give, false, api.ErrArg, true},
		{give, false, api.ErrOwner, false}, {give, false, api.ErrOwner, true},
		{back, false, api.OK, true}, {back, false, api.OK, false},
	} {
		if tally[m] < 300 {
			t.Errorf("%+v was met %d times", m, tally[m])
		}
	}
	if most < 15 {
		t.Errorf("%d had some at most", most)
	}
}

func TestPoolsKnowNothingOfOneAnother(t *testing.T) {
	r := draws.Row(202)
	for range 300 {
		pools, wants := make([]*pool.Pool, 3), make([]model, 3)
		for k := range pools {
			total := int(r.Next() % 12)
			pools[k], wants[k] = pool.New(total), fresh(total)
		}
		for range 60 {
			i := r.Next() % 3
			// Those that were made of one another know nothing of it, too.
			if j := r.Next() % 3; r.Next()%10 == 0 {
				pools[i], wants[i] = pools[j].Clone(), slices.Clone(wants[j])
			}
			c := call{kinds[r.Next()%3], int(r.Next()%5) - 1, int(r.Next()%6) - 1}
			follows(t, pools[i], wants[i], c)
			for k := range pools {
				is(t, pools[k], wants[k])
			}
		}
	}
}

func TestAskingChangesNothing(t *testing.T) {
	r := draws.Row(203)
	for range 300 {
		total := int(r.Next() % 12)
		asked, other := pool.New(total), pool.New(total)
		for range 40 {
			c := call{kinds[r.Next()%3], int(r.Next()%5) - 1, int(r.Next()%6) - 1}
			for range r.Next() % 3 {
				see(asked)
				asked.Shares()
				asked.Clone().Back(c.t)
			}
			if a, b := c.of(asked), c.of(other); a != b {
				t.Fatalf("%v: %+v, and %+v without asking", c, a, b)
			}
		}
		if see(asked) != see(other) {
			t.Fatalf("%+v, and %+v without asking", see(asked), see(other))
		}
	}
}
