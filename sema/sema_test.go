package sema_test

import (
	"math"
	"math/big"
	"slices"
	"testing"

	"logjam/api"
	"logjam/internal/draws"
	"logjam/sema"
)

// numbers are what tests hand in: at each bound and beside it, and such as would come between the bounds, if bits were lost or sums went round.
var numbers = []int{
	math.MinInt, math.MinInt + 1, math.MinInt + 1000, -1<<32 - 1, -1 << 32, -1<<32 + 1, -1 << 31, -1 << 16, -1001, -1000, -999, -256, -2, -1,
	0, 1, 2, 3, 127, 128, 255, 256, 500, 998, 999, 1000, 1001, 1002, 1023, 1024,
	1 << 16, 1<<16 + 1, 1<<31 - 1, 1 << 31, 1 << 32, 1<<32 + 1, 1<<32 + 500, math.MaxInt - 1000, math.MaxInt - 999, math.MaxInt - 1, math.MaxInt,
}

// kind is which of the calls that may change a counter.
type kind int

const (
	down kind = iota
	post
	fill
)

func (k kind) String() string { return [...]string{"Down", "Post", "Fill"}[k] }

// call is one of the calls, and what it is handed; Fill is handed nothing.
type call struct {
	kind kind
	n    int
}

// told is what a call answers: of the three one is asked, and the others are zero.
type told struct {
	took bool
	code api.Errno
	many int
}

func (c call) of(s *sema.Sema) told {
	switch c.kind {
	case down:
		return told{took: s.Down(c.n)}
	case post:
		return told{code: s.Post(c.n)}
	}
	return told{many: s.Fill()}
}

// look is all that can be seen of a counter without changing it.
type look struct{ value, most int }

func see(s *sema.Sema) look { return look{s.Value(), s.Most()} }

// held is the number of a span that is the nearest, by going through the span.
func held(n, least, greatest int) int {
	for k := least; k < greatest; k++ {
		if n <= k {
			return k
		}
	}
	return greatest
}

// starts is how a counter looks that is made of these.
func starts(first, most int) look {
	most = held(most, 1, 1000)
	return look{held(first, 0, most), most}
}

// call changes how a counter looks by the chapter's words, and tells what is answered. Sums are made where there is room for all of them.
func (l *look) call(c call) told {
	n, value, most := big.NewInt(int64(c.n)), big.NewInt(int64(l.value)), big.NewInt(int64(l.most))
	one := big.NewInt(1)
	switch c.kind {
	case down:
		if n.Cmp(one) < 0 || n.Cmp(value) > 0 {
			return told{}
		}
		l.value = int(value.Sub(value, n).Int64())
		return told{took: true}
	case post:
		if n.Cmp(one) < 0 {
			return told{code: api.ErrArg}
		}
		if value.Add(value, n); value.Cmp(most) > 0 {
			return told{code: api.ErrOver}
		}
		l.value = int(value.Int64())
		return told{}
	}
	l.value = l.most
	return told{many: int(most.Sub(most, value).Int64())}
}

// is fails, if a counter looks otherwise than it should.
func is(t *testing.T, s *sema.Sema, want look) {
	t.Helper()
	for range 2 {
		if got := see(s); got != want {
			t.Fatalf("%+v, not %+v", got, want)
		}
	}
}

// answers fails, if a call answers anything but what it should.
func answers(t *testing.T, s *sema.Sema, c call, want told) {
	t.Helper()
	if got := c.of(s); got != want {
		t.Fatalf("%v: %+v, not %+v", c, got, want)
	}
}

// comes fails, if a call answers anything but what it should, or if the counter looks otherwise behind it.
func comes(t *testing.T, s *sema.Sema, c call, want told, behind look) {
	t.Helper()
	ahead := see(s)
	if got := c.of(s); got != want || see(s) != behind {
		t.Fatalf("%v of %+v: %+v and %+v, not %+v and %+v", c, ahead, got, see(s), want, behind)
	}
	is(t, s, behind)
}

// refused fails, if a call answers anything but what it should, or changes anything.
func refused(t *testing.T, s *sema.Sema, c call, want told) {
	t.Helper()
	comes(t, s, c, want, see(s))
}

// follows fails, if a call answers anything but what its reading says, or leaves anything else behind it.
func follows(t *testing.T, s *sema.Sema, l *look, c call) told {
	t.Helper()
	want := l.call(c)
	comes(t, s, c, want, *l)
	return want
}

// made is a counter with such a value, and such a greatest one.
func made(t *testing.T, l look) *sema.Sema {
	t.Helper()
	s := sema.New(l.value, l.most)
	is(t, s, l)
	return s
}

// ways go from a new counter to one that looks so, each by other calls.
func ways(t *testing.T, l look, do func(*sema.Sema)) {
	t.Helper()
	do(made(t, l))
	full := made(t, look{l.most, l.most})
	if l.value < l.most {
		answers(t, full, call{down, l.most - l.value}, told{took: true})
	}
	do(full)
	empty := made(t, look{0, l.most})
	if l.value > 0 {
		answers(t, empty, call{post, l.value}, told{})
	}
	do(empty)
	filled := made(t, look{0, l.most})
	answers(t, filled, call{fill, 0}, told{many: l.most})
	for range l.most - l.value {
		answers(t, filled, call{down, 1}, told{took: true})
	}
	do(filled)
	counted := made(t, look{0, l.most})
	for range l.value {
		answers(t, counted, call{post, 1}, told{})
	}
	do(counted)
}

// each goes through counters of some greatest values, with each value that lies at a bound, or beside it.
func each(t *testing.T, do func(*sema.Sema, look)) {
	t.Helper()
	for _, most := range []int{1, 2, 3, 5, 255, 256, 257, 500, 999, 1000} {
		values := []int{0, 1, 2, most / 2, most - 2, most - 1, most}
		slices.Sort(values)
		for _, value := range slices.Compact(values) {
			if value < 0 || value > most {
				continue
			}
			l := look{value, most}
			ways(t, l, func(s *sema.Sema) {
				is(t, s, l)
				do(s, l)
			})
		}
	}
}

// P18.1

func TestTheExample(t *testing.T) {
	s := made(t, look{1, 2})
	comes(t, s, call{post, 2}, told{code: api.ErrOver}, look{1, 2})
	comes(t, s, call{post, 1}, told{}, look{2, 2})
	comes(t, s, call{down, 2}, told{took: true}, look{0, 2})
}

func TestNewHoldsMostFrom1To1000(t *testing.T) {
	for _, c := range []struct{ most, want int }{
		{math.MinInt, 1}, {-1 << 32, 1}, {-1, 1}, {0, 1}, {1, 1}, {2, 2}, {3, 3},
		{998, 998}, {999, 999}, {1000, 1000}, {1001, 1000}, {1 << 32, 1000}, {math.MaxInt, 1000},
	} {
		is(t, sema.New(0, c.most), look{0, c.want})
		is(t, sema.New(1, c.most), look{1, c.want})
		is(t, sema.New(math.MaxInt, c.most), look{c.want, c.want})
	}
}

func TestNewHoldsFirstFrom0ToMost(t *testing.T) {
	for _, most := range []int{1, 2, 3, 500, 999, 1000} {
		for _, c := range []struct{ first, want int }{
			{math.MinInt, 0}, {-1 << 32, 0}, {-1, 0}, {0, 0}, {1, 1},
			{most - 1, most - 1}, {most, most}, {most + 1, most}, {1 << 32, most}, {math.MaxInt, most},
		} {
			is(t, sema.New(c.first, most), look{c.want, most})
		}
	}
	// Most is held first: what first may be is told by what most came to.
	for _, c := range []struct {
		first, most int
		want        look
	}{
		{math.MinInt, math.MinInt, look{0, 1}}, {-1, -1, look{0, 1}}, {0, 0, look{0, 1}}, {1, 0, look{1, 1}}, {2, 0, look{1, 1}},
		{1, math.MinInt, look{1, 1}}, {999, 1001, look{999, 1000}}, {1000, 1001, look{1000, 1000}}, {1001, 1001, look{1000, 1000}},
		{1001, 1002, look{1000, 1000}}, {math.MaxInt, math.MaxInt, look{1000, 1000}}, {math.MaxInt, math.MinInt, look{1, 1}},
		{math.MinInt, math.MaxInt, look{0, 1000}},
	} {
		is(t, sema.New(c.first, c.most), c.want)
	}
}

func TestNewOfAllNumbers(t *testing.T) {
	for _, most := range numbers {
		beside := []int{}
		for _, d := range []int{-1, 0, 1} {
			if n := most + d; (n > most) == (d > 0) {
				beside = append(beside, n)
			}
		}
		for _, first := range slices.Concat(numbers, beside) {
			is(t, sema.New(first, most), starts(first, most))
		}
	}
	for most := range 1002 {
		for _, first := range []int{0, 1, most / 2, most - 1, most, most + 1} {
			is(t, sema.New(first, most), starts(first, most))
		}
	}
}

func TestDown(t *testing.T) {
	each(t, func(s *sema.Sema, l look) {
		for _, n := range []int{math.MinInt, math.MinInt + l.value, -1 << 32, -l.most, -1, 0, l.value + 1, l.value + 2, 1001, 1<<16 + 1, 1<<32 + 1, math.MaxInt} {
			if n < 1 || n > l.value {
				refused(t, s, call{down, n}, told{})
			}
		}
		if l.value == 0 {
			refused(t, s, call{down, 1}, told{})
			refused(t, s, call{down, l.most}, told{})
			return
		}
		comes(t, s, call{down, 1}, told{took: true}, look{l.value - 1, l.most})
		refused(t, s, call{down, l.value}, told{})
		if l.value > 1 {
			comes(t, s, call{down, l.value - 1}, told{took: true}, look{0, l.most})
		}
		refused(t, s, call{down, 1}, told{})
		ways(t, l, func(s *sema.Sema) {
			comes(t, s, call{down, l.value}, told{took: true}, look{0, l.most})
			refused(t, s, call{down, l.value}, told{})
		})
	})
}

func TestPost(t *testing.T) {
	each(t, func(s *sema.Sema, l look) {
		missing := l.most - l.value
		for _, n := range []int{math.MinInt, math.MinInt + 1, math.MinInt + missing, -1 << 32, -l.value, -1, 0} {
			if n < 1 {
				refused(t, s, call{post, n}, told{code: api.ErrArg})
			}
		}
		for _, n := range []int{missing + 1, missing + 2, l.most + 1, 1001, 1 << 16, 1 << 31, 1 << 32, 1<<32 + 1, math.MaxInt - l.most, math.MaxInt - l.value, math.MaxInt - 1, math.MaxInt} {
			refused(t, s, call{post, n}, told{code: api.ErrOver})
		}
		if missing == 0 {
			refused(t, s, call{post, 1}, told{code: api.ErrOver})
			refused(t, s, call{post, l.most}, told{code: api.ErrOver})
			return
		}
		comes(t, s, call{post, 1}, told{}, look{l.value + 1, l.most})
		refused(t, s, call{post, missing}, told{code: api.ErrOver})
		if missing > 1 {
			comes(t, s, call{post, missing - 1}, told{}, look{l.most, l.most})
		}
		refused(t, s, call{post, 1}, told{code: api.ErrOver})
		ways(t, l, func(s *sema.Sema) {
			comes(t, s, call{post, missing}, told{}, look{l.most, l.most})
			refused(t, s, call{post, 1}, told{code: api.ErrOver})
		})
	})
}

func TestEachNumberOfASmallSpan(t *testing.T) {
	for most := 1; most <= 12; most++ {
		for value := range most + 1 {
			for n := -3; n <= most+3; n++ {
				for _, k := range []kind{down, post, fill} {
					l := look{value, most}
					follows(t, made(t, l), &l, call{k, n})
				}
			}
		}
	}
}

// What is below 1 is told ahead of what would be above most, in a full one, too, and where a number is so low that, taken off the value or turned round, it would come above all.
func TestErrArgComesAheadOfErrOver(t *testing.T) {
	each(t, func(s *sema.Sema, l look) {
		answers(t, s, call{fill, 0}, told{many: l.most - l.value})
		for _, n := range numbers {
			if n < 1 {
				refused(t, s, call{post, n}, told{code: api.ErrArg})
			} else {
				refused(t, s, call{post, n}, told{code: api.ErrOver})
			}
		}
	})
}

func TestWhatIsRefusedChangesNothing(t *testing.T) {
	each(t, func(s *sema.Sema, l look) {
		for range 2 {
			for _, n := range numbers {
				if n < 1 || n > l.value {
					refused(t, s, call{down, n}, told{})
				}
				if n < 1 {
					refused(t, s, call{post, n}, told{code: api.ErrArg})
				} else if n > l.most-l.value {
					refused(t, s, call{post, n}, told{code: api.ErrOver})
				}
			}
			is(t, s, l)
		}
		// Not only what is seen is as it was, but what calls come to.
		if l.value > 0 {
			comes(t, s, call{down, l.value}, told{took: true}, look{0, l.most})
		}
		comes(t, s, call{fill, 0}, told{many: l.most}, look{l.most, l.most})
	})
}

func TestFill(t *testing.T) {
	each(t, func(s *sema.Sema, l look) {
		comes(t, s, call{fill, 0}, told{many: l.most - l.value}, look{l.most, l.most})
		for range 2 {
			comes(t, s, call{fill, 0}, told{}, look{l.most, l.most})
		}
		comes(t, s, call{down, 1}, told{took: true}, look{l.most - 1, l.most})
		comes(t, s, call{fill, 0}, told{many: 1}, look{l.most, l.most})
		comes(t, s, call{down, l.most}, told{took: true}, look{0, l.most})
		comes(t, s, call{post, 1}, told{}, look{1, l.most})
		comes(t, s, call{fill, 0}, told{many: l.most - 1}, look{l.most, l.most})
		// What is refused is not counted.
		refused(t, s, call{down, l.most + 1}, told{})
		refused(t, s, call{post, 1}, told{code: api.ErrOver})
		comes(t, s, call{fill, 0}, told{}, look{l.most, l.most})
	})
}

func TestNil(t *testing.T) {
	var s *sema.Sema
	for range 2 {
		for _, n := range numbers {
			answers(t, s, call{down, n}, told{took: false})
			answers(t, s, call{post, n}, told{code: api.ErrArg})
			answers(t, s, call{fill, n}, told{many: 0})
		}
		is(t, s, look{0, 0})
	}
}

// What a zero one answers is open, but it ends, without a panic.
func TestAZeroOneDoesNotPanic(t *testing.T) {
	for _, n := range numbers {
		s := &sema.Sema{}
		for _, k := range []kind{down, post, fill, down, post} {
			call{k, n}.of(s)
			see(s)
		}
	}
}

func TestAskingChangesNothing(t *testing.T) {
	r := draws.Row(181)
	for range 300 {
		l := look{int(r.Next() % 8), int(r.Next()%8) + 1}
		asked, other := sema.New(l.value, l.most), sema.New(l.value, l.most)
		for range 40 {
			c := call{kind(r.Next() % 3), int(r.Next()%10) - 1}
			for range r.Next() % 3 {
				see(asked)
			}
			if a, b := c.of(asked), c.of(other); a != b {
				t.Fatalf("%v: %+v, and %+v without asking", c, a, b)
			}
		}
		if see(asked) != see(other) {
			t.Fatalf("%+v, and %+v without asking", see(asked), see(other))
		}
	}
}

func TestTwoKnowNothingOfOneAnother(t *testing.T) {
	a, b := made(t, look{1, 2}), made(t, look{1, 2})
	comes(t, a, call{down, 1}, told{took: true}, look{0, 2})
	is(t, b, look{1, 2})
	comes(t, b, call{fill, 0}, told{many: 1}, look{2, 2})
	is(t, a, look{0, 2})
	c := sema.New(1000, 1000)
	is(t, a, look{0, 2})
	is(t, b, look{2, 2})
	comes(t, a, call{post, 2}, told{}, look{2, 2})
	is(t, c, look{1000, 1000})

	r := draws.Row(182)
	for range 300 {
		var all []*sema.Sema
		var looks []look
		for range 3 {
			first, most := int(r.Next()%8), int(r.Next()%8)
			all, looks = append(all, sema.New(first, most)), append(looks, starts(first, most))
		}
		for range 40 {
			i := r.Next() % 3
			follows(t, all[i], &looks[i], call{kind(r.Next() % 3), int(r.Next()%10) - 1})
			for k := range all {
				is(t, all[k], looks[k])
			}
		}
	}
}

// P18.2

// ledger is what P18.2 alone says of a counter: what it was at first, what was posted (that of which it was filled among it), and what was taken. It knows of no value and of no order of calls.
type ledger struct{ first, posted, taken int }

func (g *ledger) note(c call, a told) {
	switch {
	case c.kind == down && a.took:
		g.taken += c.n
	case c.kind == post && a.code == api.OK:
		g.posted += c.n
	case c.kind == fill:
		g.posted += a.many
	}
}

// proves fails, if a counter is not what its ledger says, or its value lies beyond the bounds.
func (g ledger) proves(t *testing.T, s *sema.Sema, most int) {
	t.Helper()
	value := s.Value()
	if value < 0 || value > s.Most() || s.Most() != most {
		t.Fatalf("%d of %d, where the greatest was %d", value, s.Most(), most)
	}
	if value != g.first+g.posted-g.taken {
		t.Fatalf("%d, where %+v", value, g)
	}
}

func TestAllOrdersOfSomeCalls(t *testing.T) {
	var all []call
	for n := -1; n <= 4; n++ {
		all = append(all, call{down, n}, call{post, n})
	}
	all = append(all, call{down, math.MaxInt}, call{post, math.MaxInt}, call{post, math.MinInt}, call{fill, 0})
	for most := 1; most <= 3; most++ {
		for first := range most + 1 {
			met := map[look]int{}
			var calls []call
			var goOn func(look)
			goOn = func(l look) {
				met[l]++
				if len(calls) == 3 {
					return
				}
				for _, c := range all {
					s, g := made(t, look{first, most}), ledger{first: first}
					for _, ahead := range calls {
						g.note(ahead, ahead.of(s))
					}
					now := l
					g.note(c, follows(t, s, &now, c))
					g.proves(t, s, most)
					calls = append(calls, c)
					goOn(now)
					calls = calls[:len(calls)-1]
				}
			}
			goOn(look{first, most})
			if len(met) != most+1 {
				t.Errorf("%d of %d: %d values were met", first, most, len(met))
			}
		}
	}
}

// drawn is a number for a call: often one that may just be, or just not, now and then any number.
func drawn(r *draws.Row, l look) int {
	switch r.Next() % 8 {
	case 0:
		return numbers[r.Next()%uint64(len(numbers))]
	case 1:
		return l.value + int(r.Next()%3) - 1
	case 2:
		return l.most - l.value + int(r.Next()%3) - 1
	case 3:
		return int(r.Next()%5) - 2
	}
	return 1 + int(r.Next()%uint64(l.most))
}

func TestDrawnCalls(t *testing.T) {
	type met struct {
		kind kind
		told told
		full bool
		none bool
	}
	tally := map[met]int{}
	r := draws.Row(1822)
	for range 3000 {
		most := []int{1, 2, 3, 10, 999, 1000}[r.Next()%6]
		first := int(r.Next() % uint64(most+1))
		s, l, g := sema.New(first, most), starts(first, most), ledger{first: first}
		g.proves(t, s, most)
		for range r.Next() % 80 {
			c := call{kind(r.Next() % 11 / 5), drawn(&r, l)}
			m := met{kind: c.kind, full: l.value == most, none: l.value == 0}
			m.told = follows(t, s, &l, c)
			g.note(c, m.told)
			g.proves(t, s, most)
			m.told.many = min(m.told.many, 1)
			tally[m]++
		}
	}
	for _, m := range []met{
		{down, told{took: true}, true, false},
		{down, told{took: true}, false, false},
		{down, told{}, true, false},
		{down, told{}, false, false},
		{down, told{}, false, true},
		{post, told{}, false, false},
		{post, told{}, false, true},
		{post, told{code: api.ErrArg}, true, false},
		{post, told{code: api.ErrArg}, false, false},
		{post, told{code: api.ErrArg}, false, true},
		{post, told{code: api.ErrOver}, true, false},
		{post, told{code: api.ErrOver}, false, false},
		{post, told{code: api.ErrOver}, false, true},
		{fill, told{}, true, false},
		{fill, told{many: 1}, false, false},
		{fill, told{many: 1}, false, true},
	} {
		if tally[m] < 300 {
			t.Errorf("%+v was met %d times", m, tally[m])
		}
		delete(tally, m)
	}
	for m, n := range tally {
		t.Errorf("%+v can't be, and was met %d times", m, n)
	}
}

// How many can be taken one by one is what is there, and how many can be posted one by one is what is missing: so the value is asked by calls alone.
func TestTheValueIsWhatCanBeTaken(t *testing.T) {
	r := draws.Row(1823)
	for range 500 {
		most := 1 + int(r.Next()%20)
		first := int(r.Next() % uint64(most+1))
		calls := make([]call, r.Next()%20)
		l, g := look{first, most}, ledger{first: first}
		for i := range calls {
			calls[i] = call{kind(r.Next() % 11 / 5), drawn(&r, l)}
			g.note(calls[i], l.call(calls[i]))
		}
		there := g.first + g.posted - g.taken
		for _, k := range []kind{down, post} {
			s, many := made(t, look{first, most}), 0
			for _, c := range calls {
				c.of(s)
			}
			for done := (told{took: k == down}); many <= most && (call{k, 1}).of(s) == done; {
				many++
			}
			want := there
			if k == post {
				want = most - there
			}
			if many != want {
				t.Fatalf("%v behind %v: %d times, not %d", k, calls, many, want)
			}
		}
	}
}

func TestThoseOfTheSameCallsAreAlike(t *testing.T) {
	r := draws.Row(1824)
	for range 300 {
		l := starts(int(r.Next()%8), int(r.Next()%8))
		a, b := made(t, l), made(t, l)
		for range 40 {
			c := call{kind(r.Next() % 3), int(r.Next()%10) - 1}
			x, y := c.of(a), c.of(b)
			if x != y || see(a) != see(b) {
				t.Fatalf("%v: %+v and %+v, and %+v and %+v", c, x, see(a), y, see(b))
			}
		}
	}
}
