package barrier_test

import (
	"math"
	"slices"
	"testing"

	"logjam/api"
	"logjam/barrier"
	"logjam/internal/draws"
	"logjam/internal/threads"
)

// What tests hand in: some threads, and what are none.
var some, none = threads.Some(), threads.None()

// kind is which of the calls that may change a barrier.
type kind int

const (
	enrol kind = iota
	leave
	arrive
	withdraw
	breaks
)

var kinds = []kind{enrol, leave, arrive, withdraw, breaks}

func (k kind) String() string {
	return [...]string{"Enrol", "Leave", "Arrive", "Withdraw", "Break"}[k]
}

// call is one of the calls, and by whom.
type call struct {
	kind kind
	t    int
}

// told is what a call answers; what it does not answer is zero.
type told struct {
	others uint64
	yes    bool
	code   api.Errno
}

func (c call) of(b *barrier.Barrier) told {
	switch c.kind {
	case enrol:
		return told{code: b.Enrol(c.t)}
	case leave:
		others, e := b.Leave(c.t)
		return told{others: others, code: e}
	case arrive:
		others, last, e := b.Arrive(c.t)
		return told{others, last, e}
	case withdraw:
		return told{yes: b.Withdraw(c.t)}
	}
	others, was := b.Break(c.t)
	return told{others: others, yes: was}
}

// wrong is what a call answers that is handed no thread, or is made of nil.
func (k kind) wrong() told {
	switch k {
	case enrol, leave, arrive:
		return told{code: api.ErrArg}
	}
	return told{}
}

// weights is the set of some threads, made by the weights of its bits.
func weights(l ...int) uint64 {
	s := uint64(0)
	for _, t := range l {
		weight := uint64(1)
		for range t {
			weight += weight
		}
		s += weight
	}
	return s
}

// look is all that can be seen of a barrier without changing it.
type look struct{ members, arrived, missing uint64 }

func see(b *barrier.Barrier) look { return look{b.Members(), b.Arrived(), b.Missing()} }

// How a thread stands to a barrier.
const (
	apart = iota
	missing
	arrived
)

// model is a barrier by the chapter's words: how each thread stands to it.
type model [64]int

// of is the threads that stand so, but for one.
func (m model) of(how, but int) []int {
	var l []int
	for t, h := range m {
		if h == how && t != but {
			l = append(l, t)
		}
	}
	return l
}

func (m model) look() look {
	there, gone := weights(m.of(arrived, -1)...), weights(m.of(missing, -1)...)
	return look{members: there + gone, arrived: there, missing: gone}
}

// off lets nobody have arrived any more, and tells who had.
func (m *model) off() uint64 {
	l := m.of(arrived, -1)
	for _, t := range l {
		m[t] = missing
	}
	return weights(l...)
}

func (m *model) call(c call) told {
	if c.t < 0 || c.t > 63 {
		return c.kind.wrong()
	}
	was := m[c.t]
	switch c.kind {
	case enrol:
		if was != apart {
			return told{code: api.ErrHeld}
		}
		if len(m.of(arrived, -1)) > 0 {
			return told{code: api.ErrState}
		}
		m[c.t] = missing
		return told{}
	case leave:
		if was == apart {
			return told{code: api.ErrOwner}
		}
		m[c.t] = apart
		if len(m.of(missing, -1)) == 0 && len(m.of(arrived, -1)) > 0 {
			return told{others: m.off()}
		}
		return told{}
	case arrive:
		return m.arrive(c.t, was)
	case withdraw:
		if was != arrived {
			return told{}
		}
		m[c.t] = missing
		return told{yes: true}
	}
	if was == apart {
		return told{}
	}
	m[c.t] = apart
	return told{others: m.off(), yes: true}
}

func (m *model) arrive(t, was int) told {
	switch was {
	case apart:
		return told{code: api.ErrOwner}
	case arrived:
		return told{code: api.ErrState}
	}
	if len(m.of(missing, t)) == 0 {
		return told{others: m.off(), yes: true}
	}
	m[t] = arrived
	return told{}
}

// stand is a model in which these are missing, and these have arrived.
func stand(gone, there []int) model {
	m := model{}
	for _, t := range gone {
		m[t] = missing
	}
	for _, t := range there {
		m[t] = arrived
	}
	return m
}

// is fails, if a barrier looks otherwise than it should.
func is(t *testing.T, b *barrier.Barrier, want model) {
	t.Helper()
	for range 2 {
		if got := see(b); got != want.look() {
			t.Fatalf("%+v, not %+v", got, want.look())
		}
	}
}

// comes fails, if a call answers anything but what it should, or if these are not missing, or have not arrived, behind it.
func comes(t *testing.T, b *barrier.Barrier, c call, want told, gone, there []int) {
	t.Helper()
	ahead := see(b)
	if got := c.of(b); got != want {
		t.Fatalf("%v of %+v: %+v, not %+v", c, ahead, got, want)
	}
	behind := look{weights(gone...) + weights(there...), weights(there...), weights(gone...)}
	for range 2 {
		if got := see(b); got != behind {
			t.Fatalf("%v of %+v: %+v behind it, not %+v", c, ahead, got, behind)
		}
	}
}

// refused fails, if a call answers anything but what it should, or changes anything.
func refused(t *testing.T, b *barrier.Barrier, c call, want told) {
	t.Helper()
	ahead := see(b)
	if got := c.of(b); got != want {
		t.Fatalf("%v of %+v: %+v, not %+v", c, ahead, got, want)
	}
	if behind := see(b); behind != ahead {
		t.Fatalf("%v: refused, and %+v behind %+v", c, behind, ahead)
	}
}

// made is a new barrier of which these are missing, and these have arrived.
func made(t *testing.T, gone, there []int) *barrier.Barrier {
	t.Helper()
	b := &barrier.Barrier{}
	for _, by := range slices.Concat(gone, there) {
		if e := b.Enrol(by); e != api.OK {
			t.Fatalf("Enrol(%d): %d", by, e)
		}
	}
	for _, by := range there {
		if others, last, e := b.Arrive(by); others != 0 || last || e != api.OK {
			t.Fatalf("Arrive(%d): %d, %t, %d", by, others, last, e)
		}
	}
	is(t, b, stand(gone, there))
	return b
}

// behind is a new barrier behind calls, whatever they answer.
func behind(calls []call) *barrier.Barrier {
	b := &barrier.Barrier{}
	for _, c := range calls {
		c.of(b)
	}
	return b
}

// follows fails, if a call of a barrier answers anything but what its model says, or if behind it it looks otherwise, or is what P19.3 rules out.
func follows(t *testing.T, b *barrier.Barrier, want *model, c call) told {
	t.Helper()
	ahead := see(b)
	said := want.call(c)
	if got := c.of(b); got != said {
		t.Fatalf("%v of %+v: %+v, not %+v", c, ahead, got, said)
	}
	is(t, b, *want)
	waits(t, b)
	return said
}

// waits fails, if nobody is missing though some have arrived, or if one has arrived that is no member, by P19.3 alone.
func waits(t *testing.T, b *barrier.Barrier) {
	t.Helper()
	s := see(b)
	if s.missing == 0 && s.arrived != 0 {
		t.Fatalf("nobody is missing of %+v", s)
	}
	if s.arrived&^s.members != 0 {
		t.Fatalf("no members have arrived of %+v", s)
	}
	if s.missing != s.members&^s.arrived {
		t.Fatalf("others are missing of %+v", s)
	}
}

// without is a list but for one.
func without(l []int, t int) []int {
	return slices.DeleteFunc(slices.Clone(l), func(by int) bool { return by == t })
}

// row is the same kind of call by each of some threads.
func row(k kind, l ...int) []call {
	var calls []call
	for _, t := range l {
		calls = append(calls, call{k, t})
	}
	return calls
}

// situations are all that four threads may be in: some are no members, some are missing, some have arrived, and then somebody is missing.
func situations(four [4]int) []model {
	var l []model
	for n := range 81 {
		m, rest := model{}, n
		for _, t := range four {
			m[t], rest = rest%3, rest/3
		}
		if len(m.of(arrived, -1)) == 0 || len(m.of(missing, -1)) > 0 {
			l = append(l, m)
		}
	}
	return l
}

// ways are rows of calls, each of which leads into a situation by other means; other is a thread that is no member there.
func (m model) ways(other int) [][]call {
	there := m.of(arrived, -1)
	members := slices.Concat(m.of(missing, -1), there)
	falling := slices.Clone(members)
	slices.Sort(falling)
	slices.Reverse(falling)
	come, stay := row(enrol, members...), row(arrive, there...)
	late := slices.Clone(there)
	slices.Reverse(late)
	return [][]call{
		slices.Concat(come, stay),
		slices.Concat(row(enrol, falling...), row(arrive, late...)),
		// Behind a round.
		slices.Concat(come, row(arrive, falling...), stay),
		// Behind two rounds, of which the second one ends with the one that leaves, or breaks it.
		slices.Concat(come, row(enrol, other), row(arrive, members...), row(arrive, other), row(arrive, falling...), row(leave, other), stay),
		slices.Concat(row(enrol, other), come, row(arrive, other), row(arrive, members...), row(arrive, there...), row(breaks, other), stay),
		// One that had arrived leaves, or goes off again.
		slices.Concat(row(enrol, other), come, row(arrive, other), row(leave, other), stay),
		slices.Concat(row(enrol, other), come, row(arrive, members...), row(withdraw, members...), row(leave, other), stay),
	}
}

// P19.1 and P19.2, by their words

func TestTheExample(t *testing.T) {
	b := made(t, []int{2}, []int{1})
	comes(t, b, call{leave, 2}, told{others: weights(1)}, []int{1}, nil)
}

func TestAZeroBarrierHasNoMembers(t *testing.T) {
	var b barrier.Barrier
	if b.Members() != 0 || b.Arrived() != 0 || b.Missing() != 0 {
		t.Fatal(b.Members(), b.Arrived(), b.Missing())
	}
	for by := range 64 {
		refused(t, &b, call{leave, by}, told{code: api.ErrOwner})
		refused(t, &b, call{arrive, by}, told{code: api.ErrOwner})
		refused(t, &b, call{withdraw, by}, told{})
		refused(t, &b, call{breaks, by}, told{})
		comes(t, new(barrier.Barrier), call{enrol, by}, told{}, []int{by}, nil)
	}
	comes(t, &b, call{enrol, 0}, told{}, []int{0}, nil)
}

func TestMembersArrivedAndMissingBehindEachKindOfCall(t *testing.T) {
	b := &barrier.Barrier{}
	is(t, b, model{})
	comes(t, b, call{enrol, 0}, told{}, []int{0}, nil)
	comes(t, b, call{enrol, 63}, told{}, []int{0, 63}, nil)
	comes(t, b, call{enrol, 31}, told{}, []int{0, 31, 63}, nil)
	comes(t, b, call{arrive, 63}, told{}, []int{0, 31}, []int{63})
	comes(t, b, call{arrive, 0}, told{}, []int{31}, []int{0, 63})
	comes(t, b, call{withdraw, 63}, told{yes: true}, []int{31, 63}, []int{0})
	comes(t, b, call{arrive, 31}, told{}, []int{63}, []int{0, 31})
	comes(t, b, call{arrive, 63}, told{others: weights(0, 31), yes: true}, []int{0, 31, 63}, nil)
	comes(t, b, call{arrive, 31}, told{}, []int{0, 63}, []int{31})
	comes(t, b, call{leave, 31}, told{}, []int{0, 63}, nil)
	comes(t, b, call{arrive, 63}, told{}, []int{0}, []int{63})
	comes(t, b, call{leave, 0}, told{others: weights(63)}, []int{63}, nil)
	comes(t, b, call{enrol, 32}, told{}, []int{32, 63}, nil)
	comes(t, b, call{arrive, 32}, told{}, []int{63}, []int{32})
	comes(t, b, call{breaks, 63}, told{others: weights(32), yes: true}, []int{32}, nil)
	comes(t, b, call{leave, 32}, told{}, nil, nil)
}

func TestThreadsAreNumbersFrom0To63(t *testing.T) {
	for by := range 64 {
		b := &barrier.Barrier{}
		comes(t, b, call{enrol, by}, told{}, []int{by}, nil)
		comes(t, b, call{arrive, by}, told{yes: true}, []int{by}, nil)
		comes(t, b, call{leave, by}, told{}, nil, nil)
		comes(t, b, call{enrol, by}, told{}, []int{by}, nil)
		comes(t, b, call{breaks, by}, told{yes: true}, nil, nil)
	}
	for _, b := range []*barrier.Barrier{
		{}, made(t, []int{0}, nil), made(t, []int{63}, []int{0}), made(t, []int{0}, []int{63}), made(t, threads.All(), nil), made(t, []int{0}, threads.All()[1:]),
	} {
		for _, by := range none {
			for _, k := range kinds {
				refused(t, b, call{k, by}, k.wrong())
			}
		}
	}
}

// P19.1: Enrol

func TestEnrol(t *testing.T) {
	b := &barrier.Barrier{}
	comes(t, b, call{enrol, 0}, told{}, []int{0}, nil)
	comes(t, b, call{enrol, 63}, told{}, []int{0, 63}, nil)
	refused(t, b, call{enrol, 0}, told{code: api.ErrHeld})
	refused(t, b, call{enrol, 63}, told{code: api.ErrHeld})
	for _, by := range []int{math.MinInt, -1, 64, math.MaxInt} {
		refused(t, b, call{enrol, by}, told{code: api.ErrArg})
	}
	// Who was one once may be one again.
	comes(t, b, call{leave, 0}, told{}, []int{63}, nil)
	comes(t, b, call{enrol, 0}, told{}, []int{0, 63}, nil)
}

func TestEnrolOfAllThreads(t *testing.T) {
	r := draws.Row(19)
	for range 30 {
		b, order := &barrier.Barrier{}, draws.Shuffled(&r, threads.All())
		for k, by := range order {
			comes(t, b, call{enrol, by}, told{}, order[:k+1], nil)
		}
		for _, by := range order {
			refused(t, b, call{enrol, by}, told{code: api.ErrHeld})
		}
	}
}

func TestNobodyIsEnrolledWhileSomeHaveArrived(t *testing.T) {
	b := made(t, []int{1, 2}, []int{3})
	refused(t, b, call{enrol, 4}, told{code: api.ErrState})
	refused(t, b, call{enrol, 0}, told{code: api.ErrState})
	refused(t, b, call{enrol, 63}, told{code: api.ErrState})
	// A member is told that it is one ahead of that some have arrived, whether it has or not.
	refused(t, b, call{enrol, 1}, told{code: api.ErrHeld})
	refused(t, b, call{enrol, 3}, told{code: api.ErrHeld})
	// What is no thread is told ahead of that.
	refused(t, b, call{enrol, -1}, told{code: api.ErrArg})
	refused(t, b, call{enrol, 64}, told{code: api.ErrArg})
	// Behind whatever lets nobody have arrived any more one may come.
	for _, c := range []struct {
		calls []call
		gone  []int
	}{
		{[]call{{withdraw, 3}}, []int{1, 2, 3}},
		{[]call{{leave, 3}}, []int{1, 2}},
		{[]call{{breaks, 3}}, []int{1, 2}},
		{[]call{{breaks, 1}}, []int{2, 3}},
		{[]call{{arrive, 1}, {arrive, 2}}, []int{1, 2, 3}},
		{[]call{{arrive, 1}, {leave, 2}}, []int{1, 3}},
	} {
		b := made(t, []int{1, 2}, []int{3})
		for _, one := range c.calls {
			refused(t, b, call{enrol, 4}, told{code: api.ErrState})
			one.of(b)
		}
		comes(t, b, call{enrol, 4}, told{}, append(c.gone, 4), nil)
	}
}

// P19.1: Arrive

func TestArriveOfWhoMayNot(t *testing.T) {
	b := made(t, []int{1, 2}, []int{3})
	for _, by := range []int{math.MinInt, -1, 64, math.MaxInt} {
		refused(t, b, call{arrive, by}, told{code: api.ErrArg})
	}
	refused(t, b, call{arrive, 0}, told{code: api.ErrOwner})
	refused(t, b, call{arrive, 4}, told{code: api.ErrOwner})
	refused(t, b, call{arrive, 3}, told{code: api.ErrState})
	// One that has arrived is told so, too, where just one is missing, for which all others wait.
	b = made(t, []int{1}, []int{2, 3})
	refused(t, b, call{arrive, 2}, told{code: api.ErrState})
	refused(t, b, call{arrive, 3}, told{code: api.ErrState})
	refused(t, b, call{arrive, 4}, told{code: api.ErrOwner})
}

func TestArriveOfOneThatIsNotTheLast(t *testing.T) {
	b := made(t, []int{0, 1, 63}, nil)
	comes(t, b, call{arrive, 63}, told{}, []int{0, 1}, []int{63})
	comes(t, b, call{arrive, 0}, told{}, []int{1}, []int{0, 63})
}

func TestArriveOfTheLastOne(t *testing.T) {
	for _, last := range some {
		for many := 2; many <= len(some); many++ {
			others := without(some, last)[:many-1]
			b := made(t, []int{last}, others)
			comes(t, b, call{arrive, last}, told{others: weights(others...), yes: true}, append(others, last), nil)
			// Nobody has arrived, so the first of them is not the last one.
			comes(t, b, call{arrive, last}, told{}, others, []int{last})
		}
	}
}

func TestArriveOfAMemberThatIsAlone(t *testing.T) {
	for _, by := range some {
		b := made(t, []int{by}, nil)
		for range 3 {
			comes(t, b, call{arrive, by}, told{yes: true}, []int{by}, nil)
		}
		refused(t, b, call{withdraw, by}, told{})
	}
	// It is so, too, where others were members once.
	b := made(t, []int{1, 2, 3}, nil)
	comes(t, b, call{leave, 1}, told{}, []int{2, 3}, nil)
	comes(t, b, call{breaks, 3}, told{yes: true}, []int{2}, nil)
	comes(t, b, call{arrive, 2}, told{yes: true}, []int{2}, nil)
}

func TestRoundsOfTheSameMembersInManyOrders(t *testing.T) {
	r := draws.Row(191)
	for _, members := range [][]int{{0, 63}, {5, 6, 7}, some, threads.All()} {
		b := made(t, members, nil)
		orders := [][]int{members, slices.Clone(members)}
		slices.Reverse(orders[1])
		for range 20 {
			orders = append(orders, draws.Shuffled(&r, members))
		}
		for _, order := range orders {
			last := len(order) - 1
			for k, by := range order[:last] {
				comes(t, b, call{arrive, by}, told{}, order[k+1:], order[:k+1])
				refused(t, b, call{arrive, by}, told{code: api.ErrState})
			}
			comes(t, b, call{arrive, order[last]}, told{others: weights(order[:last]...), yes: true}, members, nil)
		}
	}
}

// P19.2: Leave

func TestLeaveOfWhoMayNot(t *testing.T) {
	for _, b := range []*barrier.Barrier{made(t, []int{1, 2}, nil), made(t, []int{1, 2}, []int{3}), made(t, []int{1}, []int{2, 3})} {
		for _, by := range []int{math.MinInt, -1, 64, math.MaxInt} {
			refused(t, b, call{leave, by}, told{code: api.ErrArg})
		}
		for _, by := range []int{0, 4, 63} {
			refused(t, b, call{leave, by}, told{code: api.ErrOwner})
		}
	}
}

func TestLeaveWhereNobodyHasArrived(t *testing.T) {
	b := made(t, []int{0, 1, 63}, nil)
	comes(t, b, call{leave, 1}, told{}, []int{0, 63}, nil)
	refused(t, b, call{leave, 1}, told{code: api.ErrOwner})
	comes(t, b, call{leave, 63}, told{}, []int{0}, nil)
	// The last member: there are none then, and nobody is told.
	comes(t, b, call{leave, 0}, told{}, nil, nil)
	refused(t, b, call{leave, 0}, told{code: api.ErrOwner})
}

func TestLeaveOfOneThatHasArrived(t *testing.T) {
	// Others are missing: they still are, and who else has arrived still has.
	b := made(t, []int{1}, []int{2, 63})
	comes(t, b, call{leave, 63}, told{}, []int{1}, []int{2})
	comes(t, b, call{leave, 2}, told{}, []int{1}, nil)
	// It has not arrived where it comes again.
	comes(t, b, call{enrol, 2}, told{}, []int{1, 2}, nil)
	comes(t, b, call{arrive, 2}, told{}, []int{1}, []int{2})
}

func TestLeaveOfTheOneThatIsMissing(t *testing.T) {
	for _, by := range some {
		for many := 1; many < len(some); many++ {
			others := without(some, by)[:many]
			b := made(t, []int{by}, others)
			comes(t, b, call{leave, by}, told{others: weights(others...)}, others, nil)
			// It is no member, so for it nobody waits.
			for k, other := range others[:many-1] {
				comes(t, b, call{arrive, other}, told{}, others[k+1:], others[:k+1])
			}
			comes(t, b, call{arrive, others[many-1]}, told{others: weights(others[:many-1]...), yes: true}, others, nil)
		}
	}
}

func TestLeaveOfOneOfSomeThatAreMissing(t *testing.T) {
	b := made(t, []int{0, 1, 2}, []int{31, 63})
	comes(t, b, call{leave, 1}, told{}, []int{0, 2}, []int{31, 63})
	comes(t, b, call{leave, 2}, told{}, []int{0}, []int{31, 63})
	comes(t, b, call{leave, 0}, told{others: weights(31, 63)}, []int{31, 63}, nil)
}

// P19.2: Withdraw

func TestWithdraw(t *testing.T) {
	b := made(t, []int{1}, []int{0, 63})
	refused(t, b, call{withdraw, 1}, told{})
	for _, by := range []int{2, 31, 62, math.MinInt, -1, 64, math.MaxInt} {
		refused(t, b, call{withdraw, by}, told{})
	}
	comes(t, b, call{withdraw, 0}, told{yes: true}, []int{0, 1}, []int{63})
	refused(t, b, call{withdraw, 0}, told{})
	comes(t, b, call{withdraw, 63}, told{yes: true}, []int{0, 1, 63}, nil)
	refused(t, b, call{withdraw, 63}, told{})
	// It is a member still, and may arrive again.
	comes(t, b, call{arrive, 63}, told{}, []int{0, 1}, []int{63})
	comes(t, b, call{arrive, 1}, told{}, []int{0}, []int{1, 63})
	comes(t, b, call{withdraw, 1}, told{yes: true}, []int{0, 1}, []int{63})
	comes(t, b, call{arrive, 0}, told{}, []int{1}, []int{0, 63})
	comes(t, b, call{arrive, 1}, told{others: weights(0, 63), yes: true}, []int{0, 1, 63}, nil)
	for _, by := range []int{0, 1, 63} {
		refused(t, b, call{withdraw, by}, told{})
	}
}

// P19.2: Break

func TestBreakOfNoMember(t *testing.T) {
	for _, b := range []*barrier.Barrier{made(t, []int{1, 2}, nil), made(t, []int{1, 2}, []int{3}), made(t, []int{1}, []int{2, 3})} {
		for _, by := range []int{0, 4, 63, math.MinInt, -1, 64, math.MaxInt} {
			refused(t, b, call{breaks, by}, told{})
		}
	}
}

func TestBreakOfOneThatHasArrived(t *testing.T) {
	b := made(t, []int{1, 2}, []int{0, 31, 63})
	comes(t, b, call{breaks, 31}, told{others: weights(0, 63), yes: true}, []int{0, 1, 2, 63}, nil)
	refused(t, b, call{breaks, 31}, told{})
	// No other one has.
	b = made(t, []int{1, 2}, []int{3})
	comes(t, b, call{breaks, 3}, told{yes: true}, []int{1, 2}, nil)
	// It has not arrived where it comes again.
	comes(t, b, call{enrol, 3}, told{}, []int{1, 2, 3}, nil)
	comes(t, b, call{arrive, 3}, told{}, []int{1, 2}, []int{3})
}

func TestBreakOfOneThatIsMissing(t *testing.T) {
	// Of some that are, and of the only one.
	b := made(t, []int{1, 2}, []int{0, 63})
	comes(t, b, call{breaks, 1}, told{others: weights(0, 63), yes: true}, []int{0, 2, 63}, nil)
	b = made(t, []int{1}, []int{0, 63})
	comes(t, b, call{breaks, 1}, told{others: weights(0, 63), yes: true}, []int{0, 63}, nil)
	// Nobody has arrived.
	comes(t, b, call{breaks, 0}, told{yes: true}, []int{63}, nil)
	comes(t, b, call{breaks, 63}, told{yes: true}, nil, nil)
	refused(t, b, call{breaks, 63}, told{})
	for _, by := range some {
		for many := 1; many < len(some); many++ {
			others := without(some, by)[:many]
			b := made(t, []int{by}, others)
			comes(t, b, call{breaks, by}, told{others: weights(others...), yes: true}, others, nil)
		}
	}
}

// P19.1 to P19.3

func TestNil(t *testing.T) {
	var b *barrier.Barrier
	for range 2 {
		for _, by := range slices.Concat(some, none) {
			for _, k := range kinds {
				if got := (call{k, by}).of(b); got != k.wrong() {
					t.Errorf("%v(%d): %+v", k, by, got)
				}
			}
		}
		is(t, b, model{})
	}
}

// Each call in each situation of four threads, by whichever way it came to be.
func TestAllSituationsOfFourThreads(t *testing.T) {
	type met struct {
		kind kind
		was  int
		told told
	}
	tally := map[met]int{}
	for _, four := range [][4]int{{0, 1, 2, 3}, {0, 31, 32, 63}, {63, 62, 33, 1}, {30, 2, 62, 0}, {5, 17, 40, 59}} {
		other := 4
		l := situations(four)
		// All but those of four that are no members, or have arrived, and of which one has.
		if len(l) != 81-15 {
			t.Fatalf("%d situations", len(l))
		}
		for _, ahead := range l {
			for _, way := range ahead.ways(other) {
				is(t, behind(way), ahead)
				for _, k := range kinds {
					for _, by := range append(four[:], other, -1, 64) {
						want := ahead
						said := follows(t, behind(way), &want, call{k, by})
						m := met{kind: k, told: said}
						if by >= 0 && by < 64 {
							m.was = ahead[by]
						}
						// Who is told is not tallied, but whether anybody is.
						m.told.others = min(m.told.others, 1)
						tally[m]++
					}
				}
			}
		}
	}
	for _, m := range []met{
		{enrol, apart, told{}}, {enrol, apart, told{code: api.ErrState}}, {enrol, apart, told{code: api.ErrArg}},
		{enrol, missing, told{code: api.ErrHeld}}, {enrol, arrived, told{code: api.ErrHeld}},
		{leave, apart, told{code: api.ErrOwner}}, {leave, missing, told{}}, {leave, missing, told{others: 1}}, {leave, arrived, told{}},
		{arrive, apart, told{code: api.ErrOwner}}, {arrive, missing, told{}}, {arrive, missing, told{yes: true}},
		{arrive, missing, told{others: 1, yes: true}}, {arrive, arrived, told{code: api.ErrState}},
		{withdraw, apart, told{}}, {withdraw, missing, told{}}, {withdraw, arrived, told{yes: true}},
		{breaks, apart, told{}}, {breaks, missing, told{yes: true}}, {breaks, missing, told{others: 1, yes: true}},
		{breaks, arrived, told{yes: true}}, {breaks, arrived, told{others: 1, yes: true}},
	} {
		if tally[m] < 100 {
			t.Errorf("%v of %d, %+v, was met %d times", m.kind, m.was, m.told, tally[m])
		}
	}
}

func TestAllOrdersOfSomeCalls(t *testing.T) {
	var all []call
	for _, k := range kinds {
		for _, by := range []int{0, 31, 63} {
			all = append(all, call{k, by})
		}
	}
	met := map[model]int{}
	var calls []call
	var goOn func(model)
	goOn = func(want model) {
		met[want]++
		if len(calls) == 5 {
			return
		}
		for _, c := range all {
			b, w := behind(calls), want
			b2, w2 := behind(calls), want
			follows(t, b, &w, c)
			// Nothing hangs on it that all that can be seen was asked ahead.
			if got := c.of(b2); got != w2.call(c) || see(b2) != see(b) {
				t.Fatalf("%v behind %v: %+v and %+v", c, calls, got, see(b2))
			}
			calls = append(calls, c)
			goOn(w)
			calls = calls[:len(calls)-1]
		}
	}
	goOn(model{})
	// Of three threads all situations: 27 but those in which some have arrived, and nobody is missing.
	if len(met) != 27-7 {
		t.Errorf("%d were met", len(met))
	}
}

func TestWhatIsRefusedChangesNothing(t *testing.T) {
	for _, ahead := range situations([4]int{0, 1, 32, 63}) {
		for _, way := range ahead.ways(5) {
			refusals, b := 0, behind(way)
			for _, k := range kinds {
				for _, by := range slices.Concat(some, none) {
					want := ahead
					if said := want.call(call{k, by}); said.code != api.OK || !said.yes && (k == withdraw || k == breaks) {
						refused(t, b, call{k, by}, said)
						refusals++
					}
				}
			}
			if refusals < 5*len(none) {
				t.Errorf("%d were refused behind %v", refusals, way)
			}
			// Not only what is seen is as it was, but what calls come to.
			want := ahead
			for _, c := range slices.Concat(row(arrive, 0, 1, 32, 63), row(enrol, 2), row(arrive, 63, 32, 1, 0, 2), row(leave, 1, 0), row(breaks, 32)) {
				follows(t, b, &want, c)
			}
		}
	}
}

func TestDrawnCalls(t *testing.T) {
	type met struct {
		kind kind
		yes  bool
		some bool
		code api.Errno
	}
	tally := map[met]int{}
	r := draws.Row(193)
	most := 0
	for range 6000 {
		among := threads.All()[:4]
		switch r.Next() % 4 {
		case 0:
			among = slices.Concat(some, none)
		case 1:
			among = some
		case 2:
			among = threads.All()
		}
		// Some rows enrol, and arrive, more often than others, so that they come to many members that are there.
		often := [][]kind{kinds, {enrol, enrol, arrive, arrive, arrive, leave, withdraw}, {enrol, arrive, arrive, leave}, {enrol, arrive, arrive, breaks}}[r.Next()%4]
		b, want := &barrier.Barrier{}, &model{}
		for range r.Next() % 80 {
			c := call{often[r.Next()%uint64(len(often))], among[r.Next()%uint64(len(among))]}
			said := follows(t, b, want, c)
			tally[met{c.kind, said.yes, said.others != 0, said.code}]++
			most = max(most, len(want.of(arrived, -1)))
		}
	}
	for _, m := range []met{
		{enrol, false, false, api.OK}, {enrol, false, false, api.ErrArg}, {enrol, false, false, api.ErrHeld}, {enrol, false, false, api.ErrState},
		{leave, false, false, api.OK}, {leave, false, true, api.OK}, {leave, false, false, api.ErrArg}, {leave, false, false, api.ErrOwner},
		{arrive, false, false, api.OK}, {arrive, true, false, api.OK}, {arrive, true, true, api.OK},
		{arrive, false, false, api.ErrArg}, {arrive, false, false, api.ErrOwner}, {arrive, false, false, api.ErrState},
		{withdraw, true, false, api.OK}, {withdraw, false, false, api.OK},
		{breaks, true, false, api.OK}, {breaks, true, true, api.OK}, {breaks, false, false, api.OK},
	} {
		if tally[m] < 300 {
			t.Errorf("%v: %+v was met %d times", m.kind, m, tally[m])
		}
	}
	if most < 4 {
		t.Errorf("%d had arrived at most", most)
	}
}

func TestTwoBarriersKnowNothingOfOneAnother(t *testing.T) {
	r := draws.Row(194)
	for range 300 {
		barriers := make([]barrier.Barrier, 3)
		wants := make([]model, 3)
		for range 60 {
			i := r.Next() % 3
			follows(t, &barriers[i], &wants[i], call{kinds[r.Next()%5], int(r.Next()%5) - 1})
			for k := range barriers {
				is(t, &barriers[k], wants[k])
			}
		}
	}
	// A thread may have arrived at one, and be missing at the other.
	a, b := made(t, []int{1, 2}, []int{3}), made(t, []int{1, 3}, nil)
	comes(t, b, call{arrive, 1}, told{}, []int{3}, []int{1})
	comes(t, a, call{leave, 1}, told{}, []int{2}, []int{3})
	comes(t, b, call{arrive, 3}, told{others: weights(1), yes: true}, []int{1, 3}, nil)
	comes(t, a, call{breaks, 2}, told{others: weights(3), yes: true}, []int{3}, nil)
	is(t, b, stand([]int{1, 3}, nil))
}

func TestBarriersOfTheSameCallsAreAlike(t *testing.T) {
	r := draws.Row(195)
	for range 300 {
		a, b := &barrier.Barrier{}, &barrier.Barrier{}
		for range 60 {
			c := call{kinds[r.Next()%5], int(r.Next()%6) - 1}
			if x, y := c.of(a), c.of(b); x != y || see(a) != see(b) {
				t.Fatalf("%v: %+v and %+v, and %+v and %+v", c, x, see(a), y, see(b))
			}
		}
	}
}
