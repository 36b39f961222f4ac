package bank_test

import (
	"math"
	"slices"
	"testing"

	"logjam/api"
	"logjam/bank"
	"logjam/decl"
	"logjam/internal/draws"
	"logjam/internal/lists"
	"logjam/internal/threads"
)

// What tests hand in: some threads, and what are none.
var some, none = threads.Some(), threads.None()

// The objects that most tests are of: each kind, and two of each that threads hold, or take from.
const (
	mutex = iota
	rw
	sem
	cond
	bar
	pool
	byMutex // a cell that the mutex guards
	byRw    // one that the rw guards
	mutex2
	rw2
	sem2
	pool2
	behind // what stands behind the last one: nothing
)

func objects() []api.Decl {
	return []api.Decl{
		{Kind: api.Mutex}, {Kind: api.Rw}, {Kind: api.Sem, A: 2, B: 5}, {Kind: api.Cond}, {Kind: api.Bar}, {Kind: api.Pool, A: 4},
		{Kind: api.Cell, A: 7, B: mutex}, {Kind: api.Cell, A: -7, B: rw},
		{Kind: api.Mutex}, {Kind: api.Rw}, {Kind: api.Sem, A: 0, B: 1}, {Kind: api.Pool, A: 1},
	}
}

// Numbers that are no objects there, and objects that may not be asked for what those of the kinds may.
var nowhere = []int{math.MinInt, math.MinInt + 1, -1 << 32, -1<<32 + 1, -2, -1, behind, behind + 1, 32, 63, 64, 1 << 31, 1 << 32, 1<<32 + 1, math.MaxInt}

// others are the objects that are not of these kinds, and what is none.
func others(kinds ...int) []int {
	l := slices.Clone(nowhere)
	for obj, d := range objects() {
		if !slices.Contains(kinds, d.Kind) {
			l = append(l, obj)
		}
	}
	return l
}

// counts are numbers of units, some of which sems and pools have.
var counts = []int{math.MinInt, math.MinInt + 1, -1 << 32, -1<<32 + 1, -1, 0, 1, 2, 3, 4, 5, 6, 1000, 1001, 1 << 32, 1<<32 + 1, math.MaxInt - 1, math.MaxInt}

// low are such as are below 1.
var low = []int{math.MinInt, math.MinInt + 1, -1<<32 + 1, -1 << 31, -2, -1, 0}

// What needs ask.

func lock(obj int) api.Need     { return api.Need{Kind: api.Lock, Obj: obj} }
func read(obj int) api.Need     { return api.Need{Kind: api.Read, Obj: obj} }
func written(obj int) api.Need  { return api.Need{Kind: api.Write, Obj: obj} }
func down(obj, n int) api.Need  { return api.Need{Kind: api.Down, Obj: obj, N: n} }
func units(obj, n int) api.Need { return api.Need{Kind: api.Take, Obj: obj, N: n} }

// banker is what a bank, and its model, are asked, and what changes them.
type banker interface {
	Holds(t, obj int) int
	Locks(t int) int
	Lost(w []api.Need) bool
	Can(w []api.Need, writers uint64) bool
	Take(t int, w []api.Need) bool
	Unlock(t, obj int) api.Errno
	Free(t, obj, n int) bool
	Post(obj, n int) api.Errno
	Fill(obj int) int
	Give(t, obj, n int) api.Errno
	Gone(t int)
	Mend(t, obj int) api.Errno
	Bad(t, obj int) bool
	Read(t, obj int) (int, api.Errno)
	Write(t, obj, v int) (int, api.Errno)
	Restore(obj, v int) bool
	Value(obj int) int
	Shares(obj int) []api.Share
}

// kind is which of the calls that may change a bank.
type kind int

const (
	takes kind = iota
	unlocks
	frees
	posts
	fills
	gives
	isGone
	mends
	writes
	restores
)

var kinds = []kind{takes, unlocks, frees, posts, fills, gives, isGone, mends, writes, restores}

func (k kind) String() string {
	return [...]string{"Take", "Unlock", "Free", "Post", "Fill", "Give", "Gone", "Mend", "Write", "Restore"}[k]
}

// of is the kinds of objects that a call is for.
func (k kind) of() []int {
	return [...][]int{nil, {api.Mutex, api.Rw}, {api.Mutex, api.Rw, api.Pool}, {api.Sem}, {api.Sem}, {api.Pool}, nil, {api.Mutex}, {api.Cell}, {api.Cell}}[k]
}

// whose tells whether a call is handed a thread.
func (k kind) whose() bool { return k != posts && k != fills && k != restores }

// wrong is what a call answers of what is no thread, or no object, or not of the kind, or of nil.
func (k kind) wrong() told {
	if k == unlocks || k == posts || k == gives || k == mends || k == writes {
		return told{code: api.ErrKind}
	}
	return told{}
}

// call is one of these calls: by whom, of which object, and how many, or what value; Take is handed a way instead.
type call struct {
	kind      kind
	t, obj, n int
	way       []api.Need
}

func take(t int, way ...api.Need) call { return call{kind: takes, t: t, way: way} }
func unlock(t, obj int) call           { return call{kind: unlocks, t: t, obj: obj} }
func free(t, obj, n int) call          { return call{kind: frees, t: t, obj: obj, n: n} }
func post(obj, n int) call             { return call{kind: posts, obj: obj, n: n} }
func fill(obj int) call                { return call{kind: fills, obj: obj} }
func give(t, obj, n int) call          { return call{kind: gives, t: t, obj: obj, n: n} }
func gone(t int) call                  { return call{kind: isGone, t: t} }
func mend(t, obj int) call             { return call{kind: mends, t: t, obj: obj} }
func write(t, obj, v int) call         { return call{kind: writes, t: t, obj: obj, n: v} }
func restore(obj, v int) call          { return call{kind: restores, obj: obj, n: v} }

// told is what a call answers: some of the three, and the others are zero.
type told struct {
	yes  bool
	code api.Errno
	n    int
}

var (
	yes, no = told{yes: true}, told{}
	ok      = told{code: api.OK}
)

func code(e api.Errno) told { return told{code: e} }

func (c call) on(b banker) told {
	switch c.kind {
	case takes:
		return told{yes: b.Take(c.t, c.way)}
	case unlocks:
		return told{code: b.Unlock(c.t, c.obj)}
	case frees:
		return told{yes: b.Free(c.t, c.obj, c.n)}
	case posts:
		return told{code: b.Post(c.obj, c.n)}
	case fills:
		return told{n: b.Fill(c.obj)}
	case gives:
		return told{code: b.Give(c.t, c.obj, c.n)}
	case isGone:
		b.Gone(c.t)
		return told{}
	case mends:
		return told{code: b.Mend(c.t, c.obj)}
	case writes:
		was, e := b.Write(c.t, c.obj, c.n)
		return told{code: e, n: was}
	}
	return told{yes: b.Restore(c.obj, c.n)}
}

// thing is an object by the chapters' words: how much of it each thread holds (1 owns, or reads, 2 writes; of a pool, units), what it is worth, if it is a sem or a cell, and what became of it.
type thing struct {
	api.Decl
	held      [64]int
	value     int
	bad, lost bool
}

// all is how much of it all threads hold.
func (o *thing) all() int {
	n := 0
	for _, k := range o.held {
		n += k
	}
	return n
}

// model is a bank by the chapters' words.
type model []thing

func fresh(d []api.Decl) model {
	m := make(model, len(d))
	for k := range m {
		m[k] = thing{Decl: d[k]}
		if d[k].Kind == api.Sem || d[k].Kind == api.Cell {
			m[k].value = d[k].A
		}
	}
	return m
}

// one is an object of these kinds.
func (m model) one(obj int, kinds ...int) *thing {
	if obj < 0 || obj >= len(m) || !slices.Contains(kinds, m[obj].Kind) {
		return nil
	}
	return &m[obj]
}

// by is one that a thread asks for.
func (m model) by(t, obj int, kinds ...int) *thing {
	if t < 0 || t > 63 {
		return nil
	}
	return m.one(obj, kinds...)
}

func (m model) Holds(t, obj int) int {
	if o := m.by(t, obj, api.Mutex, api.Rw, api.Pool); o != nil {
		return o.held[t]
	}
	return 0
}

func (m model) locks(t, obj int) bool {
	o := m.by(t, obj, api.Mutex, api.Rw)
	return o != nil && o.held[t] > 0
}

func (m model) Locks(t int) int {
	n := 0
	for obj := range m {
		if m.locks(t, obj) {
			n++
		}
	}
	return n
}

func (m model) Lost(w []api.Need) bool {
	return slices.ContainsFunc(w, func(n api.Need) bool {
		o := m.one(n.Obj, api.Mutex)
		return n.Kind == api.Lock && o != nil && o.lost
	})
}

func (m model) can(n api.Need, writers uint64) bool {
	is := map[int]int{api.Lock: api.Mutex, api.Read: api.Rw, api.Write: api.Rw, api.Down: api.Sem, api.Take: api.Pool}
	o := m.one(n.Obj, is[n.Kind])
	if o == nil {
		return false
	}
	switch n.Kind {
	case api.Lock:
		return o.all() == 0 && !o.lost
	case api.Read:
		return !slices.Contains(o.held[:], 2) && writers&(1<<n.Obj) == 0
	case api.Write:
		return o.all() == 0
	case api.Down:
		return n.N >= 1 && o.value >= n.N
	}
	return n.N >= 1 && o.A-o.all() >= n.N
}

func (m model) Can(w []api.Need, writers uint64) bool {
	for _, n := range w {
		if !m.can(n, writers) {
			return false
		}
	}
	return true
}

func (m model) Take(t int, w []api.Need) bool {
	if t < 0 || t > 63 || !m.Can(w, 0) || slices.ContainsFunc(w, func(n api.Need) bool { return m.locks(t, n.Obj) }) {
		return false
	}
	for _, n := range w {
		if !m.can(n, 0) {
			continue
		}
		switch n.Kind {
		case api.Lock, api.Read:
			m[n.Obj].held[t] = 1
		case api.Write:
			m[n.Obj].held[t] = 2
		case api.Down:
			m[n.Obj].value -= n.N
		case api.Take:
			m[n.Obj].held[t] += n.N
		}
	}
	return true
}

func (m model) Unlock(t, obj int) api.Errno {
	o := m.by(t, obj, api.Mutex, api.Rw)
	if o == nil {
		return api.ErrKind
	}
	if o.held[t] == 0 {
		return api.ErrOwner
	}
	o.held[t], o.bad, o.lost = 0, false, o.lost || o.bad
	return api.OK
}

func (m model) Free(t, obj, n int) bool {
	o := m.by(t, obj, api.Mutex, api.Rw, api.Pool)
	if o == nil || o.held[t] == 0 {
		return false
	}
	if o.Kind != api.Pool {
		o.held[t] = 0
		return true
	}
	return m.Give(t, obj, n) == api.OK
}

func (m model) Post(obj, n int) api.Errno {
	o := m.one(obj, api.Sem)
	switch {
	case o == nil:
		return api.ErrKind
	case n < 1:
		return api.ErrArg
	case n > o.B-o.value:
		return api.ErrOver
	}
	o.value += n
	return api.OK
}

func (m model) Fill(obj int) int {
	o := m.one(obj, api.Sem)
	if o == nil {
		return 0
	}
	n := o.B - o.value
	o.value = o.B
	return n
}

func (m model) Give(t, obj, n int) api.Errno {
	o := m.by(t, obj, api.Pool)
	switch {
	case o == nil:
		return api.ErrKind
	case n < 1:
		return api.ErrArg
	case n > o.held[t]:
		return api.ErrOwner
	}
	o.held[t] -= n
	return api.OK
}

func (m model) Gone(t int) {
	for obj := range m {
		if o := m.by(t, obj, api.Mutex, api.Rw, api.Pool); o != nil && o.held[t] > 0 {
			o.held[t] = 0
			o.bad = o.bad || o.Kind == api.Mutex
		}
	}
}

func (m model) Mend(t, obj int) api.Errno {
	o := m.by(t, obj, api.Mutex)
	if o == nil {
		return api.ErrKind
	}
	if o.held[t] == 0 {
		return api.ErrOwner
	}
	o.bad = false
	return api.OK
}

func (m model) Bad(t, obj int) bool {
	o := m.by(t, obj, api.Mutex)
	return o != nil && o.held[t] > 0 && o.bad
}

func (m model) Read(t, obj int) (int, api.Errno) {
	o := m.by(t, obj, api.Cell)
	if o == nil {
		return 0, api.ErrKind
	}
	if m[o.B].held[t] == 0 {
		return 0, api.ErrGuard
	}
	return o.value, api.OK
}

func (m model) Write(t, obj, v int) (int, api.Errno) {
	o := m.by(t, obj, api.Cell)
	if o == nil {
		return 0, api.ErrKind
	}
	if held := m[o.B].held[t]; held == 0 || m[o.B].Kind == api.Rw && held < 2 {
		return 0, api.ErrGuard
	}
	was := o.value
	o.value = int(int32(v))
	return was, api.OK
}

func (m model) Restore(obj, v int) bool {
	o := m.one(obj, api.Cell)
	if o == nil {
		return false
	}
	o.value = int(int32(v))
	return true
}

func (m model) Value(obj int) int {
	o := m.one(obj, api.Mutex, api.Sem, api.Pool, api.Cell)
	switch {
	case o == nil:
		return 0
	case o.Kind == api.Mutex:
		return 1 - o.all()
	case o.Kind == api.Pool:
		return o.A - o.all()
	}
	return o.value
}

func (m model) Shares(obj int) []api.Share {
	o := m.one(obj, api.Mutex, api.Rw, api.Pool)
	if o == nil {
		return nil
	}
	var l []api.Share
	for t, n := range o.held {
		if n > 0 && o.Kind != api.Pool {
			n = 1
		}
		if n > 0 {
			l = append(l, api.Share{Thread: t, N: n})
		}
	}
	return l
}

// What is handed in, and asked.

// answer is what is told of an object, or of a thread, or of both.
type answer struct {
	ask             string
	t, obj, need, n int
	told            told
}

// watched are the threads of which all is asked; those that tests hand in, but for what is none, are among them.
var watched = []int{-1, 0, 1, 2, 5, 31, 32, 62, 63, 64}

// look is all that can be seen of a bank without changing it: what it tells of these threads, and of so many objects, of the one ahead of the first, and of the one behind the last.
func look(b banker, by []int, objs int) []answer {
	l := make([]answer, 0, 3*len(by)*(objs+2)+20*(objs+2))
	for _, t := range by {
		l = append(l, answer{ask: "Locks", t: t, told: told{n: b.Locks(t)}})
		for obj := -1; obj <= objs; obj++ {
			v, e := b.Read(t, obj)
			l = append(l, answer{ask: "Holds", t: t, obj: obj, told: told{n: b.Holds(t, obj)}},
				answer{ask: "Bad", t: t, obj: obj, told: told{yes: b.Bad(t, obj)}},
				answer{ask: "Read", t: t, obj: obj, told: told{n: v, code: e}})
		}
	}
	for obj := -1; obj <= objs; obj++ {
		v := b.Value(obj)
		l = append(l, answer{ask: "Value", obj: obj, told: told{n: v}}, answer{ask: "Lost", obj: obj, told: told{yes: b.Lost([]api.Need{lock(obj)})}})
		for _, s := range b.Shares(obj) {
			l = append(l, answer{ask: "Shares", obj: obj, t: s.Thread, n: s.N})
		}
		for _, n := range []api.Need{lock(obj), read(obj), written(obj), down(obj, 1), down(obj, v), down(obj, v+1), units(obj, 1), units(obj, v), units(obj, v+1)} {
			l = append(l, answer{ask: "Can", obj: obj, need: n.Kind, n: n.N, told: told{yes: b.Can([]api.Need{n}, 0)}})
		}
		l = append(l, answer{ask: "Can, beside a writer", obj: obj, need: api.Read, told: told{yes: b.Can([]api.Need{read(obj)}, 1<<max(obj, 0))}})
	}
	return l
}

// same fails, if two looks are not alike.
func same(t *testing.T, got, want []answer) {
	t.Helper()
	for k := range min(len(got), len(want)) {
		if got[k] != want[k] {
			t.Fatalf("%+v, not %+v", got[k], want[k])
		}
	}
	if len(got) != len(want) {
		t.Fatalf("%d answers, not %d", len(got), len(want))
	}
}

// is fails, if a bank is anything but what its model says.
func is(t *testing.T, b *bank.Bank, m model) {
	t.Helper()
	if b == nil {
		t.Fatal("nil")
	}
	same(t, look(b, watched, len(m)), look(m, watched, len(m)))
}

// follows fails, if a bank answers anything but what its model says, or if it is anything else behind one of some calls.
func follows(t *testing.T, b *bank.Bank, m model, calls ...call) {
	t.Helper()
	for _, c := range calls {
		want := c.on(m)
		if got := c.on(b); got != want {
			t.Fatalf("%v: %+v, not %+v", c, got, want)
		}
		is(t, b, m)
	}
}

// comes fails, if a call answers anything but what it should.
func comes(t *testing.T, b *bank.Bank, c call, want told) {
	t.Helper()
	if got := c.on(b); got != want {
		t.Fatalf("%v: %+v, not %+v", c, got, want)
	}
}

// refused fails, if a call answers anything but what it should, or changes anything.
func refused(t *testing.T, b *bank.Bank, c call, want told) {
	t.Helper()
	ahead := look(b, watched, behind)
	comes(t, b, c, want)
	same(t, look(b, watched, behind), ahead)
}

// made is a bank of the objects behind some calls, none of which is in vain.
func made(t *testing.T, calls ...call) *bank.Bank {
	t.Helper()
	b := bank.New(objects())
	for _, c := range calls {
		if got := c.on(b); got.code != api.OK || c.kind == takes && !got.yes {
			t.Fatalf("%v: %+v", c, got)
		}
	}
	return b
}

// stand is the model of such a bank.
func stand(calls ...call) model {
	m := fresh(objects())
	for _, c := range calls {
		c.on(m)
	}
	return m
}

// situations are what may have happened to the objects: nothing, something to one, and much to all.
func situations() [][]call {
	died := []call{take(1, lock(mutex)), gone(1)}
	much := []call{
		take(1, lock(mutex2)), gone(1), take(31, lock(mutex2)), take(0, lock(mutex), read(rw), units(pool, 1)), take(63, read(rw), written(rw2)), take(62, units(pool, 2), units(pool2, 1)),
		take(5, down(sem, 1)), post(sem2, 1), write(0, byMutex, 99), restore(byRw, -99),
	}
	return [][]call{
		nil,
		{take(0, lock(mutex))}, {take(63, lock(mutex))}, {take(32, lock(mutex), lock(mutex2))},
		died, append(slices.Clone(died), take(2, lock(mutex))), append(slices.Clone(died), take(63, lock(mutex)), mend(63, mutex)),
		append(slices.Clone(died), take(2, lock(mutex)), unlock(2, mutex)), append(slices.Clone(died), take(1, lock(mutex)), gone(1)),
		{take(0, read(rw))}, {take(63, read(rw)), take(0, read(rw)), take(31, read(rw))}, {take(0, written(rw))}, {take(63, written(rw), read(rw2))},
		{take(0, down(sem, 1))}, {take(0, down(sem, 2))}, {post(sem, 3), post(sem2, 1)}, {fill(sem), take(5, down(sem, 4))},
		{take(0, units(pool, 1))}, {take(63, units(pool, 4), units(pool2, 1))}, {take(63, units(pool, 1)), take(0, units(pool, 2)), take(5, units(pool, 1))},
		{restore(byMutex, 1<<31-1), restore(byRw, -1<<31)},
		much, append(slices.Clone(much), gone(0), gone(31)), append(slices.Clone(much), gone(63), unlock(31, mutex2), give(62, pool, 1), fill(sem)),
	}
}

// ways go into a situation, each by other calls, and hand each bank that comes there to do.
func ways(t *testing.T, calls []call, do func(*bank.Bank)) {
	t.Helper()
	do(made(t, calls...))
	do(made(t, calls...).Clone())
	// Each call is done to a clone of what it was ahead, and what is refused is in between.
	b := bank.New(objects())
	for _, c := range calls {
		b = b.Clone()
		c.on(b)
		for _, vain := range []call{take(64, lock(mutex)), take(0, units(pool, 5)), unlock(30, mutex), free(30, rw, 1), post(sem, 6), give(30, pool, 1), gone(30), mend(30, mutex), write(30, byRw, 5), restore(rw, 5)} {
			vain.on(b)
		}
	}
	do(b)
	// All was held by others ahead, who let it go.
	b = made(t, take(4, lock(mutex), written(rw), units(pool, 4)), take(3, lock(mutex2), read(rw2)), take(4, read(rw2), units(pool2, 1), down(sem, 2)))
	b.Unlock(4, mutex)
	b.Free(4, rw, 0)
	b.Give(4, pool, 4)
	b.Free(3, mutex2, 0)
	b.Unlock(3, rw2)
	b.Gone(4)
	b.Post(sem, 2)
	for _, c := range calls {
		c.on(b)
	}
	do(b)
}

// each goes through all situations, by each way.
func each(t *testing.T, do func(*bank.Bank, model)) {
	t.Helper()
	for _, calls := range situations() {
		ways(t, calls, func(b *bank.Bank) {
			m := stand(calls...)
			is(t, b, m)
			do(b, m)
		})
	}
}

// holds fails, if the threads that hold an object are others than these, or hold anything else of it.
func holds(t *testing.T, b *bank.Bank, obj int, want ...api.Share) {
	t.Helper()
	all := map[int]int{}
	for _, s := range want {
		all[s.Thread] = s.N
	}
	for _, by := range threads.All() {
		if got := b.Holds(by, obj); got != all[by] {
			t.Fatalf("Holds(%d, %d): %d, not %d", by, obj, got, all[by])
		}
	}
}

// shared fails, if Shares of an object tells anything else.
func shared(t *testing.T, b *bank.Bank, obj int, want ...api.Share) {
	t.Helper()
	for range 2 {
		if got := b.Shares(obj); !slices.Equal(got, want) {
			t.Fatalf("Shares(%d): %v, not %v", obj, got, want)
		}
	}
}

// worth fails, if Value of an object is anything else.
func worth(t *testing.T, b *bank.Bank, obj, want int) {
	t.Helper()
	if got := b.Value(obj); got != want {
		t.Fatalf("Value(%d): %d, not %d", obj, got, want)
	}
}

// can fails, if Can, without writers, tells anything else of a way.
func can(t *testing.T, b *bank.Bank, want bool, way ...api.Need) {
	t.Helper()
	if got := b.Can(way, 0); got != want {
		t.Fatalf("Can(%v): %t", way, got)
	}
}

func TestTheExample(t *testing.T) {
	b := bank.New([]api.Decl{{Kind: api.Mutex}})
	comes(t, b, take(1, lock(0)), yes)
	comes(t, b, take(2, lock(0)), no)
	b.Gone(1)
	comes(t, b, take(2, lock(0)), yes)
	if !b.Bad(2, 0) || b.Bad(1, 0) {
		t.Error("it is not bad")
	}
}

// P24.1: New

func TestNewOfNoObjects(t *testing.T) {
	for _, d := range [][]api.Decl{nil, {}, make([]api.Decl, 0, 5)} {
		b := bank.New(d)
		is(t, b, nil)
		for _, obj := range slices.Concat(nowhere, []int{0, 1}) {
			for _, k := range kinds {
				c := call{kind: k, t: 1, obj: obj, n: 1, way: []api.Need{lock(obj)}}
				comes(t, b, c, k.wrong())
			}
			worth(t, b, obj, 0)
			shared(t, b, obj)
		}
		// A way of no needs can be met here, too.
		comes(t, b, take(0), yes)
		is(t, b, nil)
		is(t, b.Clone(), nil)
	}
}

func TestNewOfOneOfEachKind(t *testing.T) {
	d := []api.Decl{
		{Kind: api.Mutex}, {Kind: api.Rw}, {Kind: api.Sem, A: 3, B: 9}, {Kind: api.Cond}, {Kind: api.Bar}, {Kind: api.Pool, A: 8}, {Kind: api.Cell, A: -5, B: 1},
	}
	b := bank.New(d)
	is(t, b, fresh(d))
	for obj, want := range []int{1, 0, 3, 0, 0, 8, -5} {
		worth(t, b, obj, want)
		holds(t, b, obj)
		shared(t, b, obj)
	}
	can(t, b, true, lock(0), read(1), down(2, 3), units(5, 8))
	can(t, b, true, written(1))
	if b.Lost([]api.Need{lock(0)}) {
		t.Error("it is lost")
	}
}

func TestNewOfEachKindByItself(t *testing.T) {
	for _, n := range []int{1, 2, 31, 32} {
		for _, one := range []api.Decl{
			{Kind: api.Mutex}, {Kind: api.Rw}, {Kind: api.Cond}, {Kind: api.Bar},
			{Kind: api.Sem, A: 0, B: 1}, {Kind: api.Sem, A: 1, B: 1}, {Kind: api.Sem, A: 0, B: 1000}, {Kind: api.Sem, A: 1000, B: 1000},
			{Kind: api.Pool, A: 1}, {Kind: api.Pool, A: 1000},
		} {
			d := slices.Repeat([]api.Decl{one}, n)
			is(t, bank.New(d), fresh(d))
		}
		// Cells of each value, the guard ahead of them, or behind.
		for _, v := range []int{math.MinInt32, -1, 0, 1, math.MaxInt32} {
			for _, guard := range []int{api.Mutex, api.Rw} {
				d := append([]api.Decl{{Kind: guard}}, slices.Repeat([]api.Decl{{Kind: api.Cell, A: v, B: 0}}, n-1)...)
				is(t, bank.New(d), fresh(d))
				slices.Reverse(d)
				for k := range n - 1 {
					d[k].B = n - 1
				}
				is(t, bank.New(d), fresh(d))
			}
		}
	}
}

func TestNewOf32Mixed(t *testing.T) {
	r := draws.Row(240)
	for range 50 {
		d := drawnObjects(&r, 32)
		b, m := bank.New(d), fresh(d)
		is(t, b, m)
		// Each of them knows what is done to it alone.
		for obj, one := range d {
			switch one.Kind {
			case api.Mutex:
				follows(t, b, m, take(obj, lock(obj)))
			case api.Rw:
				follows(t, b, m, take(obj, written(obj)))
			case api.Sem:
				follows(t, b, m, take(obj, down(obj, max(one.A, 1))))
			case api.Pool:
				follows(t, b, m, take(obj, units(obj, one.A)))
			case api.Cell:
				follows(t, b, m, restore(obj, obj+1000))
			}
		}
	}
}

// unruly are lists of objects, nearly all of which may not be.
func unruly() [][]api.Decl {
	edges := []int{math.MinInt, -1 << 32, -1 << 31, -1001, -1, 0, 1, 2, 3, 8, 999, 1001, 1 << 31, 1 << 32, math.MaxInt}
	var all [][]api.Decl
	for _, kind := range []int{math.MinInt, -7, -1, 0, 1, 2, 3, 4, 5, 6, 7, 8, 9, 256 + 1, 1<<32 + 1, math.MaxInt} {
		for _, a := range edges {
			for _, b := range edges {
				all = append(all, []api.Decl{{Kind: kind, A: a, B: b}, {Kind: api.Mutex, A: a, B: b}, {Kind: kind, A: b, B: a}})
			}
		}
	}
	for _, n := range []int{33, 34, 63, 64, 65, 66, 100, 1000} {
		var l []api.Decl
		for k := range n {
			l = append(l, api.Decl{Kind: k%8 + 1, A: k, B: k / 2})
		}
		all = append(all, l, slices.Repeat([]api.Decl{{Kind: api.Rw}}, n), slices.Repeat([]api.Decl{{Kind: api.Cell, B: n - 1}}, n))
	}
	return all
}

// What objects that may not be answer is open, but it ends, without a panic.
func TestNewOfWhatMayNotBeDoesNotPanic(t *testing.T) {
	for _, d := range unruly() {
		b := bank.New(d)
		if b == nil {
			t.Fatalf("%v: nil", d)
		}
		for obj := -1; obj <= len(d); obj += 1 + len(d)/40 {
			for _, way := range [][]api.Need{{lock(obj)}, {read(obj)}, {written(obj)}, {down(obj, 1)}, {units(obj, 1)}, {units(obj, math.MaxInt)}, {read(obj), written(obj)}} {
				b.Take(3, way)
				b.Can(way, 1<<max(obj, 0))
				b.Lost(way)
			}
			for _, k := range kinds {
				for _, n := range []int{math.MinInt, -1, 1, math.MaxInt} {
					call{kind: k, t: 3, obj: obj, n: n}.on(b)
					call{kind: k, t: 4, obj: obj, n: n}.on(b.Clone())
				}
			}
		}
		look(b, []int{-1, 3}, min(len(d), 70))
		look(b.Clone(), []int{3, 64}, min(len(d), 70))
	}
}

func TestTheListIsNeitherChangedNorKept(t *testing.T) {
	spare := api.Decl{Kind: api.Sem, A: 1, B: 2}
	for _, d := range [][]api.Decl{nil, objects()[:1], objects()} {
		handed := lists.Room(d, spare)
		b, m := bank.New(handed), fresh(d)
		stay := func() {
			t.Helper()
			if !slices.Equal(handed[:cap(handed)], append(slices.Clone(d), spare, spare)) {
				t.Fatalf("%v, not %v", handed[:cap(handed)], d)
			}
		}
		stay()
		// What the bank does isn't done there.
		for obj := range d {
			follows(t, b, m, take(3, lock(obj)), take(3, written(obj)), take(3, down(obj, 1)), take(3, units(obj, 1)), write(3, obj, 500), restore(obj, 501), post(obj, 1), fill(obj))
		}
		stay()
		// Nor the other way.
		for k := range handed[:cap(handed)] {
			handed[:cap(handed)][k] = api.Decl{Kind: k%7 + 1, A: 9, B: 9}
		}
		is(t, b, m)
		is(t, b.Clone(), m)
		for obj := range d {
			follows(t, b, m, gone(3), take(5, lock(obj)), take(5, read(obj)), take(5, down(obj, 1)), take(5, units(obj, 1)), write(5, obj, 502), fill(obj))
		}
	}
}

// P24.1: threads and objects

func TestEachCallOfWhatIsNoThread(t *testing.T) {
	each(t, func(b *bank.Bank, m model) {
		for _, by := range none {
			for obj := -1; obj <= behind; obj++ {
				for _, k := range kinds {
					if k.whose() {
						for _, n := range []int{math.MinInt, 0, 1, math.MaxInt} {
							comes(t, b, call{kind: k, t: by, obj: obj, n: n}, k.wrong())
						}
					}
				}
				v, e := b.Read(by, obj)
				if b.Holds(by, obj) != 0 || b.Bad(by, obj) || v != 0 || e != api.ErrKind {
					t.Fatalf("of %d by %d: %d, %t, %d, %v", obj, by, b.Holds(by, obj), b.Bad(by, obj), v, e)
				}
				for _, n := range []api.Need{lock(obj), read(obj), written(obj), down(obj, 1), units(obj, 1)} {
					comes(t, b, take(by, n), no)
				}
			}
			comes(t, b, take(by), no)
			if n := b.Locks(by); n != 0 {
				t.Fatalf("Locks(%d): %d", by, n)
			}
		}
		is(t, b, m)
	})
}

func TestEachCallOfEachThread(t *testing.T) {
	for _, by := range threads.All() {
		b := made(t, take(by, lock(mutex), written(rw), units(pool, 3)), take(by, down(sem, 1)))
		holds(t, b, mutex, api.Share{Thread: by, N: 1})
		holds(t, b, rw, api.Share{Thread: by, N: 2})
		holds(t, b, pool, api.Share{Thread: by, N: 3})
		shared(t, b, mutex, api.Share{Thread: by, N: 1})
		shared(t, b, rw, api.Share{Thread: by, N: 1})
		shared(t, b, pool, api.Share{Thread: by, N: 3})
		worth(t, b, sem, 1)
		if n := b.Locks(by); n != 2 {
			t.Fatalf("Locks(%d): %d", by, n)
		}
		comes(t, b, write(by, byMutex, 8), told{n: 7})
		comes(t, b, write(by, byRw, -8), told{n: -7})
		if v, e := b.Read(by, byMutex); v != 8 || e != api.OK {
			t.Fatal(v, e)
		}
		comes(t, b, unlock(by, rw), ok)
		comes(t, b, give(by, pool, 1), ok)
		comes(t, b, free(by, pool, 1), yes)
		b.Gone(by)
		for _, obj := range []int{mutex, rw, pool} {
			holds(t, b, obj)
		}
		comes(t, b, take(by, lock(mutex)), yes)
		if !b.Bad(by, mutex) {
			t.Fatal("it is not bad")
		}
		comes(t, b, mend(by, mutex), ok)
		comes(t, b, free(by, mutex, 0), yes)
	}
}

func TestEachCallOfWhatIsNotOfItsKind(t *testing.T) {
	each(t, func(b *bank.Bank, m model) {
		for _, k := range kinds {
			if k == takes || k == isGone {
				continue
			}
			for _, obj := range others(k.of()...) {
				for _, by := range watched {
					for _, n := range []int{math.MinInt, -1, 0, 1, 2, math.MaxInt} {
						comes(t, b, call{kind: k, t: by, obj: obj, n: n}, k.wrong())
					}
				}
			}
		}
		for _, by := range watched {
			for _, obj := range others(api.Mutex, api.Rw, api.Pool) {
				if n := b.Holds(by, obj); n != 0 {
					t.Fatalf("Holds(%d, %d): %d", by, obj, n)
				}
			}
			for _, obj := range others(api.Mutex) {
				if b.Bad(by, obj) {
					t.Fatalf("Bad(%d, %d)", by, obj)
				}
			}
			for _, obj := range others(api.Cell) {
				if v, e := b.Read(by, obj); v != 0 || e != api.ErrKind {
					t.Fatalf("Read(%d, %d): %d, %v", by, obj, v, e)
				}
			}
		}
		for _, obj := range others(api.Mutex, api.Sem, api.Pool, api.Cell) {
			worth(t, b, obj, 0)
		}
		for _, obj := range others(api.Mutex, api.Rw, api.Pool) {
			shared(t, b, obj)
		}
		is(t, b, m)
	})
}

func TestEachCallOfWhatIsOfItsKind(t *testing.T) {
	each(t, func(b *bank.Bank, m model) {
		for _, k := range kinds {
			for obj := range behind {
				if k != isGone && !slices.Contains(k.of(), objects()[obj].Kind) {
					continue
				}
				who, many := []int{0, 2, 31, 62, 63}, []int{0, 1, 2, 4, math.MaxInt}
				if !k.whose() {
					who = who[:1]
				}
				if k == unlocks || k == fills || k == isGone || k == mends || k == writes {
					many = many[:1]
				}
				for _, by := range who {
					for _, n := range many {
						q, w := b.Clone(), slices.Clone(m)
						follows(t, q, w, call{kind: k, t: by, obj: obj, n: n})
					}
				}
			}
		}
		is(t, b, m)
	})
}

// P24.1: Value, Holds, Locks, Shares

func TestValueOfEachKind(t *testing.T) {
	b := made(t)
	for obj, want := range []int{1, 0, 2, 0, 0, 4, 7, -7, 1, 0, 0, 1} {
		worth(t, b, obj, want)
	}
	comes(t, b, take(3, lock(mutex), read(rw), units(pool, 3)), yes)
	comes(t, b, take(4, down(sem, 2)), yes)
	comes(t, b, write(3, byMutex, 70), told{n: 7})
	comes(t, b, restore(byRw, 71), yes)
	for obj, want := range []int{0, 0, 0, 0, 0, 1, 70, 71, 1, 0, 0, 1} {
		worth(t, b, obj, want)
	}
	comes(t, b, unlock(3, mutex), ok)
	comes(t, b, unlock(3, rw), ok)
	comes(t, b, take(3, written(rw)), yes)
	comes(t, b, give(3, pool, 2), ok)
	comes(t, b, post(sem, 1), ok)
	comes(t, b, fill(sem2), told{n: 1})
	for obj, want := range []int{1, 0, 1, 0, 0, 3, 70, 71, 1, 0, 1, 1} {
		worth(t, b, obj, want)
	}
}

func TestValueOfABadAndOfALostMutex(t *testing.T) {
	b := made(t, take(1, lock(mutex)))
	worth(t, b, mutex, 0)
	b.Gone(1)
	worth(t, b, mutex, 1)
	comes(t, b, take(2, lock(mutex)), yes)
	worth(t, b, mutex, 0)
	comes(t, b, unlock(2, mutex), ok)
	// Nobody owns it, and nobody ever will.
	worth(t, b, mutex, 1)
}

func TestHolds(t *testing.T) {
	b := made(t, take(0, lock(mutex), read(rw), units(pool, 1)), take(63, read(rw), written(rw2), units(pool, 2)), take(5, units(pool2, 1)))
	for obj, want := range [][]api.Share{
		mutex: {{Thread: 0, N: 1}}, rw: {{Thread: 0, N: 1}, {Thread: 63, N: 1}}, rw2: {{Thread: 63, N: 2}},
		pool: {{Thread: 0, N: 1}, {Thread: 63, N: 2}}, pool2: {{Thread: 5, N: 1}}, behind: nil,
	} {
		holds(t, b, obj, want...)
	}
	comes(t, b, take(63, units(pool, 1)), yes)
	holds(t, b, pool, api.Share{Thread: 0, N: 1}, api.Share{Thread: 63, N: 3})
	comes(t, b, unlock(0, mutex), ok)
	holds(t, b, mutex)
}

func TestLocks(t *testing.T) {
	locks := func(b *bank.Bank, want map[int]int) {
		t.Helper()
		for _, by := range threads.All() {
			if got := b.Locks(by); got != want[by] {
				t.Fatalf("Locks(%d): %d, not %d", by, got, want[by])
			}
		}
	}
	b := made(t)
	locks(b, nil)
	for _, c := range []struct {
		call call
		want map[int]int
	}{
		{take(7, units(pool, 3), units(pool2, 1)), nil}, {take(7, down(sem, 2)), nil},
		{take(7, lock(mutex)), map[int]int{7: 1}}, {take(63, read(rw)), map[int]int{7: 1, 63: 1}}, {take(7, read(rw)), map[int]int{7: 2, 63: 1}},
		{take(7, lock(mutex2), written(rw2)), map[int]int{7: 4, 63: 1}}, {unlock(7, mutex), map[int]int{7: 3, 63: 1}},
		{take(63, lock(mutex)), map[int]int{7: 3, 63: 2}}, {unlock(7, rw2), map[int]int{7: 2, 63: 2}}, {give(7, pool, 3), map[int]int{7: 2, 63: 2}},
		{gone(7), map[int]int{63: 2}}, {free(63, rw, 1), map[int]int{63: 1}}, {take(63, lock(mutex2)), map[int]int{63: 2}}, {gone(63), nil},
	} {
		c.call.on(b)
		locks(b, c.want)
	}
}

func TestLocksOf32(t *testing.T) {
	d := slices.Concat(slices.Repeat([]api.Decl{{Kind: api.Mutex}}, 16), slices.Repeat([]api.Decl{{Kind: api.Rw}}, 16))
	b := bank.New(d)
	for obj := range d {
		if n := b.Locks(9); n != obj {
			t.Fatalf("%d, not %d", n, obj)
		}
		b.Take(9, []api.Need{[]api.Need{lock(obj), read(obj), written(obj)}[min(obj/16, 1)+obj/24]})
	}
	if n := b.Locks(9); n != 32 {
		t.Fatalf("%d", n)
	}
}

func TestShares(t *testing.T) {
	b := made(t)
	for obj := -1; obj <= behind; obj++ {
		shared(t, b, obj)
	}
	for _, c := range []struct {
		call call
		obj  int
		want []api.Share
	}{
		{take(5, lock(mutex)), mutex, []api.Share{{Thread: 5, N: 1}}},
		{take(0, lock(mutex)), mutex, []api.Share{{Thread: 5, N: 1}}},
		{take(63, read(rw)), rw, []api.Share{{Thread: 63, N: 1}}},
		{take(31, read(rw)), rw, []api.Share{{Thread: 31, N: 1}, {Thread: 63, N: 1}}},
		{take(0, read(rw)), rw, []api.Share{{Thread: 0, N: 1}, {Thread: 31, N: 1}, {Thread: 63, N: 1}}},
		{unlock(31, rw), rw, []api.Share{{Thread: 0, N: 1}, {Thread: 63, N: 1}}},
		{take(62, written(rw2)), rw2, []api.Share{{Thread: 62, N: 1}}},
		{take(63, units(pool, 2)), pool, []api.Share{{Thread: 63, N: 2}}},
		{take(0, units(pool, 1)), pool, []api.Share{{Thread: 0, N: 1}, {Thread: 63, N: 2}}},
		{take(32, units(pool, 1)), pool, []api.Share{{Thread: 0, N: 1}, {Thread: 32, N: 1}, {Thread: 63, N: 2}}},
		{give(63, pool, 1), pool, []api.Share{{Thread: 0, N: 1}, {Thread: 32, N: 1}, {Thread: 63, N: 1}}},
		{gone(0), rw, []api.Share{{Thread: 63, N: 1}}},
		{gone(0), pool, []api.Share{{Thread: 32, N: 1}, {Thread: 63, N: 1}}},
		{gone(5), mutex, nil},
		{take(5, down(sem, 1)), sem, nil},
	} {
		c.call.on(b)
		shared(t, b, c.obj, c.want...)
	}
}

func TestSharesOfAllThreads(t *testing.T) {
	b := bank.New([]api.Decl{{Kind: api.Rw}, {Kind: api.Pool, A: 1000}})
	r := draws.Row(241)
	var ones, many []api.Share
	for _, by := range threads.All() {
		ones, many = append(ones, api.Share{Thread: by, N: 1}), append(many, api.Share{Thread: by, N: by%13 + 1})
	}
	for _, by := range draws.Shuffled(&r, threads.All()) {
		comes(t, b, take(by, read(0), units(1, by%13+1)), yes)
	}
	shared(t, b, 0, ones...)
	shared(t, b, 1, many...)
}

func TestSharesAreNewMemory(t *testing.T) {
	each(t, func(b *bank.Bank, m model) {
		var all [][]api.Share
		for range 2 {
			for obj := range behind {
				all = append(all, b.Shares(obj), b.Clone().Shares(obj))
			}
		}
		if !lists.Apart(all...) {
			t.Fatalf("they share memory: %v", all)
		}
		for _, l := range all {
			for k := range l[:cap(l)] {
				l[:cap(l)][k] = api.Share{Thread: 9, N: 9}
			}
			_ = append(l, api.Share{Thread: 8, N: 8})
		}
		is(t, b, m)
		// What was told stays, whatever is done then.
		told := [3][]api.Share{b.Shares(mutex), b.Shares(rw), b.Shares(pool)}
		kept := [3][]api.Share{m.Shares(mutex), m.Shares(rw), m.Shares(pool)}
		for _, by := range watched {
			b.Gone(by)
		}
		comes(t, b, take(44, written(rw), units(pool, 3)), yes)
		for k := range told {
			if !slices.Equal(told[k], kept[k]) {
				t.Fatalf("%v became %v", kept[k], told[k])
			}
		}
	})
}

// P24.2: Lost

func TestLost(t *testing.T) {
	b := made(t, take(1, lock(mutex)), gone(1), take(2, lock(mutex)), unlock(2, mutex))
	for _, c := range []struct {
		want bool
		way  []api.Need
	}{
		{false, nil}, {false, []api.Need{}}, {true, []api.Need{lock(mutex)}}, {false, []api.Need{lock(mutex2)}},
		{true, []api.Need{lock(mutex), lock(mutex2), read(rw)}}, {true, []api.Need{lock(mutex2), lock(mutex), read(rw)}}, {true, []api.Need{read(rw), units(pool, 1), lock(mutex)}},
		{true, []api.Need{lock(mutex), lock(mutex)}}, {false, []api.Need{lock(mutex2), written(rw), units(pool, 1)}},
		{false, []api.Need{read(mutex)}}, {false, []api.Need{written(mutex), down(mutex, 1), units(mutex, 1)}}, {true, []api.Need{read(mutex), lock(mutex)}},
		{false, []api.Need{{Kind: 0, Obj: mutex}, {Kind: -1, Obj: mutex}, {Kind: 6, Obj: mutex}, {Kind: 1<<32 + 1, Obj: mutex}}},
		{true, []api.Need{{Kind: 0, Obj: mutex}, lock(mutex)}}, {true, []api.Need{{Kind: api.Lock, Obj: mutex, N: 5}}},
		{true, []api.Need{lock(-1), lock(math.MaxInt), lock(math.MinInt), lock(behind), lock(mutex)}},
	} {
		for range 2 {
			if got := b.Lost(c.way); got != c.want {
				t.Errorf("Lost(%v): %t", c.way, got)
			}
		}
	}
	for _, obj := range others(api.Mutex) {
		if b.Lost([]api.Need{lock(obj)}) {
			t.Errorf("Lost of lock %d", obj)
		}
	}
}

func TestLostIsNothingElseThanLost(t *testing.T) {
	way := []api.Need{lock(mutex)}
	b := made(t)
	for _, c := range []struct {
		call call
		want bool
	}{
		{take(1, lock(mutex)), false}, {unlock(1, mutex), false}, {take(1, lock(mutex)), false}, {gone(1), false},
		{take(2, lock(mutex)), false}, {free(2, mutex, 1), false}, {take(2, lock(mutex)), false}, {gone(2), false}, {take(2, lock(mutex)), false}, {mend(2, mutex), false}, {unlock(2, mutex), false},
		{take(3, lock(mutex)), false}, {gone(3), false}, {take(4, lock(mutex)), false}, {unlock(4, mutex), true}, {take(4, lock(mutex)), true}, {unlock(4, mutex), true}, {gone(4), true}, {mend(4, mutex), true},
	} {
		c.call.on(b)
		if got := b.Lost(way); got != c.want {
			t.Fatalf("behind %v: %t", c.call, got)
		}
	}
}

// P24.2: Can

func TestCanOfNoNeeds(t *testing.T) {
	each(t, func(b *bank.Bank, _ model) {
		for _, writers := range []uint64{0, 1, 1 << 63, math.MaxUint64} {
			if !b.Can(nil, writers) || !b.Can([]api.Need{}, writers) {
				t.Fatal("no")
			}
		}
	})
}

func TestCanOfLock(t *testing.T) {
	b := made(t)
	can(t, b, true, lock(mutex))
	can(t, b, true, lock(mutex), lock(mutex2))
	comes(t, b, take(9, lock(mutex)), yes)
	can(t, b, false, lock(mutex))
	can(t, b, false, lock(mutex), lock(mutex2))
	can(t, b, false, lock(mutex2), lock(mutex))
	can(t, b, true, lock(mutex2))
	b.Gone(9)
	// It is bad, which hinders nobody.
	can(t, b, true, lock(mutex))
	comes(t, b, take(9, lock(mutex)), yes)
	comes(t, b, unlock(9, mutex), ok)
	// Nobody owns it, but it is lost.
	can(t, b, false, lock(mutex))
	can(t, b, false, lock(mutex2), lock(mutex))
	can(t, b, true, lock(mutex2))
}

func TestCanOfReadAndWrite(t *testing.T) {
	b := made(t)
	can(t, b, true, read(rw))
	can(t, b, true, written(rw))
	comes(t, b, take(0, read(rw)), yes)
	can(t, b, true, read(rw))
	can(t, b, false, written(rw))
	can(t, b, true, written(rw2))
	comes(t, b, take(63, read(rw)), yes)
	can(t, b, true, read(rw))
	can(t, b, false, written(rw))
	comes(t, b, unlock(0, rw), ok)
	comes(t, b, unlock(63, rw), ok)
	comes(t, b, take(0, written(rw)), yes)
	can(t, b, false, read(rw))
	can(t, b, false, written(rw))
	can(t, b, true, read(rw2), written(rw2))
	comes(t, b, unlock(0, rw), ok)
	can(t, b, true, written(rw))
}

func TestCanOfReadBesideWriters(t *testing.T) {
	set := func(l ...int) uint64 {
		s := uint64(0)
		for _, n := range l {
			s |= 1 << n
		}
		return s
	}
	for _, calls := range [][]call{nil, {take(5, read(rw))}} {
		b := made(t, calls...)
		for _, c := range []struct {
			way     []api.Need
			writers uint64
			want    bool
		}{
			{[]api.Need{read(rw)}, 0, true}, {[]api.Need{read(rw)}, set(rw), false}, {[]api.Need{read(rw)}, set(rw2), true}, {[]api.Need{read(rw)}, set(rw, rw2), false},
			{[]api.Need{read(rw)}, ^set(rw), true}, {[]api.Need{read(rw)}, math.MaxUint64, false}, {[]api.Need{read(rw)}, set(0, 2, 33, 63), true},
			{[]api.Need{read(rw2)}, set(rw2), false}, {[]api.Need{read(rw2)}, set(rw), true}, {[]api.Need{read(rw), read(rw2)}, set(rw2), false}, {[]api.Need{read(rw2), read(rw)}, set(rw2), false},
			{[]api.Need{read(rw2), lock(mutex)}, set(rw, mutex), true}, {[]api.Need{written(rw2)}, set(rw2), true}, {[]api.Need{written(rw2)}, math.MaxUint64, true},
			{[]api.Need{lock(mutex), units(pool, 1), down(sem, 1)}, math.MaxUint64, true}, {[]api.Need{lock(mutex), read(rw), units(pool, 1)}, set(rw), false},
		} {
			if got := b.Can(c.way, c.writers); got != c.want {
				t.Errorf("Can(%v, %x): %t", c.way, c.writers, got)
			}
		}
	}
	// A write that hinders stays one, whoever is in the set.
	b := made(t, take(5, written(rw)))
	for _, writers := range []uint64{0, set(rw), set(rw2), math.MaxUint64} {
		if b.Can([]api.Need{read(rw)}, writers) || b.Can([]api.Need{written(rw)}, writers) {
			t.Errorf("beside %x: yes", writers)
		}
	}
	// Each number of a set is the one of its object.
	d := slices.Repeat([]api.Decl{{Kind: api.Rw}}, 32)
	all := bank.New(d)
	for obj := range d {
		for n := range 64 {
			if got := all.Can([]api.Need{read(obj)}, set(n)); got != (n != obj) {
				t.Errorf("Can of read %d beside %d: %t", obj, n, got)
			}
		}
	}
}

func TestCanOfDownAndTake(t *testing.T) {
	for value := range 6 {
		b := made(t, take(5, down(sem, 2)))
		if value > 0 {
			comes(t, b, post(sem, value), ok)
		}
		for _, n := range counts {
			can(t, b, n >= 1 && n <= value, down(sem, n))
		}
	}
	for free := range 5 {
		b := made(t)
		if free < 4 {
			comes(t, b, take(5, units(pool, 4-free)), yes)
		}
		for _, n := range counts {
			can(t, b, n >= 1 && n <= free, units(pool, n))
		}
	}
	b := bank.New([]api.Decl{{Kind: api.Sem, A: 1000, B: 1000}, {Kind: api.Pool, A: 1000}})
	for _, n := range []int{999, 1000} {
		can(t, b, true, down(0, n))
		can(t, b, true, units(1, n))
		can(t, b, false, down(0, n+2))
		can(t, b, false, units(1, n+2))
	}
}

func TestCanOfSeveralNeeds(t *testing.T) {
	good := []api.Need{lock(mutex), read(rw), written(rw2), down(sem, 2), units(pool, 4), lock(mutex2)}
	wrong := []api.Need{lock(rw), read(mutex), written(sem), down(sem, 3), units(pool, 5), units(sem, 1), down(pool, 1), down(sem, 0), units(pool, 0), lock(-1), lock(behind), {}, {Kind: 6}}
	b := made(t)
	can(t, b, true, good...)
	for _, n := range good {
		can(t, b, true, n)
	}
	for _, n := range wrong {
		can(t, b, false, n)
		// One alone can't be met: the first, the last, and among others.
		for k := range len(good) + 1 {
			can(t, b, false, slices.Insert(slices.Clone(good), k, n)...)
		}
	}
}

func TestCanOfWhatIsNoNeed(t *testing.T) {
	each(t, func(b *bank.Bank, m model) {
		for _, kind := range []int{math.MinInt, -1 << 32, -1, 0, 6, 7, 8, 256 + 1, 1<<32 + 1, math.MaxInt} {
			for obj := range behind {
				for _, n := range []int{0, 1, math.MaxInt} {
					way := []api.Need{{Kind: kind, Obj: obj, N: n}}
					can(t, b, false, way...)
					comes(t, b, take(44, way...), no)
				}
			}
		}
		is(t, b, m)
	})
}

func TestCanOfWhatIsNotOfTheKind(t *testing.T) {
	each(t, func(b *bank.Bank, m model) {
		for kind, of := range map[int]int{api.Lock: api.Mutex, api.Read: api.Rw, api.Write: api.Rw, api.Down: api.Sem, api.Take: api.Pool} {
			for _, obj := range others(of) {
				for _, n := range []int{0, 1, 2} {
					way := []api.Need{{Kind: kind, Obj: obj, N: n}}
					can(t, b, false, way...)
					comes(t, b, take(44, way...), no)
				}
			}
		}
		is(t, b, m)
	})
}

// The numbers of a lock, of a read and of a write ask for nothing.
func TestCanOfNumbersThatAskForNothing(t *testing.T) {
	each(t, func(b *bank.Bank, m model) {
		for _, kind := range []int{api.Lock, api.Read, api.Write} {
			for obj := range behind {
				for _, n := range counts {
					can(t, b, m.Can([]api.Need{{Kind: kind, Obj: obj}}, 0), api.Need{Kind: kind, Obj: obj, N: n})
				}
			}
		}
	})
}

func TestCanAsksNeedByNeed(t *testing.T) {
	b := made(t)
	for _, way := range [][]api.Need{
		{lock(mutex), lock(mutex)}, {read(rw), read(rw)}, {read(rw), written(rw)}, {written(rw), read(rw)}, {written(rw), written(rw)},
		{down(sem, 2), down(sem, 2)}, {down(sem, 2), down(sem, 1), down(sem, 2)}, {units(pool, 4), units(pool, 4)}, {units(pool, 3), units(pool, 2)},
	} {
		can(t, b, true, way...)
	}
	can(t, b, false, down(sem, 1), down(sem, 3))
	can(t, b, false, units(pool, 5), units(pool, 1))
	can(t, b, false, lock(mutex), read(mutex))
}

// P24.2: Take

func TestTakeOfNoNeeds(t *testing.T) {
	each(t, func(b *bank.Bank, m model) {
		for _, by := range some {
			comes(t, b, take(by), yes)
			comes(t, b, take(by, []api.Need{}...), yes)
		}
		is(t, b, m)
	})
}

func TestTakeOfOneNeed(t *testing.T) {
	for _, c := range []struct {
		need         api.Need
		holds, value int
	}{
		{lock(mutex), 1, 0}, {read(rw), 1, 0}, {written(rw), 2, 0}, {down(sem, 1), 0, 1}, {down(sem, 2), 0, 0}, {units(pool, 1), 1, 3}, {units(pool, 3), 3, 1}, {units(pool, 4), 4, 0},
	} {
		for _, by := range some {
			b := made(t, take(by, c.need))
			if got := b.Holds(by, c.need.Obj); got != c.holds {
				t.Errorf("%v: %d, not %d", c.need, got, c.holds)
			}
			worth(t, b, c.need.Obj, c.value)
			follows(t, made(t), fresh(objects()), take(by, c.need))
		}
	}
}

func TestTakeOfSeveralNeeds(t *testing.T) {
	way := []api.Need{lock(mutex2), read(rw), written(rw2), units(pool, 3), lock(mutex), down(sem, 2), units(pool2, 1)}
	r := draws.Row(242)
	for range 50 {
		b, m := made(t), fresh(objects())
		follows(t, b, m, take(5, draws.Shuffled(&r, way)...))
		for obj, want := range []int{1, 1, 0, 0, 0, 3, 0, 0, 1, 2, 0, 1} {
			if got := b.Holds(5, obj); got != want {
				t.Fatalf("Holds(5, %d): %d, not %d", obj, got, want)
			}
		}
		for obj, want := range []int{0, 0, 0, 0, 0, 1, 7, -7, 0, 0, 0, 0} {
			worth(t, b, obj, want)
		}
	}
}

func TestTakeOfMore(t *testing.T) {
	b := made(t, take(5, units(pool, 1)))
	comes(t, b, take(5, units(pool, 2)), yes)
	holds(t, b, pool, api.Share{Thread: 5, N: 3})
	refused(t, b, take(5, units(pool, 2)), no)
	comes(t, b, take(6, units(pool, 1)), yes)
	holds(t, b, pool, api.Share{Thread: 5, N: 3}, api.Share{Thread: 6, N: 1})
	refused(t, b, take(5, units(pool, 1)), no)
}

func TestTakeOfWhatCanNotBe(t *testing.T) {
	each(t, func(b *bank.Bank, m model) {
		met := 0
		for _, first := range []api.Need{lock(mutex), read(rw), written(rw), down(sem, 1), units(pool, 1), lock(mutex2), written(rw2)} {
			for _, other := range []api.Need{lock(mutex), read(rw), written(rw), down(sem, 6), units(pool, 5), units(pool2, 1), down(sem2, 1), lock(rw), {Kind: 6, Obj: mutex}, {Obj: pool, N: 1}, lock(-1), read(behind)} {
				for _, way := range [][]api.Need{{other}, {first, other}, {other, first}, {units(pool, 1), other, first}} {
					if m.Can(way, 0) {
						continue
					}
					met++
					for _, by := range []int{0, 44, 63} {
						comes(t, b, take(by, way...), no)
					}
				}
			}
		}
		if met < 100 {
			t.Errorf("%d ways can't be met", met)
		}
		is(t, b, m)
	})
}

func TestTakeOfALostMutex(t *testing.T) {
	b := made(t, take(1, lock(mutex)), gone(1), take(2, lock(mutex)), unlock(2, mutex))
	for _, by := range some {
		refused(t, b, take(by, lock(mutex)), no)
		refused(t, b, take(by, lock(mutex2), lock(mutex)), no)
	}
	comes(t, b, take(1, lock(mutex2)), yes)
}

func TestTakeOfALockThatItHolds(t *testing.T) {
	b := made(t, take(5, lock(mutex), read(rw), units(pool, 1)), take(6, read(rw), written(rw2)))
	for _, way := range [][]api.Need{
		{lock(mutex)}, {read(rw)}, {written(rw)}, {read(rw), lock(mutex2)}, {lock(mutex2), read(rw)}, {units(pool, 1), lock(mutex2), read(rw)}, {read(rw), read(rw)},
	} {
		refused(t, b, take(5, way...), no)
	}
	// It could be met, but for that it reads already; so others may.
	can(t, b, true, read(rw))
	can(t, b, true, lock(mutex2), read(rw))
	refused(t, b, take(6, written(rw2)), no)
	refused(t, b, take(6, read(rw2)), no)
	comes(t, b, take(7, lock(mutex2), read(rw)), yes)
	// What it holds beside hinders nothing.
	comes(t, b, take(6, units(pool, 1)), yes)
	comes(t, b, take(5, units(pool, 1), units(pool2, 1)), yes)
	comes(t, b, take(5, down(sem, 1)), yes)
	holds(t, b, rw, api.Share{Thread: 5, N: 1}, api.Share{Thread: 6, N: 1}, api.Share{Thread: 7, N: 1})
	holds(t, b, pool, api.Share{Thread: 5, N: 2}, api.Share{Thread: 6, N: 1})
	// When it has left it may have it again.
	comes(t, b, unlock(5, rw), ok)
	comes(t, b, take(5, read(rw)), yes)
}

func TestTakeWhereAnObjectStandsTwice(t *testing.T) {
	for _, c := range []struct {
		way    []api.Need
		obj    int
		holds  int
		values map[int]int
	}{
		{[]api.Need{lock(mutex), lock(mutex)}, mutex, 1, map[int]int{mutex: 0}},
		{[]api.Need{lock(mutex), lock(mutex), units(pool, 1)}, mutex, 1, map[int]int{mutex: 0, pool: 3}},
		{[]api.Need{read(rw), read(rw)}, rw, 1, nil},
		{[]api.Need{read(rw), written(rw)}, rw, 1, nil},
		{[]api.Need{read(rw), written(rw), lock(mutex)}, rw, 1, map[int]int{mutex: 0}},
		{[]api.Need{written(rw), read(rw)}, rw, 2, nil},
		{[]api.Need{written(rw), read(rw), down(sem, 2)}, rw, 2, map[int]int{sem: 0}},
		{[]api.Need{written(rw), written(rw)}, rw, 2, nil},
		{[]api.Need{down(sem, 1), down(sem, 1)}, sem, 0, map[int]int{sem: 0}},
		{[]api.Need{down(sem, 2), down(sem, 1)}, sem, 0, map[int]int{sem: 0}},
		{[]api.Need{down(sem, 1), down(sem, 2)}, sem, 0, map[int]int{sem: 1}},
		{[]api.Need{down(sem, 1), down(sem, 2), down(sem, 1)}, sem, 0, map[int]int{sem: 0}},
		{[]api.Need{units(pool, 2), units(pool, 2)}, pool, 4, map[int]int{pool: 0}},
		{[]api.Need{units(pool, 1), units(pool, 2)}, pool, 3, map[int]int{pool: 1}},
		{[]api.Need{units(pool, 3), units(pool, 2)}, pool, 3, map[int]int{pool: 1}},
		{[]api.Need{units(pool, 3), units(pool, 2), units(pool, 1), lock(mutex2)}, pool, 4, map[int]int{pool: 0, mutex2: 0}},
		{[]api.Need{units(pool, 4), units(pool, 4)}, pool, 4, map[int]int{pool: 0}},
	} {
		for _, by := range []int{0, 5, 63} {
			b, m := made(t), fresh(objects())
			follows(t, b, m, take(by, c.way...))
			comes(t, made(t), take(by, c.way...), yes)
			if got := b.Holds(by, c.obj); got != c.holds {
				t.Errorf("%v: %d, not %d", c.way, got, c.holds)
			}
			for obj, want := range c.values {
				worth(t, b, obj, want)
			}
		}
	}
}

func TestTheNeedsAreNeitherChangedNorKept(t *testing.T) {
	spare := api.Need{Kind: api.Write, Obj: rw2}
	each(t, func(b *bank.Bank, m model) {
		for _, way := range [][]api.Need{nil, {lock(mutex)}, {units(pool, 1), read(rw), lock(mutex2)}, {down(sem, 1)}, {units(pool, 1), units(pool, 4)}, {lock(cond), {Kind: 9}}, {read(rw2), written(rw2)}} {
			handed := lists.Room(way, spare)
			want := m.Take(44, way)
			if m.Lost(way) != b.Lost(handed) || b.Take(44, handed) != want {
				t.Fatalf("%v: not %t", way, want)
			}
			b.Can(handed, 0)
			if !slices.Equal(handed[:cap(handed)], append(slices.Clone(way), spare, spare)) {
				t.Fatalf("%v, not %v", handed[:cap(handed)], way)
			}
			for k := range handed[:cap(handed)] {
				handed[:cap(handed)][k] = lock(mutex)
			}
			is(t, b, m)
			follows(t, b, m, gone(44))
		}
	})
}

// P24.3: Unlock, Free

func TestUnlockOfAMutex(t *testing.T) {
	b := made(t, take(5, lock(mutex)))
	refused(t, b, unlock(6, mutex), code(api.ErrOwner))
	refused(t, b, unlock(5, mutex2), code(api.ErrOwner))
	comes(t, b, unlock(5, mutex), ok)
	holds(t, b, mutex)
	refused(t, b, unlock(5, mutex), code(api.ErrOwner))
	comes(t, b, take(6, lock(mutex)), yes)
	if b.Bad(6, mutex) || b.Lost([]api.Need{lock(mutex)}) {
		t.Error("it is bad, or lost")
	}
}

func TestUnlockOfABadMutex(t *testing.T) {
	b := made(t, take(5, lock(mutex)), gone(5))
	refused(t, b, unlock(5, mutex), code(api.ErrOwner))
	comes(t, b, take(6, lock(mutex)), yes)
	refused(t, b, unlock(5, mutex), code(api.ErrOwner))
	comes(t, b, unlock(6, mutex), ok)
	if !b.Lost([]api.Need{lock(mutex)}) || b.Bad(6, mutex) {
		t.Error("it is not lost, or bad")
	}
	holds(t, b, mutex)
	refused(t, b, unlock(6, mutex), code(api.ErrOwner))
}

func TestUnlockOfARw(t *testing.T) {
	b := made(t, take(5, read(rw)), take(6, read(rw)))
	refused(t, b, unlock(7, rw), code(api.ErrOwner))
	comes(t, b, unlock(5, rw), ok)
	holds(t, b, rw, api.Share{Thread: 6, N: 1})
	refused(t, b, unlock(5, rw), code(api.ErrOwner))
	comes(t, b, unlock(6, rw), ok)
	refused(t, b, unlock(6, rw), code(api.ErrOwner))
	comes(t, b, take(5, written(rw)), yes)
	refused(t, b, unlock(6, rw), code(api.ErrOwner))
	comes(t, b, unlock(5, rw), ok)
	holds(t, b, rw)
	can(t, b, true, written(rw))
}

func TestFreeOfAMutex(t *testing.T) {
	b := made(t, take(5, lock(mutex)))
	for _, n := range counts {
		refused(t, b, free(6, mutex, n), no)
		refused(t, b, free(5, mutex2, n), no)
		comes(t, b, free(5, mutex, n), yes)
		holds(t, b, mutex)
		refused(t, b, free(5, mutex, n), no)
		comes(t, b, take(5, lock(mutex)), yes)
		if b.Bad(5, mutex) {
			t.Fatal("it is bad")
		}
	}
	b.Gone(5)
	for _, n := range counts {
		// It is as bad as it was, and not lost.
		comes(t, b, take(6, lock(mutex)), yes)
		if !b.Bad(6, mutex) {
			t.Fatal("it is not bad")
		}
		refused(t, b, free(5, mutex, n), no)
		comes(t, b, free(6, mutex, n), yes)
		if b.Lost([]api.Need{lock(mutex)}) {
			t.Fatal("it is lost")
		}
	}
}

func TestFreeOfARw(t *testing.T) {
	for _, n := range counts {
		b := made(t, take(5, read(rw)), take(6, read(rw)))
		refused(t, b, free(7, rw, n), no)
		refused(t, b, free(5, rw2, n), no)
		comes(t, b, free(5, rw, n), yes)
		holds(t, b, rw, api.Share{Thread: 6, N: 1})
		refused(t, b, free(5, rw, n), no)
		comes(t, b, free(6, rw, n), yes)
		comes(t, b, take(7, written(rw)), yes)
		refused(t, b, free(6, rw, n), no)
		comes(t, b, free(7, rw, n), yes)
		holds(t, b, rw)
	}
}

func TestFreeOfAPool(t *testing.T) {
	for has := range 5 {
		for _, n := range counts {
			b := made(t)
			if has > 0 {
				comes(t, b, take(5, units(pool, has)), yes)
			}
			refused(t, b, free(6, pool, n), no)
			if n < 1 || n > has {
				refused(t, b, free(5, pool, n), no)
				continue
			}
			comes(t, b, free(5, pool, n), yes)
			if got := b.Holds(5, pool); got != has-n {
				t.Fatalf("%d of %d: %d", n, has, got)
			}
			worth(t, b, pool, 4-has+n)
		}
	}
}

// P24.3: Post, Fill, Give

func TestPost(t *testing.T) {
	each(t, func(b *bank.Bank, m model) {
		for _, obj := range []int{sem, sem2} {
			missing := m[obj].B - m[obj].value
			for _, n := range low {
				comes(t, b, post(obj, n), code(api.ErrArg))
			}
			for _, n := range []int{missing + 1, missing + 2, 1000, 1 << 32, 1<<32 + 1, math.MaxInt - 1, math.MaxInt} {
				comes(t, b, post(obj, n), code(api.ErrOver))
			}
			is(t, b, m)
			for n := 1; n <= missing; n++ {
				q := b.Clone()
				comes(t, q, post(obj, n), ok)
				worth(t, q, obj, m[obj].value+n)
				follows(t, b.Clone(), slices.Clone(m), post(obj, n))
			}
		}
	})
}

func TestFill(t *testing.T) {
	b := made(t)
	for _, c := range []struct {
		call call
		want told
	}{{fill(sem), told{n: 3}}, {fill(sem), told{}}, {take(1, down(sem, 5)), yes}, {fill(sem), told{n: 5}}, {take(1, down(sem, 1)), yes}, {fill(sem), told{n: 1}}, {fill(sem2), told{n: 1}}, {fill(sem2), told{}}} {
		comes(t, b, c.call, c.want)
	}
	worth(t, b, sem, 5)
	worth(t, b, sem2, 1)
	each(t, func(b *bank.Bank, m model) { follows(t, b, m, fill(sem), fill(sem2), fill(sem), post(sem2, 1)) })
}

func TestGive(t *testing.T) {
	each(t, func(b *bank.Bank, m model) {
		for _, obj := range []int{pool, pool2} {
			for _, by := range []int{0, 5, 44, 62, 63} {
				has := m[obj].held[by]
				for _, n := range low {
					comes(t, b, give(by, obj, n), code(api.ErrArg))
				}
				for _, n := range []int{has + 1, has + 2, 1000, 1 << 32, math.MaxInt} {
					comes(t, b, give(by, obj, n), code(api.ErrOwner))
				}
				is(t, b, m)
				for n := 1; n <= has; n++ {
					q := b.Clone()
					comes(t, q, give(by, obj, n), ok)
					if got := q.Holds(by, obj); got != has-n || q.Value(obj) != m.Value(obj)+n {
						t.Fatalf("%d of %d: %d, and %d are free", n, has, got, q.Value(obj))
					}
				}
			}
		}
	})
}

// P24.3: Mend, Bad, Gone

func TestMend(t *testing.T) {
	b := made(t, take(5, lock(mutex)))
	comes(t, b, mend(5, mutex), ok)
	refused(t, b, mend(6, mutex), code(api.ErrOwner))
	refused(t, b, mend(5, mutex2), code(api.ErrOwner))
	b.Gone(5)
	refused(t, b, mend(5, mutex), code(api.ErrOwner))
	comes(t, b, take(6, lock(mutex)), yes)
	refused(t, b, mend(5, mutex), code(api.ErrOwner))
	if !b.Bad(6, mutex) {
		t.Fatal("it is not bad")
	}
	for range 2 {
		comes(t, b, mend(6, mutex), ok)
		if b.Bad(6, mutex) {
			t.Fatal("it is bad")
		}
		holds(t, b, mutex, api.Share{Thread: 6, N: 1})
	}
	comes(t, b, unlock(6, mutex), ok)
	comes(t, b, take(5, lock(mutex)), yes)
	if b.Bad(5, mutex) {
		t.Fatal("it is bad")
	}
}

func TestBad(t *testing.T) {
	bad := func(b *bank.Bank, owner int) {
		t.Helper()
		for _, by := range threads.All() {
			if got := b.Bad(by, mutex); got != (by == owner) {
				t.Fatalf("Bad(%d): %t", by, got)
			}
			if b.Bad(by, mutex2) || b.Bad(by, rw) {
				t.Fatalf("%d owns another one that is bad", by)
			}
		}
	}
	b := made(t)
	for _, c := range []struct {
		call  call
		owner int
	}{
		{take(5, lock(mutex)), -1}, {unlock(5, mutex), -1}, {take(5, lock(mutex), written(rw)), -1}, {gone(5), -1}, {take(0, lock(mutex)), 0}, {take(0, lock(mutex2)), 0},
		{free(0, mutex, 1), -1}, {take(63, lock(mutex)), 63}, {gone(63), -1}, {take(6, lock(mutex)), 6}, {mend(6, mutex), -1}, {gone(6), -1}, {take(6, lock(mutex)), 6}, {unlock(6, mutex), -1}, {take(6, lock(mutex)), -1},
	} {
		c.call.on(b)
		bad(b, c.owner)
	}
}

func TestGoneOfAThreadThatHoldsNothing(t *testing.T) {
	each(t, func(b *bank.Bank, m model) {
		for _, by := range slices.Concat([]int{44, 30, 33}, none) {
			b.Gone(by)
		}
		is(t, b, m)
	})
}

func TestGoneOfAMutex(t *testing.T) {
	b := made(t, take(5, lock(mutex)), take(6, lock(mutex2)))
	b.Gone(5)
	holds(t, b, mutex)
	holds(t, b, mutex2, api.Share{Thread: 6, N: 1})
	if b.Bad(5, mutex) || b.Bad(6, mutex2) || b.Lost([]api.Need{lock(mutex)}) {
		t.Error("nobody owns it, and it is not lost")
	}
	comes(t, b, take(6, lock(mutex)), yes)
	if !b.Bad(6, mutex) || b.Bad(6, mutex2) {
		t.Error("the one is not bad, or the other one is")
	}
	comes(t, b, unlock(6, mutex), ok)
	comes(t, b, unlock(6, mutex2), ok)
	if !b.Lost([]api.Need{lock(mutex)}) || b.Lost([]api.Need{lock(mutex2)}) {
		t.Error("the one is not lost, or the other one is")
	}
	refused(t, b, take(6, lock(mutex)), no)
}

func TestGoneOfRws(t *testing.T) {
	b := made(t, take(5, read(rw), written(rw2)), take(6, read(rw)))
	b.Gone(5)
	holds(t, b, rw, api.Share{Thread: 6, N: 1})
	holds(t, b, rw2)
	comes(t, b, take(7, written(rw2)), yes)
	b.Gone(6)
	comes(t, b, take(7, written(rw)), yes)
	b.Gone(6)
	holds(t, b, rw, api.Share{Thread: 7, N: 2})
	holds(t, b, rw2, api.Share{Thread: 7, N: 2})
}

func TestGoneOfPools(t *testing.T) {
	b := made(t, take(5, units(pool, 2), units(pool2, 1)), take(6, units(pool, 1)), take(5, units(pool, 1)))
	b.Gone(5)
	holds(t, b, pool, api.Share{Thread: 6, N: 1})
	holds(t, b, pool2)
	worth(t, b, pool, 3)
	worth(t, b, pool2, 1)
	b.Gone(6)
	worth(t, b, pool, 4)
}

func TestGoneOfAllTogether(t *testing.T) {
	b := made(t, take(5, lock(mutex), written(rw), units(pool, 2)), take(5, read(rw2), down(sem, 1)), take(6, lock(mutex2), read(rw2), units(pool, 1), units(pool2, 1)), write(5, byMutex, 50), write(5, byRw, 51))
	b.Gone(5)
	if n := b.Locks(5); n != 0 {
		t.Errorf("Locks: %d", n)
	}
	for obj, want := range [][]api.Share{mutex: nil, rw: nil, pool: {{Thread: 6, N: 1}}, mutex2: {{Thread: 6, N: 1}}, rw2: {{Thread: 6, N: 1}}, pool2: {{Thread: 6, N: 1}}} {
		holds(t, b, obj, want...)
	}
	// What sems and cells have stays.
	for obj, want := range []int{1, 0, 1, 0, 0, 3, 50, 51, 0, 0, 0, 0} {
		worth(t, b, obj, want)
	}
	comes(t, b, take(6, lock(mutex), written(rw), units(pool, 3)), yes)
	if !b.Bad(6, mutex) || b.Bad(6, mutex2) {
		t.Error("the one is not bad, or the other one is")
	}
}

// P24.4: Read, Write, Restore

// reads fails, if Read tells anything else.
func reads(t *testing.T, b *bank.Bank, by, obj, v int, e api.Errno) {
	t.Helper()
	for range 2 {
		if got, err := b.Read(by, obj); got != v || err != e {
			t.Fatalf("Read(%d, %d): %d, %v, not %d, %v", by, obj, got, err, v, e)
		}
	}
}

func TestReadAndWriteThatAMutexGuards(t *testing.T) {
	b := made(t)
	for _, by := range threads.All() {
		reads(t, b, by, byMutex, 0, api.ErrGuard)
		refused(t, b, write(by, byMutex, 8), code(api.ErrGuard))
	}
	comes(t, b, take(5, lock(mutex2), written(rw), written(rw2), units(pool, 1)), yes)
	// What it holds beside is no leave.
	reads(t, b, 5, byMutex, 0, api.ErrGuard)
	refused(t, b, write(5, byMutex, 8), code(api.ErrGuard))
	comes(t, b, take(5, lock(mutex)), yes)
	reads(t, b, 5, byMutex, 7, api.OK)
	comes(t, b, write(5, byMutex, 8), told{n: 7})
	reads(t, b, 5, byMutex, 8, api.OK)
	comes(t, b, write(5, byMutex, 9), told{n: 8})
	worth(t, b, byMutex, 9)
	for _, by := range []int{0, 4, 6, 63} {
		reads(t, b, by, byMutex, 0, api.ErrGuard)
		refused(t, b, write(by, byMutex, 10), code(api.ErrGuard))
	}
	comes(t, b, unlock(5, mutex), ok)
	reads(t, b, 5, byMutex, 0, api.ErrGuard)
	refused(t, b, write(5, byMutex, 10), code(api.ErrGuard))
	worth(t, b, byMutex, 9)
	// Bad or not: who owns it may.
	comes(t, b, take(5, lock(mutex)), yes)
	b.Gone(5)
	reads(t, b, 5, byMutex, 0, api.ErrGuard)
	comes(t, b, take(6, lock(mutex)), yes)
	reads(t, b, 6, byMutex, 9, api.OK)
	comes(t, b, write(6, byMutex, 11), told{n: 9})
}

func TestReadAndWriteThatARwGuards(t *testing.T) {
	b := made(t, take(5, lock(mutex), lock(mutex2), written(rw2)))
	for _, by := range threads.All() {
		reads(t, b, by, byRw, 0, api.ErrGuard)
		refused(t, b, write(by, byRw, 8), code(api.ErrGuard))
	}
	comes(t, b, take(5, read(rw)), yes)
	comes(t, b, take(63, read(rw)), yes)
	for _, by := range []int{5, 63} {
		reads(t, b, by, byRw, -7, api.OK)
		// Who reads may not write.
		refused(t, b, write(by, byRw, 8), code(api.ErrGuard))
	}
	reads(t, b, 6, byRw, 0, api.ErrGuard)
	comes(t, b, unlock(5, rw), ok)
	reads(t, b, 5, byRw, 0, api.ErrGuard)
	refused(t, b, write(63, byRw, 8), code(api.ErrGuard))
	comes(t, b, unlock(63, rw), ok)
	comes(t, b, take(63, written(rw)), yes)
	comes(t, b, write(63, byRw, 8), told{n: -7})
	reads(t, b, 63, byRw, 8, api.OK)
	reads(t, b, 5, byRw, 0, api.ErrGuard)
	refused(t, b, write(5, byRw, 9), code(api.ErrGuard))
	reads(t, b, 63, byMutex, 0, api.ErrGuard)
}

// words are values, and the lowest 32 bits of them.
var words = [][2]int{
	{0, 0}, {1, 1}, {-1, -1}, {1<<31 - 1, 1<<31 - 1}, {1 << 31, -1 << 31}, {1<<31 + 1, -1<<31 + 1}, {-1 << 31, -1 << 31}, {-1<<31 - 1, 1<<31 - 1},
	{1<<32 - 1, -1}, {1 << 32, 0}, {1<<32 + 5, 5}, {-1 << 32, 0}, {-1<<32 - 5, -5}, {math.MaxInt, -1}, {math.MaxInt - 1, -2}, {math.MinInt, 0}, {math.MinInt + 1, 1},
}

func TestWriteAndRestoreOfTheLowest32Bits(t *testing.T) {
	b := made(t, take(5, lock(mutex), written(rw)))
	was := map[int]int{byMutex: 7, byRw: -7}
	for obj := range was {
		for _, w := range words {
			comes(t, b, write(5, obj, w[0]), told{n: was[obj]})
			worth(t, b, obj, w[1])
			reads(t, b, 5, obj, w[1], api.OK)
			was[obj] = w[1]
		}
		for _, w := range words {
			comes(t, b, restore(obj, w[0]), yes)
			worth(t, b, obj, w[1])
			reads(t, b, 5, obj, w[1], api.OK)
			was[obj] = w[1]
		}
	}
}

func TestRestoreByNobodysLeave(t *testing.T) {
	each(t, func(b *bank.Bank, m model) {
		for _, obj := range []int{byMutex, byRw} {
			for _, w := range words {
				comes(t, b, restore(obj, w[0]), yes)
				worth(t, b, obj, w[1])
				m[obj].value = w[1]
			}
		}
		is(t, b, m)
	})
	b := made(t)
	for _, obj := range others(api.Cell) {
		for _, v := range counts {
			comes(t, b, restore(obj, v), no)
		}
	}
	is(t, b, stand())
}

// P24.4: Clone

// apart fails, if one of two banks knows what is done to the other one.
func apart(t *testing.T, b, q *bank.Bank, m, w model) {
	t.Helper()
	for _, c := range []call{
		take(40, lock(mutex)), take(40, read(rw)), take(40, units(pool, 1)), take(40, down(sem, 1)), post(sem, 1), fill(sem2), restore(byMutex, 60), restore(byRw, 61), write(40, byMutex, 62),
		gone(40), take(40, lock(mutex)), mend(40, mutex), unlock(40, mutex), gone(0), gone(63), give(62, pool, 1), free(31, mutex2, 1),
	} {
		follows(t, b, m, c)
		is(t, q, w)
	}
	follows(t, q, w, take(41, lock(mutex)), take(41, lock(mutex2)), take(41, written(rw2)), take(41, units(pool, 2)), take(41, down(sem, 1)), take(41, down(sem2, 1)), restore(byMutex, 70), restore(byRw, 71), gone(41), gone(31), gone(62))
	is(t, b, m)
}

func TestCloneIsTheSameApart(t *testing.T) {
	each(t, func(b *bank.Bank, m model) {
		q := b.Clone()
		if q == nil || q == b {
			t.Fatal("it is none, or the same one")
		}
		is(t, q, m)
		is(t, b, m)
		apart(t, b, q, m, slices.Clone(m))
	})
	each(t, func(b *bank.Bank, m model) { apart(t, b.Clone(), b, slices.Clone(m), m) })
}

func TestCloneOfAClone(t *testing.T) {
	b := made(t, take(1, lock(mutex), read(rw), units(pool, 1)))
	q := b.Clone()
	comes(t, q, take(2, units(pool, 3), read(rw)), yes)
	q.Gone(1)
	comes(t, q, restore(byMutex, 1), yes)
	r := q.Clone()
	comes(t, r, take(2, lock(mutex)), yes)
	comes(t, r, unlock(2, mutex), ok)
	comes(t, r, take(2, down(sem, 2)), yes)
	is(t, b, stand(take(1, lock(mutex), read(rw), units(pool, 1))))
	is(t, q, stand(take(1, lock(mutex), read(rw), units(pool, 1)), take(2, units(pool, 3), read(rw)), gone(1), restore(byMutex, 1)))
	is(t, r, stand(take(1, lock(mutex)), gone(1), take(2, lock(mutex)), unlock(2, mutex), take(2, units(pool, 3), read(rw)), restore(byMutex, 1), take(2, down(sem, 2))))
}

// Of nil

func TestNil(t *testing.T) {
	var b *bank.Bank
	for _, by := range slices.Concat(some, none) {
		for _, obj := range slices.Concat(nowhere, []int{0, 1, 2, 5, 6}) {
			for _, k := range kinds {
				for _, n := range []int{math.MinInt, -1, 0, 1, math.MaxInt} {
					comes(t, b, call{kind: k, t: by, obj: obj, n: n}, k.wrong())
				}
			}
			for _, n := range []api.Need{lock(obj), read(obj), written(obj), down(obj, 1), units(obj, 1), {}} {
				comes(t, b, take(by, n), no)
				can(t, b, false, n)
				if b.Lost([]api.Need{n}) {
					t.Fatal("it is lost")
				}
			}
			reads(t, b, by, obj, 0, api.ErrKind)
			if n := b.Holds(by, obj); n != 0 || b.Bad(by, obj) {
				t.Fatalf("Holds: %d, or it is bad", n)
			}
			worth(t, b, obj, 0)
			shared(t, b, obj)
		}
		// Not even of no needs.
		comes(t, b, take(by), no)
		if n := b.Locks(by); n != 0 {
			t.Fatalf("Locks: %d", n)
		}
	}
	for _, writers := range []uint64{0, math.MaxUint64} {
		if b.Can(nil, writers) || b.Can([]api.Need{}, writers) || b.Lost(nil) {
			t.Fatal("yes")
		}
	}
	if q := b.Clone(); q != nil {
		t.Errorf("%v", q)
	}
}

// What a zero one answers is open, but it ends, without a panic.
func TestAZeroOneDoesNotPanic(t *testing.T) {
	b := &bank.Bank{}
	for _, by := range slices.Concat(some, none) {
		for _, obj := range slices.Concat(nowhere, []int{0, 1, 2, 5, 6}) {
			for _, k := range kinds {
				c := call{kind: k, t: by, obj: obj, n: 1, way: []api.Need{lock(obj), read(obj), down(obj, 1)}}
				c.on(b)
				c.on(b.Clone())
			}
		}
	}
	look(b, watched, 3)
	look(b.Clone(), watched, 3)
}

// All orders, and drawn ones

func TestAllOrdersOfSomeCalls(t *testing.T) {
	d := []api.Decl{{Kind: api.Mutex}, {Kind: api.Rw}, {Kind: api.Sem, A: 1, B: 2}, {Kind: api.Pool, A: 2}, {Kind: api.Cell, A: 3, B: 0}, {Kind: api.Cell, A: 4, B: 1}}
	var all []call
	for _, by := range []int{0, 63} {
		all = append(all, take(by, lock(0)), take(by, read(1)), take(by, written(1), units(3, 1)), gone(by), unlock(by, 0), free(by, 3, 1), write(by, 4, by))
	}
	all = append(all, unlock(0, 1), mend(63, 0), write(63, 5, 9), take(0, down(2, 1), read(1)), post(2, 1))
	by, met := []int{0, 63}, 0
	var goOn func(*bank.Bank, model, int)
	goOn = func(b *bank.Bank, m model, left int) {
		met++
		if left == 0 {
			return
		}
		for _, c := range all {
			q, w := b.Clone(), slices.Clone(m)
			if got, want := c.on(q), c.on(w); got != want {
				t.Fatalf("%v: %+v, not %+v", c, got, want)
			}
			same(t, look(q, by, len(d)), look(w, by, len(d)))
			goOn(q, w, left-1)
		}
		same(t, look(b, by, len(d)), look(m, by, len(d)))
	}
	goOn(bank.New(d), fresh(d), 3)
	if n := len(all); met != 1+n+n*n+n*n*n {
		t.Errorf("%d were met", met)
	}
}

// drawnObjects are so many that may be.
func drawnObjects(r *draws.Row, n int) []api.Decl {
	d := make([]api.Decl, n)
	var guards []int
	for k := range d {
		d[k].Kind = int(r.Next()%7) + 1
		switch d[k].Kind {
		case api.Mutex, api.Rw:
			guards = append(guards, k)
		case api.Sem:
			d[k].B = []int{1, 2, 5, 1000, int(r.Next()%1000) + 1}[r.Next()%5]
			d[k].A = int(r.Next() % uint64(d[k].B+1))
		case api.Pool:
			d[k].A = []int{1, 2, 5, 1000, int(r.Next()%1000) + 1}[r.Next()%5]
		}
	}
	for k := range d {
		switch {
		case d[k].Kind == api.Cell && len(guards) == 0:
			d[k].Kind = api.Cond
		case d[k].Kind == api.Cell:
			d[k].A, d[k].B = int(int32(r.Next()>>(r.Next()%64))), guards[r.Next()%uint64(len(guards))]
		}
	}
	return d
}

// hand is what drawn calls are drawn from.
type hand struct {
	r    *draws.Row
	m    model
	some []int
}

// thread is one of few, that they meet; at times any number.
func (h hand) thread() int {
	if h.r.Next()%40 == 0 {
		return slices.Concat(some, none)[h.r.Next()%uint64(len(some)+len(none))]
	}
	return h.some[h.r.Next()%uint64(len(h.some))]
}

// object is one of these kinds, if there is one; at times any, or none.
func (h hand) object(kinds ...int) int {
	var l []int
	for obj, o := range h.m {
		if slices.Contains(kinds, o.Kind) {
			l = append(l, obj)
		}
	}
	switch {
	case h.r.Next()%60 == 0:
		return nowhere[h.r.Next()%uint64(len(nowhere))]
	case len(l) == 0 || h.r.Next()%12 == 0:
		return int(h.r.Next()%uint64(len(h.m)+2)) - 1
	}
	return l[h.r.Next()%uint64(len(l))]
}

// count is how many of an object are asked for: few, about as many as there are, or any number.
func (h hand) count(t, obj int) int {
	v, had := h.m.Value(obj), h.m.Holds(t, obj)
	return []int{1, 1, 2, v, v + 1, had, had + 1, v / 2, counts[h.r.Next()%uint64(len(counts))], 0}[h.r.Next()%10]
}

// need is one that most often asks an object for what those of its kind can be asked for.
func (h hand) need(t int) api.Need {
	n := api.Need{Obj: h.object(api.Mutex, api.Rw, api.Sem, api.Pool)}
	for kind, of := range [][]int{{}, {api.Mutex}, {api.Rw}, {api.Rw}, {api.Sem}, {api.Pool}} {
		if h.m.one(n.Obj, of...) != nil && (n.Kind == 0 || h.r.Next()%2 == 0) {
			n.Kind = kind
		}
	}
	if h.r.Next()%40 == 0 {
		n.Kind = []int{0, -1, 1, 2, 3, 4, 5, 6, 7, 1<<32 + 1}[h.r.Next()%10]
	}
	if n.Kind >= api.Down || h.r.Next()%30 == 0 {
		n.N = h.count(t, n.Obj)
	}
	return n
}

// way is none to four needs; at times an object stands there twice, or there is one that it holds.
func (h hand) way(t int) []api.Need {
	var w []api.Need
	if held, is := h.held(t, api.Rw); is && h.r.Next()%4 == 0 {
		return []api.Need{read(held)}
	}
	for range h.r.Next() % 5 {
		if len(w) > 0 && h.r.Next()%5 == 0 {
			again := w[h.r.Next()%uint64(len(w))]
			if again.Kind == api.Read || again.Kind == api.Write {
				again.Kind = []int{api.Read, api.Write}[h.r.Next()%2]
			}
			w = append(w, again)
			continue
		}
		w = append(w, h.need(t))
	}
	return w
}

// held is an object, of these kinds, that a thread holds, if it holds one.
func (h hand) held(t int, kinds ...int) (int, bool) {
	var l []int
	for obj := range h.m {
		if h.m.by(t, obj, kinds...) != nil && h.m.Holds(t, obj) > 0 {
			l = append(l, obj)
		}
	}
	if len(l) == 0 {
		return 0, false
	}
	return l[h.r.Next()%uint64(len(l))], true
}

// owner is, most often, one that holds something of what a call is for, and what that is; of a cell, one that holds its guard.
func (h hand) owner(t, obj int, k kind) (int, int) {
	for _, by := range draws.Shuffled(h.r, h.some) {
		held, is := h.held(by, k.of()...)
		cell := h.m.one(obj, api.Cell)
		switch {
		case h.r.Next()%4 == 0:
			return t, obj
		case k == writes && cell != nil && h.m.locks(by, cell.B):
			return by, obj
		case is:
			return by, held
		}
	}
	return t, obj
}

// die lets some mutexes be bad.
func (h hand) die(b *bank.Bank) {
	for obj := range h.m {
		if t := h.some[h.r.Next()%uint64(len(h.some))]; h.r.Next()%2 == 0 {
			for _, c := range []call{take(t, lock(obj)), gone(t)} {
				c.on(b)
				c.on(h.m)
			}
		}
	}
}

// call is any that is drawn; who lets something go most often holds it.
func (h hand) call() call {
	k := []kind{takes, takes, takes, takes, takes, takes, unlocks, frees, posts, fills, gives, isGone, mends, writes, writes, restores}[h.r.Next()%16]
	c := call{kind: k, t: h.thread()}
	if !k.whose() {
		c.t = 0
	}
	switch k {
	case takes:
		c.way = h.way(c.t)
		return c
	case isGone:
		return c
	}
	c.obj = h.object(k.of()...)
	if k.whose() {
		c.t, c.obj = h.owner(c.t, c.obj, k)
	}
	if k == writes || k == restores {
		c.n = int(h.r.Next() >> (h.r.Next() % 64))
	} else if k != unlocks && k != mends && k != fills {
		c.n = h.count(c.t, c.obj)
	}
	return c
}

// What a call may be, of what the objects are.
const (
	takenNone = iota
	takenAll
	takenNotAll
	takenBad
	refusedLost
	refusedHeld
	refusedSome
	refusedThread
	mutexUnlocked
	mutexBecameLost
	rwUnlocked
	unlockOfOthers
	unlockOfNobodys
	mutexFreed
	badFreed
	rwFreed
	poolFreed
	freeOfNone
	posted
	postOfNone
	postOver
	filled
	fullFilled
	given
	giveOfNone
	giveOfMore
	goneWithLocks
	goneWithUnits
	goneWithNothing
	mended
	mendOfSound
	mendOfOthers
	wroteByMutex
	wroteByRw
	wroteByReader
	wroteByNone
	restored
	ofNoKind
	cases
)

// which is what a call is, of what a model is ahead of it, and of what it tells.
func (m model) which(c call, said told) int {
	if c.kind == takes {
		return m.whichTake(c, said)
	}
	if c.kind == isGone {
		return m.whichGone(c.t)
	}
	o := m.one(c.obj, c.kind.of()...)
	if o == nil || c.kind.whose() && m.by(c.t, c.obj, o.Kind) == nil {
		return ofNoKind
	}
	switch c.kind {
	case unlocks, frees, mends:
		return m.whichLetsGo(c, o, said)
	case writes:
		return m.whichWrites(c, o)
	case restores:
		return restored
	case fills:
		return []int{fullFilled, filled}[min(said.n, 1)]
	case posts:
		return map[api.Errno]int{api.OK: posted, api.ErrArg: postOfNone, api.ErrOver: postOver}[said.code]
	}
	return map[api.Errno]int{api.OK: given, api.ErrArg: giveOfNone, api.ErrOwner: giveOfMore}[said.code]
}

func (m model) whichTake(c call, said told) int {
	bad := func(n api.Need) bool { return m[n.Obj].bad }
	switch {
	case c.t < 0 || c.t > 63:
		return refusedThread
	case m.Lost(c.way):
		return refusedLost
	case !said.yes && m.Can(c.way, 0):
		return refusedHeld
	case !said.yes:
		return refusedSome
	case len(c.way) == 0:
		return takenNone
	case slices.ContainsFunc(c.way, bad):
		return takenBad
	}
	w := slices.Clone(m)
	for _, n := range c.way {
		if !w.Take(c.t, []api.Need{n}) {
			return takenNotAll
		}
	}
	return takenAll
}

func (m model) whichGone(t int) int {
	units := 0
	for obj := range m {
		units += m.Holds(t, obj)
	}
	switch {
	case m.Locks(t) > 0:
		return goneWithLocks
	case units > 0:
		return goneWithUnits
	}
	return goneWithNothing
}

func (m model) whichLetsGo(c call, o *thing, said told) int {
	owns, has := m.Holds(c.t, c.obj) > 0, o.Kind == api.Mutex
	switch {
	case c.kind == mends && owns && o.bad:
		return mended
	case c.kind == mends && owns:
		return mendOfSound
	case c.kind == mends:
		return mendOfOthers
	case c.kind == frees && !said.yes:
		return freeOfNone
	case c.kind == frees && has:
		return []int{mutexFreed, badFreed}[badness(o)]
	case c.kind == frees:
		return map[int]int{api.Rw: rwFreed, api.Pool: poolFreed}[o.Kind]
	case owns && has:
		return []int{mutexUnlocked, mutexBecameLost}[badness(o)]
	case owns:
		return rwUnlocked
	case o.all() > 0:
		return unlockOfOthers
	}
	return unlockOfNobodys
}

func badness(o *thing) int {
	if o.bad {
		return 1
	}
	return 0
}

func (m model) whichWrites(c call, o *thing) int {
	guard := m[o.B]
	switch {
	case guard.held[c.t] == 0:
		return wroteByNone
	case guard.Kind == api.Mutex:
		return wroteByMutex
	case guard.held[c.t] == 2:
		return wroteByRw
	}
	return wroteByReader
}

func TestDrawnCalls(t *testing.T) {
	tally := [cases]int{}
	r := draws.Row(243)
	for range 3000 {
		d := drawnObjects(&r, int(r.Next()%33))
		if r.Next()%8 > 0 {
			d = drawnObjects(&r, 1+int(r.Next()%6))
		}
		if _, e := decl.Check(d); e != api.OK {
			t.Fatalf("%v: %v", d, e)
		}
		b, m := bank.New(d), fresh(d)
		is(t, b, m)
		h := hand{&r, m, [][]int{{0, 63}, {0, 31, 62}, {0, 1, 2, 5, 31, 32, 62, 63}}[r.Next()%3]}
		h.die(b)
		by := slices.Concat(h.some, []int{-1, 64})
		for range r.Next() % 100 {
			if r.Next()%20 == 0 {
				b, m = b.Clone(), slices.Clone(m)
				h.m = m
			}
			c, ahead := h.call(), slices.Clone(m)
			want := c.on(m)
			if got := c.on(b); got != want {
				t.Fatalf("%v: %+v, not %+v", c, got, want)
			}
			tally[ahead.which(c, want)]++
			same(t, look(b, by, len(d)), look(m, by, len(d)))
			// Of ways of several needs, too, beside writers that are drawn.
			way, writers := h.way(h.thread()), r.Next()&r.Next()
			if got, want := b.Can(way, writers), m.Can(way, writers); got != want {
				t.Fatalf("Can(%v, %x): %t", way, writers, got)
			}
			if got, want := b.Lost(way), m.Lost(way); got != want {
				t.Fatalf("Lost(%v): %t", way, got)
			}
		}
	}
	for k, n := range tally {
		if n < 200 {
			t.Errorf("%d was met %d times", k, n)
		}
	}
}

// P24.5

// once is a way of objects each of which stands once, that can be met, as far as it may be drawn.
func (h hand) once(t int) []api.Need {
	var w []api.Need
	for range 1 + h.r.Next()%6 {
		n := h.need(t)
		stands := slices.ContainsFunc(w, func(a api.Need) bool { return a.Obj == n.Obj })
		if !stands && h.m.Can([]api.Need{n}, 0) && !h.m.locks(t, n.Obj) {
			w = append(w, n)
		}
	}
	return w
}

func TestWhatWasTakenAndLetGoIsAsItWas(t *testing.T) {
	tally := map[string]int{}
	r := draws.Row(244)
	for range 1500 {
		d := drawnObjects(&r, 1+int(r.Next()%16))
		b, m := bank.New(d), fresh(d)
		h := hand{&r, m, []int{0, 2, 31, 63}}
		h.die(b)
		for range r.Next() % 20 {
			c := h.call()
			c.on(b)
			c.on(m)
		}
		for range 10 {
			by := h.some[r.Next()%4]
			way := h.once(by)
			ahead := look(b, watched, len(d))
			comes(t, b, take(by, way...), yes)
			for _, n := range draws.Shuffled(&r, way) {
				switch {
				case n.Kind == api.Down:
					comes(t, b, post(n.Obj, n.N), ok)
					tally["sem"]++
				case n.Kind == api.Take && r.Next()%2 == 0:
					comes(t, b, give(by, n.Obj, n.N), ok)
					tally["pool, given"]++
				case n.Kind == api.Take:
					comes(t, b, free(by, n.Obj, n.N), yes)
					tally["pool, free"]++
				default:
					if m[n.Obj].bad {
						tally["bad"]++
					}
					comes(t, b, free(by, n.Obj, n.N), yes)
					tally[[]string{api.Lock: "mutex", api.Read: "read", api.Write: "write"}[n.Kind]]++
				}
			}
			same(t, look(b, watched, len(d)), ahead)
			// Nor is anything else than what calls come to then.
			is(t, b, m)
		}
	}
	for _, k := range []string{"sem", "pool, given", "pool, free", "bad", "mutex", "read", "write"} {
		if tally[k] < 2000 {
			t.Errorf("%s was met %d times", k, tally[k])
		}
	}
}

// Rules that hold everywhere

func TestBanksKnowNothingOfOneAnother(t *testing.T) {
	r := draws.Row(245)
	for range 100 {
		banks, wants := make([]*bank.Bank, 3), make([]model, 3)
		// Two are of one list.
		d := drawnObjects(&r, 1+int(r.Next()%8))
		for k := range banks {
			if k == 2 {
				d = drawnObjects(&r, 1+int(r.Next()%8))
			}
			banks[k], wants[k] = bank.New(d), fresh(d)
		}
		for range 40 {
			i := r.Next() % 3
			// Those that were made of one another know nothing of it, too.
			if j := r.Next() % 3; r.Next()%12 == 0 {
				banks[i], wants[i] = banks[j].Clone(), slices.Clone(wants[j])
			}
			follows(t, banks[i], wants[i], hand{&r, wants[i], []int{0, 31, 63}}.call())
			for k := range banks {
				is(t, banks[k], wants[k])
			}
		}
	}
}

func TestAskingChangesNothing(t *testing.T) {
	r := draws.Row(246)
	for range 200 {
		d := drawnObjects(&r, 1+int(r.Next()%10))
		asked, other := bank.New(d), bank.New(d)
		h := hand{&r, fresh(d), []int{0, 31, 63}}
		for range 40 {
			c := h.call()
			for range r.Next() % 3 {
				look(asked, watched, len(d))
				asked.Can(c.way, r.Next())
				asked.Lost(c.way)
				c.on(asked.Clone())
			}
			c.on(h.m)
			if a, b := c.on(asked), c.on(other); a != b {
				t.Fatalf("%v: %+v, and %+v without asking", c, a, b)
			}
		}
		same(t, look(asked, watched, len(d)), look(other, watched, len(d)))
	}
}

func TestTheSameCallsToldAgain(t *testing.T) {
	said := func() []answer {
		r := draws.Row(247)
		var l []answer
		for range 100 {
			d := drawnObjects(&r, 1+int(r.Next()%10))
			b, h := bank.New(d), hand{&r, fresh(d), []int{0, 31, 63}}
			for range 30 {
				c := h.call()
				c.on(h.m)
				l = append(l, answer{told: c.on(b)})
				l = append(l, look(b, []int{0, 63}, len(d))...)
			}
		}
		return l
	}
	same(t, said(), said())
}
