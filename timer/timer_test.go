package timer_test

import (
	"cmp"
	"maps"
	"math"
	"slices"
	"testing"

	"logjam/internal/draws"
	"logjam/timer"
)

// edges are ids and times that numbers of fewer bits, or a difference of two, would take for others.
var edges = []int{math.MinInt, math.MinInt + 1, -1 << 32, -1<<31 - 1, -1 << 31, -65, -2, -1, 0, 1, 2, 63, 64, 1 << 30, 1<<31 - 1, 1 << 31, 1 << 32, math.MaxInt - 1, math.MaxInt}

// model is what timers should do: when each id is due, gone through anew for each answer.
type model map[int]int

// row is all ids, by time, then by id.
func (m model) row() []int {
	return slices.SortedFunc(maps.Keys(m), func(a, b int) int {
		return cmp.Or(cmp.Compare(m[a], m[b]), cmp.Compare(a, b))
	})
}

func (m model) drop(id int) bool {
	_, ok := m[id]
	delete(m, id)
	return ok
}

func (m model) due(now int) []int {
	var due []int
	for _, id := range m.row() {
		if m[id] <= now {
			due = append(due, id)
		}
	}
	for _, id := range due {
		delete(m, id)
	}
	return due
}

// first fails, if what First tells is anything but what should be.
func first(t *testing.T, r *timer.Timers, id, at int, ok bool) {
	t.Helper()
	if i, a, o := r.First(); i != id || a != at || o != ok {
		t.Fatalf("first: %d, %d, %v, not %d, %d, %v", i, a, o, id, at, ok)
	}
}

// at fails, if what At tells of an id is anything but what should be.
func at(t *testing.T, r *timer.Timers, id, want int, ok bool) {
	t.Helper()
	if a, o := r.At(id); a != want || o != ok {
		t.Fatalf("at of %d: %d, %v, not %d, %v", id, a, o, want, ok)
	}
}

// due fails, if what Due tells is anything but what should be.
func due(t *testing.T, r *timer.Timers, now int, want ...int) {
	t.Helper()
	if got := r.Due(now); !slices.Equal(got, want) {
		t.Fatalf("due at %d: %v, not %v", now, got, want)
	}
}

// drop fails, if what Drop tells is anything but what should be.
func drop(t *testing.T, r *timer.Timers, id int, want bool) {
	t.Helper()
	if got := r.Drop(id); got != want {
		t.Fatalf("dropped %d: %v, not %v", id, got, want)
	}
}

// has fails, if timers have anything but what a model has. It asks without changing, but at a clone, of which it takes all.
func has(t *testing.T, r *timer.Timers, m model) {
	t.Helper()
	if r.Len() != len(m) {
		t.Fatalf("%d, not %d", r.Len(), len(m))
	}
	for _, id := range append(m.row(), edges...) {
		want, ok := m[id]
		at(t, r, id, want, ok)
	}
	c := r.Clone()
	for _, id := range m.row() {
		first(t, c, id, m[id], true)
		drop(t, c, id, true)
	}
	first(t, c, 0, 0, false)
	if r.Len() != len(m) {
		t.Fatalf("%d behind its clone, not %d", r.Len(), len(m))
	}
}

// set is timers and a model that have the same, set in that order.
func set(pairs ...[2]int) (*timer.Timers, model) {
	r, m := &timer.Timers{}, model{}
	for _, p := range pairs {
		r.Set(p[0], p[1])
		m[p[0]] = p[1]
	}
	return r, m
}

// P5.1

func TestTheExample(t *testing.T) {
	r, _ := set([2]int{1, 9}, [2]int{2, 5}, [2]int{1, 5})
	due(t, r, 5, 1, 2)
	has(t, r, model{})
}

func TestZeroTimersHaveNone(t *testing.T) {
	var r timer.Timers
	for range 2 {
		for _, n := range edges {
			at(t, &r, n, 0, false)
			drop(t, &r, n, false)
			due(t, &r, n)
		}
		first(t, &r, 0, 0, false)
		has(t, &r, model{})
	}
	r.Set(3, 4)
	has(t, &r, model{3: 4})
}

func TestACloneOfZeroTimersIsOneOfItsOwn(t *testing.T) {
	var r timer.Timers
	c := r.Clone()
	if c == nil || c == &r {
		t.Fatal("no clone")
	}
	c.Set(1, 2)
	has(t, c, model{1: 2})
	has(t, &r, model{})
	r.Set(3, 4)
	has(t, c, model{1: 2})
	has(t, &r, model{3: 4})
}

func TestAnIdIsDueAtTheTimeThatWasSetLast(t *testing.T) {
	others := [][2]int{{-1, 10}, {2, 10}, {3, 20}, {4, 30}, {5, 30}, {6, 40}}
	for _, before := range []int{0, 10, 15, 30, 40, 50} {
		for _, now := range []int{-5, 0, 10, 15, 20, 30, 35, 40, 50, 60} {
			r, m := set(others...)
			r.Set(1, before)
			r.Set(1, now)
			m[1] = now
			has(t, r, m)
			for _, k := range []int{before, now} {
				due(t, r, k, m.due(k)...)
				has(t, r, m)
			}
		}
	}
}

func TestOnlyTheLastTimeCounts(t *testing.T) {
	r, _ := set([2]int{1, 5}, [2]int{1, 7})
	due(t, r, 6)
	at(t, r, 1, 7, true)
	due(t, r, 7, 1)
	due(t, r, math.MaxInt)

	r, _ = set([2]int{1, 7}, [2]int{1, 5})
	due(t, r, 5, 1)
	due(t, r, 7)

	r, _ = set([2]int{1, 5}, [2]int{1, 5})
	due(t, r, 5, 1)
	due(t, r, 5)
}

func TestEachEdgeIsAnIdOfItsOwn(t *testing.T) {
	for _, k := range edges {
		r, m := set()
		for _, id := range edges {
			r.Set(id, k)
			m[id] = k
			has(t, r, m)
		}
		if k > math.MinInt {
			due(t, r, k-1)
		}
		has(t, r, m)
		due(t, r, k, slices.Sorted(slices.Values(edges))...)
		has(t, r, model{})
	}
}

func TestEachEdgeIsATimeOfItsOwn(t *testing.T) {
	r, m := set()
	for i, k := range slices.Backward(edges) {
		r.Set(-i, k)
		m[-i] = k
		has(t, r, m)
	}
	for i, k := range edges {
		if k > math.MinInt {
			due(t, r, k-1)
		}
		first(t, r, -i, k, true)
		due(t, r, k, -i)
		delete(m, -i)
		has(t, r, m)
	}
	first(t, r, 0, 0, false)
}

func TestWhatIsDroppedIsDueNoMore(t *testing.T) {
	for _, gone := range []int{1, 2, 3, 4, 5, 6, 7} {
		r, m := set([2]int{4, 1}, [2]int{3, 2}, [2]int{5, 2}, [2]int{7, 3}, [2]int{1, 4}, [2]int{2, 4}, [2]int{6, 5})
		drop(t, r, gone, true)
		m.drop(gone)
		has(t, r, m)
		for range 2 {
			drop(t, r, gone, false)
			has(t, r, m)
		}
		due(t, r, 9, m.due(9)...)
		drop(t, r, gone, false)
	}
}

func TestWhatWasNeverSetIsNotDropped(t *testing.T) {
	r, m := set([2]int{1, 0}, [2]int{5, 0})
	for _, id := range edges {
		if id != 1 {
			drop(t, r, id, false)
			has(t, r, m)
		}
	}
}

func TestWhatIsDroppedMayBeSetAgain(t *testing.T) {
	r, m := set([2]int{1, 5}, [2]int{2, 6})
	drop(t, r, 1, true)
	r.Set(1, 7)
	m[1] = 7
	has(t, r, m)
	due(t, r, 6, 2)
	due(t, r, 7, 1)
	drop(t, r, 1, false)
}

func TestFirstTellsTheLeastIdOfTheLeastTime(t *testing.T) {
	r, _ := set([2]int{7, 3}, [2]int{-2, 4}, [2]int{5, 3}, [2]int{6, 3})
	for range 3 {
		first(t, r, 5, 3, true)
	}
	if r.Len() != 4 {
		t.Fatal("First took one")
	}
	drop(t, r, 5, true)
	first(t, r, 6, 3, true)
	r.Set(8, 3)
	first(t, r, 6, 3, true)
	r.Set(-1, 3)
	first(t, r, -1, 3, true)
	r.Set(9, 2)
	first(t, r, 9, 2, true)
}

func TestFirstOfOneAtZeroIsTold(t *testing.T) {
	r, _ := set([2]int{0, 0})
	first(t, r, 0, 0, true)
	at(t, r, 0, 0, true)
	drop(t, r, 0, true)
	first(t, r, 0, 0, false)
	at(t, r, 0, 0, false)
}

func TestDueTellsByTimeThenById(t *testing.T) {
	pairs := [][2]int{{9, -3}, {2, 4}, {-7, 4}, {5, -3}, {0, 0}, {3, 4}, {1, 7}}
	for _, step := range []struct {
		now  int
		want []int
	}{
		{math.MinInt, nil},
		{-4, nil},
		{-3, []int{5, 9}},
		{-1, []int{5, 9}},
		{0, []int{5, 9, 0}},
		{3, []int{5, 9, 0}},
		{4, []int{5, 9, 0, -7, 2, 3}},
		{6, []int{5, 9, 0, -7, 2, 3}},
		{7, []int{5, 9, 0, -7, 2, 3, 1}},
		{math.MaxInt, []int{5, 9, 0, -7, 2, 3, 1}},
	} {
		r, m := set(pairs...)
		due(t, r, step.now, step.want...)
		for _, id := range step.want {
			at(t, r, id, 0, false)
			drop(t, r, id, false)
			delete(m, id)
		}
		has(t, r, m)
	}
}

func TestDueAtTheSameTimeTellsNobodyAgain(t *testing.T) {
	r, m := set([2]int{1, 5}, [2]int{2, 5}, [2]int{3, 6})
	due(t, r, 5, 1, 2)
	for range 3 {
		due(t, r, 5)
	}
	has(t, r, model{3: m[3]})
	r.Set(1, 5)
	r.Set(4, -9)
	due(t, r, 5, 4, 1)
	due(t, r, 5)
}

func TestWhatIsSetBehindADueThatToldItIsToldAgain(t *testing.T) {
	for _, again := range []int{math.MinInt, 4, 5, 6, math.MaxInt} {
		r, _ := set([2]int{1, 5}, [2]int{2, 9})
		due(t, r, 5, 1)
		r.Set(1, again)
		has(t, r, model{1: again, 2: 9})
		due(t, r, again, model{1: again, 2: 9}.due(again)...)
		at(t, r, 1, 0, false)
	}
}

func TestACloneAndItsOriginGoTheirOwnWays(t *testing.T) {
	pairs := [][2]int{{1, 5}, {2, 3}, {3, 9}, {4, 3}, {5, 7}}
	changes := []func(*timer.Timers, model){
		func(r *timer.Timers, m model) { r.Set(1, 1); m[1] = 1 },
		func(r *timer.Timers, m model) { r.Set(6, 4); m[6] = 4 },
		func(r *timer.Timers, m model) { r.Drop(2); m.drop(2) },
		func(r *timer.Timers, m model) { r.Due(5); m.due(5) },
		func(r *timer.Timers, m model) { r.Due(99); m.due(99) },
	}
	for _, a := range changes {
		for _, b := range changes {
			r, m := set(pairs...)
			c, n := r.Clone(), maps.Clone(m)
			has(t, c, n)
			a(r, m)
			has(t, r, m)
			has(t, c, n)
			b(c, n)
			has(t, r, m)
			has(t, c, n)
			r.Set(7, 4)
			m[7] = 4
			c.Set(8, 4)
			n[8] = 4
			has(t, r, m)
			has(t, c, n)
		}
	}
}

func TestAListThatDueAnsweredIsTheCallersOwn(t *testing.T) {
	r, m := set([2]int{1, 1}, [2]int{2, 2}, [2]int{3, 3}, [2]int{4, 4}, [2]int{5, 5})
	a := r.Due(2)
	m.due(2)
	a = append(a, 8, 9)
	for i := range a {
		a[i] = -7
	}
	has(t, r, m)
	b := r.Due(4)
	m.due(4)
	if !slices.Equal(b, []int{3, 4}) || !slices.Equal(a, []int{-7, -7, -7, -7}) {
		t.Fatal(a, b)
	}
	clear(a)
	r.Set(1, 1)
	m[1] = 1
	r.Set(2, 1)
	m[2] = 1
	if !slices.Equal(b, []int{3, 4}) {
		t.Fatal(b)
	}
	clear(b[:cap(b)])
	has(t, r, m)
}

func TestNilHasNoneAndSetsNothing(t *testing.T) {
	var r *timer.Timers
	for range 2 {
		for _, n := range edges {
			r.Set(n, n)
			at(t, r, n, 0, false)
			drop(t, r, n, false)
			due(t, r, n)
		}
		first(t, r, 0, 0, false)
		if r.Len() != 0 || r.Clone() != nil {
			t.Fatal(r.Len(), r.Clone())
		}
	}
}

func TestTimersDoAsTheModelInDrawnOrders(t *testing.T) {
	for seed := range 60 {
		d := draws.Row(seed)
		ids, times := 1+int(d.Next()%40), 1+int(d.Next()%40)
		all := []*timer.Timers{{}}
		models := []model{{}}
		for range 300 {
			k := int(d.Next() % uint64(len(all)))
			r, m := all[k], models[k]
			id, when := int(d.Next()%uint64(ids))-ids/2, int(d.Next()%uint64(times))-times/2
			switch d.Next() % 8 {
			case 0, 1, 2, 3:
				r.Set(id, when)
				m[id] = when
			case 4, 5:
				drop(t, r, id, m.drop(id))
			case 6:
				due(t, r, when-times/3, m.due(when-times/3)...)
			case 7:
				if len(all) < 4 {
					all, models = append(all, r.Clone()), append(models, maps.Clone(m))
				}
			}
			for i := range all {
				has(t, all[i], models[i])
			}
		}
	}
}

func TestTimersDoAsTheModelWithManyIds(t *testing.T) {
	d := draws.Row(5)
	r, m := set()
	for range 20000 {
		id, when := int(d.Next()), int(d.Next()%5000)
		r.Set(id, when)
		m[id] = when
	}
	for _, id := range m.row()[3000:9000] {
		if d.Next()%2 == 0 {
			drop(t, r, id, m.drop(id))
		} else {
			m[id] = int(d.Next() % 5000)
			r.Set(id, m[id])
		}
	}
	has(t, r, m)
	for now := 0; len(m) > 0; now += 97 {
		due(t, r, now, m.due(now)...)
	}
	has(t, r, m)
}

// P5.2

// orders calls f with each order of a list.
func orders(l []int, f func([]int)) {
	var lay func(int)
	lay = func(n int) {
		if n == len(l) {
			f(l)
			return
		}
		for i := n; i < len(l); i++ {
			l[n], l[i] = l[i], l[n]
			lay(n + 1)
			l[n], l[i] = l[i], l[n]
		}
	}
	lay(0)
}

func TestDueAgainAndAgainTellsEachOnceInWhateverOrderTheyWereSet(t *testing.T) {
	when := []int{4, 1, 4, 2, 9, 1, 4}
	want := []int{1, 5, 3, 0, 2, 6, 4}
	orders([]int{0, 1, 2, 3, 4, 5, 6}, func(ids []int) {
		r := &timer.Timers{}
		for _, id := range ids {
			r.Set(id, when[id])
		}
		var told []int
		for _, now := range []int{-1, 0, 1, 1, 3, 4, 8, 8, 9, 20} {
			for _, id := range r.Due(now) {
				if when[id] > now {
					t.Fatalf("%d, due at %d, is told at %d", id, when[id], now)
				}
				told = append(told, id)
			}
		}
		if !slices.Equal(told, want) {
			t.Fatalf("set as %v: %v", ids, told)
		}
	})
}

func TestDueWithDrawnTimesThatDoNotFall(t *testing.T) {
	for seed := range 200 {
		d := draws.Row(seed)
		r, m := set()
		for range 1 + d.Next()%100 {
			id, when := int(d.Next()%64), int(d.Next()%50)
			r.Set(id, when)
			m[id] = when
		}
		want := m.row()
		var told []int
		for now := 0; now <= 50; now += int(d.Next() % 7) {
			told = append(told, r.Due(now)...)
			if f, at, ok := r.First(); ok && at <= now {
				t.Fatalf("%d is due at %d, behind %d", f, at, now)
			}
		}
		told = append(told, r.Due(50)...)
		if !slices.Equal(told, want) {
			t.Fatalf("seed %d: %v, not %v", seed, told, want)
		}
	}
}

func TestDueTellsWhatIsSetOnTheWay(t *testing.T) {
	r, _ := set([2]int{1, 10}, [2]int{2, 20}, [2]int{3, 30})
	due(t, r, 10, 1)
	r.Set(4, 5)
	r.Set(3, 20)
	r.Set(5, 15)
	due(t, r, 10, 4)
	due(t, r, 15, 5)
	drop(t, r, 2, true)
	due(t, r, 25, 3)
	due(t, r, 30)
}
