package ring_test

import (
	"math"
	"runtime"
	"slices"
	"strconv"
	"testing"
	"weak"

	"logjam/internal/draws"
	"logjam/ring"
)

const most = 4096

// beside are places that no row has.
var beside = []int{-1, -2, -most, -1 << 31, -1 << 32, math.MinInt, math.MinInt + 1, most, most + 1, 1 << 31, 1 << 32, math.MaxInt - 1, math.MaxInt}

// has fails, if a row has anything but those of a list.
func has[T comparable](t *testing.T, r *ring.Ring[T], want []T) {
	t.Helper()
	var none T
	if r.Len() != len(want) {
		t.Fatalf("%d, not %d", r.Len(), len(want))
	}
	if got := r.All(); !slices.Equal(got, want) {
		t.Fatalf("%v, not %v", got, want)
	}
	for i, x := range want {
		if got, ok := r.At(i); got != x || !ok {
			t.Fatalf("at %d of %v: %v, %v", i, want, got, ok)
		}
	}
	for _, i := range append([]int{len(want), len(want) + 1, 2*len(want) + 1}, beside...) {
		if got, ok := r.At(i); got != none || ok {
			t.Fatalf("at %d of %v: %v, %v", i, want, got, ok)
		}
	}
}

// taken fails, if what was taken is anything but what should be.
func taken[T comparable](t *testing.T, got T, ok bool, want T, is bool) {
	t.Helper()
	if got != want || ok != is {
		t.Fatalf("taken: %v, %v, not %v, %v", got, ok, want, is)
	}
}

// filled is a row of a room, with 0, 1, 2 .. put behind till it is full, and these.
func filled(t *testing.T, room int) (*ring.Ring[int], []int) {
	t.Helper()
	r, l := ring.New[int](room), []int{}
	for k := range room {
		if !r.Back(k) {
			t.Fatalf("no room for number %d of %d", k, room)
		}
		l = append(l, k)
	}
	return r, l
}

// model is what a row should do, told by a list that is laid anew each time.
type model[T any] struct {
	l    []T
	room int
}

func (m *model[T]) back(x T) bool {
	if len(m.l) == m.room {
		return false
	}
	m.l = append(slices.Clone(m.l), x)
	return true
}

func (m *model[T]) front(x T) bool {
	if len(m.l) == m.room {
		return false
	}
	m.l = append([]T{x}, m.l...)
	return true
}

func (m *model[T]) popBack() (x T, ok bool) {
	if len(m.l) > 0 {
		n := len(m.l) - 1
		x, ok, m.l = m.l[n], true, m.l[:n]
	}
	return x, ok
}

func (m *model[T]) popFront() (x T, ok bool) {
	if len(m.l) > 0 {
		x, ok, m.l = m.l[0], true, m.l[1:]
	}
	return x, ok
}

// P4.1

func TestTheExample(t *testing.T) {
	r := ring.New[int](3)
	if !r.Back(1) || !r.Back(2) || !r.Front(3) {
		t.Fatal("no room")
	}
	has(t, r, []int{3, 1, 2})
}

func TestANewRowHasNothing(t *testing.T) {
	for _, room := range []int{math.MinInt, -1, 0, 1, 2, most, math.MaxInt} {
		r := ring.New[int](room)
		has(t, r, nil)
		for range 3 {
			x, ok := r.PopBack()
			taken(t, x, ok, 0, false)
			x, ok = r.PopFront()
			taken(t, x, ok, 0, false)
		}
		has(t, r, nil)
	}
}

// The nearest room that a row may have is held: below 0 it is 0, above 4096 it is 4096.
func TestARoomIsHeld(t *testing.T) {
	for _, x := range []struct{ room, want int }{
		{math.MinInt, 0}, {math.MinInt + 1, 0}, {-1 << 32, 0}, {-most, 0}, {-2, 0}, {-1, 0}, {0, 0},
		{1, 1}, {2, 2}, {3, 3}, {4, 4}, {5, 5}, {7, 7}, {8, 8}, {9, 9}, {16, 16}, {17, 17}, {100, 100}, {1000, 1000},
		{most - 1, most - 1}, {most, most}, {most + 1, most}, {2 * most, most}, {1<<16 + 1, most}, {1 << 31, most}, {1<<32 + 1, most},
		{math.MaxInt - 1, most}, {math.MaxInt, most},
	} {
		for name, put := range map[string]func(r *ring.Ring[int], n int) bool{
			"behind":       (*ring.Ring[int]).Back,
			"ahead":        (*ring.Ring[int]).Front,
			"at both ends": func(r *ring.Ring[int], n int) bool { return n%2 == 0 && r.Back(n) || n%2 == 1 && r.Front(n) },
		} {
			r, n := ring.New[int](x.room), 0
			for n <= most && put(r, n) {
				n++
			}
			if n != x.want || r.Len() != x.want {
				t.Errorf("of room %d: %d put %s, %d in it, not %d", x.room, n, name, r.Len(), x.want)
			}
		}
	}
}

func TestARowThatIsFullTakesNoMore(t *testing.T) {
	for _, room := range []int{0, 1, 2, 3, 4, 7, 8, 100, most} {
		r, l := filled(t, room)
		for range 3 {
			if r.Back(-1) || r.Front(-2) {
				t.Fatalf("room %d: put, though it is full", room)
			}
			has(t, r, l)
		}
	}
}

func TestARowThatWasFullHasRoomAgain(t *testing.T) {
	for _, room := range []int{1, 2, 3, 8, most} {
		r, l := filled(t, room)
		x, ok := r.PopFront()
		taken(t, x, ok, 0, true)
		if !r.Back(-1) || r.Back(-2) || r.Front(-2) {
			t.Fatalf("room %d: not one more behind", room)
		}
		l = append(l[1:], -1)
		has(t, r, l)
		x, ok = r.PopBack()
		taken(t, x, ok, -1, true)
		if !r.Front(-3) || r.Front(-4) || r.Back(-4) {
			t.Fatalf("room %d: not one more ahead", room)
		}
		has(t, r, append([]int{-3}, l[:len(l)-1]...))
	}
}

// A row that was full is taken from at each end in turn, till nothing is left: then nothing is answered, and it has its room again.
func TestARowIsEmptied(t *testing.T) {
	for _, room := range []int{1, 2, 3, 8, 100} {
		r, l := filled(t, room)
		for k := 0; len(l) > 0; k++ {
			if k%2 == 0 {
				x, ok := r.PopFront()
				taken(t, x, ok, l[0], true)
				l = l[1:]
			} else {
				x, ok := r.PopBack()
				taken(t, x, ok, l[len(l)-1], true)
				l = l[:len(l)-1]
			}
			has(t, r, l)
		}
		for range 3 {
			x, ok := r.PopFront()
			taken(t, x, ok, 0, false)
			x, ok = r.PopBack()
			taken(t, x, ok, 0, false)
			has(t, r, nil)
		}
		for k := range room {
			if !r.Front(k) {
				t.Fatalf("room %d: none for number %d", room, k)
			}
		}
		if r.Front(room) || r.Len() != room {
			t.Fatalf("room %d: %d", room, r.Len())
		}
	}
}

func TestOneAlone(t *testing.T) {
	r := ring.New[string](1)
	for k := range 5 {
		s := strconv.Itoa(k)
		put, pop := r.Back, r.PopFront
		if k%2 == 1 {
			put = r.Front
		}
		if k > 2 {
			pop = r.PopBack
		}
		if !put(s) || r.Back("x") || r.Front("y") {
			t.Fatal(s, "not alone")
		}
		has(t, r, []string{s})
		x, ok := pop()
		taken(t, x, ok, s, true)
		has(t, r, nil)
	}
}

func TestAtThePlaces(t *testing.T) {
	r := ring.New[string](5)
	for _, s := range []string{"c", "d", "e"} {
		r.Back(s)
	}
	r.Front("b")
	r.Front("a")
	for _, x := range []struct {
		i    int
		want string
		ok   bool
	}{
		{0, "a", true}, {1, "b", true}, {2, "c", true}, {3, "d", true}, {4, "e", true},
		{5, "", false}, {6, "", false}, {9, "", false}, {10, "", false}, {-1, "", false}, {-5, "", false}, {math.MinInt, "", false}, {math.MaxInt, "", false},
	} {
		if got, ok := r.At(x.i); got != x.want || ok != x.ok {
			t.Errorf("at %d: %q, %v", x.i, got, ok)
		}
	}
	r.PopFront()
	r.PopBack()
	has(t, r, []string{"b", "c", "d"})
}

// A row goes round and round, further than its room, at either end and however many are in it.
func TestARowGoesRound(t *testing.T) {
	for _, room := range []int{1, 2, 3, 4, 5, 7, 8, 13} {
		for in := 1; in <= room; in++ {
			r, l := ring.New[int](room), []int{}
			for k := range in {
				r.Back(k)
				l = append(l, k)
			}
			for k := in; k < in+5*room; k++ {
				x, ok := r.PopFront()
				taken(t, x, ok, l[0], true)
				if !r.Back(k) {
					t.Fatalf("room %d: no room behind %d", room, in)
				}
				l = append(l[1:], k)
				has(t, r, l)
			}
			for k := -1; k > -7*room; k-- {
				x, ok := r.PopBack()
				taken(t, x, ok, l[in-1], true)
				if !r.Front(k) {
					t.Fatalf("room %d: no room ahead of %d", room, in)
				}
				l = append([]int{k}, l[:in-1]...)
				has(t, r, l)
			}
		}
	}
}

func TestTheGreatestRowGoesRound(t *testing.T) {
	r, l := filled(t, most)
	for k := most; k < 3*most+7; k++ {
		x, ok := r.PopFront()
		taken(t, x, ok, l[0], true)
		if !r.Back(k) || r.Back(-1) || r.Front(-1) {
			t.Fatal("not one more behind", k)
		}
		l = append(l[1:], k)
	}
	has(t, r, l)
	for k := -1; k > -2*most; k-- {
		x, ok := r.PopBack()
		taken(t, x, ok, l[len(l)-1], true)
		if !r.Front(k) || r.Front(-1) || r.Back(-1) {
			t.Fatal("not one more ahead", k)
		}
		l = append([]int{k}, l[:len(l)-1]...)
	}
	has(t, r, l)
}

// A row grows while its first one lies anywhere: what it has stays in its order.
func TestARowGrowsFromEachPlace(t *testing.T) {
	for in := 1; in < 40; in++ {
		for gone := range in {
			for _, ahead := range []bool{false, true} {
				r, m := ring.New[int](100), model[int]{room: 100}
				for k := range in {
					r.Back(k)
					m.back(k)
				}
				for k := range gone {
					r.PopFront()
					m.popFront()
					r.Back(-k)
					m.back(-k)
				}
				for k := 1000; k < 1100; k++ {
					put, should := r.Back, m.back
					if ahead {
						put, should = r.Front, m.front
					}
					if put(k) != should(k) {
						t.Fatalf("%d in it, %d gone round: another answer at %d", in, gone, k)
					}
				}
				has(t, r, m.l)
			}
		}
	}
}

// All that may be done, in drawn orders, is held against the model.
func TestDrawnOrders(t *testing.T) {
	for _, room := range []int{-3, 0, 1, 2, 3, 4, 6, 7, 8, 9, 16, 33, 100} {
		d := draws.Row(room)
		r, m := ring.New[int](room), model[int]{room: max(room, 0)}
		for step := range 3000 {
			// Now more is put than taken, now less: so it is full, and empty, again and again.
			more := uint64(step/200%2) * 6
			k := int(d.Next() >> 1)
			switch n := d.Next() % 10; {
			case n < 2+more/2:
				if r.Back(k) != m.back(k) {
					t.Fatalf("room %d, step %d: another answer behind", room, step)
				}
			case n < 2+more:
				if r.Front(k) != m.front(k) {
					t.Fatalf("room %d, step %d: another answer ahead", room, step)
				}
			case n%2 == 0:
				x, ok := r.PopBack()
				want, is := m.popBack()
				taken(t, x, ok, want, is)
			default:
				x, ok := r.PopFront()
				want, is := m.popFront()
				taken(t, x, ok, want, is)
			}
			has(t, r, m.l)
			if step%37 == 0 {
				r = r.Clone()
				has(t, r, m.l)
			}
		}
	}
}

// round is a row of five, full, with 10 to 50, that begins at each place of its memory in turn.
func round(begin int) *ring.Ring[int] {
	r := ring.New[int](5)
	for range begin {
		for k := range 5 {
			r.Back(k)
		}
		for range 5 {
			r.PopFront()
		}
		r.Back(0)
		r.PopFront()
	}
	for k := 10; k <= 50; k += 10 {
		r.Back(k)
	}
	return r
}

func TestAllIsNewMemory(t *testing.T) {
	for begin := range 7 {
		r := round(begin)
		want := []int{10, 20, 30, 40, 50}
		l, other := r.All(), r.All()
		for i := range l {
			l[i] = -1
		}
		has(t, r, want)
		if !slices.Equal(other, want) {
			t.Fatalf("another answer: %v", other)
		}
		r.PopBack()
		short := r.All()
		_ = append(short, -2)
		_ = append(short[:1], -3)
		has(t, r, want[:4])
		// What the row does later is nothing to an answer.
		kept := r.All()
		r.PopFront()
		r.Back(60)
		r.Front(70)
		if !slices.Equal(kept, want[:4]) {
			t.Fatalf("an answer became %v", kept)
		}
		has(t, r, []int{70, 20, 30, 40, 60})
	}
}

func TestAllOfNothing(t *testing.T) {
	r := ring.New[int](4)
	for range 6 {
		_ = append(r.All(), 9)
		has(t, r, nil)
		r.Back(1)
		r.PopFront()
	}
}

func TestAClone(t *testing.T) {
	for begin := range 7 {
		for gone := range 6 {
			r, want := round(begin), []int{10, 20, 30, 40, 50}
			for range gone {
				r.PopFront()
			}
			want = want[gone:]
			c := r.Clone()
			if c == r {
				t.Fatal("the same row")
			}
			has(t, c, want)
			has(t, r, want)
			for k := range 6 {
				if room := k < gone; c.Back(k) != room {
					t.Fatalf("%d gone: room for number %d: %v", gone, k, !room)
				}
			}
			has(t, r, want)
		}
	}
}

// A clone and its origin both go on: neither knows of the other, whatever is done, and in whatever order.
func TestACloneIsApart(t *testing.T) {
	for begin := range 7 {
		r := round(begin)
		r.PopFront()
		c := r.Clone()
		d := c.Clone()
		c.PopBack()
		c.Front(1)
		has(t, r, []int{20, 30, 40, 50})
		has(t, c, []int{1, 20, 30, 40})
		r.Back(2)
		r.PopFront()
		r.PopFront()
		has(t, r, []int{40, 50, 2})
		has(t, c, []int{1, 20, 30, 40})
		c.Back(3)
		r.Front(4)
		r.Front(5)
		if c.Back(6) || r.Back(6) || c.Front(6) || r.Front(6) {
			t.Fatal("more than room for five")
		}
		has(t, r, []int{5, 4, 40, 50, 2})
		has(t, c, []int{1, 20, 30, 40, 3})
		for range 5 {
			r.PopBack()
		}
		has(t, r, nil)
		has(t, c, []int{1, 20, 30, 40, 3})
		has(t, d, []int{20, 30, 40, 50})
	}
}

func TestTwoRowsAreApart(t *testing.T) {
	a, b := ring.New[int](2), ring.New[int](2)
	a.Back(1)
	b.Front(2)
	a.Back(3)
	b.PopBack()
	has(t, a, []int{1, 3})
	has(t, b, nil)
}

func TestCloneOfARowWithNothing(t *testing.T) {
	for _, room := range []int{-1, 0, 1, 2, 100, most + 1} {
		r := ring.New[int](room)
		r.Back(7)
		r.PopBack()
		c := r.Clone()
		has(t, c, nil)
		n := 0
		for n <= most && c.Front(n) {
			n++
		}
		if want := max(0, min(room, most)); n != want {
			t.Errorf("room %d: %d put into its clone", room, n)
		}
		has(t, r, nil)
	}
}

// roomless fails, if a row takes anything, or has anything.
func roomless(t *testing.T, r *ring.Ring[string]) {
	t.Helper()
	for range 2 {
		if r.Back("a") || r.Front("b") {
			t.Error("put")
		}
		x, ok := r.PopBack()
		taken(t, x, ok, "", false)
		x, ok = r.PopFront()
		taken(t, x, ok, "", false)
		has(t, r, nil)
	}
}

func TestANilRow(t *testing.T) {
	var r *ring.Ring[string]
	roomless(t, r)
	if r.Clone() != nil {
		t.Error("a clone of nil")
	}
}

func TestAZeroRowHasNoRoom(t *testing.T) {
	var r ring.Ring[string]
	c := r.Clone()
	if c == nil || c == &r {
		t.Fatal("no clone apart")
	}
	roomless(t, &r)
	roomless(t, c)
	roomless(t, r.Clone())
}

// pair is an element with fields.
type pair struct {
	name string
	n    int
}

// goes holds a row of room 3 of any kind of elements against what it should have, round and round.
func goes[T comparable](t *testing.T, a, b, c T) {
	t.Helper()
	var none T
	r := ring.New[T](3)
	for range 4 {
		if !r.Back(b) || !r.Back(c) || !r.Front(a) || r.Back(a) || r.Front(a) {
			t.Fatal("not room for three")
		}
		has(t, r, []T{a, b, c})
		has(t, r.Clone(), []T{a, b, c})
		x, ok := r.PopFront()
		taken(t, x, ok, a, true)
		x, ok = r.PopBack()
		taken(t, x, ok, c, true)
		x, ok = r.PopFront()
		taken(t, x, ok, b, true)
		x, ok = r.PopBack()
		taken(t, x, ok, none, false)
		x, ok = r.PopFront()
		taken(t, x, ok, none, false)
		has(t, r, nil)
	}
}

func TestElementsOfManyTypes(t *testing.T) {
	goes(t, 1, -2, 3)
	goes(t, 0, 0, 0)
	goes(t, "a", "", "ccc")
	goes(t, true, false, true)
	goes(t, byte(255), 0, 7)
	goes(t, 1.5, -0.25, 3)
	goes(t, pair{"a", 1}, pair{}, pair{"", -1})
	goes(t, [3]int{1, 2, 3}, [3]int{}, [3]int{3, 2, 1})
	goes(t, struct{}{}, struct{}{}, struct{}{})
	goes(t, &pair{"a", 1}, nil, &pair{"a", 1})
	goes[any](t, 1, nil, "three")
	goes(t, ring.New[int](1), ring.New[int](1), nil)
}

// Lists have no ==: these are elements, too.
func TestElementsThatAreLists(t *testing.T) {
	r := ring.New[[]int](2)
	r.Back([]int{1, 2})
	r.Front(nil)
	if r.Back([]int{3}) || r.Len() != 2 {
		t.Error("not room for two")
	}
	if x, ok := r.At(1); !ok || !slices.Equal(x, []int{1, 2}) {
		t.Error(x, ok)
	}
	if x, ok := r.PopFront(); x != nil || !ok {
		t.Error(x, ok)
	}
	if x, ok := r.PopBack(); !ok || !slices.Equal(x, []int{1, 2}) {
		t.Error(x, ok)
	}
	if x, ok := r.PopBack(); x != nil || ok {
		t.Error(x, ok)
	}
}

// What was taken is in the row no more: it isn't held by it either.
func TestWhatWasTakenIsNotHeld(t *testing.T) {
	r := ring.New[*[64]int](8)
	at := []weak.Pointer[[64]int]{}
	for range 8 {
		p := new([64]int)
		r.Back(p)
		at = append(at, weak.Make(p))
	}
	r.PopFront()
	r.PopBack()
	r.PopFront()
	runtime.GC()
	for k, w := range at {
		if held, in := w.Value() != nil, k > 1 && k < 7; held != in {
			t.Errorf("number %d: held is %v", k, held)
		}
	}
	if r.Len() != 5 {
		t.Errorf("%d", r.Len())
	}
}

// P4.2

func TestOrders(t *testing.T) {
	type row = ring.Ring[int]
	for _, room := range []int{1, 2, 3, 5, 8, 100, most} {
		r := ring.New[int](room)
		for _, x := range []struct {
			put   func(*row, int) bool
			pop   func(*row) (int, bool)
			other bool
		}{
			{(*row).Back, (*row).PopFront, false}, {(*row).Back, (*row).PopBack, true},
			{(*row).Front, (*row).PopBack, false}, {(*row).Front, (*row).PopFront, true},
		} {
			came := []int{}
			for k := range room {
				if !x.put(r, k) {
					t.Fatalf("no room for number %d of %d", k, room)
				}
				came = append(came, k)
			}
			if x.other {
				slices.Reverse(came)
			}
			for _, want := range came {
				got, ok := x.pop(r)
				taken(t, got, ok, want, true)
			}
			has(t, r, nil)
		}
	}
}

// Put and taken in drawn turns, over and over: all that had room comes, in the order in which it came.
func TestWhatIsPutBehindComesFromTheFrontInItsOrder(t *testing.T) {
	for _, room := range []int{1, 2, 3, 7, 8, 64} {
		d, r := draws.Row(room), ring.New[int](room)
		put, got := 0, 0
		for got < 20*room {
			if d.Next()%2 == 0 {
				if r.Back(put) {
					put++
				}
				continue
			}
			if x, ok := r.PopFront(); ok {
				taken(t, x, ok, got, true)
				got++
			}
		}
		if put-got != r.Len() || put-got > room {
			t.Errorf("room %d: %d put, %d taken, %d left", room, put, got, r.Len())
		}
	}
}

// What is put and taken behind goes on like a stack, whatever stands ahead of it.
func TestWhatIsPutBehindAndTakenFromThereComesInTheOtherOrder(t *testing.T) {
	for _, room := range []int{1, 2, 3, 7, 8, 64} {
		d, r := draws.Row(room), ring.New[int](room)
		stack := []int{}
		for k := range 40 * room {
			if d.Next()%2 == 0 {
				if r.Back(k) {
					stack = append(stack, k)
				}
			} else if x, ok := r.PopBack(); ok {
				taken(t, x, ok, stack[len(stack)-1], true)
				stack = stack[:len(stack)-1]
			}
			if r.Len() != len(stack) {
				t.Fatalf("room %d: %d, not %d", room, r.Len(), len(stack))
			}
		}
	}
}
