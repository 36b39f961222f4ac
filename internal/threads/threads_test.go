package threads_test

import (
	"math"
	"slices"
	"testing"

	"logjam/internal/threads"
)

func TestAllAreFrom0To63(t *testing.T) {
	l := threads.All()
	if len(l) != 64 {
		t.Fatal(l)
	}
	for k, by := range l {
		if by != k {
			t.Errorf("%d at %d", by, k)
		}
	}
}

func TestSomeAreThreadsAndRise(t *testing.T) {
	l := threads.Some()
	for k, by := range l {
		if by < 0 || by > 63 || k > 0 && by <= l[k-1] {
			t.Errorf("%d at %d", by, k)
		}
	}
	for _, by := range []int{0, 31, 32, 63} {
		if !slices.Contains(l, by) {
			t.Errorf("not %d", by)
		}
	}
}

func TestNoneAreNoThreads(t *testing.T) {
	l := threads.None()
	for _, by := range l {
		if by >= 0 && by <= 63 {
			t.Errorf("%d is one", by)
		}
	}
	for _, by := range []int{math.MinInt, -1, 64, math.MaxInt} {
		if !slices.Contains(l, by) {
			t.Errorf("not %d", by)
		}
	}
}

func TestListsAreNew(t *testing.T) {
	for _, of := range []func() []int{threads.All, threads.Some, threads.None} {
		l := of()
		first := l[0]
		l[0] = first + 1
		if of()[0] != first {
			t.Error("what was done to a list is seen in another one")
		}
	}
}
