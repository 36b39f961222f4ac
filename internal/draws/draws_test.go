package draws_test

import (
	"slices"
	"testing"

	"logjam/internal/draws"
)

func TestARowIsTheSameEachTime(t *testing.T) {
	for range 2 {
		r := draws.Row(0)
		for k, want := range []uint64{0xe220a8397b1dcdaf, 0x6e789e6aa1b965f4, 0x06c45d188009454f} {
			if got := r.Next(); got != want {
				t.Errorf("number %d: %x, not %x", k, got, want)
			}
		}
	}
}

func TestRowsDiffer(t *testing.T) {
	a, b := draws.Row(1), draws.Row(2)
	for k := range 100 {
		if a.Next() == b.Next() {
			t.Errorf("number %d is that of both rows", k)
		}
	}
}

func TestShuffledHasTheSameInEachOrder(t *testing.T) {
	r, met := draws.Row(3), map[[4]int]int{}
	for range 2400 {
		l := []int{1, 2, 3, 4}
		met[[4]int(draws.Shuffled(&r, l))]++
		if !slices.Equal(l, []int{1, 2, 3, 4}) {
			t.Fatalf("the list became %v", l)
		}
	}
	if len(met) != 24 {
		t.Errorf("%d orders", len(met))
	}
	for order, n := range met {
		sorted := order
		slices.Sort(sorted[:])
		if sorted != [4]int{1, 2, 3, 4} || n < 50 {
			t.Errorf("%v was met %d times", order, n)
		}
	}
	for _, l := range [][]int{nil, {}, {7}} {
		if got := draws.Shuffled(&r, l); !slices.Equal(got, l) {
			t.Errorf("%v became %v", l, got)
		}
	}
}
