package draws_test

import (
	"testing"

	"logjam/internal/draws"
)

func TestARowIsTheSameEachTime(t *testing.T) {
	for range 2 {
		r := draws.Row(0)
		for k, want := range []uint64{0xe220a8397b1dcdaf, 0x6e789e6aa1b965f4, 0x06c45d188009454f} {
			if got := r.Next(); got != want {
				t.Errorf("number %d: %x, not %x", k, got, want)
			}
		}
	}
}

func TestRowsDiffer(t *testing.T) {
	a, b := draws.Row(1), draws.Row(2)
	for k := range 100 {
		if a.Next() == b.Next() {
			t.Errorf("number %d is that of both rows", k)
		}
	}
}
