package span_test

import (
	"math"
	"testing"

	"logjam/api"
	"logjam/octet"
	"logjam/span"
)

func TestNumIsReadAndNeverComesIntoASpanByLosingBits(t *testing.T) {
	for _, x := range []struct {
		n    uint64
		want int
	}{
		{0, 0}, {1, 1}, {31, 31}, {127, 127}, {128, 128}, {1000, 1000}, {1<<31 - 2, 1<<31 - 2}, {1<<31 - 1, 1<<31 - 1},
		{1 << 31, 1<<31 - 1}, {1<<31 + 1, 1<<31 - 1}, {1 << 32, 1<<31 - 1}, {1<<32 + 1, 1<<31 - 1}, {1<<63 - 1, 1<<31 - 1},
		{1 << 63, 1<<31 - 1}, {1<<63 + 1, 1<<31 - 1}, {math.MaxUint64, 1<<31 - 1},
	} {
		o := &octet.Out{}
		o.Num(x.n)
		i := octet.Open(o.Done() + "\x05")
		if got := span.Num(i); got != x.want || i.Err() != api.OK || i.Left() != 1 {
			t.Errorf("%d: %d, %v, %d left, not %d", x.n, got, i.Err(), i.Left(), x.want)
		}
	}
}

func TestNumThatIsWrongIsZero(t *testing.T) {
	for _, x := range []struct {
		s    string
		want api.Errno
	}{
		{"", api.ErrEnd}, {"\x80", api.ErrEnd}, {"\xff\xff\xff\xff\xff", api.ErrEnd},
		{"\x80\x00", api.ErrForm}, {"\xff\xff\xff\xff\xff\xff\xff\xff\xff\x02", api.ErrForm},
	} {
		i := octet.Open(x.s)
		if got := span.Num(i); got != 0 || i.Err() != x.want {
			t.Errorf("%x: %d, %v, not 0, %v", x.s, got, i.Err(), x.want)
		}
	}
	if got := span.Num(nil); got != 0 {
		t.Errorf("of nil: %d", got)
	}
}

func TestWithin(t *testing.T) {
	for _, x := range []struct {
		n, least, greatest int
		want               bool
	}{
		{-1, 0, 7, false}, {0, 0, 7, true}, {3, 0, 7, true}, {7, 0, 7, true}, {8, 0, 7, false},
		{0, 1, 1, false}, {1, 1, 1, true}, {2, 1, 1, false}, {0, 1, 0, false}, {1, 1, 0, false},
		{math.MinInt, 0, 7, false}, {math.MaxInt, 0, 7, false}, {1 << 32, 0, 7, false}, {math.MinInt, math.MinInt, math.MaxInt, true},
	} {
		if got := span.Within(x.n, x.least, x.greatest); got != x.want {
			t.Errorf("%d, %d to %d: %v", x.n, x.least, x.greatest, got)
		}
	}
}

func TestCount(t *testing.T) {
	for _, x := range []struct {
		many, most int
		want       api.Errno
	}{
		{0, 4, api.ErrForm}, {1, 4, api.OK}, {3, 4, api.OK}, {4, 4, api.OK}, {5, 4, api.ErrLong},
		{0, 1, api.ErrForm}, {1, 1, api.OK}, {2, 1, api.ErrLong}, {200, 200, api.OK}, {201, 200, api.ErrLong},
		{1 << 32, 4, api.ErrLong}, {1<<32 + 1, 4, api.ErrLong}, {math.MaxInt, 200, api.ErrLong},
	} {
		if got := span.Count(x.many, x.most); got != x.want {
			t.Errorf("%d of at most %d: %v, not %v", x.many, x.most, got, x.want)
		}
	}
}
