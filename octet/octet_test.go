package octet_test

import (
	"fmt"
	"math"
	"strings"
	"testing"

	"logjam/api"
	"logjam/internal/draws"
	"logjam/octet"
)

// put is the bytes of what f puts.
func put(f func(o *octet.Out)) string {
	o := &octet.Out{}
	f(o)
	return o.Done()
}

// P1.1

func TestByteIsTheLowestBits(t *testing.T) {
	for _, x := range []struct {
		n    int
		want string
	}{
		{0, "\x00"}, {1, "\x01"}, {127, "\x7f"}, {128, "\x80"}, {255, "\xff"}, {256, "\x00"}, {257, "\x01"},
		{0x1234, "\x34"}, {-1, "\xff"}, {-2, "\xfe"}, {-128, "\x80"}, {-256, "\x00"},
		{math.MaxInt, "\xff"}, {math.MinInt, "\x00"}, {math.MinInt + 7, "\x07"},
	} {
		if got := put(func(o *octet.Out) { o.Byte(x.n) }); got != x.want {
			t.Errorf("Byte(%d): %q, not %q", x.n, got, x.want)
		}
	}
}

// numbers are those at which one byte more, or the last bit, is needed, and their bytes.
var numbers = []struct {
	n    uint64
	want string
}{
	{0, "\x00"}, {1, "\x01"}, {2, "\x02"}, {127, "\x7f"},
	{128, "\x80\x01"}, {129, "\x81\x01"}, {255, "\xff\x01"}, {256, "\x80\x02"}, {300, "\xac\x02"}, {1<<14 - 1, "\xff\x7f"},
	{1 << 14, "\x80\x80\x01"}, {1<<21 - 1, "\xff\xff\x7f"}, {1 << 21, "\x80\x80\x80\x01"},
	{1<<28 - 1, "\xff\xff\xff\x7f"}, {1 << 28, "\x80\x80\x80\x80\x01"},
	{1<<31 + 1, "\x81\x80\x80\x80\x08"}, {1<<32 - 1, "\xff\xff\xff\xff\x0f"},
	{1<<35 - 1, "\xff\xff\xff\xff\x7f"}, {1 << 35, "\x80\x80\x80\x80\x80\x01"},
	{1 << 42, "\x80\x80\x80\x80\x80\x80\x01"}, {1 << 49, "\x80\x80\x80\x80\x80\x80\x80\x01"},
	{1 << 56, "\x80\x80\x80\x80\x80\x80\x80\x80\x01"},
	{1<<63 - 1, "\xff\xff\xff\xff\xff\xff\xff\xff\x7f"},
	{1 << 63, "\x80\x80\x80\x80\x80\x80\x80\x80\x80\x01"},
	{math.MaxUint64 - 1, "\xfe\xff\xff\xff\xff\xff\xff\xff\xff\x01"},
	{math.MaxUint64, "\xff\xff\xff\xff\xff\xff\xff\xff\xff\x01"},
}

func TestNumHasSevenBitsAByte(t *testing.T) {
	for _, x := range numbers {
		if got := put(func(o *octet.Out) { o.Num(x.n) }); got != x.want {
			t.Errorf("Num(%d): %x, not %x", x.n, got, x.want)
		}
	}
}

// signed are numbers with a sign, and the number that each is put as.
var signed = []struct {
	n  int
	as uint64
}{
	{0, 0}, {-1, 1}, {1, 2}, {-2, 3}, {2, 4}, {63, 126}, {-64, 127}, {64, 128}, {-65, 129},
	{1 << 31, 1 << 32}, {-1 << 31, 1<<32 - 1}, {1 << 62, 1 << 63}, {-1 << 62, 1<<63 - 1},
	{math.MaxInt64, math.MaxUint64 - 1}, {math.MinInt64 + 1, math.MaxUint64 - 2}, {math.MinInt64, math.MaxUint64},
}

func TestIntIsANum(t *testing.T) {
	for _, x := range signed {
		got := put(func(o *octet.Out) { o.Int(x.n) })
		want := put(func(o *octet.Out) { o.Num(x.as) })
		if got != want {
			t.Errorf("Int(%d): %x, not %x", x.n, got, want)
		}
	}
}

func TestTextIsItsLengthAndItsBytes(t *testing.T) {
	for _, x := range []struct{ head, text string }{
		{"\x00", ""}, {"\x01", "a"}, {"\x02", "ab"}, {"\x03", "\x00\xff\n"}, {"\x02", "é"},
		{"\x7f", strings.Repeat("x", 127)}, {"\x80\x01", strings.Repeat("y", 128)}, {"\xac\x02", strings.Repeat("z", 300)},
	} {
		if got := put(func(o *octet.Out) { o.Text(x.text) }); got != x.head+x.text {
			t.Errorf("Text(%q): %q", x.text, got)
		}
	}
}

func TestBytesStandOneBehindTheOther(t *testing.T) {
	o := &octet.Out{}
	o.Text("hi")
	o.Byte(9)
	o.Num(300)
	o.Int(-1)
	o.Byte(8)
	if got := o.Done(); got != "\x02hi\x09\xac\x02\x01\x08" {
		t.Errorf("%q", got)
	}
}

func TestDoneIsAskedAgain(t *testing.T) {
	o := &octet.Out{}
	o.Byte(1)
	first := o.Done()
	if again := o.Done(); again != first {
		t.Errorf("again: %q", again)
	}
	o.Num(300)
	if first != "\x01" || o.Done() != "\x01\xac\x02" {
		t.Errorf("%q, %q", first, o.Done())
	}
}

func TestTwoOutsAreApart(t *testing.T) {
	a, b := &octet.Out{}, &octet.Out{}
	a.Byte(1)
	b.Text("b")
	a.Int(1)
	if a.Done() != "\x01\x02" || b.Done() != "\x01b" {
		t.Errorf("%q, %q", a.Done(), b.Done())
	}
}

func TestZeroOutHasNothing(t *testing.T) {
	var o octet.Out
	if o.Done() != "" {
		t.Errorf("%q", o.Done())
	}
	o.Byte(5)
	if o.Done() != "\x05" {
		t.Errorf("%q", o.Done())
	}
}

func TestNothingIsPutOfANilOut(t *testing.T) {
	var o *octet.Out
	o.Byte(1)
	o.Num(300)
	o.Int(-300)
	o.Text("ab")
	o.Text("")
	if o.Done() != "" {
		t.Errorf("%q", o.Done())
	}
}

// P1.2

func TestNumIsRead(t *testing.T) {
	for _, x := range numbers {
		i := octet.Open(x.want + "\x85")
		if got := i.Num(); got != x.n || i.Err() != api.OK || i.Left() != 1 {
			t.Errorf("%x: %d, %v, left %d", x.want, got, i.Err(), i.Left())
		}
	}
}

func TestIntIsRead(t *testing.T) {
	for _, x := range signed {
		i := octet.Open(put(func(o *octet.Out) { o.Num(x.as) }) + "\x85")
		if got := i.Int(); got != x.n || i.Err() != api.OK || i.Left() != 1 {
			t.Errorf("%d: %d, %v, left %d", x.n, got, i.Err(), i.Left())
		}
	}
}

func TestByteIsRead(t *testing.T) {
	for n := range 256 {
		i := octet.Open(string([]byte{byte(n)}))
		if got := i.Byte(); got != n || i.Err() != api.OK || i.Left() != 0 {
			t.Errorf("%d: %d, %v, left %d", n, got, i.Err(), i.Left())
		}
	}
}

func TestTextIsRead(t *testing.T) {
	for _, s := range []string{"", "a", "\x00\xff", strings.Repeat("x", 127), strings.Repeat("y", 300)} {
		i := octet.Open(put(func(o *octet.Out) { o.Text(s) }) + "zz")
		if got := i.Text(); got != s || i.Err() != api.OK || i.Left() != 2 {
			t.Errorf("%q: %q, %v, left %d", s, got, i.Err(), i.Left())
		}
	}
}

func TestLeftFallsAsBytesAreRead(t *testing.T) {
	i := octet.Open("\x09\xac\x02\x01\x02ab\x07")
	want := []int{8, 7, 5, 4, 1, 0}
	read := []func(){func() { i.Byte() }, func() { i.Num() }, func() { i.Int() }, func() { i.Text() }, func() { i.Byte() }}
	for k, f := range read {
		if i.Left() != want[k] {
			t.Errorf("%d: left %d", k, i.Left())
		}
		f()
	}
	if i.Left() != 0 || i.Err() != api.OK {
		t.Errorf("left %d, %v", i.Left(), i.Err())
	}
}

const nine = "\xff\xff\xff\xff\xff\xff\xff\xff\xff"
const nineLow = "\x80\x80\x80\x80\x80\x80\x80\x80\x80"

// wrong are bytes of which no number is read, and why.
var wrong = []struct {
	s    string
	want api.Errno
}{
	{"", api.ErrEnd}, {"\x80", api.ErrEnd}, {"\xff", api.ErrEnd}, {"\x80\x80", api.ErrEnd}, {nine, api.ErrEnd}, {nineLow, api.ErrEnd},
	{"\x80\x00", api.ErrForm}, {"\xff\x00", api.ErrForm}, {"\x80\x80\x00", api.ErrForm}, {"\x81\x80\x00rest", api.ErrForm},
	{nine[:8] + "\x00", api.ErrForm}, {nine + "\x00", api.ErrForm}, {nineLow + "\x00", api.ErrForm},
	{nine + "\x02", api.ErrForm}, {nineLow + "\x02", api.ErrForm}, {nine + "\x03", api.ErrForm}, {nine + "\x7f", api.ErrForm},
	{nine + "\x80", api.ErrForm}, {nine + "\x81", api.ErrForm}, {nine + "\xff", api.ErrForm},
	{nine + "\x80\x01", api.ErrForm}, {nine + "\x81\x00", api.ErrForm}, {nine + "\xff\x01rest", api.ErrForm},
}

// spent tells what is wrong with one of which nothing may be read any more, since it has that error.
func spent(i *octet.In, want api.Errno) string {
	for range 2 {
		if i.Byte() != 0 || i.Num() != 0 || i.Int() != 0 || i.Text() != "" {
			return "something is read"
		}
		if i.Left() != 0 {
			return fmt.Sprint("left ", i.Left())
		}
		if i.Err() != want {
			return fmt.Sprint("err ", i.Err(), ", not ", want)
		}
	}
	return ""
}

func TestNumbersThatAreWrong(t *testing.T) {
	for _, x := range wrong {
		i := octet.Open(x.s)
		if n := i.Num(); n != 0 || i.Err() != x.want {
			t.Errorf("Num of %x: %d, %v", x.s, n, i.Err())
		}
		if e := spent(i, x.want); e != "" {
			t.Errorf("Num of %x: %s", x.s, e)
		}
		i = octet.Open("\x01" + x.s)
		i.Byte()
		if n := i.Int(); n != 0 || i.Err() != x.want {
			t.Errorf("Int of %x: %d, %v", x.s, n, i.Err())
		}
		if e := spent(i, x.want); e != "" {
			t.Errorf("Int of %x: %s", x.s, e)
		}
		i = octet.Open(x.s)
		if s := i.Text(); s != "" || i.Err() != x.want {
			t.Errorf("Text of %x: %q, %v", x.s, s, i.Err())
		}
		if e := spent(i, x.want); e != "" {
			t.Errorf("Text of %x: %s", x.s, e)
		}
	}
}

func TestBytesThatEndTooEarly(t *testing.T) {
	i := octet.Open("")
	if i.Err() != api.OK || i.Left() != 0 {
		t.Errorf("ahead: %v, %d", i.Err(), i.Left())
	}
	if n := i.Byte(); n != 0 || i.Err() != api.ErrEnd {
		t.Errorf("byte: %d, %v", n, i.Err())
	}
	if e := spent(i, api.ErrEnd); e != "" {
		t.Error(e)
	}
	for _, s := range []string{"\x01", "\x03ab", "\x80\x01abc", nine + "\x01abc", nineLow + "\x01" + strings.Repeat("a", 200)} {
		i := octet.Open(s)
		if x := i.Text(); x != "" || i.Err() != api.ErrEnd {
			t.Errorf("text of %q: %q, %v", s, x, i.Err())
		}
		if e := spent(i, api.ErrEnd); e != "" {
			t.Errorf("text of %q: %s", s, e)
		}
	}
}

func TestWhatWasReadAheadOfAnErrorStands(t *testing.T) {
	i := octet.Open("\xac\x02\x80\x00\x05")
	if n := i.Num(); n != 300 || i.Err() != api.OK {
		t.Errorf("%d, %v", n, i.Err())
	}
	if n := i.Num(); n != 0 || i.Err() != api.ErrForm {
		t.Errorf("%d, %v", n, i.Err())
	}
	if e := spent(i, api.ErrForm); e != "" {
		t.Error(e)
	}
}

func TestTwoInsAreApart(t *testing.T) {
	const s = "\x80\x00\x05"
	a, b := octet.Open(s), octet.Open(s)
	a.Num()
	if a.Err() != api.ErrForm || b.Err() != api.OK || b.Byte() != 0x80 || b.Left() != 2 {
		t.Errorf("%v, %v, left %d", a.Err(), b.Err(), b.Left())
	}
}

func TestNilIn(t *testing.T) {
	var i *octet.In
	if i.Err() != api.ErrState || i.Left() != 0 {
		t.Errorf("%v, left %d", i.Err(), i.Left())
	}
	if e := spent(i, api.ErrState); e != "" {
		t.Error(e)
	}
}

func TestZeroInDoesNotPanic(t *testing.T) {
	var i octet.In
	i.Byte()
	i.Num()
	i.Int()
	i.Text()
	i.Left()
	i.Err()
}

// P1.3

// item is something that is put, and read.
type item struct {
	kind int
	num  uint64
	text string
}

func (x item) put(o *octet.Out) {
	switch x.kind {
	case 0:
		o.Byte(int(x.num))
	case 1:
		o.Num(x.num)
	case 2:
		o.Int(int(x.num))
	case 3:
		o.Text(x.text)
	}
}

// read is what is read of a kind.
func read(i *octet.In, kind int) item {
	switch kind {
	case 0:
		return item{kind: kind, num: uint64(i.Byte())}
	case 1:
		return item{kind: kind, num: i.Num()}
	case 2:
		return item{kind: kind, num: uint64(i.Int())}
	}
	return item{kind: kind, text: i.Text()}
}

// drawn is one that is drawn, of numbers of all lengths.
func drawn(d *draws.Row) item {
	x := item{kind: int(d.Next() % 4)}
	switch x.kind {
	case 0:
		x.num = d.Next() % 256
	case 3:
		b := make([]byte, d.Next()%200)
		for k := range b {
			b[k] = byte(d.Next())
		}
		x.text = string(b)
	default:
		x.num = d.Next() >> (d.Next() % 64)
		if d.Next()%2 == 0 {
			x.num = -x.num
		}
	}
	return x
}

func TestWhatWasPutIsRead(t *testing.T) {
	d := draws.Row(1)
	for range 300 {
		o := &octet.Out{}
		var l []item
		for range d.Next() % 20 {
			x := drawn(&d)
			x.put(o)
			l = append(l, x)
		}
		i := octet.Open(o.Done())
		for k, x := range l {
			if got := read(i, x.kind); got != x {
				t.Fatalf("%d: %v, not %v", k, got, x)
			}
		}
		if i.Left() != 0 || i.Err() != api.OK {
			t.Fatalf("left %d, %v", i.Left(), i.Err())
		}
	}
}

// same reads s as items of a kind till an error, and tells whether these, put again, are just the bytes that were read.
func same(s string, kind int) bool {
	i := octet.Open(s)
	o := &octet.Out{}
	ahead := 0
	for i.Left() > 0 {
		x := read(i, kind)
		if i.Err() != api.OK {
			break
		}
		x.put(o)
		ahead = len(s) - i.Left()
	}
	return o.Done() == s[:ahead]
}

func TestWhatIsReadIsPutAgain(t *testing.T) {
	for n := range 1 << 16 {
		s := string([]byte{byte(n), byte(n >> 8)})
		for kind := range 4 {
			if !same(s, kind) || !same("\x80"+s, kind) || !same(nine[:8]+s, kind) {
				t.Fatalf("kind %d: %x", kind, s)
			}
		}
	}
}

func TestDrawnBytesAreReadAndPutAgain(t *testing.T) {
	d := draws.Row(2)
	for range 20000 {
		b := make([]byte, d.Next()%24)
		for k := range b {
			b[k] = byte(d.Next())
			if d.Next()%2 == 0 {
				b[k] |= 0x80
			}
		}
		for kind := range 4 {
			if !same(string(b), kind) {
				t.Fatalf("kind %d: %x", kind, b)
			}
		}
	}
}
