package ins_test

import (
	"encoding/binary"
	"math"
	"slices"
	"strings"
	"testing"

	"logjam/api"
	"logjam/ins"
	"logjam/internal/draws"
)

// forms are the operations' forms as the document's table has them, by number.
var forms = []string{
	0: "n", 1: "k", 2: "k",
	3: "", 4: "", 5: "", 6: "", 7: "", 8: "", 9: "", 10: "", 11: "", 12: "", 13: "", 14: "", 15: "", 16: "", 17: "",
	18: "t", 19: "t", 20: "f", 21: "", 22: "", 23: "", 24: "", 25: "", 26: "w", 27: "w", 28: "",
	29: "u", 30: "s", 31: "p", 32: "cm", 33: "cm", 34: "c", 35: "c", 36: "b", 37: "b", 38: "b", 39: "b",
	40: "f", 41: "jj", 42: "jj", 43: "", 44: "", 45: "v", 46: "v", 47: "", 48: "", 49: "q", 50: "m", 51: "m",
}

// ranges are the least and the greatest number of each letter.
var ranges = map[byte][2]int{
	'n': {-2147483648, 2147483647}, 'k': {0, 7}, 't': {0, 199}, 'f': {0, 15}, 'w': {0, 31}, 'j': {1, 4},
	'u': {0, 31}, 's': {0, 31}, 'p': {0, 31}, 'c': {0, 31}, 'm': {0, 31}, 'b': {0, 31}, 'v': {0, 31}, 'q': {0, 31},
}

// none are numbers of no operation: those next to the ends, and those that fewer bits would take for an operation.
var none = []int{math.MinInt, math.MinInt + 3, -1 << 32, -1<<32 + 20, -1 << 31, -1<<16 + 1, -256, -255, -52, -51, -20, -2, -1,
	52, 53, 63, 64, 64 + 20, 128, 128 + 3, 255, 256, 257, 256 + 20, 256 + 51, 1 << 16, 1<<31 - 1, 1 << 31, 1 << 32, 1<<32 + 20, 1<<32 + 41, 1<<32 + 51, math.MaxInt - 1, math.MaxInt}

// far are operands that are in no letter's range, and that fewer bits would take for others that are.
var far = []int{math.MinInt, math.MinInt + 1, -1 << 33, -1<<32 - 1, -1 << 32, -1<<32 + 1, -1<<31 - 1, 1 << 31, 1<<31 + 1, 1<<32 - 1, 1 << 32, 1<<32 + 1, 1<<32 + 3, 1 << 62, math.MaxInt - 1, math.MaxInt}

// near are operands at the edges of all letters' ranges, and next to them.
var near = []int{-1 << 31, -1<<31 + 1, -1 << 16, -256, -128, -65, -64, -2, -1, 0, 1, 2, 3, 4, 5, 6, 7, 8, 14, 15, 16, 30, 31, 32, 63, 64, 127, 128, 198, 199, 200, 255, 256, 257, 1 << 16, 1<<31 - 2, 1<<31 - 1}

var operands = slices.Concat(near, far)

const nine = "\xff\xff\xff\xff\xff\xff\xff\xff\xff"
const nineLow = "\x80\x80\x80\x80\x80\x80\x80\x80\x80"

// in tells whether a number is in a letter's range.
func in(letter byte, n int) bool { return ranges[letter][0] <= n && n <= ranges[letter][1] }

// wrong is what is wrong with an instruction, as the chapter says it.
func wrong(x api.Ins) api.Errno {
	if x.Op < 0 || x.Op >= len(forms) {
		return api.ErrKind
	}
	switch form := forms[x.Op]; {
	case len(form) > 0 && !in(form[0], x.A), len(form) > 1 && !in(form[1], x.B), form == "jj" && x.A > x.B:
		return api.ErrArg
	case len(form) < 1 && x.A != 0, len(form) < 2 && x.B != 0:
		return api.ErrForm
	}
	return api.OK
}

// written is the bytes of an instruction that may be, by the library's numbers.
func written(x api.Ins) string {
	b := []byte{byte(x.Op)}
	for k := range len(forms[x.Op]) {
		n := []int{x.A, x.B}[k]
		if forms[x.Op][k] == 'n' {
			b = binary.AppendVarint(b, int64(n))
		} else {
			b = binary.AppendUvarint(b, uint64(n))
		}
	}
	return string(b)
}

// number is the number with which bytes begin, how many they are, and what is wrong with them, by the library's numbers.
func number(b []byte) (uint64, int, api.Errno) {
	n, l := binary.Uvarint(b)
	switch {
	case l < 0, l == 0 && len(b) > 9:
		return 0, 0, api.ErrForm
	case l == 0:
		return 0, 0, api.ErrEnd
	case l > 1 && b[l-1] == 0:
		return 0, 0, api.ErrForm
	}
	return n, l, api.OK
}

// operand is what a number of bytes stands for; all that is in no letter's range is the same.
func operand(letter byte, n uint64) int {
	if letter == 'n' {
		return int(n>>1) ^ -int(n&1)
	}
	if n > math.MaxInt {
		return math.MaxInt
	}
	return int(n)
}

// read is what Get should answer.
func read(b []byte) (api.Ins, int, api.Errno) {
	if len(b) == 0 {
		return api.Ins{}, 0, api.ErrEnd
	}
	if int(b[0]) >= len(forms) {
		return api.Ins{}, 0, api.ErrKind
	}
	form, ahead := forms[b[0]], 1
	l := [2]int{}
	for k := range len(form) {
		n, more, e := number(b[ahead:])
		if e != api.OK {
			return api.Ins{}, 0, e
		}
		l[k] = operand(form[k], n)
		ahead += more
	}
	x := api.Ins{Op: int(b[0]), A: l[0], B: l[1]}
	if e := wrong(x); e != api.OK {
		return api.Ins{}, 0, e
	}
	return x, ahead, api.OK
}

// good is an instruction of an operation that may be, whatever one of its operands is then set to that is in range.
func good(op int) api.Ins {
	if forms[op] == "jj" {
		return api.Ins{Op: op, A: 1, B: 4}
	}
	return api.Ins{Op: op}
}

// with is an instruction with another operand, 0 or 1.
func with(x api.Ins, k, n int) api.Ins {
	if k == 0 {
		x.A = n
	} else {
		x.B = n
	}
	return x
}

// allOf are all instructions of an operation that may be; of words just some.
func allOf(op int) []api.Ins {
	var l []api.Ins
	values := slices.Clone(operands)
	for n := range 201 {
		values = append(values, n)
	}
	slices.Sort(values)
	values = slices.Compact(values)
	for _, a := range values {
		for _, b := range values {
			x := api.Ins{Op: op, A: a, B: b}
			if wrong(x) == api.OK {
				l = append(l, x)
			}
		}
	}
	return l
}

// checks fails, if Check tells anything but what should be, or if Put does not tell the same.
func checks(t *testing.T, x api.Ins, want api.Errno) {
	t.Helper()
	if got := ins.Check(x); got != want {
		t.Errorf("check of %v: %v, not %v", x, got, want)
	}
	s, e := ins.Put(x)
	if e != want || (e == api.OK) != (s != "") {
		t.Errorf("put of %v: %x, %v, not %v", x, s, e, want)
	}
}

// puts fails, if an instruction is not put as these bytes, or is not what is got of them.
func puts(t *testing.T, x api.Ins, want string) {
	t.Helper()
	if got, e := ins.Put(x); got != want || e != api.OK {
		t.Errorf("put of %v: %x, %v, not %x", x, got, e, want)
	}
	gets(t, want, x, len(want), api.OK)
}

// gets fails, if Get tells anything but what should be.
func gets(t *testing.T, s string, want api.Ins, many int, err api.Errno) {
	t.Helper()
	if x, n, e := ins.Get(s); x != want || n != many || e != err {
		t.Errorf("get of %x: %v, %d, %v, not %v, %d, %v", s, x, n, e, want, many, err)
	}
}

// P7.1

func TestEachOperandAtTheEdgesOfItsRange(t *testing.T) {
	for op, form := range forms {
		for k := range len(form) {
			r, x := ranges[form[k]], good(op)
			checks(t, with(x, k, r[0]), api.OK)
			checks(t, with(x, k, r[1]), api.OK)
			checks(t, with(x, k, r[0]-1), api.ErrArg)
			checks(t, with(x, k, r[1]+1), api.ErrArg)
			for _, n := range far {
				checks(t, with(x, k, n), api.ErrArg)
			}
		}
	}
}

func TestAnOperationWithoutOperands(t *testing.T) {
	many := 0
	for op, form := range forms {
		if form == "" {
			checks(t, api.Ins{Op: op}, api.OK)
			many++
		}
	}
	if many != 25 {
		t.Errorf("%d operations without operands", many)
	}
}

func TestEachNumberOfEachLetter(t *testing.T) {
	for _, x := range []struct {
		op, least, greatest int
	}{
		{api.OpLoad, 0, 7}, {api.OpStore, 0, 7}, {api.OpJump, 0, 199}, {api.OpZero, 0, 199}, {api.OpCall, 0, 15}, {api.OpSpawn, 0, 15},
		{api.OpWait, 0, 31}, {api.OpWaitFor, 0, 31}, {api.OpUnlock, 0, 31}, {api.OpPost, 0, 31}, {api.OpGive, 0, 31},
		{api.OpCwait, 0, 31}, {api.OpCwaitFor, 0, 31}, {api.OpSignal, 0, 31}, {api.OpBroadcast, 0, 31}, {api.OpEnrol, 0, 31},
		{api.OpLeave, 0, 31}, {api.OpArrive, 0, 31}, {api.OpArriveFor, 0, 31}, {api.OpRead, 0, 31}, {api.OpWrite, 0, 31},
		{api.OpClaim, 0, 31}, {api.OpDead, 0, 31}, {api.OpMend, 0, 31},
	} {
		for n := -300; n <= 600; n++ {
			want := api.OK
			if n < x.least || n > x.greatest {
				want = api.ErrArg
			}
			checks(t, api.Ins{Op: x.op, A: n}, want)
		}
	}
}

func TestHowManyOfHowMany(t *testing.T) {
	for _, op := range []int{api.OpJoin, api.OpJoinFor} {
		for a := -2; a <= 7; a++ {
			for b := -2; b <= 7; b++ {
				want := api.ErrArg
				if a >= 1 && b <= 4 && a <= b {
					want = api.OK
				}
				checks(t, api.Ins{Op: op, A: a, B: b}, want)
			}
		}
		for _, n := range far {
			checks(t, api.Ins{Op: op, A: n, B: n}, api.ErrArg)
		}
	}
}

func TestTwoOperandsAreNotHeldAgainstOneAnother(t *testing.T) {
	for _, op := range []int{api.OpCwait, api.OpCwaitFor} {
		for a := range 32 {
			for b := range 32 {
				checks(t, api.Ins{Op: op, A: a, B: b}, api.OK)
			}
		}
	}
}

func TestAnOperandThatTheFormHasNot(t *testing.T) {
	for op, form := range forms {
		for _, n := range operands {
			if n == 0 {
				continue
			}
			if len(form) < 2 {
				checks(t, with(good(op), 1, n), api.ErrForm)
			}
			if len(form) < 1 {
				checks(t, with(good(op), 0, n), api.ErrForm)
				checks(t, api.Ins{Op: op, A: n, B: n}, api.ErrForm)
				checks(t, api.Ins{Op: op, A: n, B: -n}, api.ErrForm)
			}
		}
	}
}

func TestOutOfRangeIsToldAheadOfWhatTheFormHasNot(t *testing.T) {
	for op, form := range forms {
		if len(form) != 1 {
			continue
		}
		for _, n := range operands {
			for _, b := range []int{1, -1, 256, math.MinInt, math.MaxInt} {
				want := api.ErrArg
				if in(form[0], n) {
					want = api.ErrForm
				}
				checks(t, api.Ins{Op: op, A: n, B: b}, want)
			}
		}
	}
}

func TestNoOperation(t *testing.T) {
	for _, op := range none {
		for _, a := range operands {
			for _, b := range operands {
				checks(t, api.Ins{Op: op, A: a, B: b}, api.ErrKind)
			}
		}
	}
}

func TestEachOperationWithAllOperands(t *testing.T) {
	if len(forms) != api.Ops {
		t.Fatalf("%d forms, %d operations", len(forms), api.Ops)
	}
	for op := range forms {
		for _, a := range operands {
			for _, b := range operands {
				x := api.Ins{Op: op, A: a, B: b}
				checks(t, x, wrong(x))
			}
		}
	}
}

// P7.2

func TestByteByByte(t *testing.T) {
	for _, x := range []struct {
		ins  api.Ins
		want string
	}{
		{api.Ins{Op: api.OpPush, A: -1}, "\x00\x01"},
		{api.Ins{Op: api.OpPush}, "\x00\x00"},
		{api.Ins{Op: api.OpPush, A: 1}, "\x00\x02"},
		{api.Ins{Op: api.OpPush, A: 63}, "\x00\x7e"},
		{api.Ins{Op: api.OpPush, A: -64}, "\x00\x7f"},
		{api.Ins{Op: api.OpPush, A: 64}, "\x00\x80\x01"},
		{api.Ins{Op: api.OpPush, A: -65}, "\x00\x81\x01"},
		{api.Ins{Op: api.OpPush, A: 8191}, "\x00\xfe\x7f"},
		{api.Ins{Op: api.OpPush, A: 8192}, "\x00\x80\x80\x01"},
		{api.Ins{Op: api.OpPush, A: 1 << 20}, "\x00\x80\x80\x80\x01"},
		{api.Ins{Op: api.OpPush, A: 1 << 27}, "\x00\x80\x80\x80\x80\x01"},
		{api.Ins{Op: api.OpPush, A: 2147483647}, "\x00\xfe\xff\xff\xff\x0f"},
		{api.Ins{Op: api.OpPush, A: -2147483648}, "\x00\xff\xff\xff\xff\x0f"},
		{api.Ins{Op: api.OpLoad, A: 7}, "\x01\x07"},
		{api.Ins{Op: api.OpStore}, "\x02\x00"},
		{api.Ins{Op: api.OpAdd}, "\x03"},
		{api.Ins{Op: api.OpDrop}, "\x11"},
		{api.Ins{Op: api.OpJump, A: 127}, "\x12\x7f"},
		{api.Ins{Op: api.OpJump, A: 128}, "\x12\x80\x01"},
		{api.Ins{Op: api.OpZero, A: 199}, "\x13\xc7\x01"},
		{api.Ins{Op: api.OpCall, A: 15}, "\x14\x0f"},
		{api.Ins{Op: api.OpRet}, "\x15"},
		{api.Ins{Op: api.OpWait, A: 31}, "\x1a\x1f"},
		{api.Ins{Op: api.OpUnlock, A: 1}, "\x1d\x01"},
		{api.Ins{Op: api.OpCwait, A: 3, B: 5}, "\x20\x03\x05"},
		{api.Ins{Op: api.OpCwaitFor, A: 31}, "\x21\x1f\x00"},
		{api.Ins{Op: api.OpJoin, A: 1, B: 4}, "\x29\x01\x04"},
		{api.Ins{Op: api.OpJoinFor, A: 4, B: 4}, "\x2a\x04\x04"},
		{api.Ins{Op: api.OpCommit}, "\x30"},
		{api.Ins{Op: api.OpMend, A: 31}, "\x33\x1f"},
	} {
		puts(t, x.ins, x.want)
	}
}

func TestPutOfEachOperation(t *testing.T) {
	for op := range forms {
		l := allOf(op)
		if len(l) == 0 {
			t.Errorf("%d may not be at all", op)
		}
		for _, x := range l {
			puts(t, x, written(x))
		}
	}
}

// behind are bytes of which none belongs to what stands ahead of them.
var behind = []string{"", "\x00", "\x01", "\x15", "\x34", "\x7f", "\x80", "\xff", "\x80\x00", "\x00\x00\x00", nine + "\xff", strings.Repeat("\x03", 500)}

func TestGetOfWhatWasPut(t *testing.T) {
	for op := range forms {
		for _, x := range allOf(op) {
			s := written(x)
			for _, rest := range behind {
				gets(t, s+rest, x, len(s), api.OK)
			}
		}
	}
}

func TestGetOfNothing(t *testing.T) { gets(t, "", api.Ins{}, 0, api.ErrEnd) }

func TestGetOfAByteThatIsNoOperation(t *testing.T) {
	for n := api.Ops; n < 256; n++ {
		for _, rest := range behind {
			gets(t, string([]byte{byte(n)})+rest, api.Ins{}, 0, api.ErrKind)
		}
	}
}

// heads are the bytes of the operations that have so many operands, which are words or not.
func heads(many int, words bool) (l []string) {
	for op, form := range forms {
		if len(form) == many && (form == "n") == words {
			l = append(l, string([]byte{byte(op)}))
		}
	}
	return l
}

// word, one and two are the bytes of the operations with a word, with one other operand, and with two.
func word() []string { return heads(1, true) }
func one() []string  { return heads(1, false) }
func two() []string  { return heads(2, false) }

func TestGetOfBytesThatEndInAnOperand(t *testing.T) {
	for _, rest := range []string{"", "\x80", "\x81", "\xff", "\x80\x80", "\xff\xff\xff\xff", nine[:8], nineLow[:8], nine, nineLow} {
		for _, h := range slices.Concat(one(), two(), word()) {
			gets(t, h+rest, api.Ins{}, 0, api.ErrEnd)
		}
		for _, h := range two() {
			gets(t, h+"\x01"+rest, api.Ins{}, 0, api.ErrEnd)
			gets(t, h+"\x7f"+rest, api.Ins{}, 0, api.ErrEnd)
		}
	}
}

func TestGetOfNumbersThatAreNotWrittenSo(t *testing.T) {
	for _, bad := range []string{
		"\x80\x00", "\x81\x00", "\x83\x00", "\xff\x00", "\x80\x80\x00", "\x81\x80\x00", "\xff\xff\xff\xff\x00", nine[:8] + "\x00",
		nine + "\x00", nineLow + "\x00", nine + "\x02", nineLow + "\x02", nine + "\x7f", nine + "\x80", nineLow + "\xff", nine + "\x80\x01", nine + "\xff\x01",
	} {
		for _, rest := range behind {
			for _, h := range slices.Concat(one(), two(), word()) {
				gets(t, h+bad+rest, api.Ins{}, 0, api.ErrForm)
			}
			for _, h := range two() {
				gets(t, h+"\x01"+bad+rest, api.Ins{}, 0, api.ErrForm)
				gets(t, h+"\x7f"+bad+rest, api.Ins{}, 0, api.ErrForm)
			}
		}
	}
}

// great are numbers that are above each range, and that fewer bits, or a sign, would take for others that are not.
func great() []string {
	var l []string
	for _, n := range []uint64{200, 256, 257, 1 << 16, 1<<31 - 1, 1 << 31, 1<<31 + 1, 1<<31 + 3, 1<<32 - 1, 1 << 32, 1<<32 + 1, 1<<32 + 2, 1<<33 + 3, 1 << 62, 1<<63 - 1, 1 << 63, 1<<63 + 1, 1<<63 + 3, 1<<63 + 1<<32 + 2, math.MaxUint64 - 1, math.MaxUint64} {
		l = append(l, string(binary.AppendUvarint(nil, n)))
	}
	return l
}

func TestGetOfNumbersThatAreTooGreat(t *testing.T) {
	for _, n := range great() {
		for _, rest := range []string{"", "\x00", "\xff"} {
			for _, h := range one() {
				gets(t, h+n+rest, api.Ins{}, 0, api.ErrArg)
			}
			for _, h := range two() {
				gets(t, h+n+"\x01"+rest, api.Ins{}, 0, api.ErrArg)
				gets(t, h+"\x01"+n+rest, api.Ins{}, 0, api.ErrArg)
				gets(t, h+n+n+rest, api.Ins{}, 0, api.ErrArg)
			}
		}
	}
}

func TestGetOfWhatIsNoWord(t *testing.T) {
	for _, n := range []uint64{1 << 32, 1<<32 + 1, 1<<32 + 2, 1<<33 - 1, 1 << 33, 1<<33 + 1, 1 << 34, 1 << 62, 1<<63 - 1, 1 << 63, 1<<63 + 1, math.MaxUint64 - 1, math.MaxUint64} {
		gets(t, "\x00"+string(binary.AppendUvarint(nil, n)), api.Ins{}, 0, api.ErrArg)
	}
}

func TestGetOfOperandsThatAreOutOfRange(t *testing.T) {
	for _, s := range []string{
		"\x01\x08", "\x02\x08", "\x12\xc8\x01", "\x13\xc8\x01", "\x14\x10", "\x28\x10", "\x1a\x20", "\x1b\x20", "\x1d\x20", "\x1e\x20", "\x1f\x20",
		"\x20\x20\x00", "\x20\x00\x20", "\x21\x20\x00", "\x21\x00\x20", "\x22\x20", "\x23\x20", "\x24\x20", "\x25\x20", "\x26\x20", "\x27\x20",
		"\x2d\x20", "\x2e\x20", "\x31\x20", "\x32\x20", "\x33\x20",
		"\x29\x00\x00", "\x29\x00\x01", "\x29\x01\x00", "\x29\x01\x05", "\x29\x05\x05", "\x29\x05\x04", "\x2a\x00\x04", "\x2a\x01\x05", "\x2a\x05\x05",
		"\x29\x02\x01", "\x29\x04\x03", "\x2a\x02\x01", "\x2a\x04\x01",
	} {
		for _, rest := range behind {
			gets(t, s+rest, api.Ins{}, 0, api.ErrArg)
		}
	}
}

func TestWhichErrorComesFirst(t *testing.T) {
	for _, x := range []struct {
		s    string
		want api.Errno
	}{
		// A number that no operation is, ahead of all that is wrong behind it.
		{"\x34", api.ErrKind}, {"\x34\x80", api.ErrKind}, {"\x34\x80\x00", api.ErrKind}, {"\xff" + nine + "\x02", api.ErrKind}, {"\xa9\x00", api.ErrKind},
		// What is wrong with the bytes, ahead of what is out of range.
		{"\x20\x20", api.ErrEnd}, {"\x20\x7f\x80", api.ErrEnd}, {"\x29\x05", api.ErrEnd}, {"\x29\x00\xff", api.ErrEnd},
		{"\x20\x20\x80\x00", api.ErrForm}, {"\x21\xff\x01" + nine + "\x02", api.ErrForm}, {"\x2a\x00\x81\x00", api.ErrForm}, {"\x29\x05\x80\x00", api.ErrForm},
		{"\x29" + nine + "\x01", api.ErrEnd}, {"\x29" + nine + "\x01\x80\x00", api.ErrForm}, {"\x29" + nine + "\x01\x01", api.ErrArg},
		// The first operand's, ahead of the second one's.
		{"\x20\x80\x00", api.ErrForm}, {"\x20\x80\x00\x80", api.ErrForm}, {"\x20\x80\x00\x20", api.ErrForm}, {"\x29" + nine + "\x02", api.ErrForm},
		{"\x20\x80", api.ErrEnd}, {"\x20\x80\x80\x80", api.ErrEnd}, {"\x29\x81\x00\x00", api.ErrForm},
	} {
		gets(t, x.s, api.Ins{}, 0, x.want)
	}
}

// P7.3

// same fails, if Get of bytes tells anything but what should be, or what it tells is put as other bytes than these. It tells whether there was an instruction.
func same(t *testing.T, b []byte) bool {
	s := string(b)
	x, n, e := ins.Get(s)
	if want, many, err := read(b); x != want || n != many || e != err {
		t.Fatalf("get of %x: %v, %d, %v, not %v, %d, %v", s, x, n, e, want, many, err)
	}
	if e != api.OK {
		return false
	}
	if got, f := ins.Put(x); got != s[:n] || f != api.OK {
		t.Fatalf("put of %v: %x, %v, not %x", x, got, f, s[:n])
	}
	return true
}

func TestAllShortTexts(t *testing.T) {
	same(t, nil)
	for n := range 1 << 8 {
		same(t, []byte{byte(n)})
	}
	for n := range 1 << 16 {
		same(t, []byte{byte(n >> 8), byte(n)})
	}
	for n := range 1 << 24 {
		same(t, []byte{byte(n >> 16), byte(n >> 8), byte(n)})
	}
}

// texts are longer ones that are drawn: most begin with an operation, and numbers of all lengths stand behind.
func texts(d *draws.Row) []byte {
	b := []byte{byte(d.Next() % 56)}
	for range d.Next() % 4 {
		n := d.Next() >> (d.Next() % 64)
		b = binary.AppendUvarint(b, n)
		if d.Next()%8 == 0 {
			b[len(b)-1] |= 0x80
		}
	}
	for range d.Next() % 4 {
		b = append(b, byte(d.Next()))
	}
	return b
}

func TestDrawnTexts(t *testing.T) {
	d := draws.Row(7)
	many := 0
	for range 500000 {
		if same(t, texts(&d)) {
			many++
		}
	}
	if many < 100000 {
		t.Errorf("just %d instructions", many)
	}
}

func TestDrawnBytes(t *testing.T) {
	d := draws.Row(8)
	for range 500000 {
		b := make([]byte, 4+d.Next()%12)
		for k := range b {
			b[k] = byte(d.Next())
			if k > 0 && d.Next()%2 == 0 {
				b[k] |= 0x80
			}
		}
		b[0] %= 53
		same(t, b)
	}
}

func TestDrawnInstructionsAreGotWhateverStandsBehind(t *testing.T) {
	d := draws.Row(9)
	for range 200000 {
		x := good(int(d.Next() % api.Ops))
		for k := range len(forms[x.Op]) {
			r := ranges[forms[x.Op][k]]
			x = with(x, k, r[0]+int(d.Next()%uint64(r[1]-r[0]+1)))
		}
		if forms[x.Op] == "jj" && x.A > x.B {
			x.A, x.B = x.B, x.A
		}
		rest := make([]byte, d.Next()%6)
		for k := range rest {
			rest[k] = byte(d.Next())
		}
		s, e := ins.Put(x)
		if e != api.OK {
			t.Fatalf("put of %v: %v", x, e)
		}
		gets(t, s+string(rest), x, len(s), api.OK)
	}
}

func TestInstructionsOneBehindTheOther(t *testing.T) {
	var l []api.Ins
	s := ""
	for op := range forms {
		x := allOf(op)
		l = append(l, x[0], x[len(x)-1])
		s += written(x[0]) + written(x[len(x)-1])
	}
	for k, want := range l {
		x, n, e := ins.Get(s)
		if x != want || e != api.OK {
			t.Fatalf("%d: %v, %v, not %v", k, x, e, want)
		}
		s = s[n:]
	}
	if s != "" {
		t.Errorf("left: %x", s)
	}
}

func TestTheSameIsAnsweredEachTime(t *testing.T) {
	for range 3 {
		checks(t, api.Ins{Op: api.OpLoad, A: 8}, api.ErrArg)
		puts(t, api.Ins{Op: api.OpJoin, A: 2, B: 3}, "\x29\x02\x03")
		gets(t, "\x34", api.Ins{}, 0, api.ErrKind)
		gets(t, "\x15\x15", api.Ins{Op: api.OpRet}, 1, api.OK)
	}
}
