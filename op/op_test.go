package op_test

import (
	"math"
	"slices"
	"strings"
	"testing"

	"logjam/api"
	"logjam/op"
)

// row is an operation as the document's table has it; what it takes is as written there.
type row struct {
	number, constant int
	name, form       string
	takes            string
	lays             int
}

var table = []row{
	{0, api.OpPush, "push", "n", "0", 1},
	{1, api.OpLoad, "load", "k", "0", 1},
	{2, api.OpStore, "store", "k", "1", 0},
	{3, api.OpAdd, "add", "", "2", 1},
	{4, api.OpSub, "sub", "", "2", 1},
	{5, api.OpMul, "mul", "", "2", 1},
	{6, api.OpDiv, "div", "", "2", 1},
	{7, api.OpMod, "mod", "", "2", 1},
	{8, api.OpNeg, "neg", "", "1", 1},
	{9, api.OpLt, "lt", "", "2", 1},
	{10, api.OpEq, "eq", "", "2", 1},
	{11, api.OpAnd, "and", "", "2", 1},
	{12, api.OpOr, "or", "", "2", 1},
	{13, api.OpXor, "xor", "", "2", 1},
	{14, api.OpShl, "shl", "", "2", 1},
	{15, api.OpShr, "shr", "", "2", 1},
	{16, api.OpDup, "dup", "", "1", 2},
	{17, api.OpDrop, "drop", "", "1", 0},
	{18, api.OpJump, "jump", "t", "0", 0},
	{19, api.OpZero, "zero", "t", "1", 0},
	{20, api.OpCall, "call", "f", "args", 1},
	{21, api.OpRet, "ret", "", "1", 0},
	{22, api.OpSelf, "self", "", "0", 1},
	{23, api.OpNow, "now", "", "0", 1},
	{24, api.OpOut, "out", "", "1", 1},
	{25, api.OpYield, "yield", "", "0", 0},
	{26, api.OpWait, "wait", "w", "0", 1},
	{27, api.OpWaitFor, "waitfor", "w", "1", 1},
	{28, api.OpSleep, "sleep", "", "1", 1},
	{29, api.OpUnlock, "unlock", "u", "0", 1},
	{30, api.OpPost, "post", "s", "1", 1},
	{31, api.OpGive, "give", "p", "1", 1},
	{32, api.OpCwait, "cwait", "cm", "0", 1},
	{33, api.OpCwaitFor, "cwaitfor", "cm", "1", 1},
	{34, api.OpSignal, "signal", "c", "0", 1},
	{35, api.OpBroadcast, "broadcast", "c", "0", 1},
	{36, api.OpEnrol, "enrol", "b", "0", 1},
	{37, api.OpLeave, "leave", "b", "0", 1},
	{38, api.OpArrive, "arrive", "b", "0", 1},
	{39, api.OpArriveFor, "arrivefor", "b", "1", 1},
	{40, api.OpSpawn, "spawn", "f", "2", 1},
	{41, api.OpJoin, "join", "jj", "B", 1},
	{42, api.OpJoinFor, "joinfor", "jj", "B + 1", 1},
	{43, api.OpGrant, "grant", "", "2", 1},
	{44, api.OpWaive, "waive", "", "1", 1},
	{45, api.OpRead, "read", "v", "0", 2},
	{46, api.OpWrite, "write", "v", "1", 1},
	{47, api.OpBegin, "begin", "", "0", 1},
	{48, api.OpCommit, "commit", "", "0", 1},
	{49, api.OpClaim, "claim", "q", "1", 1},
	{50, api.OpDead, "dead", "m", "0", 1},
	{51, api.OpMend, "mend", "m", "0", 1},
}

// none are numbers of no operation: those next to the ends, and those that fewer bits would take for an operation.
var none = []int{math.MinInt, math.MinInt + 3, -1 << 32, -1<<32 + 20, -1 << 31, -256, -52, -51, -20, -2, -1,
	api.Ops, api.Ops + 1, 63, 64, 64 + 20, 128, 255, 256, 256 + 20, 1 << 16, 1<<31 - 1, 1 << 31, 1 << 32, 1<<32 + 20, 1<<32 + 41, 1<<32 + 51, math.MaxInt - 1, math.MaxInt}

// some are operands and counts of arguments, small and great ones; the greatest int has no next one, and is none of them.
var some = []int{math.MinInt, -1 << 32, -1 << 31, -100, -5, -2, -1, 0, 1, 2, 3, 4, 5, 8, 9, 16, 17, 64, 200, 1<<31 - 1, 1 << 31, 1 << 32, math.MaxInt - 1}

// takenBy is how many values a row's operation takes.
func (r row) takenBy(b, args int) int {
	switch r.takes {
	case "1":
		return 1
	case "2":
		return 2
	case "args":
		return args
	case "B":
		return b
	case "B + 1":
		return b + 1
	}
	return 0
}

// called tells of which row a name is, if it is one.
func called(name string) (row, bool) {
	for _, r := range table {
		if r.name == name {
			return r, true
		}
	}
	return row{}, false
}

// of fails, if what Of tells of a name is anything but what should be.
func of(t *testing.T, name string, want int, ok bool) {
	t.Helper()
	if got, o := op.Of(name); got != want || o != ok {
		t.Errorf("of %q: %d, %v, not %d, %v", name, got, o, want, ok)
	}
}

// pops fails, if what Pops tells is anything but what should be.
func pops(t *testing.T, x api.Ins, args, want int) {
	t.Helper()
	if got := op.Pops(x, args); got != want {
		t.Errorf("%v with %d arguments takes %d, not %d", x, args, got, want)
	}
}

// P6.1

func TestOperationsAreAsManyAsTheTable(t *testing.T) {
	if api.Ops != 52 || len(table) != api.Ops {
		t.Errorf("%d operations, %d rows", api.Ops, len(table))
	}
}

func TestEachRowOfTheTable(t *testing.T) {
	for k, r := range table {
		if r.number != k || r.constant != k {
			t.Errorf("row %d: the number %d, the constant %d", k, r.number, r.constant)
		}
		if got := op.Name(r.constant); got != r.name {
			t.Errorf("%d is called %q, not %q", k, got, r.name)
		}
		of(t, r.name, k, true)
		if got := op.Form(r.constant); got != r.form {
			t.Errorf("%s has the form %q, not %q", r.name, got, r.form)
		}
		pops(t, api.Ins{Op: r.constant, A: 2, B: 3}, 7, r.takenBy(3, 7))
		if got := op.Pushes(r.constant); got != r.lays {
			t.Errorf("%s lays %d, not %d", r.name, got, r.lays)
		}
	}
}

func TestTheExampleOfCwait(t *testing.T) {
	of(t, "cwait", 32, true)
	if got := op.Form(32); got != "cm" {
		t.Errorf("the form of cwait: %q", got)
	}
}

// P6.2

func TestNoOperationHasNoNameAndNoForm(t *testing.T) {
	for _, n := range none {
		if name, form := op.Name(n), op.Form(n); name != "" || form != "" {
			t.Errorf("%d: the name %q, the form %q", n, name, form)
		}
	}
}

func TestEachNameLeadsBack(t *testing.T) {
	for k := range api.Ops {
		of(t, op.Name(k), k, true)
	}
}

func TestNoTwoHaveOneName(t *testing.T) {
	seen := map[string]int{}
	for k := range api.Ops {
		name := op.Name(k)
		if was, ok := seen[name]; ok {
			t.Errorf("%d and %d are both called %q", was, k, name)
		}
		seen[name] = k
	}
}

func TestTheEmptyNameIsNone(t *testing.T) { of(t, "", 0, false) }

func TestNamesThatAreNotQuiteThose(t *testing.T) {
	for _, r := range table {
		for _, name := range around(r.name) {
			want, ok := called(name)
			of(t, name, want.number, ok)
		}
	}
}

// around are texts that a careless look takes for a name: with one more, one less, or one other byte, with two that are turned, in great letters, and with blanks.
func around(name string) []string {
	l := []string{strings.ToUpper(name), strings.ToUpper(name[:1]) + name[1:], name + name, "Op" + name, name + " 1", name + "\n", name + "\x00", name + "\t", "\n" + name, name + "\u00a0", name + "s"}
	for i := range len(name) + 1 {
		for _, c := range " abcdefghijklmnopqrstuvwxyz_0" {
			l = append(l, name[:i]+string(c)+name[i:])
		}
	}
	for i := range len(name) {
		l = append(l, name[:i]+name[i+1:])
		for _, c := range []byte{' ', 0, 'a', 'e', 'r', 't', name[i] ^ 32, name[i] + 1, name[i] - 1, name[i] | 128} {
			l = append(l, name[:i]+string([]byte{c})+name[i+1:])
		}
		if i > 0 {
			l = append(l, name[:i-1]+name[i:i+1]+name[i-1:i]+name[i+1:], name[:i], name[i:])
		}
	}
	return l
}

func TestOtherTextsAreNoNames(t *testing.T) {
	for _, name := range []string{" ", "\x00", "0", "1", "51", "52", "-1", "n", "k", "cm", "nop", "none", "mutex", "lock", "pop", "push load", "push,load", "OpPush", "args", "B", "\xff\xfe", "wa\u0131t", strings.Repeat("push", 1000)} {
		of(t, name, 0, false)
	}
}

func TestAFormHasALetterForEachOperand(t *testing.T) {
	letters := ""
	for k := range api.Ops {
		form := op.Form(k)
		if len(form) > 2 {
			t.Errorf("%s has the form %q, and an instruction but two operands", op.Name(k), form)
		}
		letters += form
	}
	l := []byte(letters)
	slices.Sort(l)
	if got, want := string(slices.Compact(l)), "bcfjkmnpqstuvw"; got != want {
		t.Errorf("the letters %q, not %q", got, want)
	}
}

func TestTheSameIsAnsweredEachTime(t *testing.T) {
	all := slices.Concat(none, []int{api.OpMend, api.OpCall, api.OpPush, api.OpJoinFor, api.OpZero})
	for k := range api.Ops {
		all = append(all, k)
	}
	type told struct {
		name, form  string
		of          int
		ok          bool
		takes, lays int
		goes        bool
	}
	ask := func(k int) told {
		n, ok := op.Of(op.Name(k))
		return told{op.Name(k), op.Form(k), n, ok, op.Pops(api.Ins{Op: k, A: 1, B: 2}, 3), op.Pushes(k), op.Goes(k)}
	}
	first := map[int]told{}
	for _, k := range all {
		first[k] = ask(k)
	}
	slices.Reverse(all)
	for range 3 {
		for _, k := range all {
			if got := ask(k); got != first[k] {
				t.Errorf("%d: %v, and %v before", k, got, first[k])
			}
		}
	}
}

// P6.3

func TestCallTakesTheArguments(t *testing.T) {
	for _, args := range append([]int{math.MaxInt}, some...) {
		pops(t, api.Ins{Op: api.OpCall}, args, args)
		pops(t, api.Ins{Op: api.OpCall, A: 15, B: 4}, args, args)
	}
}

func TestJoinTakesAsManyAsB(t *testing.T) {
	for _, b := range append([]int{math.MaxInt}, some...) {
		pops(t, api.Ins{Op: api.OpJoin, B: b}, 0, b)
		pops(t, api.Ins{Op: api.OpJoin, A: 4, B: b}, 9, b)
	}
}

func TestJoinForTakesOneMoreThanB(t *testing.T) {
	for _, b := range some {
		pops(t, api.Ins{Op: api.OpJoinFor, B: b}, 0, b+1)
		pops(t, api.Ins{Op: api.OpJoinFor, A: 4, B: b}, 9, b+1)
	}
}

func TestWhatOthersTakeHangsOnTheOperationAlone(t *testing.T) {
	for _, r := range table {
		for _, a := range some {
			for _, b := range some {
				for _, args := range some {
					pops(t, api.Ins{Op: r.number, A: a, B: b}, args, r.takenBy(b, args))
				}
			}
		}
	}
}

func TestNoOperationTakesAndLaysNothing(t *testing.T) {
	for _, n := range none {
		for _, k := range some {
			pops(t, api.Ins{Op: n, A: k, B: k}, k, 0)
		}
		if got := op.Pushes(n); got != 0 {
			t.Errorf("%d lays %d", n, got)
		}
	}
}

func TestJumpAndRetDoNotGoOn(t *testing.T) {
	for _, k := range []int{api.OpJump, api.OpRet} {
		if op.Goes(k) {
			t.Errorf("%s goes on", op.Name(k))
		}
	}
}

func TestZeroMayGoOn(t *testing.T) {
	if !op.Goes(api.OpZero) {
		t.Error("zero does not go on")
	}
}

func TestEachOtherOperationGoesOn(t *testing.T) {
	for _, r := range table {
		if want := r.name != "jump" && r.name != "ret"; op.Goes(r.number) != want {
			t.Errorf("%s goes on: %v, not %v", r.name, !want, want)
		}
	}
}

func TestNoOperationDoesNotGoOn(t *testing.T) {
	for _, n := range none {
		if op.Goes(n) {
			t.Errorf("%d goes on", n)
		}
	}
}
