package depth_test

import (
	"math"
	"slices"
	"strconv"
	"strings"
	"testing"

	"logjam/api"
	"logjam/depth"
	"logjam/internal/draws"
	"logjam/internal/lists"
	"logjam/internal/progs"
	"logjam/op"
	"logjam/prog"
)

// no is the depth of what is not reached.
const no = -1

// many is a text that stands there so many times.
func many(n int, text string) string { return strings.Repeat(text+", ", n) }

// alone is a program of one function.
func alone(text string) api.Program {
	return api.Program{Funcs: []api.Func{{Code: progs.Code(text)}}}
}

// answer is what Of tells.
type answer struct {
	l  []int
	at int
	e  api.Errno
}

// same tells whether two answers are.
func (a answer) same(b answer) bool { return slices.Equal(a.l, b.l) && a.at == b.at && a.e == b.e }

// good is an answer of depths.
func good(l ...int) answer { return answer{l: l} }

// bad is an answer of what is wrong at a place.
func bad(at int, e api.Errno) answer { return answer{at: at, e: e} }

// takes is how many values an instruction takes, as the document's table has it.
func takes(p api.Program, x api.Ins) int {
	switch x.Op {
	case api.OpCall:
		if x.A < len(p.Funcs) {
			return p.Funcs[x.A].Args
		}
		return 0
	case api.OpJoin:
		return x.B
	case api.OpJoinFor:
		return x.B + 1
	}
	return table[x.Op].takes
}

// table is how many values each operation takes and lays; what call, join and joinfor take hangs on their operands, and stands in takes.
var table = [api.Ops]struct{ takes, lays int }{
	api.OpPush: {0, 1}, api.OpLoad: {0, 1}, api.OpStore: {1, 0}, api.OpAdd: {2, 1}, api.OpSub: {2, 1}, api.OpMul: {2, 1}, api.OpDiv: {2, 1}, api.OpMod: {2, 1}, api.OpNeg: {1, 1},
	api.OpLt: {2, 1}, api.OpEq: {2, 1}, api.OpAnd: {2, 1}, api.OpOr: {2, 1}, api.OpXor: {2, 1}, api.OpShl: {2, 1}, api.OpShr: {2, 1}, api.OpDup: {1, 2}, api.OpDrop: {1, 0},
	api.OpJump: {0, 0}, api.OpZero: {1, 0}, api.OpCall: {0, 1}, api.OpRet: {1, 0}, api.OpSelf: {0, 1}, api.OpNow: {0, 1}, api.OpOut: {1, 1}, api.OpYield: {0, 0},
	api.OpWait: {0, 1}, api.OpWaitFor: {1, 1}, api.OpSleep: {1, 1}, api.OpUnlock: {0, 1}, api.OpPost: {1, 1}, api.OpGive: {1, 1}, api.OpCwait: {0, 1}, api.OpCwaitFor: {1, 1},
	api.OpSignal: {0, 1}, api.OpBroadcast: {0, 1}, api.OpEnrol: {0, 1}, api.OpLeave: {0, 1}, api.OpArrive: {0, 1}, api.OpArriveFor: {1, 1}, api.OpSpawn: {2, 1}, api.OpJoin: {0, 1}, api.OpJoinFor: {0, 1},
	api.OpGrant: {2, 1}, api.OpWaive: {1, 1}, api.OpRead: {0, 2}, api.OpWrite: {1, 1}, api.OpBegin: {0, 1}, api.OpCommit: {0, 1}, api.OpClaim: {1, 1}, api.OpDead: {0, 1}, api.OpMend: {0, 1},
}

// ways is where one goes on behind an instruction, wherever that is.
func ways(x api.Ins, at int) []int {
	switch x.Op {
	case api.OpRet:
		return nil
	case api.OpJump:
		return []int{x.A}
	case api.OpZero:
		return []int{at + 1, x.A}
	}
	return []int{at + 1}
}

// reading is what Of should answer of a program that may be, as the chapter says it.
func reading(p api.Program, fn int) answer {
	if fn < 0 || fn >= len(p.Funcs) {
		return bad(0, api.ErrNone)
	}
	l := p.Funcs[fn].Code
	found, wrong := map[int]int{0: 0}, map[int]api.Errno{}
	for look := []int{0}; len(look) > 0; {
		slices.Sort(look)
		at := look[0]
		look = look[1:]
		n := found[at]
		if n < takes(p, l[at]) {
			wrong[at] = api.ErrForm
			continue
		}
		if n += table[l[at].Op].lays - takes(p, l[at]); n > 16 {
			wrong[at] = api.ErrLong
			continue
		}
		for _, to := range ways(l[at], at) {
			if to >= len(l) {
				wrong[at] = api.ErrEnd
				break
			}
			if was, ok := found[to]; ok && was != n {
				wrong[at] = api.ErrForm
				break
			} else if !ok {
				found[to] = n
				look = append(look, to)
			}
		}
	}
	var depths []int
	for at := range l {
		if e, ok := wrong[at]; ok {
			return bad(at, e)
		}
		n, ok := found[at]
		if !ok {
			n = no
		}
		depths = append(depths, n)
	}
	return good(depths...)
}

// mayGo tells whether each way through a function is one that P11.4 allows, each place being reached with one depth alone, and which these are. It goes all ways with all depths, in an order of its own, and knows nothing of what is found first.
func mayGo(p api.Program, fn int) ([]int, bool) {
	l := p.Funcs[fn].Code
	seen := make([][17]bool, len(l))
	seen[0][0] = true
	ok := true
	for look := [][2]int{{0, 0}}; len(look) > 0; {
		at, n := look[len(look)-1][0], look[len(look)-1][1]
		look = look[:len(look)-1]
		if n < takes(p, l[at]) {
			ok = false
			continue
		}
		if n += table[l[at].Op].lays - takes(p, l[at]); n > 16 {
			ok = false
			continue
		}
		for _, to := range ways(l[at], at) {
			if to >= len(l) {
				ok = false
			} else if !seen[to][n] {
				seen[to][n] = true
				look = append(look, [2]int{to, n})
			}
		}
	}
	var depths []int
	for _, row := range seen {
		at := no
		for n, is := range row {
			if is && at >= 0 {
				ok = false
			} else if is {
				at = n
			}
		}
		depths = append(depths, at)
	}
	return depths, ok
}

// asked is what Of answers of a program with spare room; it fails, if that is changed.
func asked(t *testing.T, p api.Program, fn int) answer {
	t.Helper()
	q := progs.Roomy(p)
	l, at, e := depth.Of(q, fn)
	if !progs.Kept(q, p) {
		t.Errorf("%v became %v", p, q)
	}
	return answer{l, at, e}
}

// of fails, if what Of tells of a program's function is anything but what should be, or if the tests' own reading is.
func of(t *testing.T, p api.Program, fn int, want answer) {
	t.Helper()
	if got := asked(t, p, fn); !got.same(want) {
		t.Errorf("function %d of %v: %v, not %v", fn, p, got, want)
	}
	if got := reading(p, fn); !got.same(want) {
		t.Errorf("of function %d of %v the tests' own reading is %v, not %v", fn, p, got, want)
	}
}

// tells fails, if what Of tells of a function in writing, which calls none, is anything but what should be, wherever the function stands.
func tells(t *testing.T, text string, want answer) {
	t.Helper()
	p := alone(text)
	of(t, p, 0, want)
	p.Funcs = []api.Func{{Args: 3, Locals: 4, Code: progs.Code("add")}, {Code: progs.Code(many(17, "push") + "ret")}, p.Funcs[0], {Args: 1, Locals: 1, Code: progs.Code("jump 7")}}
	of(t, p, 2, want)
	// How many arguments and locals a function has itself says nothing of its stack, which is empty at first.
	p.Funcs[2].Args, p.Funcs[2].Locals = 5, 8
	of(t, p, 2, want)
}

// P11.1

func TestTheExampleOfTheChapter(t *testing.T) {
	tells(t, "push 1, push 2, add, ret", good(0, 1, 2, 1))
}

func TestStraightCode(t *testing.T) {
	tells(t, "push 1, ret", good(0, 1))
	tells(t, "push -1, drop, push 3, dup, out, drop, ret", good(0, 1, 0, 1, 2, 2, 1))
	tells(t, "self, now, read 3, sub, mul, neg, store 0, yield, load 7, ret", good(0, 1, 2, 4, 3, 2, 2, 1, 1, 2))
	tells(t, many(16, "push")+many(15, "add")+"ret", good(0, 1, 2, 3, 4, 5, 6, 7, 8, 9, 10, 11, 12, 13, 14, 15, 16, 15, 14, 13, 12, 11, 10, 9, 8, 7, 6, 5, 4, 3, 2, 1))
	tells(t, "push, push, push, ret", good(0, 1, 2, 3))
}

func TestWhatStandsBehindRetAndJumpIsNotReached(t *testing.T) {
	tells(t, "push, ret, ret", good(0, 1, no))
	tells(t, "push, ret, add, jump 199, push, zero 100", good(0, 1, no, no, no, no))
	tells(t, "jump 2, drop, push, ret, drop", good(0, no, 0, 1, no))
	tells(t, "jump 0, add, add", good(0, no, no))
	tells(t, "push, ret, "+many(20, "push"), good(append([]int{0, 1}, slices.Repeat([]int{no}, 20)...)...))
	// What is not reached goes nowhere, and gives no other one its depth.
	tells(t, "push, ret, push, jump 0, jump 1", good(0, 1, no, no, no))
}

func TestJumps(t *testing.T) {
	tells(t, "jump 1, push, ret", good(0, 0, 1))
	tells(t, "push, jump 3, drop, dup, jump 6, add, ret", good(0, 1, no, 1, 2, no, 2))
	tells(t, "push, jump 4, out, ret, yield, jump 2", good(0, 1, 1, 1, 1, 1))
	tells(t, "jump 0", good(0))
	tells(t, "push, push, jump 2", good(0, 1, 2))
	tells(t, "push, drop, jump 0", good(0, 1, 0))
	tells(t, "jump 3, push, ret, jump 5, ret, jump 1", good(0, 0, 1, 0, no, 0))
	tells(t, "jump 2, jump 3, jump 1, jump 0", good(0, 0, 0, 0))
}

func TestZeros(t *testing.T) {
	tells(t, "push, zero 2, push, ret", good(0, 1, 0, 1))
	tells(t, "push, zero 0, push, ret", good(0, 1, 0, 1))
	tells(t, "push, push, zero 1, ret", good(0, 1, 2, 1))
	tells(t, "push, zero 4, push, ret, push, push, ret", good(0, 1, 0, 1, 0, 1, 2))
	// Both ways meet again: where the first one goes on to, and where it jumps to.
	tells(t, "push, zero 4, push 5, jump 5, push 6, ret", good(0, 1, 0, 1, 0, 1))
	tells(t, "push, zero 5, push, drop, yield, push, ret", good(0, 1, 0, 1, 0, 0, 1))
	tells(t, "push, dup, zero 4, out, ret", good(0, 1, 2, 1, 1))
	tells(t, "push, push, zero 6, push, add, ret, push, jump 4", good(0, 1, 2, 1, 2, 1, 1, 2))
	// A loop that ends.
	tells(t, "push, dup, zero 7, dup, drop, yield, jump 1, ret", good(0, 1, 2, 1, 2, 1, 1, 1))
}

func TestAZeroMayNameItself(t *testing.T) {
	// It takes one value each time, so it can't come back to itself with as many.
	tells(t, "push, zero 1, push, ret", bad(1, api.ErrForm))
	tells(t, many(16, "push")+"zero 16, push, ret", bad(16, api.ErrForm))
}

// eachOp calls something with each operation, its operands such as may be, and how many values it takes and lays. Call is that of function 1, which has 3 arguments.
func eachOp(do func(x api.Ins, takes, lays int)) {
	for o, row := range table {
		switch o {
		case api.OpCall:
			do(api.Ins{Op: o, A: 1}, 3, 1)
		case api.OpJoin, api.OpJoinFor:
			for a := 1; a <= 4; a++ {
				for b := a; b <= 4; b++ {
					do(api.Ins{Op: o, A: a, B: b}, b+o-api.OpJoin, 1)
				}
			}
		default:
			do(api.Ins{Op: o}, row.takes, row.lays)
		}
	}
}

// pushes are instructions that lay so many values.
func pushes(n int) []api.Ins { return progs.Code(many(n, "push")) }

// with is a program whose function 0 has these instructions, and whose function 1 has 3 arguments.
func with(l []api.Ins) api.Program {
	return api.Program{Funcs: []api.Func{{Code: l}, {Args: 3, Locals: 3, Code: progs.Code("push, ret")}}}
}

func TestEachOperationWithEachDepth(t *testing.T) {
	eachOp(func(x api.Ins, takes, lays int) {
		for have := 0; have <= 16; have++ {
			l := append(pushes(have), x, api.Ins{Op: api.OpJump, A: have + 1})
			if x.Op == api.OpJump || x.Op == api.OpZero {
				l[have].A = have + 1
			}
			want := good(append(rising(have), have-takes+lays)...)
			switch {
			case have < takes:
				want = bad(have, api.ErrForm)
			case have-takes+lays > 16:
				want = bad(have, api.ErrLong)
			case x.Op == api.OpRet:
				want.l[have+1] = no
			}
			of(t, with(l), 0, want)
		}
	})
}

// rising is 0 and all up to n.
func rising(n int) []int {
	var l []int
	for k := range n + 1 {
		l = append(l, k)
	}
	return l
}

func TestEachOperationAtTheEnd(t *testing.T) {
	eachOp(func(x api.Ins, takes, lays int) {
		for have := 0; have <= 16; have++ {
			for _, to := range []int{have + 1, 199} {
				l := append(pushes(have), x)
				want := bad(have, api.ErrEnd)
				if x.Op == api.OpJump || x.Op == api.OpZero {
					l[have].A = to
				}
				switch {
				case have < takes:
					want = bad(have, api.ErrForm)
				case have-takes+lays > 16:
					want = bad(have, api.ErrLong)
				case x.Op == api.OpRet:
					want = good(rising(have)...)
				}
				of(t, with(l), 0, want)
			}
		}
	})
}

func TestCalls(t *testing.T) {
	for args := 0; args <= 8; args++ {
		callee := api.Func{Args: args, Locals: 8, Code: progs.Code("push, ret")}
		for have := 0; have <= 16; have++ {
			body := func(fn int) []api.Ins {
				return append(pushes(have), api.Ins{Op: api.OpCall, A: fn}, api.Ins{Op: api.OpJump, A: have + 1})
			}
			want := good(append(rising(have), have-args+1)...)
			if have < args {
				want = bad(have, api.ErrForm)
			} else if have-args+1 > 16 {
				want = bad(have, api.ErrLong)
			}
			// Of itself, of one ahead of it, and of one behind it, the last one.
			callee.Code = body(0)
			of(t, api.Program{Funcs: []api.Func{callee}}, 0, want)
			callee.Code = body(2)
			of(t, api.Program{Funcs: []api.Func{{Args: 7, Locals: 7}, {}, callee, {Args: 6, Locals: 6}}}, 2, want)
			callee.Code = progs.Code("push, ret")
			of(t, api.Program{Funcs: []api.Func{callee, {Code: body(0)}}}, 1, want)
			of(t, api.Program{Funcs: []api.Func{{Args: (args + 1) % 9, Locals: 8, Code: body(1)}, callee}}, 0, want)
			of(t, api.Program{Funcs: append(slices.Repeat([]api.Func{{Args: (args + 1) % 9, Locals: 8, Code: body(15)}}, 15), callee)}, 3, want)
		}
	}
}

func TestACallOfAFunctionThatThereIsNotTakesNothing(t *testing.T) {
	for fn := 1; fn <= 15; fn++ {
		for _, args := range []int{0, 1, 8} {
			for there := 1; there <= fn; there++ {
				f := api.Func{Args: args, Locals: args, Code: []api.Ins{{Op: api.OpCall, A: fn}, {Op: api.OpRet}}}
				of(t, api.Program{Funcs: slices.Repeat([]api.Func{f}, there)}, there-1, good(0, 1))
			}
		}
	}
	full := append(pushes(16), api.Ins{Op: api.OpCall, A: 15}, api.Ins{Op: api.OpRet})
	of(t, api.Program{Funcs: []api.Func{{Code: full}}}, 0, bad(16, api.ErrLong))
}

func TestWhatIsCalledIsNotAskedWhetherItIsRight(t *testing.T) {
	for _, text := range []string{"add", "push", "jump 9", many(17, "push") + "ret"} {
		p := api.Program{Funcs: []api.Func{{Code: progs.Code("call 1, ret")}, {Code: progs.Code(text)}}}
		of(t, p, 0, good(0, 1))
		if got := reading(p, 1); got.e == api.OK {
			t.Errorf("%s is right", text)
		}
	}
}

func TestASpawnTakesTwoWhateverItNames(t *testing.T) {
	for fn := range 4 {
		p := api.Program{Funcs: []api.Func{{Code: []api.Ins{{Op: api.OpPush}, {Op: api.OpPush}, {Op: api.OpSpawn, A: fn}, {Op: api.OpRet}}}, {Args: 1, Locals: 1, Code: progs.Code("push, ret")}, {Args: 8, Locals: 8, Code: progs.Code("push, ret")}}}
		of(t, p, 0, good(0, 1, 2, 1))
		p.Funcs[0].Code = p.Funcs[0].Code[1:]
		of(t, p, 0, bad(1, api.ErrForm))
	}
}

func TestOfAJoinBCounts(t *testing.T) {
	tells(t, "push, push, push, join 1 3, ret", good(0, 1, 2, 3, 1))
	tells(t, "push, push, join 1 3, ret", bad(2, api.ErrForm))
	tells(t, "push, push, push, push, joinfor 2 3, ret", good(0, 1, 2, 3, 4, 1))
	tells(t, "push, push, push, joinfor 2 3, ret", bad(3, api.ErrForm))
	tells(t, "push, join 1 1, ret", good(0, 1, 1))
	tells(t, "push, push, joinfor 1 1, ret", good(0, 1, 2, 1))
	tells(t, "push, joinfor 1 1, ret", bad(1, api.ErrForm))
}

// P11.2

func TestFunctionsThatThereAreAndAreNot(t *testing.T) {
	p := api.Program{Funcs: []api.Func{{Code: progs.Code("push, ret")}, {Code: progs.Code("push, dup, ret")}, {Code: progs.Code("push, push, add, ret")}}}
	wants := []answer{good(0, 1), good(0, 1, 2), good(0, 1, 2, 1)}
	for fn, want := range wants {
		of(t, p, fn, want)
	}
	for _, fn := range []int{-1, -2, -3, -256, math.MinInt32, math.MinInt, math.MinInt + 1, 3, 4, 15, 16, 256, 257, math.MaxInt32, 1 << 32, 1<<32 + 1, -1 << 32, math.MaxInt} {
		of(t, p, fn, bad(0, api.ErrNone))
	}
	for _, fn := range []int{-1, 0, 1, math.MinInt, math.MaxInt} {
		of(t, api.Program{}, fn, bad(0, api.ErrNone))
		of(t, api.Program{Funcs: []api.Func{}}, fn, bad(0, api.ErrNone))
	}
	full := api.Program{Funcs: slices.Repeat(p.Funcs[:1], 16)}
	for fn := -1; fn <= 16; fn++ {
		want := good(0, 1)
		if fn < 0 || fn > 15 {
			want = bad(0, api.ErrNone)
		}
		of(t, full, fn, want)
	}
}

func TestOnlyTheFunctionThatIsAskedIsTold(t *testing.T) {
	p := api.Program{Funcs: []api.Func{{Code: progs.Code("add")}, {Code: progs.Code("push, ret")}, {Code: progs.Code("push")}, {Code: progs.Code(many(17, "push"))}, {Code: progs.Code("jump 3")}}}
	for fn, want := range []answer{bad(0, api.ErrForm), good(0, 1), bad(0, api.ErrEnd), bad(16, api.ErrLong), bad(0, api.ErrEnd)} {
		of(t, p, fn, want)
	}
}

func TestTooFewValues(t *testing.T) {
	for text, at := range map[string]int{
		"drop, push, ret":                   0,
		"add, ret":                          0,
		"ret":                               0,
		"zero 0":                            0,
		"zero 1, push, ret":                 0,
		"dup, dup, dup":                     0,
		"push, add, ret":                    1,
		"push, grant, ret":                  1,
		"push, drop, drop, push, ret":       2,
		"push, drop, ret":                   2,
		"push, store 0, ret":                2,
		"jump 2, ret, dup, ret":             2,
		"push, push, joinfor 1 2":           2,
		"push, push, add, add, ret":         3,
		"push, zero 3, yield, ret":          3,
		"push, zero 4, push, ret, out, ret": 4,
		many(4, "push, push, add, drop") + "spawn 0": 16,
		many(16, "push") + many(16, "drop") + "ret":  32,
	} {
		tells(t, text, bad(at, api.ErrForm))
	}
}

func TestTooManyValues(t *testing.T) {
	for text, at := range map[string]int{
		many(8, "read 0") + "read 0":                              8,
		many(15, "push") + "read 0, ret":                          15,
		many(17, "push") + "ret":                                  16,
		many(17, "push"):                                          16,
		many(20, "push") + "ret":                                  16,
		many(16, "push") + "dup, ret":                             16,
		many(16, "push") + "self":                                 16,
		many(16, "push") + "read 0, ret":                          16,
		many(16, "push") + "wait 0, drop, ret":                    16,
		many(16, "push") + "drop, read 0, ret":                    17,
		many(16, "push") + "drop, push, push, ret":                18,
		many(16, "push") + "jump 18, ret, push, ret":              18,
		many(16, "push") + "zero 19, push, push, ret":             18,
		"jump 2, ret, " + many(16, "push") + "jump 20, ret, push": 20,
		many(15, "push") + "dup, drop, dup, out, yield, push":     20,
	} {
		tells(t, text, bad(at, api.ErrLong))
	}
}

func TestSixteenValuesMayBe(t *testing.T) {
	for text, behind := range map[string][]int{
		"ret":                        nil,
		"add, push, ret":             {15, 16},
		"out, out, ret":              {16, 16},
		"drop, ret":                  {15},
		"join 1 4, ret":              {13},
		"joinfor 1 4, ret":           {12},
		"yield, jump 18, ret":        {16, 16},
		"jump 18, ret, ret":          {no, 16},
		"drop, drop, read 0, ret":    {15, 14, 16},
		"drop, dup, waive, neg, ret": {15, 16, 16, 16},
	} {
		tells(t, many(16, "push")+text, good(append(rising(16), behind...)...))
	}
	tells(t, many(8, "read 0")+"ret", good(0, 2, 4, 6, 8, 10, 12, 14, 16))
	tells(t, "push, "+many(15, "dup")+"ret", good(rising(16)...))
}

func TestNoNextOne(t *testing.T) {
	for text, at := range map[string]int{
		"push":                               0,
		"yield":                              0,
		"push, drop":                         1,
		"push, zero 1":                       1,
		"push, push, add":                    2,
		"push, push, zero 0":                 2,
		"jump 2, ret, push":                  2,
		"push, zero 3, yield, yield":         3,
		"push, zero 4, push, ret, self":      4,
		"push, zero 3, jump 4, yield, yield": 4,
		many(16, "push"):                     15,
		many(99, "push, drop") + "yield":     198,
		many(100, "push, drop"):              199,
		"jump 199, " + many(199, "push"):     199,
	} {
		tells(t, text, bad(at, api.ErrEnd))
	}
	// One that is not reached may be the last, and one that nothing goes on behind.
	tells(t, "push, ret, push", good(0, 1, no))
	tells(t, "yield, jump 0", good(0, 0))
	tells(t, many(99, "push, drop")+"push, ret", good(append(slices.Repeat([]int{0, 1}, 99), 0, 1)...))
}

func TestNoSuchPlace(t *testing.T) {
	for _, to := range []string{"3", "4", "5", "16", "64", "100", "198", "199"} {
		tells(t, "jump "+to+", push, ret", bad(0, api.ErrEnd))
		tells(t, "push, jump "+to+", ret", bad(1, api.ErrEnd))
		tells(t, "push, drop, jump "+to, bad(2, api.ErrEnd))
		tells(t, "push, zero "+to+", jump 2", bad(1, api.ErrEnd))
		tells(t, "jump 1, jump 2, jump "+to, bad(2, api.ErrEnd))
	}
	tells(t, "jump 1", bad(0, api.ErrEnd))
	tells(t, "push, zero 4, push, ret", bad(1, api.ErrEnd))
	// Just inside.
	tells(t, "push, jump 2, ret", good(0, 1, 1))
	tells(t, "push, zero 3, jump 3, jump 3", good(0, 1, 0, 0))
	// Of 200 instructions each place is there.
	tells(t, "jump 199, "+many(198, "ret")+"jump 0", good(append(append([]int{0}, slices.Repeat([]int{no}, 198)...), 0)...))
	tells(t, "jump 199, "+many(197, "ret")+"jump 0", bad(0, api.ErrEnd))
}

func TestAnotherDepthToo(t *testing.T) {
	for text, at := range map[string]int{
		// By a jump.
		"push, jump 0":                            1,
		"push, push, push, jump 2":                3,
		"yield, yield, push, jump 1":              3,
		"push, zero 4, push, jump 5, jump 5, ret": 4,
		"push, push, push, drop, drop, jump 2":    5,
		// By a zero: to its place, and to the next one.
		"push, zero 1, push, ret":                     1,
		"push, push, zero 0, ret":                     2,
		"push, push, push, zero 1, ret":               3,
		"push, dup, zero 6, zero 6, jump 4, ret, ret": 3,
		"push, dup, zero 5, jump 4, zero 3, ret":      4,
		// By going on.
		"push, zero 3, push, push, ret":              2,
		"push, zero 3, read 0, push, ret":            2,
		"push, dup, zero 4, drop, ret":               3,
		"push, zero 4, jump 5, ret, push, push, ret": 4,
	} {
		tells(t, text, bad(at, api.ErrForm))
	}
}

func TestOfOneTheFirstErrorIsTold(t *testing.T) {
	// What it takes is asked ahead of where it goes.
	tells(t, "zero 199", bad(0, api.ErrForm))
	tells(t, "push, drop, add", bad(2, api.ErrForm))
	tells(t, many(16, "push")+"dup", bad(16, api.ErrLong))
	tells(t, many(15, "push")+"read 0", bad(15, api.ErrLong))
	tells(t, many(16, "push")+"zero 19, push, dup, ret", bad(18, api.ErrLong))
	// The next one is asked ahead of the place: where the one is not there, the other is there with another depth, and the other way round.
	tells(t, "push, push, zero 0", bad(2, api.ErrEnd))
	tells(t, "push, dup, zero 5, jump 4, zero 199, ret", bad(4, api.ErrForm))
	tells(t, "push, push, zero 0, ret", bad(2, api.ErrForm))
	tells(t, "push, push, zero 4, ret", bad(2, api.ErrEnd))
}

func TestOfSeveralTheLeastPlaceIsTold(t *testing.T) {
	tells(t, "push, zero 5, drop, push, ret, ret", bad(2, api.ErrForm))
	tells(t, "push, zero 4, jump 9, ret, ret", bad(2, api.ErrEnd))
	tells(t, "push, zero 4, ret, ret, jump 9", bad(2, api.ErrForm))
	// That at the lesser place is found behind that at the greater one, by a way ahead of the wrong one.
	tells(t, "push, jump 4, drop, ret, zero 9, jump 2", bad(2, api.ErrForm))
	tells(t, "push, jump 4, jump 9, ret, zero 4, jump 2", bad(2, api.ErrEnd))
	tells(t, "push, push, jump 5, drop, ret, zero 0, jump 3", bad(4, api.ErrForm))
	tells(t, "jump 3, push, ret, "+many(16, "push")+"zero 199, push, jump 1", bad(1, api.ErrLong))
}

func TestWhatIsWrongIsNotGoneOnFrom(t *testing.T) {
	// Behind each that is wrong there would be a way to one at a lesser place that is wrong, too.
	tells(t, "jump 3, drop, ret, drop, jump 1", bad(3, api.ErrForm))
	tells(t, "push, jump 4, drop, ret, add, jump 2", bad(4, api.ErrForm))
	tells(t, "jump 3, jump 199, ret, "+many(17, "push")+"jump 1", bad(19, api.ErrLong))
	tells(t, "push, jump 4, drop, ret, zero 2", bad(4, api.ErrEnd))
	tells(t, "push, dup, zero 7, jump 6, drop, ret, zero 4, ret", bad(6, api.ErrForm))
}

func TestWhatWasFoundFirstStays(t *testing.T) {
	// With the later depth an add would be wrong ahead of what comes back to it.
	tells(t, "push, push, add, jump 2", bad(3, api.ErrForm))
	tells(t, "push, push, add, drop, jump 2", bad(4, api.ErrForm))
	// With the later depth a push would be too much ahead of what comes back to it.
	tells(t, "yield, jump 3, ret, "+many(16, "push")+"jump 3", bad(19, api.ErrForm))
}

func TestTheLeastPlaceIsLookedAtFirst(t *testing.T) {
	// A place is reached from two, each with another depth, and the one that is looked at later is wrong. If those that were found first went on first, or those that were found last, it would be 3.
	tells(t, "push, zero 4, push, jump 5, jump 5, ret", bad(4, api.ErrForm))
	// If the next one went on first, wherever a zero goes, it would be 2.
	tells(t, "jump 3, push, jump 6, push, zero 1, yield, ret", bad(5, api.ErrForm))
}

// near fails, if of a program's function Of tells anything but what the tests' own reading tells, or if it tells of no error where some way through the function is wrong, or the other way round.
func near(t *testing.T, p api.Program, fn int) answer {
	t.Helper()
	l, at, e := depth.Of(p, fn)
	got := answer{l, at, e}
	if want := reading(p, fn); !got.same(want) {
		t.Fatalf("function %d of %v: %v, not %v", fn, p, got, want)
	}
	if l, ok := mayGo(p, fn); ok != (e == api.OK) || ok && !slices.Equal(l, got.l) {
		t.Fatalf("function %d of %v: %v, and its ways have %v, %v", fn, p, got, l, ok)
	}
	return got
}

// each calls something with all rows of so many instructions out of a list.
func each(out []api.Ins, many int, do func(l []api.Ins)) {
	l := make([]api.Ins, many)
	var fill func(k int)
	fill = func(k int) {
		if k == many {
			do(l)
			return
		}
		for _, x := range out {
			l[k] = x
			fill(k + 1)
		}
	}
	fill(0)
}

// around is instructions that go to all places from the least to the greatest.
func around(least, greatest int) []api.Ins {
	var l []api.Ins
	for to := least; to <= greatest; to++ {
		l = append(l, api.Ins{Op: api.OpJump, A: to}, api.Ins{Op: api.OpZero, A: to})
	}
	return l
}

func TestAllSmallFunctions(t *testing.T) {
	met := map[api.Errno]int{}
	for many := 1; many <= 4; many++ {
		each(append(progs.Code("push, drop, dup, ret"), around(0, many)...), many, func(l []api.Ins) {
			met[near(t, api.Program{Funcs: []api.Func{{Code: l}}}, 0).e]++
		})
	}
	if met[api.OK] < 500 || met[api.ErrForm] < 500 || met[api.ErrEnd] < 500 {
		t.Errorf("too few of a kind: %v", met)
	}
}

func TestAllSmallFunctionsWithManyValues(t *testing.T) {
	met := map[api.Errno]int{}
	for have := 14; have <= 16; have++ {
		ahead := pushes(have)
		each(append(progs.Code("push, drop, read 0, ret"), around(have-1, have+3)...), 3, func(l []api.Ins) {
			met[near(t, api.Program{Funcs: []api.Func{{Code: append(ahead[:have:have], l...)}}}, 0).e]++
		})
	}
	if met[api.OK] < 50 || met[api.ErrForm] < 50 || met[api.ErrLong] < 50 || met[api.ErrEnd] < 50 {
		t.Errorf("too few of a kind: %v", met)
	}
}

// drawn is a function on its way: each statement that is drawn leaves as many values as it found.
type drawn struct {
	row  draws.Row
	l    []api.Ins
	args []int
}

// below is a number from 0 to n - 1.
func (d *drawn) below(n int) int { return int(d.row.Next() % uint64(n)) }

// put is instructions in writing, at the end.
func (d *drawn) put(text string) { d.l = append(d.l, progs.Code(text)...) }

// open is an instruction whose place is not known yet; here is the place to which it goes.
func (d *drawn) open(o int) func() {
	at := len(d.l)
	d.l = append(d.l, api.Ins{Op: o})
	return func() { d.l[at].A = len(d.l) }
}

// any is any instruction that may be.
func (d *drawn) any() api.Ins {
	x := api.Ins{Op: d.below(api.Ops)}
	for k, letter := range op.Form(x.Op) {
		// Of two counts the second one may not be less.
		n := map[rune]int{'k': 8, 't': len(d.l) + 2, 'f': 16, 'j': 2}[letter]
		if n == 0 {
			n = 32
		}
		v := d.below(n)
		if letter == 'j' {
			v += 1 + 2*k
		}
		*[]*int{&x.A, &x.B}[k] = v
	}
	return x
}

// block is some statements, where so many values stand.
func (d *drawn) block(have, nested int) {
	for range d.below(4) {
		if len(d.l) < 140 {
			d.statement(have, nested)
		}
	}
}

// statement is one of them.
func (d *drawn) statement(have, nested int) {
	kind := d.below(9)
	if nested == 0 || have > 6 {
		kind = min(kind, 3)
	}
	switch kind {
	case 0:
		d.put("push, push, write 0, add, store 0")
	case 1:
		d.put("read 1, mul, dup, xor, drop, yield")
	case 2:
		d.put("self, self, self, push, joinfor 1 3, zero " + strconv.Itoa(len(d.l)+6))
	case 3:
		fn := d.below(len(d.args))
		n := d.args[fn]
		d.put(many(n, "push") + "call " + strconv.Itoa(fn) + ", drop")
	case 4:
		d.put("push")
		d.block(have+1, nested-1)
		d.put("out, drop")
	case 5:
		d.put("now")
		other := d.open(api.OpZero)
		d.block(have, nested-1)
		end := d.open(api.OpJump)
		other()
		d.block(have, nested-1)
		end()
	case 6:
		top := strconv.Itoa(len(d.l))
		d.put("yield")
		d.block(have, nested-1)
		d.put("push, zero " + top)
	case 7:
		over := d.open(api.OpJump)
		for range d.below(3) {
			d.l = append(d.l, d.any())
		}
		over()
	case 8:
		top := len(d.l)
		end := func() {}
		d.put("push")
		end = d.open(api.OpZero)
		d.block(have, nested-1)
		d.put("jump " + strconv.Itoa(top))
		end()
	}
}

// program is a drawn one that may be, and is right: of some functions, one of which has several statements.
func (d *drawn) program() (api.Program, int) {
	d.args = nil
	for range 1 + d.below(4) {
		d.args = append(d.args, d.below(5))
	}
	fn := d.below(len(d.args))
	d.l = nil
	for range 1 + d.below(4) {
		d.statement(0, 4)
	}
	d.put("push, ret")
	var p api.Program
	for _, n := range d.args {
		p.Funcs = append(p.Funcs, api.Func{Args: n, Locals: 8, Code: progs.Code("push, ret")})
	}
	p.Funcs[fn].Code = d.l
	return p, fn
}

// P11.4

func TestDrawnFunctionsThatAreRight(t *testing.T) {
	d := &drawn{row: 11}
	longest, most := 0, 0
	for range 3000 {
		p, fn := d.program()
		if e := prog.Check(p); e != api.OK {
			t.Fatalf("%v may not be: %v", p, e)
		}
		got := near(t, p, fn)
		if got.e != api.OK {
			t.Fatalf("function %d of %v: %v", fn, p, got)
		}
		longest, most = max(longest, len(got.l)), max(most, depth.Most(got.l))
		for range 5 {
			d.walk(t, p, fn, got.l)
		}
	}
	if longest < 100 || most < 8 {
		t.Errorf("too short, or too few values: %d, %d", longest, most)
	}
}

// walk goes some way through a function without an error, and fails, if what stands on its stack is ever anything but what was told.
func (d *drawn) walk(t *testing.T, p api.Program, fn int, depths []int) {
	t.Helper()
	l := p.Funcs[fn].Code
	var stack []struct{}
	at := 0
	for range 300 {
		x := l[at]
		if len(stack) != depths[at] || len(stack) < takes(p, x) {
			t.Fatalf("at %d of function %d of %v stand %d values, not %d, and %d are taken", at, fn, p, len(stack), depths[at], takes(p, x))
		}
		stack = stack[takes(p, x):]
		stack = append(stack, make([]struct{}, table[x.Op].lays)...)
		if len(stack) > 16 {
			t.Fatalf("behind %d of function %d of %v stand %d values", at, fn, p, len(stack))
		}
		to := ways(x, at)
		if len(to) == 0 {
			return
		}
		at = to[d.below(len(to))]
		if at >= len(l) {
			t.Fatalf("function %d of %v is left at %d", fn, p, at)
		}
	}
}

func TestDrawnFunctionsThatWereRight(t *testing.T) {
	d := &drawn{row: 114}
	met := map[api.Errno]int{}
	for range 3000 {
		p, fn := d.program()
		for range 5 {
			was := slices.Clone(p.Funcs[fn].Code)
			for range 1 + d.below(2) {
				p.Funcs[fn].Code[d.below(len(was))] = d.any()
			}
			if e := prog.Check(p); e != api.OK {
				t.Fatalf("%v may not be: %v", p, e)
			}
			got := near(t, p, fn)
			met[got.e]++
			if got.e == api.OK {
				d.walk(t, p, fn, got.l)
			}
			p.Funcs[fn].Code = was
		}
	}
	if met[api.OK] < 100 || met[api.ErrForm] < 100 || met[api.ErrEnd] < 100 {
		t.Errorf("too few of a kind: %v", met)
	}
}

func TestDrawnRowsOfInstructions(t *testing.T) {
	d := &drawn{row: 1144}
	met := map[api.Errno]int{}
	for range 60000 {
		size := 2 + d.below(9)
		d.l = pushes([]int{0, 2, 8, 16}[d.below(4)])
		out := append(progs.Code("push, push, drop, dup, add, ret, yield, read 3, join 1 2, call 1"), around(0, len(d.l)+size-1)...)
		for range size {
			d.l = append(d.l, out[d.below(len(out))])
		}
		met[near(t, with(append(slices.Clone(d.l), progs.Code("ret")...)), 0).e]++
	}
	if met[api.OK] < 500 || met[api.ErrForm] < 500 || met[api.ErrLong] < 500 {
		t.Errorf("too few of a kind: %v", met)
	}
}

// What is open

// edges are numbers that no operand, and no count, may be, and some that it may.
var edges = []int{math.MinInt, math.MinInt + 1, math.MinInt + 2, -1 << 32, math.MinInt32, -200, -17, -16, -2, -1, 0, 1, 2, 3, 4, 5, 15, 16, 17, 31, 32, 52, 199, 200, 201, 256, math.MaxInt32, 1 << 32, 1<<32 + 1, math.MaxInt - 1, math.MaxInt}

func TestFunctionsWithoutInstructions(t *testing.T) {
	for _, f := range []api.Func{{}, {Code: []api.Ins{}}, {Args: -1}, {Args: math.MaxInt, Locals: math.MinInt}} {
		for _, fn := range []int{0, 1} {
			asked(t, api.Program{Funcs: []api.Func{f, f}}, fn)
			asked(t, api.Program{Funcs: []api.Func{{Code: progs.Code("call 1, call 1, ret")}, f}}, fn)
		}
	}
}

func TestOperandsOutOfRange(t *testing.T) {
	ops := append(rising(api.Ops), edges...)
	for _, o := range ops {
		for _, n := range edges {
			for have := range 3 {
				for _, x := range []api.Ins{{Op: o, A: n}, {Op: o, B: n}, {Op: o, A: n, B: n}} {
					asked(t, with(append(pushes(have), x, x, api.Ins{Op: api.OpRet})), 0)
					asked(t, with([]api.Ins{x}), 0)
				}
			}
		}
	}
}

func TestArgumentsOutOfRange(t *testing.T) {
	for _, n := range edges {
		for _, m := range edges {
			f := api.Func{Args: n, Locals: m, Code: progs.Code("call 0, call 1, call 2, add, add, ret")}
			for fn := range 3 {
				asked(t, api.Program{Funcs: []api.Func{f, f, {Args: m, Locals: n, Code: f.Code}}}, fn)
			}
		}
	}
}

func TestDrawnProgramsThatMayNotBe(t *testing.T) {
	d := &drawn{row: 1}
	for range 20000 {
		var p api.Program
		for range d.below(4) {
			f := api.Func{Args: edges[d.below(len(edges))], Locals: edges[d.below(len(edges))]}
			for range d.below(12) {
				o := []int{api.OpJoin, api.OpJoinFor, api.OpJump, api.OpZero, api.OpCall, api.OpPush, d.below(api.Ops), edges[d.below(len(edges))]}[d.below(8)]
				f.Code = append(f.Code, api.Ins{Op: o, A: edges[d.below(len(edges))], B: edges[d.below(len(edges))]})
			}
			p.Funcs = append(p.Funcs, f)
		}
		for fn := range p.Funcs {
			asked(t, p, fn)
		}
	}
}

func TestLongFunctions(t *testing.T) {
	for _, n := range []int{201, 256, 257, 1 << 16} {
		for _, x := range progs.Code("yield, push, jump 0, dup, zero 0, drop") {
			depth.Of(api.Program{Funcs: []api.Func{{Code: slices.Repeat([]api.Ins{x}, n)}}}, 0)
		}
		depth.Of(api.Program{Funcs: slices.Repeat([]api.Func{{Code: progs.Code("call 15, call 16, ret")}}, n)}, n-1)
		depth.Of(api.Program{Funcs: []api.Func{{Code: slices.Repeat(progs.Code("push, zero 0"), n)}}}, 0)
	}
}

func TestWhatElseAProgramHasIsNotAsked(t *testing.T) {
	// Objects and waits that may not be change nothing, and stay as they are.
	for fn, want := range []answer{good(0, 1, 2, 1, 2), bad(0, api.ErrForm), bad(0, api.ErrEnd)} {
		p := api.Program{
			Decls: []api.Decl{{Kind: api.Mutex}, {Kind: 99, A: -1, B: 5}},
			Waits: [][][]api.Need{{}, {{}, {{Kind: api.Lock, Obj: 0}, {Kind: 77, Obj: -1, N: 3}}}},
			Funcs: []api.Func{{Code: progs.Code("wait 0, unlock 0, drop, wait 31, ret")}, {Code: progs.Code("waitfor 0")}, {Code: progs.Code("wait 1")}},
		}
		of(t, p, fn, want)
	}
}

// P11.3

func TestMost(t *testing.T) {
	for _, x := range []struct {
		l    []int
		want int
	}{
		{nil, 0}, {[]int{}, 0}, {[]int{5}, 5}, {[]int{1}, 1}, {[]int{0}, 0}, {[]int{-1}, 0}, {[]int{-5}, 0},
		{[]int{-1, -2, -3}, 0}, {[]int{-3, -2, -1}, 0}, {[]int{0, 0, 0}, 0}, {[]int{-1, 0, -1}, 0},
		{[]int{9, 3, 5}, 9}, {[]int{3, 9, 5}, 9}, {[]int{3, 5, 9}, 9}, {[]int{9, 3, 9}, 9}, {[]int{3, 9, 9}, 9}, {[]int{9, 9}, 9},
		{[]int{0, 1, 2, 1}, 2}, {[]int{0, 1, no, no, 16, no}, 16}, {[]int{no, no, 1}, 1}, {[]int{-7, 7}, 7}, {[]int{7, -8}, 7}, {[]int{17}, 17}, {[]int{200, 100}, 200},
		{[]int{math.MinInt}, 0}, {[]int{math.MaxInt}, math.MaxInt}, {[]int{math.MinInt, math.MaxInt}, math.MaxInt}, {[]int{math.MaxInt, math.MinInt}, math.MaxInt},
		{[]int{math.MinInt, -1}, 0}, {[]int{math.MinInt, 3, math.MinInt + 1}, 3}, {[]int{math.MaxInt - 1, math.MaxInt, 0}, math.MaxInt}, {[]int{1 << 32, 1}, 1 << 32}, {[]int{1<<32 + 1, 1 << 33}, 1 << 33}, {[]int{-1 << 32, 0}, 0},
	} {
		l := lists.Room(x.l, 1000)
		if got := depth.Most(l); got != x.want {
			t.Errorf("of %v: %d, not %d", x.l, got, x.want)
		}
		if !slices.Equal(l[:cap(l)], append(slices.Clone(x.l), 1000, 1000)) {
			t.Errorf("%v became %v", x.l, l[:cap(l)])
		}
	}
	if got := depth.Most(nil); got != 0 {
		t.Errorf("of nil: %d", got)
	}
}

func TestMostOfDrawnLists(t *testing.T) {
	row := draws.Row(113)
	for range 5000 {
		want := 0
		var l []int
		for range row.Next() % 20 {
			n := int(row.Next()) >> (row.Next() % 64)
			l = append(l, n)
			if n > want {
				want = n
			}
		}
		if got := depth.Most(l); got != want {
			t.Errorf("of %v: %d, not %d", l, got, want)
		}
	}
}

func TestTheMostOfAFunction(t *testing.T) {
	l, _, _ := depth.Of(alone("push, push, read 0, add, add, add, ret"), 0)
	if got := depth.Most(l); got != 4 {
		t.Errorf("of %v: %d, not 4", l, got)
	}
	l, _, _ = depth.Of(alone("yield, jump 0, push, push"), 0)
	if got := depth.Most(l); got != 0 {
		t.Errorf("of %v: %d, not 0", l, got)
	}
}

// Memory

func TestAnAnswerIsMemoryOfItsOwn(t *testing.T) {
	for _, text := range []string{"push, ret", "jump 0", many(16, "push") + "ret", many(99, "push, drop") + "push, ret"} {
		p := alone(text)
		want := reading(p, 0)
		one, _, _ := depth.Of(p, 0)
		two, _, _ := depth.Of(p, 0)
		one, two = one[:cap(one)], two[:cap(two)]
		for k := range one {
			for n := range two {
				if &one[k] == &two[n] {
					t.Fatalf("two answers of %s lie in one memory", text)
				}
			}
		}
		for k := range one {
			one[k] = 99
		}
		if !slices.Equal(two[:len(want.l)], want.l) {
			t.Errorf("two answers of %s are one: %v", text, two)
		}
		of(t, p, 0, want)
	}
}

func TestTheSameIsAnsweredEachTime(t *testing.T) {
	for range 3 {
		tells(t, "push 1, push 2, add, ret", good(0, 1, 2, 1))
		tells(t, "push, add, ret", bad(1, api.ErrForm))
		tells(t, "push", bad(0, api.ErrEnd))
		tells(t, "jump 0", good(0))
		of(t, alone("jump 0"), 1, bad(0, api.ErrNone))
	}
}
