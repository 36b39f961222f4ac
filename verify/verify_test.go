package verify_test

import (
	"math"
	"slices"
	"strconv"
	"strings"
	"testing"

	"logjam/api"
	"logjam/depth"
	"logjam/internal/draws"
	"logjam/internal/progs"
	"logjam/prog"
	"logjam/verify"
)

// forms are those of the operations that have operands, as the document's table has them.
var forms = map[int]string{
	api.OpPush: "n", api.OpLoad: "k", api.OpStore: "k", api.OpJump: "t", api.OpZero: "t", api.OpCall: "f", api.OpSpawn: "f", api.OpWait: "w", api.OpWaitFor: "w",
	api.OpUnlock: "u", api.OpPost: "s", api.OpGive: "p", api.OpCwait: "cm", api.OpCwaitFor: "cm", api.OpSignal: "c", api.OpBroadcast: "c",
	api.OpEnrol: "b", api.OpLeave: "b", api.OpArrive: "b", api.OpArriveFor: "b", api.OpJoin: "jj", api.OpJoinFor: "jj",
	api.OpRead: "v", api.OpWrite: "v", api.OpClaim: "q", api.OpDead: "m", api.OpMend: "m",
}

// kinds are those of objects that letters stand for.
var kinds = map[byte][]int{
	'u': {api.Mutex, api.Rw}, 's': {api.Sem}, 'p': {api.Pool}, 'c': {api.Cond}, 'm': {api.Mutex}, 'b': {api.Bar}, 'v': {api.Cell}, 'q': {api.Mutex, api.Pool},
}

// ranges are how many numbers may stand where letters do, as prog.Check asks it, from 0 on; what is no object stands here.
var ranges = map[byte]int{'k': 8, 't': 200, 'f': 16, 'w': 32}

// numbers are how many there are of a letter.
func numbers(letter byte) int {
	if _, ok := kinds[letter]; ok {
		return 32
	}
	return ranges[letter]
}

// operand is one of an operation's: where it stands, and its letter.
type operand struct {
	op, at int
	letter byte
}

// operands are all that name something.
func operands() []operand {
	var l []operand
	for o := range api.Ops {
		for at := range len(forms[o]) {
			if letter := forms[o][at]; numbers(letter) > 0 {
				l = append(l, operand{o, at, letter})
			}
		}
	}
	return l
}

// of is an instruction that has a number there, and another one where it has another operand.
func (o operand) of(n, other int) api.Ins {
	x := api.Ins{Op: o.op, A: n}
	if len(forms[o.op]) == 2 {
		x.B = other
	}
	if o.at == 1 {
		x.A, x.B = x.B, x.A
	}
	return x
}

// answer is what Program tells.
type answer struct {
	where verify.Where
	e     api.Errno
}

// good is told of a program that may run.
var good answer

// bad is told of one where something is wrong.
func bad(fn, pc int, e api.Errno) answer { return answer{verify.Where{Fn: fn, Pc: pc}, e} }

// wrong is what is wrong with an operand of a function's instruction, in a program that may be, as the chapter says it.
func wrong(p api.Program, f api.Func, o int, letter byte, n int) api.Errno {
	many := map[byte]int{'k': f.Locals, 't': len(f.Code), 'f': len(p.Funcs), 'w': len(p.Waits)}
	if l, ok := kinds[letter]; ok {
		if n >= len(p.Decls) || !slices.Contains(l, p.Decls[n].Kind) {
			return api.ErrKind
		}
	} else if most, ok := many[letter]; ok {
		if n >= most || o == api.OpSpawn && p.Funcs[n].Args != 1 {
			return api.ErrArg
		}
	}
	return api.OK
}

// reading is what Program should answer, as the chapter says it.
func reading(p api.Program) answer {
	if e := prog.Check(p); e != api.OK {
		return bad(0, 0, e)
	}
	if p.Funcs[0].Args > 0 {
		return bad(0, 0, api.ErrArg)
	}
	for fn, f := range p.Funcs {
		for pc, x := range f.Code {
			for k, n := range []int{x.A, x.B}[:len(forms[x.Op])] {
				if e := wrong(p, f, x.Op, forms[x.Op][k], n); e != api.OK {
					return bad(fn, pc, e)
				}
			}
		}
		if _, pc, e := depth.Of(p, fn); e != api.OK {
			return bad(fn, pc, e)
		}
	}
	return good
}

// stacks is what would be told of a program that has nothing but its stacks wrong.
func stacks(p api.Program) answer {
	for fn := range p.Funcs {
		if _, pc, e := depth.Of(p, fn); e != api.OK {
			return bad(fn, pc, e)
		}
	}
	return good
}

// set is numbers as a set.
func set(l ...int) uint64 {
	s := uint64(0)
	for _, n := range l {
		s |= 1 << n
	}
	return s
}

// calling is what Calls should answer, as the chapter says it: whom each function calls, and whom by one that it calls.
func calling(p api.Program, fn int) uint64 {
	if fn < 0 || fn >= len(p.Funcs) || prog.Check(p) != api.OK {
		return 0
	}
	var calls [16][16]bool
	for k, f := range p.Funcs {
		calls[k][k] = true
		for _, x := range f.Code {
			if x.Op == api.OpCall && x.A < len(p.Funcs) {
				calls[k][x.A] = true
			}
		}
	}
	for by := range calls {
		for from := range calls {
			for to := range calls {
				calls[from][to] = calls[from][to] || calls[from][by] && calls[by][to]
			}
		}
	}
	s := uint64(0)
	for to, is := range calls[fn] {
		if is {
			s |= 1 << to
		}
	}
	return s
}

// using is what Uses should answer, as the chapter says it.
func using(p api.Program, fn int) uint64 {
	s := uint64(0)
	name := func(n int) {
		if n < len(p.Decls) {
			s |= 1 << n
		}
	}
	for k, f := range p.Funcs {
		if calling(p, fn)>>k&1 == 0 {
			continue
		}
		for _, x := range f.Code {
			for k, n := range []int{x.A, x.B}[:len(forms[x.Op])] {
				letter := forms[x.Op][k]
				if _, ok := kinds[letter]; ok {
					name(n)
				}
				if letter == 'w' && n < len(p.Waits) {
					for _, x := range slices.Concat(p.Waits[n]...) {
						name(x.Obj)
					}
				}
			}
		}
	}
	return s
}

// asked is what Program answers of a program with spare room; it fails, if that is changed, or if it answers otherwise when it is asked again.
func asked(t *testing.T, p api.Program) answer {
	t.Helper()
	q := progs.Roomy(p)
	var a, b answer
	a.where, a.e = verify.Program(q)
	b.where, b.e = verify.Program(q)
	if a != b {
		t.Errorf("%v: %v, and then %v", p, a, b)
	}
	if !progs.Kept(q, p) {
		t.Errorf("%v became %v", p, q)
	}
	return a
}

// tells fails, if what Program tells is anything but what should be, or if the tests' own reading is.
func tells(t *testing.T, p api.Program, want answer) {
	t.Helper()
	if got := asked(t, p); got != want {
		t.Errorf("%v: %v, not %v", p, got, want)
	}
	if got := reading(p); got != want {
		t.Errorf("of %v the tests' own reading is %v, not %v", p, got, want)
	}
}

// calls fails, if what Calls tells is anything but what should be, or if the tests' own reading is.
func calls(t *testing.T, p api.Program, fn int, want ...int) {
	t.Helper()
	answers(t, "calls", verify.Calls, calling, p, fn, set(want...))
}

// uses does the same with Uses.
func uses(t *testing.T, p api.Program, fn int, want ...int) {
	t.Helper()
	answers(t, "uses", verify.Uses, using, p, fn, set(want...))
}

// answers fails, if a call or the tests' own reading answers anything but what should be, or if the call changes the program.
func answers(t *testing.T, name string, call, own func(p api.Program, fn int) uint64, p api.Program, fn int, want uint64) {
	t.Helper()
	q := progs.Roomy(p)
	if got := call(q, fn); got != want {
		t.Errorf("%s of function %d of %v: %b, not %b", name, fn, p, got, want)
	}
	if !progs.Kept(q, p) {
		t.Errorf("%s of function %d of %v made it %v", name, fn, p, q)
	}
	if got := own(p, fn); got != want {
		t.Errorf("%s of function %d of %v: the tests' own reading is %b, not %b", name, fn, p, got, want)
	}
}

// objects are such that of each kind there is one, and two mutexes and cells.
func objects() []api.Decl {
	return []api.Decl{{Kind: api.Mutex}, {Kind: api.Rw}, {Kind: api.Sem, A: 1, B: 2}, {Kind: api.Cond}, {Kind: api.Bar}, {Kind: api.Pool, A: 3}, {Kind: api.Cell, A: -5, B: 0}, {Kind: api.Mutex}, {Kind: api.Cell, A: 5, B: 1}}
}

// fitting are the objects among these that fit letters.
var fitting = map[byte][]int{'u': {0, 1, 7}, 's': {2}, 'p': {5}, 'c': {3}, 'm': {0, 7}, 'b': {4}, 'v': {6, 8}, 'q': {0, 5, 7}}

// waits are two waits for these objects.
func waits() [][][]api.Need {
	return [][][]api.Need{
		{{{Kind: api.Lock, Obj: 0}, {Kind: api.Take, Obj: 5, N: 3}}, {{Kind: api.Down, Obj: 2, N: 1}}},
		{{{Kind: api.Write, Obj: 1}, {Kind: api.Lock, Obj: 7}}},
	}
}

// great is a program that may run, with three functions. In each of them something may be laid over the first place, over the one at 4, where four values stand, and over the last one, which is not reached.
func great() api.Program {
	const text = "push 1, push 2, push 3, push 4, push 5, ret, jump 6"
	return api.Program{Decls: objects(), Waits: waits(), Funcs: []api.Func{{Locals: 3, Code: progs.Code(text)}, {Args: 1, Locals: 8, Code: progs.Code(text)}, {Args: 2, Locals: 2, Code: progs.Code(text)}}}
}

// alone is a program of these objects and waits with one function.
func alone(text string) api.Program {
	return api.Program{Decls: objects(), Waits: waits(), Funcs: []api.Func{{Code: progs.Code(text)}}}
}

// many is a text that stands there so many times.
func many(n int, text string) string { return strings.Repeat(text+", ", n) }

// line is an instruction in writing.
func line(name string, l ...int) string {
	for _, n := range l {
		name += " " + strconv.Itoa(n)
	}
	return name
}

// pushes are instructions that lay so many values.
func pushes(n int) []api.Ins { return progs.Code(many(n, "push")) }

// P12.1

func TestTheExampleOfTheChapter(t *testing.T) {
	tells(t, api.Program{Decls: []api.Decl{{Kind: api.Sem, A: 0, B: 1}}, Funcs: []api.Func{{Code: progs.Code("unlock 0, ret")}}}, bad(0, 0, api.ErrKind))
}

func TestProgramsThatMayRun(t *testing.T) {
	tells(t, great(), good)
	tells(t, api.Program{Funcs: []api.Func{{Code: progs.Code("push 1, ret")}}}, good)
	tells(t, api.Program{Funcs: []api.Func{{Code: progs.Code("jump 0")}}}, good)
	tells(t, api.Program{Funcs: []api.Func{{Locals: 8, Code: progs.Code("call 0, ret")}}}, good)
	for _, text := range []string{
		"wait 0, drop, wait 1, drop, push 9, waitfor 1, ret",
		"unlock 0, drop, unlock 1, drop, unlock 7, ret",
		"push, post 2, give 5, ret",
		"cwait 3 0, drop, cwait 3 7, cwaitfor 3 7, drop, signal 3, drop, broadcast 3, ret",
		"enrol 4, drop, leave 4, drop, arrive 4, arrivefor 4, ret",
		"read 6, drop, read 8, drop, add, write 6, write 8, ret",
		"push 1, claim 0, claim 5, claim 7, ret",
		"dead 0, drop, dead 7, drop, mend 0, drop, mend 7, ret",
		"begin, drop, commit, drop, self, now, grant, waive, sleep, out, yield, ret",
		many(16, "push") + many(15, "xor") + "ret",
	} {
		tells(t, alone(text), good)
	}
	p := alone("push 1, push 2, call 1, push, spawn 2, zero 0, self, self, self, join 2 3, ret")
	p.Funcs = append(p.Funcs, api.Func{Args: 2, Locals: 3, Code: progs.Code("load 0, load 1, add, store 2, load 2, ret")}, api.Func{Args: 1, Locals: 1, Code: progs.Code("load 0, ret")})
	tells(t, p, good)
}

// flaw is something wrong with a program, and what is told of it.
type flaw struct {
	name string
	do   func(p *api.Program)
	want answer
}

// mayNotBe are flaws for which a program may not be, in the order in which they are told.
func mayNotBe() []flaw {
	var l []flaw
	add := func(name string, e api.Errno, do func(p *api.Program)) {
		l = append(l, flaw{name, do, bad(0, 0, e)})
	}
	add("33 objects", api.ErrLong, func(p *api.Program) { p.Decls = slices.Repeat([]api.Decl{{Kind: api.Mutex}}, 33) })
	add("no kind", api.ErrKind, func(p *api.Program) { p.Decls[8] = api.Decl{Kind: 8} })
	add("a pool of none", api.ErrArg, func(p *api.Program) { p.Decls[8] = api.Decl{Kind: api.Pool} })
	add("a mutex of 1", api.ErrForm, func(p *api.Program) { p.Decls[8] = api.Decl{Kind: api.Mutex, A: 1} })
	add("33 waits", api.ErrLong, func(p *api.Program) { p.Waits = slices.Repeat(p.Waits[:1], 33) })
	add("a wait of no ways", api.ErrForm, func(p *api.Program) { p.Waits[1] = nil })
	add("a wait of five ways", api.ErrLong, func(p *api.Program) { p.Waits[1] = slices.Repeat(p.Waits[1][:1], 5) })
	add("a need of no kind", api.ErrKind, func(p *api.Program) { p.Waits[1][0][0].Kind = 6 })
	add("a need of another object", api.ErrArg, func(p *api.Program) { p.Waits[1][0][0].Obj = 31 })
	add("no functions", api.ErrForm, func(p *api.Program) { p.Funcs = nil })
	add("17 functions", api.ErrLong, func(p *api.Program) { p.Funcs = slices.Repeat(p.Funcs[:1], 17) })
	add("args below 0", api.ErrArg, func(p *api.Program) { p.Funcs[0].Args = -1 })
	add("args above locals", api.ErrArg, func(p *api.Program) { p.Funcs[0].Args = 4 })
	add("9 locals", api.ErrArg, func(p *api.Program) { p.Funcs[1].Locals = 9 })
	add("no instructions", api.ErrForm, func(p *api.Program) { p.Funcs[2].Code = nil })
	add("201 instructions", api.ErrLong, func(p *api.Program) { p.Funcs[2].Code = pushes(201) })
	for _, x := range []struct {
		name string
		x    api.Ins
		e    api.Errno
	}{
		{"no operation", api.Ins{Op: api.Ops, A: 200, B: 1}, api.ErrKind}, {"an operand out of range", api.Ins{Op: api.OpJump, A: 200}, api.ErrArg},
		{"an operand below 0", api.Ins{Op: api.OpJump, A: -1, B: 1}, api.ErrArg}, {"an operand too many", api.Ins{Op: api.OpJump, A: 6, B: 1}, api.ErrForm},
	} {
		add(x.name, x.e, func(p *api.Program) { p.Funcs[2].Code[6] = x.x })
	}
	return l
}

func TestWhatMayNotBeIsToldAheadOfAllElse(t *testing.T) {
	for _, x := range mayNotBe() {
		for _, other := range []func(p *api.Program){
			func(p *api.Program) {},
			func(p *api.Program) { p.Funcs[0].Args = 1 },
			func(p *api.Program) { p.Funcs[0].Code[0] = api.Ins{Op: api.OpUnlock, A: 2} },
			func(p *api.Program) { p.Funcs[0].Code[0] = api.Ins{Op: api.OpLoad, A: 7} },
			func(p *api.Program) { p.Funcs[0].Code[0] = api.Ins{Op: api.OpAdd} },
			func(p *api.Program) { p.Funcs[1].Code[6] = api.Ins{Op: api.OpMend, A: 31} },
		} {
			p := great()
			other(&p)
			x.do(&p)
			tells(t, p, x.want)
		}
	}
}

func TestTheZeroProgramMayNotBe(t *testing.T) {
	tells(t, api.Program{}, bad(0, 0, api.ErrForm))
}

func TestTheFirstFunctionHasNoArguments(t *testing.T) {
	for args := range 9 {
		f := api.Func{Args: args, Locals: 8, Code: progs.Code("push, ret")}
		want := good
		if args > 0 {
			want = bad(0, 0, api.ErrArg)
		}
		tells(t, api.Program{Funcs: []api.Func{f}}, want)
		tells(t, api.Program{Funcs: []api.Func{f, {Code: f.Code}}}, want)
		tells(t, api.Program{Funcs: []api.Func{{Code: f.Code}, f}}, good)
		tells(t, api.Program{Funcs: []api.Func{{Locals: 8, Code: f.Code}, f, f, f}}, good)
		f.Locals = args
		tells(t, api.Program{Funcs: []api.Func{f}}, want)
	}
}

func TestArgumentsOfTheFirstFunctionAreToldAheadOfItsInstructions(t *testing.T) {
	for _, text := range []string{"unlock 2, ret", "load 7, ret", "add, ret", "push", many(17, "push") + "ret", "push, push, post 0, ret"} {
		for _, args := range []int{1, 8} {
			p := alone(text)
			p.Funcs = append(p.Funcs, p.Funcs[0])
			p.Funcs[0].Args, p.Funcs[0].Locals = args, args
			tells(t, p, bad(0, 0, api.ErrArg))
			p.Funcs[0] = api.Func{Code: progs.Code("push, ret")}
			if got := asked(t, p); got.e == api.OK || got.where.Fn != 1 {
				t.Errorf("%v: %v", p, got)
			}
		}
	}
}

// there are the numbers that are right in function fn of great, where an operation's letter stands.
func there(o operand, fn int) []int {
	rising := []int{0, 1, 2, 3, 4, 5, 6, 7}
	switch {
	case o.letter == 'k':
		return rising[:[]int{3, 8, 2}[fn]]
	case o.letter == 't':
		return rising[:7]
	case o.op == api.OpCall:
		return rising[:3]
	case o.op == api.OpSpawn:
		return []int{1}
	case o.letter == 'w':
		return rising[:2]
	}
	return fitting[o.letter]
}

func TestEachOperandAtEachPlace(t *testing.T) {
	for _, o := range operands() {
		want, ok := api.ErrArg, 0
		if _, is := kinds[o.letter]; is {
			want = api.ErrKind
		}
		for n := range numbers(o.letter) {
			for fn := range 3 {
				for _, pc := range []int{0, 4, 6} {
					p := great()
					p.Funcs[fn].Code[pc] = o.of(n, []int{0, 3}[o.at])
					if !slices.Contains(there(o, fn), n) {
						tells(t, p, bad(fn, pc, want))
						continue
					}
					tells(t, p, stacks(p))
					if stacks(p) == good {
						ok++
					}
				}
			}
		}
		if ok < 3 {
			t.Errorf("%v is right too seldom: %d", o, ok)
		}
	}
}

func TestBothOperandsAreAsked(t *testing.T) {
	for _, o := range []int{api.OpCwait, api.OpCwaitFor} {
		for a := range 32 {
			for b := range 32 {
				p := great()
				p.Funcs[1].Code[4] = api.Ins{Op: o, A: a, B: b}
				want := bad(1, 4, api.ErrKind)
				if a == 3 && (b == 0 || b == 7) {
					want = good
				}
				tells(t, p, want)
			}
		}
	}
}

func TestLocals(t *testing.T) {
	for locals := range 9 {
		for args := range locals + 1 {
			for k := range 8 {
				for _, text := range []string{line("load", k) + ", ret", "push, " + line("store", k) + ", push, ret", "push, ret, " + line("load", k)} {
					f := api.Func{Args: args, Locals: locals, Code: progs.Code(text)}
					want := good
					if k >= locals {
						want = bad(1, slices.IndexFunc(f.Code, func(x api.Ins) bool { return x.Op != api.OpPush && x.Op != api.OpRet }), api.ErrArg)
					}
					// That others have more locals, or none, is nothing to it.
					tells(t, api.Program{Funcs: []api.Func{{Locals: 8, Code: progs.Code("jump 0")}, f}}, want)
					tells(t, api.Program{Funcs: []api.Func{{Code: progs.Code("jump 0")}, f}}, want)
				}
			}
		}
	}
}

func TestPlaces(t *testing.T) {
	for _, long := range []int{1, 2, 3, 8, 100, 199, 200} {
		for to := range 200 {
			first, last := good, good
			if to >= long {
				first, last = bad(1, 0, api.ErrArg), bad(1, long-1, api.ErrArg)
			}
			// Others may be longer, or shorter.
			for _, other := range []int{1, 200} {
				p := api.Program{Funcs: []api.Func{{Code: progs.Code(many(other, "jump 0"))}, {Code: progs.Code(many(long, line("jump", to)))}}}
				tells(t, p, first)
				if long > 1 {
					p.Funcs[1].Code = progs.Code(many(long-1, "jump 0") + line("zero", to))
					tells(t, p, last)
				}
			}
		}
	}
}

func TestFunctions(t *testing.T) {
	for there := 1; there <= 16; there++ {
		for fn := range 16 {
			for at := range there {
				p := api.Program{Funcs: slices.Repeat([]api.Func{{Code: progs.Code("push, ret")}}, there)}
				p.Funcs[at].Code = []api.Ins{{Op: api.OpCall, A: fn}, {Op: api.OpRet}}
				want := good
				if fn >= there {
					want = bad(at, 0, api.ErrArg)
				}
				tells(t, p, want)
			}
		}
	}
}

func TestWhatIsSpawnedHasOneArgument(t *testing.T) {
	for args := range 9 {
		for fn := range 4 {
			for _, at := range []int{0, 1, 2} {
				if fn == 0 && args > 0 {
					continue
				}
				p := api.Program{Funcs: []api.Func{{Code: progs.Code("push, ret")}, {Code: progs.Code("push, ret")}, {Code: progs.Code("push, ret")}, {Code: progs.Code("push, ret")}}}
				p.Funcs[fn].Args, p.Funcs[fn].Locals = args, 8
				p.Funcs[at].Code = append(pushes(9), api.Ins{Op: api.OpSpawn, A: fn}, api.Ins{Op: api.OpRet})
				want := good
				if args != 1 {
					want = bad(at, 9, api.ErrArg)
				}
				tells(t, p, want)
				// A call may be of each.
				p.Funcs[at].Code[9].Op = api.OpCall
				tells(t, p, good)
				p.Funcs[at].Code[9].A = 4
				tells(t, p, bad(at, 9, api.ErrArg))
				p.Funcs[at].Code[9].Op = api.OpSpawn
				tells(t, p, bad(at, 9, api.ErrArg))
			}
		}
	}
}

func TestWaits(t *testing.T) {
	for there := range 33 {
		for w := range 32 {
			p := alone("push, ret")
			p.Waits = slices.Repeat(waits()[1:], there)
			p.Funcs[0].Code = append(progs.Code("push"), api.Ins{Op: api.OpWait, A: w}, api.Ins{Op: api.OpWaitFor}, api.Ins{Op: api.OpRet})
			want := good
			if w >= there {
				want = bad(0, 1, api.ErrArg)
			} else {
				p.Funcs[0].Code[2].A = w
			}
			tells(t, p, want)
			p.Funcs[0].Code[1], p.Funcs[0].Code[2] = api.Ins{Op: api.OpDup}, api.Ins{Op: api.OpWaitFor, A: w}
			if w >= there {
				want = bad(0, 2, api.ErrArg)
			}
			tells(t, p, want)
		}
	}
}

func TestObjects(t *testing.T) {
	one := objects()[:7]
	for _, o := range operands() {
		if _, ok := kinds[o.letter]; !ok {
			continue
		}
		for k, d := range one {
			for _, there := range []int{1, 2, 31, 32} {
				for _, at := range []int{0, there / 2, there - 1} {
					p := alone("push, push, push, ret")
					p.Waits = nil
					// What guards a cell, and is the other operand, stands elsewhere.
					p.Decls = append(slices.Repeat([]api.Decl{{Kind: api.Rw}}, there), api.Decl{Kind: api.Mutex}, api.Decl{Kind: api.Cond})[:min(there+2, 32)]
					other := []int{there, there + 1}[o.at]
					if other >= 32 {
						continue
					}
					if d.Kind == api.Cell {
						d.B = there
					}
					p.Decls[at] = d
					p.Funcs[0].Code[2] = o.of(at, other)
					want := good
					if !slices.Contains(kinds[o.letter], k+1) {
						want = bad(0, 2, api.ErrKind)
					}
					tells(t, p, want)
				}
			}
		}
	}
}

func TestAnObjectThatIsNotThere(t *testing.T) {
	for _, o := range operands() {
		for _, kind := range kinds[o.letter] {
			d := objects()[kind-1]
			for there := range 33 {
				if kind == api.Cell && there == 0 {
					continue
				}
				p := api.Program{Decls: slices.Repeat([]api.Decl{d}, there), Funcs: []api.Func{{Code: pushes(3)}}}
				if kind == api.Cell {
					p.Decls[0] = api.Decl{Kind: api.Mutex}
				}
				for n := there; n < 32; n++ {
					p.Funcs[0].Code[2] = o.of(n, 0)
					tells(t, p, bad(0, 2, api.ErrKind))
				}
			}
		}
	}
}

func TestNumbersThatNameNothingAreAskedNoMore(t *testing.T) {
	for _, n := range []int{math.MinInt32, math.MinInt32 + 1, -200, -1, 0, 1, 7, 8, 16, 31, 32, 64, 200, 1 << 16, math.MaxInt32 - 1, math.MaxInt32} {
		tells(t, api.Program{Funcs: []api.Func{{Code: progs.Code(line("push", n) + ", ret")}}}, good)
	}
	for a := 1; a <= 4; a++ {
		for b := a; b <= 4; b++ {
			tells(t, api.Program{Funcs: []api.Func{{Code: progs.Code(many(b, "self") + line("join", a, b) + ", ret")}}}, good)
			tells(t, api.Program{Funcs: []api.Func{{Code: progs.Code(many(b+1, "self") + line("joinfor", a, b) + ", ret")}}}, good)
			tells(t, api.Program{Funcs: []api.Func{{Code: progs.Code(many(b-1, "self") + line("join", a, b) + ", ret")}}}, bad(0, b-1, api.ErrForm))
		}
	}
}

func TestStacks(t *testing.T) {
	for _, x := range []struct {
		text string
		pc   int
		want api.Errno
	}{
		{"add, ret", 0, api.ErrForm}, {"ret", 0, api.ErrForm}, {"push, add, ret", 1, api.ErrForm}, {"push, drop, ret", 2, api.ErrForm}, {"push, jump 0", 1, api.ErrForm}, {"push, zero 0, drop", 2, api.ErrForm},
		{"push", 0, api.ErrEnd}, {"push, yield", 1, api.ErrEnd}, {"push, push, drop, out", 3, api.ErrEnd}, {"push, zero 0", 1, api.ErrEnd},
		{many(17, "push") + "ret", 16, api.ErrLong}, {many(15, "push") + "read 6, ret", 15, api.ErrLong}, {many(16, "push") + "dup", 16, api.ErrLong}, {many(16, "push") + "wait 1, ret", 16, api.ErrLong},
	} {
		tells(t, alone(x.text), bad(0, x.pc, x.want))
		for fn := range 3 {
			p := great()
			p.Funcs[fn].Code = progs.Code(x.text)
			tells(t, p, bad(fn, x.pc, x.want))
			// What an operand names, at whatever later place of the function, is told first.
			at := len(p.Funcs[fn].Code)
			p.Funcs[fn].Code = append(p.Funcs[fn].Code, progs.Code("unlock 2, load 7, add")...)
			tells(t, p, bad(fn, at, api.ErrKind))
			p.Funcs[fn].Code[at] = api.Ins{Op: api.OpRet}
			if fn != 1 {
				tells(t, p, bad(fn, at+1, api.ErrArg))
			}
			// That of a later function is told later.
			p = great()
			p.Funcs[fn].Code = progs.Code(x.text)
			for later := fn + 1; later < 3; later++ {
				p.Funcs[later].Code[0] = api.Ins{Op: api.OpMend, A: 1}
			}
			tells(t, p, bad(fn, x.pc, x.want))
			for later := fn + 1; later < 3; later++ {
				p.Funcs[later].Code = progs.Code("post 2, ret")
			}
			tells(t, p, bad(fn, x.pc, x.want))
		}
	}
}

// wide is a program that may run, with three functions that have more room for flaws: at 0 and 36 no value stands, at 3, which is not reached, neither, and at 20 sixteen do.
func wide() api.Program {
	p := great()
	text := "load 0, drop, jump 4, yield, " + many(16, "push") + many(16, "drop") + "push, ret"
	for fn := range p.Funcs {
		p.Funcs[fn].Code = progs.Code(text)
	}
	return p
}

// flaws are what may be wrong with this program, in the order in which they are told. Each may be laid over those behind it.
func flaws() []flaw {
	l := append(mayNotBe(), flaw{"arguments", func(p *api.Program) { p.Funcs[0].Args = 3 }, bad(0, 0, api.ErrArg)})
	for fn := range 3 {
		lay := func(pc int, text string, e api.Errno) {
			l = append(l, flaw{text, func(p *api.Program) { p.Funcs[fn].Code[pc] = progs.Code(text)[0] }, bad(fn, pc, e)})
		}
		for _, pc := range []int{0, 3, 20, 36, 37} {
			for _, text := range []string{"jump 38", "zero 199", "call 3", "spawn 0", "spawn 2", "spawn 15", "wait 2", "waitfor 31"} {
				lay(pc, text, api.ErrArg)
			}
			for _, text := range []string{"unlock 2", "post 0", "give 9", "cwait 3 1", "cwaitfor 0 0", "cwait 31 31", "signal 4", "broadcast 5", "enrol 3", "leave 6", "arrive 0", "arrivefor 31", "read 7", "write 2", "claim 1", "dead 1", "mend 30"} {
				lay(pc, text, api.ErrKind)
			}
		}
		lay(0, "add", api.ErrForm)
		lay(1, "add", api.ErrForm)
		lay(20, "push", api.ErrLong)
		lay(35, "add", api.ErrForm)
		lay(36, "neg", api.ErrForm)
		lay(37, "out", api.ErrEnd)
	}
	return l
}

func TestWhichIsToldFirst(t *testing.T) {
	l := flaws()
	for k, first := range l {
		for n, later := range l[k:] {
			p := wide()
			later.do(&p)
			first.do(&p)
			var got answer
			got.where, got.e = verify.Program(p)
			if got != first.want {
				t.Errorf("%s, and behind it %s: %v, not %v", first.name, later.name, got, first.want)
			}
			// The tests' own reading takes its time, so it is asked of some alone.
			if n%97 == 0 {
				tells(t, p, first.want)
			}
		}
	}
	tells(t, wide(), good)
}

// P12.2

// edges are numbers around which there is no function.
var edges = []int{math.MinInt, math.MinInt + 1, -1 << 32, math.MinInt32, -65, -64, -63, -33, -32, -17, -16, -15, -2, -1, 16, 17, 31, 32, 33, 48, 63, 64, 65, 80, 127, 128, 256, math.MaxInt32, 1 << 32, 1<<32 + 1, math.MaxInt - 1, math.MaxInt}

// callers are functions that call others, each of which names an object of its own, too: that of its number.
func callers(l ...[]int) api.Program {
	var p api.Program
	for k, fns := range l {
		p.Decls = append(p.Decls, api.Decl{Kind: api.Mutex})
		code := []api.Ins{{Op: api.OpDead, A: k}}
		for _, fn := range fns {
			code = append(code, api.Ins{Op: api.OpCall, A: fn})
		}
		p.Funcs = append(p.Funcs, api.Func{Code: append(code, api.Ins{Op: api.OpRet})})
	}
	return p
}

// reaches fails, if a function of such a program calls, or uses, anything but these.
func reaches(t *testing.T, p api.Program, fn int, want ...int) {
	t.Helper()
	calls(t, p, fn, want...)
	uses(t, p, fn, want...)
}

func TestOfNoFunctionThereIsNothing(t *testing.T) {
	for there := 1; there <= 16; there++ {
		p := callers(slices.Repeat([][]int{{0, there - 1}}, there)...)
		reaches(t, p, 0, 0, there-1)
		reaches(t, p, there-1, 0, there-1)
		reaches(t, p, there)
		for _, fn := range edges {
			reaches(t, p, fn)
		}
	}
}

func TestCallsOfFunctions(t *testing.T) {
	for _, x := range []struct {
		p    api.Program
		want [][]int
	}{
		{callers(nil), [][]int{{0}}},
		{callers(nil, nil, nil), [][]int{{0}, {1}, {2}}},
		{callers([]int{0}), [][]int{{0}}},
		{callers([]int{0}, []int{1}), [][]int{{0}, {1}}},
		{callers([]int{1}, nil), [][]int{{0, 1}, {1}}},
		{callers(nil, []int{0}), [][]int{{0}, {0, 1}}},
		{callers([]int{1}, []int{0}), [][]int{{0, 1}, {0, 1}}},
		{callers([]int{1}, []int{2}, []int{0}), [][]int{{0, 1, 2}, {0, 1, 2}, {0, 1, 2}}},
		{callers([]int{2}, []int{0}, []int{1}), [][]int{{0, 1, 2}, {0, 1, 2}, {0, 1, 2}}},
		{callers([]int{1, 2}, []int{3}, []int{3}, nil), [][]int{{0, 1, 2, 3}, {1, 3}, {2, 3}, {3}}},
		{callers(nil, []int{0, 2}, []int{3, 2}, []int{2}, []int{1, 1, 1}), [][]int{{0}, {0, 1, 2, 3}, {2, 3}, {2, 3}, {0, 1, 2, 3, 4}}},
		{callers([]int{3}, nil, nil, []int{1}), [][]int{{0, 1, 3}, {1}, {2}, {1, 3}}},
	} {
		for fn, want := range x.want {
			reaches(t, x.p, fn, want...)
		}
	}
}

func TestAChainOfSixteen(t *testing.T) {
	var up, down, all [][]int
	for k := range 16 {
		up, down = append(up, []int{k + 1}), append(down, []int{k - 1})
	}
	up[15], down[0] = nil, nil
	for k := range 16 {
		l := []int{}
		for n := k; n < 16; n++ {
			l = append(l, n)
		}
		all = append(all, l)
	}
	for fn := range 16 {
		reaches(t, callers(up...), fn, all[fn]...)
		reaches(t, callers(down...), 15-fn, all[0][:16-fn]...)
	}
	// And where the last one calls the first one.
	up[15], down[0] = []int{0}, []int{15}
	for fn := range 16 {
		reaches(t, callers(up...), fn, all[0]...)
		reaches(t, callers(down...), fn, all[0]...)
	}
}

func TestAllCallsOfFour(t *testing.T) {
	var out [16][]int
	for k := range out {
		for fn := range 4 {
			if k>>fn&1 == 1 {
				out[k] = append(out[k], fn)
			}
		}
	}
	for k := range 1 << 16 {
		p := callers(out[k&15], out[k>>4&15], out[k>>8&15], out[k>>12])
		for fn := range p.Funcs {
			want := calling(p, fn)
			if got, used := verify.Calls(p, fn), verify.Uses(p, fn); got != want || used != want {
				t.Fatalf("function %d of %v calls %b, uses %b, not %b", fn, p, got, used, want)
			}
		}
	}
}

func TestACallThatIsNotReachedIsOne(t *testing.T) {
	p := callers(nil, nil, nil)
	p.Funcs[0].Code = progs.Code("push, ret, call 2, unlock 0")
	reaches(t, p, 0, 0, 2)
	p.Funcs[0].Code = progs.Code("jump 0, call 1, call 2, dead 0")
	reaches(t, p, 0, 0, 1, 2)
	p.Funcs[0].Code = append(progs.Code("dead 0, "+many(198, "yield")), api.Ins{Op: api.OpCall, A: 1})
	reaches(t, p, 0, 0, 1)
}

func TestASpawnIsNoCall(t *testing.T) {
	p := callers(nil, nil, nil)
	p.Funcs[1].Args, p.Funcs[1].Locals = 1, 1
	p.Funcs[0].Code = progs.Code("dead 0, push, spawn 1, ret")
	tells(t, p, good)
	reaches(t, p, 0, 0)
	p.Funcs[2].Code = progs.Code("push, dead 2, spawn 1, zero 1, call 0, ret")
	reaches(t, p, 2, 0, 2)
	// Of other operations the numbers are no functions.
	p.Funcs[0].Locals, p.Decls = 8, append(p.Decls, objects()[:6]...)
	p.Waits = [][][]api.Need{{{{Kind: api.Lock, Obj: 0}}}, {{{Kind: api.Lock, Obj: 0}}}}
	for o := range api.Ops {
		if o == api.OpCall {
			continue
		}
		x := api.Ins{Op: o}
		if f := forms[o]; f != "" {
			x.A = 1
		}
		if f := forms[o]; len(f) == 2 {
			x.B = 2
		}
		p.Funcs[0].Code = []api.Ins{{Op: api.OpDead}, x, {Op: api.OpRet}}
		calls(t, p, 0, 0)
		calls(t, p, 2, 0, 2)
	}
}

func TestACallOfWhatIsNotThereIsLeftOut(t *testing.T) {
	for there := 1; there < 16; there++ {
		for fn := there; fn < 16; fn++ {
			p := callers(slices.Repeat([][]int{{fn, 0, fn}}, there)...)
			reaches(t, p, 0, 0)
			reaches(t, p, there-1, 0, there-1)
			reaches(t, p, fn)
			tells(t, p, bad(0, 1, api.ErrArg))
		}
	}
}

func TestOfWhatMayNotBeThereIsNothing(t *testing.T) {
	for _, x := range mayNotBe() {
		p := great()
		p.Funcs[0].Code = progs.Code("call 1, drop, unlock 0, drop, wait 0, drop, call 0, ret")
		p.Funcs[1].Code = progs.Code("call 0, ret")
		uses(t, p, 1, 0, 2, 5)
		calls(t, p, 1, 0, 1)
		x.do(&p)
		for fn := -1; fn < 18; fn++ {
			reaches(t, p, fn)
		}
		for _, fn := range edges {
			reaches(t, p, fn)
		}
	}
	reaches(t, api.Program{}, 0)
}

func TestWhatMayBeButNotRunIsAsked(t *testing.T) {
	// Neither arguments of the first function, nor what operands name, nor stacks.
	p := callers([]int{1}, []int{2}, nil)
	p.Funcs[0].Args, p.Funcs[0].Locals = 3, 3
	p.Funcs[1].Code = append(p.Funcs[1].Code, progs.Code("load 7, jump 199, wait 31, add, post 0, spawn 15, call 15")...)
	if e := prog.Check(p); e != api.OK {
		t.Fatalf("%v may not be: %v", p, e)
	}
	reaches(t, p, 0, 0, 1, 2)
	uses(t, p, 1, 0, 1, 2)
	calls(t, p, 1, 1, 2)
}

func TestUsesOfEachOperation(t *testing.T) {
	for o := range api.Ops {
		l := forms[o]
		for a := range 32 {
			for b := range 32 {
				x := api.Ins{Op: o}
				if len(l) > 0 {
					x.A = a
				}
				if len(l) > 1 {
					x.B = b
				}
				p := api.Program{Decls: slices.Repeat([]api.Decl{{Kind: api.Bar}}, 32), Funcs: []api.Func{{Code: []api.Ins{x}}}}
				if prog.Check(p) != api.OK {
					continue
				}
				// Of whatever kind they are.
				var want []int
				for k, n := range []int{a, b}[:len(l)] {
					if _, ok := kinds[l[k]]; ok {
						want = append(want, n)
					}
				}
				if len(l) > 1 || b == 0 {
					uses(t, p, 0, want...)
				}
			}
		}
	}
}

func TestUsesOfObjectsOfAnotherKind(t *testing.T) {
	for _, o := range operands() {
		if _, ok := kinds[o.letter]; !ok {
			continue
		}
		for n := range objects() {
			p := alone("push, ret")
			p.Funcs[0].Code = append(p.Funcs[0].Code, o.of(n, 4))
			if len(forms[o.op]) == 2 {
				uses(t, p, 0, n, 4)
			} else {
				uses(t, p, 0, n)
			}
		}
	}
}

func TestAnObjectThatIsNotThereIsNotUsed(t *testing.T) {
	for _, o := range operands() {
		if _, ok := kinds[o.letter]; !ok {
			continue
		}
		for there := range 33 {
			for n := range 32 {
				p := api.Program{Decls: slices.Repeat([]api.Decl{{Kind: api.Rw}}, there), Funcs: []api.Func{{Code: []api.Ins{o.of(n, 31)}}}}
				var want []int
				if n < there {
					want = append(want, n)
				}
				if there == 32 && len(forms[o.op]) == 2 {
					want = append(want, 31)
				}
				uses(t, p, 0, want...)
			}
		}
	}
}

func TestUsesOfWaits(t *testing.T) {
	d := append(objects(), api.Decl{Kind: api.Pool, A: 9})
	w := [][][]api.Need{
		{{{Kind: api.Lock, Obj: 7}}},
		{{{Kind: api.Read, Obj: 1}}},
		{{{Kind: api.Write, Obj: 1}}},
		{{{Kind: api.Down, Obj: 2, N: 2}}},
		{{{Kind: api.Take, Obj: 5, N: 1}}},
		{{{Kind: api.Lock, Obj: 0}, {Kind: api.Read, Obj: 1}, {Kind: api.Take, Obj: 5, N: 3}, {Kind: api.Lock, Obj: 7}}},
		{{{Kind: api.Lock, Obj: 0}}, {{Kind: api.Write, Obj: 1}}, {{Kind: api.Down, Obj: 2, N: 1}}, {{Kind: api.Take, Obj: 9, N: 1}, {Kind: api.Take, Obj: 5, N: 1}}},
		{{{Kind: api.Lock, Obj: 0}}, {{Kind: api.Lock, Obj: 0}}},
	}
	all := [][]int{{7}, {1}, {1}, {2}, {5}, {0, 1, 5, 7}, {0, 1, 2, 5, 9}, {0}}
	of := func(text string) api.Program {
		return api.Program{Decls: d, Waits: w, Funcs: []api.Func{{Code: progs.Code(text)}}}
	}
	for k, want := range all {
		for n, other := range all {
			uses(t, of(line("wait", k)+", ret"), 0, want...)
			uses(t, of("push, "+line("waitfor", k)+", ret"), 0, want...)
			uses(t, of(line("wait", k)+", "+line("waitfor", n)+", ret"), 0, append(slices.Clone(want), other...)...)
			uses(t, of(line("wait", k)+", signal 3, jump 0, "+line("wait", n)), 0, append(append(slices.Clone(want), other...), 3)...)
		}
	}
	for n := len(w); n < 32; n++ {
		uses(t, of(line("wait", n)+", "+line("waitfor", n)), 0)
		uses(t, of(line("wait", n)+", mend 7, wait 3"), 0, 2, 7)
	}
	uses(t, of("push, ret"), 0)
}

func TestUsesOfWhatIsReachedByCallAlone(t *testing.T) {
	p := alone("call 1, push, spawn 3, unlock 7, ret")
	p.Funcs = append(p.Funcs, api.Func{Code: progs.Code("call 2, ret")}, api.Func{Code: progs.Code("wait 1, drop, post 2, ret")}, api.Func{Args: 1, Locals: 1, Code: progs.Code("read 8, ret")}, api.Func{Code: progs.Code("enrol 4, ret")})
	uses(t, p, 0, 1, 2, 7)
	uses(t, p, 1, 1, 2, 7)
	uses(t, p, 2, 1, 2, 7)
	uses(t, p, 3, 8)
	uses(t, p, 4, 4)
	p.Funcs[2].Code = progs.Code("call 4, ret")
	uses(t, p, 0, 4, 7)
	uses(t, p, 1, 4)
	p.Funcs[0].Code = progs.Code("jump 0, call 1")
	uses(t, p, 0, 4)
}

// drawn draws programs.
type drawn struct{ row draws.Row }

// below is a number from 0 to n - 1.
func (d *drawn) below(n int) int { return int(d.row.Next() % uint64(n)) }

// program is a drawn one that may run.
func (d *drawn) program() api.Program { return progs.DrawnToRun(&d.row) }

// any is an instruction that may be, whatever it names.
func (d *drawn) any() api.Ins {
	x := api.Ins{Op: d.below(api.Ops)}
	for k, letter := range []byte(forms[x.Op]) {
		n := 0
		switch letter {
		case 'n':
			n = d.below(99)
		case 'j':
			n = 1 + 2*k + d.below(2)
		case 't':
			n = d.below([]int{20, 200}[d.below(2)])
		case 'f':
			n = d.below([]int{6, 16}[d.below(2)])
		default:
			n = d.below([]int{8, numbers(letter)}[d.below(2)])
		}
		*[]*int{&x.A, &x.B}[k] = n
	}
	return x
}

// near fails, if of a drawn program, which may be, a call tells anything but what the tests' own reading tells.
func near(t *testing.T, p api.Program) answer {
	t.Helper()
	if e := prog.Check(p); e != api.OK {
		t.Fatalf("%v may not be: %v", p, e)
	}
	got := asked(t, p)
	if want := reading(p); got != want {
		t.Fatalf("%v: %v, not %v", p, got, want)
	}
	for fn := -1; fn <= len(p.Funcs); fn++ {
		if got, want := verify.Calls(p, fn), calling(p, fn); got != want {
			t.Fatalf("calls of function %d of %v: %b, not %b", fn, p, got, want)
		}
		if got, want := verify.Uses(p, fn), using(p, fn); got != want {
			t.Fatalf("uses of function %d of %v: %b, not %b", fn, p, got, want)
		}
	}
	contains(t, p)
	return got
}

// P12.3

// contains fails, if a function calls another one that uses, or calls, more than it.
func contains(t *testing.T, p api.Program) {
	t.Helper()
	for fn, f := range p.Funcs {
		for _, x := range f.Code {
			if x.Op != api.OpCall {
				continue
			}
			if all, some := verify.Uses(p, fn), verify.Uses(p, x.A); all&some != some {
				t.Fatalf("of %v function %d uses %b, but %d, which it calls, %b", p, fn, all, x.A, some)
			}
			if all, some := verify.Calls(p, fn), verify.Calls(p, x.A); all&some != some {
				t.Fatalf("of %v function %d calls %b, but %d, which it calls, %b", p, fn, all, x.A, some)
			}
		}
	}
}

func TestDrawnProgramsThatMayRun(t *testing.T) {
	d := &drawn{row: 12}
	var ops [api.Ops]int
	used, called := 0, 0
	for range 2000 {
		p := d.program()
		if got := near(t, p); got != good {
			t.Fatalf("%v: %v", p, got)
		}
		for fn, f := range p.Funcs {
			for _, x := range f.Code {
				ops[x.Op]++
			}
			used |= int(verify.Uses(p, fn))
			called |= int(verify.Calls(p, fn))
		}
	}
	if n := slices.Min(ops[:]); n < 100 || used < 1<<11-1 || called != 1<<6-1 {
		t.Errorf("too few of a kind: %v, %b, %b", ops, used, called)
	}
}

func TestDrawnProgramsThatMightRun(t *testing.T) {
	d := &drawn{row: 121}
	met, functions := map[api.Errno]int{}, map[int]int{}
	for range 2000 {
		p := d.program()
		for range 4 {
			q := progs.Roomy(p)
			for range 1 + d.below(3) {
				l := q.Funcs[d.below(len(q.Funcs))].Code
				l[d.below(len(l))] = d.any()
			}
			got := near(t, q)
			met[got.e]++
			if got != good {
				functions[got.where.Fn]++
			}
		}
	}
	if met[api.OK] < 200 || met[api.ErrArg] < 200 || met[api.ErrForm] < 200 || met[api.ErrKind] < 200 || met[api.ErrEnd] < 20 || functions[0] < 200 || functions[3] < 200 {
		t.Errorf("too few of a kind: %v, %v", met, functions)
	}
}

func TestDrawnProgramsThatMayBe(t *testing.T) {
	d := &drawn{row: 1212}
	for range 3000 {
		p := d.program()
		for fn := range p.Funcs {
			p.Funcs[fn].Args = d.below(p.Funcs[fn].Locals + 1)
			for k := range p.Funcs[fn].Code {
				p.Funcs[fn].Code[k] = d.any()
			}
		}
		near(t, p)
	}
}

// What may not be

func TestNoNumberPanics(t *testing.T) {
	l := append([]int{-1, 0, 1, 2, 51, 52, 199, 200}, edges...)
	for o := range api.Ops {
		for _, n := range l {
			for _, x := range []api.Ins{{Op: o, A: n}, {Op: o, B: n}, {Op: o, A: n, B: n}, {Op: n, A: o}} {
				p := great()
				p.Funcs[1].Code[2] = x
				p.Funcs[0].Code[2] = api.Ins{Op: api.OpCall, A: 1}
				want := reading(p)
				if got := asked(t, p); got != want {
					t.Errorf("%v: %v, not %v", p, got, want)
				}
				for fn := range 2 {
					answers(t, "calls", verify.Calls, calling, p, fn, calling(p, fn))
					answers(t, "uses", verify.Uses, using, p, fn, using(p, fn))
				}
			}
		}
	}
}

func TestDrawnProgramsThatMayNotBe(t *testing.T) {
	d := &drawn{row: 5}
	numbers := append([]int{0, 1, 2, 3, 4, 5, 6, 7, 8, 9, 15, 51, 52, 199, 200, 201}, edges...)
	one := func() int { return numbers[d.below(len(numbers))] }
	for range 20000 {
		p := d.program()
		for range 1 + d.below(3) {
			f := &p.Funcs[d.below(len(p.Funcs))]
			switch d.below(8) {
			case 0:
				f.Args = one()
			case 1:
				f.Locals = one()
			case 2:
				f.Code = f.Code[:min(len(f.Code), d.below(2))]
			case 3:
				p.Decls = append(p.Decls, api.Decl{Kind: one(), A: one(), B: one()})
			case 4:
				p.Waits = append(p.Waits, [][]api.Need{{{Kind: one(), Obj: one(), N: one()}}, {}}[:d.below(3)])
			case 5:
				p.Funcs = append(p.Funcs, api.Func{Args: one(), Locals: one()})
			default:
				f.Code = append(f.Code, api.Ins{Op: one(), A: one(), B: one()})
			}
		}
		want := reading(p)
		if got := asked(t, p); got != want {
			t.Fatalf("%v: %v, not %v", p, got, want)
		}
		fn := one()
		answers(t, "calls", verify.Calls, calling, p, fn, calling(p, fn))
		answers(t, "uses", verify.Uses, using, p, fn, using(p, fn))
	}
}
