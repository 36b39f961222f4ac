package exec_test

import (
	"math"
	"slices"
	"strconv"
	"strings"
	"testing"

	"logjam/api"
	"logjam/exec"
	"logjam/frame"
	"logjam/internal/draws"
	"logjam/internal/lists"
	"logjam/internal/progs"
	"logjam/op"
	"logjam/verify"
)

// The limits, the least and the greatest word, and the faults, as the document has them.
const (
	locals = 8
	room   = 16
	deep   = 8

	least    = -1 << 31
	greatest = 1<<31 - 1

	over    = 1
	divZero = 2
	tooDeep = 3
)

// The functions of the programs that are asked: the first one, the one whose instruction is done, and those that have 0 to 8 arguments, the first of which has none.
const (
	first = iota
	doer
	taker
)

// none is the effect of what asks nothing of others.
var none = api.Effect{Op: -1}

// words are such at which something may change, and some others.
var words = []int{least, least + 1, -1 << 16, -7, -2, -1, 0, 1, 2, 7, 15, 16, 31, 32, 33, 1 << 16, 1 << 30, greatest - 1, greatest}

// edges are numbers at which something may change, and the greatest and least ones.
var edges = []int{
	math.MinInt, math.MinInt + 1, -1 << 32, least - 1, least, -17, -2, -1, 0, 1, 2, 3, 4, 5, 7, 8, 9, 15, 16, 17, 31, 32, 51, 52, 199, 200, greatest, 1 << 31, 1 << 32, 1<<32 + 1, math.MaxInt - 1, math.MaxInt,
}

// lowest are numbers, and the word of the lowest 32 bits of each.
var lowest = map[int]int{
	0: 0, 1: 1, -1: -1, 63: 63, greatest: greatest, least: least, 1 << 30: 1 << 30, greatest + 1: least, greatest + 2: least + 1, least - 1: greatest, least - 2: greatest - 1,
	1<<32 - 1: -1, 1 << 32: 0, 1<<32 + 5: 5, -1 << 32: 0, -1<<32 - 1: -1, 3 << 31: least, 1<<40 - 3: -3, math.MaxInt: -1, math.MinInt: 0, math.MinInt + 1: 1,
}

// spare is what stands in spare room.
var spare = api.Frame{Fn: 91, Pc: 92, N: 3, L: [8]int{93, 94}, S: [16]int{95, 96, 97, 98}}

// answer is what Do answers.
type answer struct {
	frames []api.Frame
	effect api.Effect
	fault  int
}

// same tells whether two answers are one; nil and empty lists are alike.
func (a answer) same(b answer) bool {
	return slices.Equal(a.frames, b.frames) && a.effect == b.effect && a.fault == b.fault
}

// asked is what Do answers of a program and frames with spare room; it fails, if these are changed, or the answer lies where they do.
func asked(t *testing.T, p api.Program, l []api.Frame, self, now int) answer {
	t.Helper()
	program, roomy, a := progs.Roomy(p), lists.Room(l, spare), answer{}
	a.frames, a.effect, a.fault = exec.Do(program, roomy, self, now)
	if !progs.Kept(program, p) {
		t.Fatalf("%v became %v", p, program)
	}
	if !slices.Equal(roomy[:cap(roomy)], append(slices.Clone(l), spare, spare)) {
		t.Fatalf("%v became %v", l, roomy[:cap(roomy)])
	}
	if !lists.Apart(roomy, a.frames) {
		t.Fatalf("what is answered of %v lies there, too", l)
	}
	return a
}

// does fails, if a program may not run, or Do answers of it anything but what should be.
func does(t *testing.T, p api.Program, l []api.Frame, self, now int, want answer) {
	t.Helper()
	if where, e := verify.Program(p); e != api.OK {
		t.Fatalf("%v may not run: %v at %v", p, e, where)
	}
	if got := asked(t, p, l, self, now); !got.same(want) {
		f := l[len(l)-1]
		t.Fatalf("%v of %v: %v, not %v", p.Funcs[f.Fn].Code[f.Pc], l, got, want)
	}
}

// many is a text that stands there so many times.
func many(n int, text string) string { return strings.Repeat(text+", ", n) }

// row is n numbers from the first one on.
func row(from, n int) []int {
	var l []int
	for k := range n {
		l = append(l, from+k)
	}
	return l
}

// program is one of some objects of each kind whose second function, the doer, has 8 arguments, and these instructions.
func program(text string) api.Program {
	var d []api.Decl
	for range 2 {
		d = append(d, api.Decl{Kind: api.Mutex}, api.Decl{Kind: api.Rw}, api.Decl{Kind: api.Sem, B: 1}, api.Decl{Kind: api.Cond}, api.Decl{Kind: api.Bar}, api.Decl{Kind: api.Pool, A: 3}, api.Decl{Kind: api.Cell, A: 9})
	}
	lock := [][]api.Need{{{Kind: api.Lock, Obj: 0}}}
	p := api.Program{Decls: d, Waits: [][][]api.Need{lock, lock}, Funcs: []api.Func{{Code: progs.Code("push, ret")}, {Args: locals, Locals: locals, Code: progs.Code(text)}}}
	for n := range locals + 1 {
		p.Funcs = append(p.Funcs, api.Func{Args: n, Locals: n, Code: progs.Code("push, ret")})
	}
	return p
}

// doing is a program whose doer lays these values, and then does this instruction; behind that so many values stand.
func doing(text string, values []int, behind int) api.Program {
	code := ""
	for _, v := range values {
		code += "push " + strconv.Itoa(v) + ", "
	}
	if behind == 0 {
		return program(code + text + ", push, ret")
	}
	return program(code + text + ", ret")
}

// at is a doer's frame at a place, with these values; its locals are 11 to 18.
func at(pc int, values ...int) api.Frame {
	f := api.Frame{Fn: doer, Pc: pc, N: len(values), L: [8]int(row(11, locals))}
	copy(f.S[:], values)
	return f
}

// odds is so many frames which differ everywhere; each has as many values as there are ahead of it.
func odds(n int) []api.Frame {
	var l []api.Frame
	for k := range n {
		f := api.Frame{Fn: 100 + k, Pc: 200 + k, N: k}
		for n := range f.L {
			f.L[n] = 300 + 10*k + n
		}
		for n := range k {
			f.S[n] = 400 + 20*k + n
		}
		l = append(l, f)
	}
	return l
}

// alone fails, if an instruction that is done with these values on top makes of them anything but what should be; it is done with others beneath, and behind other frames, and asks nothing of others.
func alone(t *testing.T, text string, values, want []int) {
	t.Helper()
	alike(t, text, values, want, none)
}

// alike is alone of an instruction that has an effect: of what others lay then, nothing is done yet.
func alike(t *testing.T, text string, values, want []int, e api.Effect) {
	t.Helper()
	lays := 0
	if e != none {
		lays = asks[e.Op].lays
	}
	most := room - max(len(values), len(want)+lays)
	for _, beneath := range []int{0, 1, most} {
		l := append(row(-5, beneath), values...)
		left := append(row(-5, beneath), want...)
		for _, ahead := range []int{0, 1, 7} {
			does(t, doing(text, l, len(left)+lays), append(odds(ahead), at(len(l), l...)), 3, 5, answer{append(odds(ahead), at(len(l)+1, left...)), e, 0})
		}
	}
}

// faulty fails, if an instruction that is done with these values on top is done, or has another fault.
func faulty(t *testing.T, text string, values []int, fault int) {
	t.Helper()
	for _, beneath := range []int{0, 1, room - len(values)} {
		l := append(row(-5, beneath), values...)
		for _, ahead := range []int{0, 1, 7} {
			frames := append(odds(ahead), at(len(l), l...))
			does(t, doing(text, l, 1), frames, 3, 5, answer{frames, none, fault})
		}
	}
}

// P15.1

func TestPure(t *testing.T) {
	for n := -300; n <= 300; n++ {
		if got, want := exec.Pure(n), n >= 0 && n <= 23; got != want {
			t.Errorf("%d: %v", n, got)
		}
	}
	for _, n := range edges {
		if got, want := exec.Pure(n), n >= 0 && n <= 23; got != want {
			t.Errorf("%d: %v", n, got)
		}
	}
	for _, n := range []int{1<<8 + 1, 1<<16 + 1, 1<<32 + 23, -1<<32 + 1, 1<<62 + 1, math.MinInt + 5} {
		if exec.Pure(n) {
			t.Errorf("%d is pure", n)
		}
	}
}

func TestWhichOperationsArePure(t *testing.T) {
	const pure = " push load store add sub mul div mod neg lt eq and or xor shl shr dup drop jump zero call ret self now "
	for o := range api.Ops {
		if got, want := exec.Pure(o), strings.Contains(pure, " "+op.Name(o)+" "); got != want {
			t.Errorf("%s: %v", op.Name(o), got)
		}
	}
}

// P15.2

func TestTheExampleOfTheChapter(t *testing.T) {
	l := []api.Frame{at(2, greatest, 1)}
	does(t, doing("add", []int{greatest, 1}, 1), l, 0, 0, answer{l, api.Effect{Op: -1}, api.Over})
}

func TestPush(t *testing.T) {
	for _, v := range words {
		alone(t, "push "+strconv.Itoa(v), nil, []int{v})
	}
}

func TestLoad(t *testing.T) {
	for k := range locals {
		alone(t, "load "+strconv.Itoa(k), nil, []int{11 + k})
	}
}

func TestLoadOfWhatWasNeverKept(t *testing.T) {
	for k := range locals {
		p := api.Program{Funcs: []api.Func{{Locals: locals, Code: progs.Code("load " + strconv.Itoa(k) + ", ret")}}}
		does(t, p, frame.New(0), 3, 5, answer{frames: []api.Frame{{Pc: 1, N: 1}}, effect: none})
	}
}

func TestLoadOfEachWord(t *testing.T) {
	for _, v := range words {
		f := at(0)
		f.L[3] = v
		next := at(1, v)
		next.L[3] = v
		does(t, program("load 3, ret"), []api.Frame{f}, 3, 5, answer{frames: []api.Frame{next}, effect: none})
	}
}

func TestStore(t *testing.T) {
	for k := range locals {
		for _, v := range words {
			for _, beneath := range []int{0, 1, room - 1} {
				l := append(row(21, beneath), v)
				next := at(len(l)+1, l[:beneath]...)
				next.L[k] = v
				does(t, doing("store "+strconv.Itoa(k), l, beneath), append(odds(2), at(len(l), l...)), 3, 5, answer{frames: append(odds(2), next), effect: none})
			}
		}
	}
}

func TestWhatIsStoredIsLoaded(t *testing.T) {
	p := program("push 5, store 2, push 6, store 7, load 7, load 2, ret")
	l := []api.Frame{at(0)}
	for range 6 {
		l = asked(t, p, l, 3, 5).frames
	}
	want := at(6, 6, 5)
	want.L[2], want.L[7] = 5, 6
	if !slices.Equal(l, []api.Frame{want}) {
		t.Errorf("%v, not %v", l, want)
	}
}

func TestOperationsOfWords(t *testing.T) {
	for _, x := range []struct {
		name       string
		a, b, want int
	}{
		{"add", 2, 3, 5}, {"add", greatest, -1, greatest - 1}, {"add", greatest, least, -1}, {"add", greatest, 0, greatest}, {"add", least, 0, least}, {"add", greatest - 1, 1, greatest}, {"add", least + 1, -1, least},
		{"sub", 2, 3, -1}, {"sub", 9, 4, 5}, {"sub", -1, greatest, least}, {"sub", 0, greatest, least + 1}, {"sub", -1, least, greatest}, {"sub", least, least, 0},
		{"mul", 6, 7, 42}, {"mul", -3, 5, -15}, {"mul", 1 << 16, -1 << 15, least}, {"mul", greatest, -1, least + 1}, {"mul", least, 1, least}, {"mul", least, 0, 0},
		{"div", 7, 2, 3}, {"div", -7, 2, -3}, {"div", 7, -2, -3}, {"div", -7, -2, 3}, {"div", 0, 5, 0}, {"div", least, 1, least}, {"div", greatest, -1, least + 1}, {"div", least, least, 1}, {"div", 1, 2, 0},
		{"mod", 7, 2, 1}, {"mod", -7, 2, -1}, {"mod", 7, -2, 1}, {"mod", -7, -2, -1}, {"mod", least, -1, 0}, {"mod", 5, least, 5}, {"mod", 0, 5, 0},
		{"lt", 1, 2, 1}, {"lt", 2, 1, 0}, {"lt", 2, 2, 0}, {"lt", least, greatest, 1}, {"lt", greatest, least, 0}, {"lt", -1, 0, 1},
		{"eq", 1, 2, 0}, {"eq", 2, 1, 0}, {"eq", 2, 2, 1}, {"eq", least, least, 1}, {"eq", least, greatest, 0}, {"eq", 0, 0, 1},
		{"and", 12, 10, 8}, {"and", -1, 5, 5}, {"and", least, greatest, 0}, {"or", 12, 10, 14}, {"or", least, greatest, -1}, {"or", -2, 1, -1}, {"xor", 12, 10, 6}, {"xor", -1, least, greatest}, {"xor", 9, 9, 0},
		{"shl", 1, 4, 16}, {"shl", 4, 1, 8}, {"shl", 1, 31, least}, {"shl", 1, 32, 1}, {"shl", 3, 31, least}, {"shl", greatest, 1, -2}, {"shl", 5, -1, least}, {"shl", 5, 0, 5},
		{"shr", 16, 4, 1}, {"shr", 4, 16, 0}, {"shr", -1, 31, -1}, {"shr", least, 31, -1}, {"shr", least, 1, -1 << 30}, {"shr", greatest, 30, 1}, {"shr", 5, 32, 5}, {"shr", -5, 1, -3}, {"shr", 5, -1, 0},
	} {
		alone(t, x.name, []int{x.a, x.b}, []int{x.want})
	}
	for a, want := range map[int]int{0: 0, 1: -1, -1: 1, greatest: least + 1, least + 1: greatest, 77: -77} {
		alone(t, "neg", []int{a}, []int{want})
	}
}

func TestFaultsLeaveTheFramesAsTheyWere(t *testing.T) {
	for _, x := range []struct {
		name        string
		a, b, fault int
	}{
		{"add", greatest, 1, over}, {"add", 1, greatest, over}, {"add", least, -1, over}, {"add", greatest, greatest, over}, {"add", least, least, over}, {"add", 1 << 30, 1 << 30, over},
		{"sub", least, 1, over}, {"sub", greatest, -1, over}, {"sub", 0, least, over}, {"sub", least, greatest, over},
		{"mul", greatest, 2, over}, {"mul", least, -1, over}, {"mul", -1, least, over}, {"mul", 1 << 16, 1 << 15, over}, {"mul", 1 << 16, 1 << 16, over}, {"mul", least, least, over}, {"mul", greatest, greatest, over},
		{"div", least, -1, over}, {"div", 7, 0, divZero}, {"div", 0, 0, divZero}, {"div", least, 0, divZero}, {"mod", 7, 0, divZero}, {"mod", 0, 0, divZero}, {"mod", greatest, 0, divZero},
	} {
		faulty(t, x.name, []int{x.a, x.b}, x.fault)
	}
	faulty(t, "neg", []int{least}, over)
}

// computed is a word, and a fault, of an operation, as the document says it.
func computed(name string, a, b int) (int, int) {
	low, truth := b&31, map[bool]int{true: 1}
	n := map[string]int{"add": a + b, "sub": a - b, "mul": a * b, "neg": -a, "lt": truth[a < b], "eq": truth[a == b], "and": a & b, "or": a | b, "xor": a ^ b, "shl": word(a * (1 << low)), "shr": int(math.Floor(float64(a) / float64(int(1)<<low)))}[name]
	switch {
	case (name == "div" || name == "mod") && b == 0:
		return 0, divZero
	case name == "div":
		n = a / b
	case name == "mod":
		n = a - a/b*b
	}
	if n < least || n > greatest {
		return 0, over
	}
	return n, 0
}

// word is that of the lowest 32 bits of a number, told by what is left of it.
func word(n int) int {
	n %= 1 << 32
	if n < 0 {
		n += 1 << 32
	}
	if n > greatest {
		n -= 1 << 32
	}
	return n
}

func TestOperationsOfAllWordsAtEdges(t *testing.T) {
	for _, name := range []string{"add", "sub", "mul", "div", "mod", "lt", "eq", "and", "or", "xor", "shl", "shr"} {
		for _, a := range words {
			for _, b := range words {
				l := []api.Frame{at(2, a, b)}
				n, fault := computed(name, a, b)
				want := answer{l, none, fault}
				if fault == 0 {
					want.frames = []api.Frame{at(3, n)}
				}
				does(t, doing(name, []int{a, b}, 1), l, 3, 5, want)
			}
		}
	}
}

func TestNegTakesOne(t *testing.T) {
	for _, beneath := range words {
		for _, a := range words[1:] {
			does(t, doing("neg", []int{beneath, a}, 2), []api.Frame{at(2, beneath, a)}, 3, 5, answer{[]api.Frame{at(3, beneath, -a)}, none, 0})
		}
	}
}

func TestDup(t *testing.T) {
	for _, v := range words {
		alone(t, "dup", []int{v}, []int{v, v})
	}
}

func TestDrop(t *testing.T) {
	for _, v := range words {
		alone(t, "drop", []int{v}, nil)
	}
}

func TestJump(t *testing.T) {
	for _, x := range []struct {
		code     string
		from, to int
		values   []int
	}{
		{"jump 0", 0, 0, nil}, {"yield, jump 0, push, ret", 1, 0, nil}, {"yield, jump 1", 1, 1, nil}, {"yield, jump 2, push, ret", 1, 2, nil}, {"jump 3, push 1, ret, push 2, ret", 0, 3, nil},
		{"push 4, push 5, yield, jump 2, ret", 3, 2, []int{4, 5}}, {"push 4, jump 3, ret, yield, ret", 1, 3, []int{4}}, {"jump 199, " + many(198, "ret") + "jump 0", 0, 199, nil}, {"jump 199, " + many(198, "ret") + "jump 0", 199, 0, nil},
		{many(16, "push 6") + "jump 18, ret, ret", 16, 18, slices.Repeat([]int{6}, 16)},
	} {
		for _, ahead := range []int{0, 1, 7} {
			does(t, program(x.code), append(odds(ahead), at(x.from, x.values...)), 3, 5, answer{frames: append(odds(ahead), at(x.to, x.values...)), effect: none})
		}
	}
}

func TestZero(t *testing.T) {
	for _, x := range []struct {
		code     string
		from, to int
		values   []int
	}{
		{"push, zero 0, push, ret", 1, 0, nil}, {"push, push, zero 1, ret", 2, 1, []int{6}}, {"push, push, zero 3, ret", 2, 3, []int{6}}, {"push, push, zero 5, yield, jump 3, yield, ret", 2, 5, []int{6}},
		{"push, push, zero 199, " + many(197, "ret"), 2, 199, []int{6}}, {many(16, "push") + "zero 18, ret, ret", 16, 18, row(1, 15)},
	} {
		for _, ahead := range []int{0, 1, 7} {
			for _, v := range words {
				to := x.from + 1
				if v == 0 {
					to = x.to
				}
				l := append(slices.Clone(x.values), v)
				does(t, program(x.code), append(odds(ahead), at(x.from, l...)), 3, 5, answer{frames: append(odds(ahead), at(to, x.values...)), effect: none})
			}
		}
	}
}

func TestCall(t *testing.T) {
	for args := range locals + 1 {
		for ahead := range deep {
			for _, beneath := range []int{0, 1, room - max(args, 1)} {
				l := row(31, beneath+args)
				p, frames := doing("call "+strconv.Itoa(taker+args), l, beneath+1), append(odds(ahead), at(len(l), l...))
				if ahead == deep-1 {
					does(t, p, frames, 3, 5, answer{frames, none, tooDeep})
					continue
				}
				behind := api.Frame{Fn: taker + args}
				copy(behind.L[:], l[beneath:])
				does(t, p, frames, 3, 5, answer{frames: append(odds(ahead), at(len(l)+1, l[:beneath]...), behind), effect: none})
			}
		}
	}
}

func TestAFunctionMayCallItself(t *testing.T) {
	p := program(many(9, "push 3") + "call 1, ret")
	behind := api.Frame{Fn: doer, L: [8]int{3, 3, 3, 3, 3, 3, 3, 3}}
	does(t, p, []api.Frame{at(9, 3, 3, 3, 3, 3, 3, 3, 3, 3)}, 3, 5, answer{frames: []api.Frame{at(10, 3), behind}, effect: none})
}

func TestCallsUpToTheDeepest(t *testing.T) {
	p := api.Program{Funcs: []api.Func{{Code: progs.Code("call 0, ret")}}}
	l := frame.New(0)
	for n := 1; n < deep; n++ {
		next := append(slices.Repeat([]api.Frame{{Pc: 1}}, n), api.Frame{})
		does(t, p, l, 3, 5, answer{frames: next, effect: none})
		l = next
	}
	does(t, p, l, 3, 5, answer{l, none, tooDeep})
}

func TestRetOfTheOnlyFrame(t *testing.T) {
	for _, v := range words {
		for beneath := range room {
			l := append(row(41, beneath), v)
			does(t, doing("ret", l, 1), []api.Frame{at(len(l), l...)}, 3, 5, answer{effect: api.Effect{Op: -2, X: [5]int{v}}})
		}
	}
}

func TestRetOfAFrameBehindAnother(t *testing.T) {
	for ahead := 1; ahead < deep; ahead++ {
		for _, v := range words {
			for _, beneath := range []int{0, 1, room - 1} {
				l := append(row(41, beneath), v)
				back := odds(ahead)
				last := &back[ahead-1]
				last.S[last.N] = v
				last.N++
				does(t, doing("ret", l, 1), append(odds(ahead), at(len(l), l...)), 3, 5, answer{frames: back, effect: none})
			}
		}
	}
}

func TestRetOntoEachManyValues(t *testing.T) {
	for n := range room {
		caller, back := at(7, row(41, n)...), at(7, append(row(41, n), 9)...)
		does(t, doing("ret", []int{9}, 1), []api.Frame{caller, at(1, 9)}, 3, 5, answer{frames: []api.Frame{back}, effect: none})
	}
}

func TestACallAndItsRet(t *testing.T) {
	p := program("push 7, push 8, push 9, call 4, sub, ret")
	p.Funcs[4].Code = progs.Code("load 0, load 1, shl, ret")
	l := []api.Frame{at(0)}
	for k, want := range [][]api.Frame{
		{at(1, 7)}, {at(2, 7, 8)}, {at(3, 7, 8, 9)},
		{at(4, 7), {Fn: 4, L: [8]int{8, 9}}},
		{at(4, 7), {Fn: 4, Pc: 1, N: 1, L: [8]int{8, 9}, S: [16]int{8}}},
		{at(4, 7), {Fn: 4, Pc: 2, N: 2, L: [8]int{8, 9}, S: [16]int{8, 9}}},
		{at(4, 7), {Fn: 4, Pc: 3, N: 1, L: [8]int{8, 9}, S: [16]int{8 << 9}}},
		{at(4, 7, 8<<9)}, {at(5, 7-8<<9)},
	} {
		does(t, p, l, k, 2*k, answer{frames: want, effect: none})
		l = want
	}
	does(t, p, l, 3, 5, answer{effect: api.Effect{Op: -2, X: [5]int{7 - 8<<9}}})
}

func TestSelfAndNow(t *testing.T) {
	for n, w := range lowest {
		for _, other := range []int{0, 4, math.MinInt, math.MaxInt} {
			for _, ahead := range []int{0, 7} {
				want := answer{frames: append(odds(ahead), at(2, 6, w)), effect: none}
				does(t, doing("self", []int{6}, 2), append(odds(ahead), at(1, 6)), n, other, want)
				does(t, doing("now", []int{6}, 2), append(odds(ahead), at(1, 6)), other, n, want)
			}
		}
	}
	alone(t, "self", nil, []int{3})
	alone(t, "now", nil, []int{5})
}

func TestNumbersOfOthersAreAskedOfSelfAndNowAlone(t *testing.T) {
	for text, values := range map[string][]int{"push 4": {}, "load 2": {}, "store 2": {1}, "add": {1, 2}, "div": {1, 0}, "dup": {1}, "drop": {1}, "call 3": {1}, "ret": {1}, "out": {1}, "yield": {}, "sleep": {4}, "spawn 3": {1, 2}} {
		p, l := doing(text, values, 1), []api.Frame{at(len(values), values...)}
		want := asked(t, p, l, 0, 0)
		for _, n := range edges {
			for _, other := range []int{0, 1, math.MaxInt} {
				if !asked(t, p, l, n, other).same(want) || !asked(t, p, l, other, n).same(want) {
					t.Errorf("%s hangs on %d, %d", text, n, other)
				}
			}
		}
	}
}

// asks is how many values the operations take, and have laid by others, that ask something of these; what join and joinfor take hangs on their operands, and stands in takes.
var asks = map[int]struct{ takes, lays int }{
	api.OpOut: {1, 1}, api.OpYield: {0, 0}, api.OpWait: {0, 1}, api.OpWaitFor: {1, 1}, api.OpSleep: {1, 1}, api.OpUnlock: {0, 1}, api.OpPost: {1, 1}, api.OpGive: {1, 1}, api.OpCwait: {0, 1}, api.OpCwaitFor: {1, 1},
	api.OpSignal: {0, 1}, api.OpBroadcast: {0, 1}, api.OpEnrol: {0, 1}, api.OpLeave: {0, 1}, api.OpArrive: {0, 1}, api.OpArriveFor: {1, 1}, api.OpSpawn: {2, 1}, api.OpJoin: {0, 1}, api.OpJoinFor: {1, 1},
	api.OpGrant: {2, 1}, api.OpWaive: {1, 1}, api.OpRead: {0, 2}, api.OpWrite: {1, 1}, api.OpBegin: {0, 1}, api.OpCommit: {0, 1}, api.OpClaim: {1, 1}, api.OpDead: {0, 1}, api.OpMend: {0, 1},
}

// takes is how many values an instruction takes, as the document has it.
func takes(p api.Program, x api.Ins) int {
	switch x.Op {
	case api.OpCall:
		return p.Funcs[x.A].Args
	case api.OpJoin, api.OpJoinFor:
		return asks[x.Op].takes + x.B
	case api.OpStore, api.OpNeg, api.OpDup, api.OpDrop, api.OpZero, api.OpRet:
		return 1
	case api.OpPush, api.OpLoad, api.OpJump, api.OpSelf, api.OpNow:
		return 0
	}
	if n, ok := asks[x.Op]; ok {
		return n.takes
	}
	return 2
}

func TestWhatAsksSomethingOfOthers(t *testing.T) {
	met := map[int]int{}
	for _, text := range []string{
		"out", "yield", "wait 0", "wait 1", "waitfor 0", "waitfor 1", "sleep", "unlock 0", "unlock 8", "post 2", "post 9", "give 5", "give 12", "cwait 3 0", "cwait 10 7", "cwaitfor 3 7", "cwaitfor 10 0",
		"signal 3", "signal 10", "broadcast 3", "broadcast 10", "enrol 4", "enrol 11", "leave 4", "leave 11", "arrive 4", "arrive 11", "arrivefor 4", "arrivefor 11", "spawn 3",
		"join 1 1", "join 1 2", "join 2 2", "join 1 4", "join 3 4", "join 4 4", "joinfor 1 1", "joinfor 1 3", "joinfor 3 3", "joinfor 2 4", "joinfor 4 4",
		"grant", "waive", "read 6", "read 13", "write 6", "write 13", "begin", "commit", "claim 0", "claim 5", "claim 12", "dead 0", "dead 7", "mend 0", "mend 7",
	} {
		x := progs.Code(text)[0]
		met[x.Op]++
		for _, from := range []int{greatest - 4, -2, 51, least} {
			values := row(from, takes(program(text), x))
			e := api.Effect{Op: x.Op, A: x.A, B: x.B}
			for k, v := range values {
				e.X[k] = v
			}
			alike(t, text, values, nil, e)
		}
	}
	for o := range api.Ops {
		if (met[o] > 0) == exec.Pure(o) {
			t.Errorf("%s: %d times", op.Name(o), met[o])
		}
	}
}

// Rows of instructions, held against a reading by the chapter's words.

// call is a frame as the chapter speaks of it.
type call struct {
	fn, at int
	locals [8]int
	values []int
}

// laid is a call with more values on top.
func (c call) laid(values ...int) call {
	c.values = append(slices.Clone(c.values), values...)
	return c
}

// frames are calls as they stand in api.
func frames(l []call) []api.Frame {
	var r []api.Frame
	for _, c := range l {
		f := api.Frame{Fn: c.fn, Pc: c.at, N: len(c.values), L: c.locals}
		copy(f.S[:], c.values)
		r = append(r, f)
	}
	return r
}

// reading is what Do should make of calls, an effect, and a fault.
func reading(p api.Program, l []call, self, now int) ([]call, api.Effect, int) {
	ahead, c := slices.Clone(l[:len(l)-1]), l[len(l)-1]
	x := p.Funcs[c.fn].Code[c.at]
	left := len(c.values) - takes(p, x)
	var v [8]int
	copy(v[:], c.values[left:])
	c.values = c.values[:left]
	c.at++
	switch name := op.Name(x.Op); name {
	case "push":
		c = c.laid(x.A)
	case "load":
		c = c.laid(c.locals[x.A])
	case "store":
		c.locals[x.A] = v[0]
	case "dup":
		c = c.laid(v[0], v[0])
	case "drop":
	case "jump":
		c.at = x.A
	case "zero":
		if v[0] == 0 {
			c.at = x.A
		}
	case "self":
		c = c.laid(word(self))
	case "now":
		c = c.laid(word(now))
	case "call":
		if len(l) == 8 {
			return l, none, tooDeep
		}
		return append(ahead, c, call{fn: x.A, locals: v}), none, 0
	case "ret":
		if len(ahead) == 0 {
			return nil, api.Effect{Op: -2, X: [5]int{v[0]}}, 0
		}
		ahead[len(ahead)-1] = ahead[len(ahead)-1].laid(v[0])
		return ahead, none, 0
	case "add", "sub", "mul", "div", "mod", "neg", "lt", "eq", "and", "or", "xor", "shl", "shr":
		n, fault := computed(name, v[0], v[1])
		if fault != 0 {
			return l, none, fault
		}
		c = c.laid(n)
	default:
		return append(ahead, c), api.Effect{Op: x.Op, A: x.A, B: x.B, X: [5]int(v[:5])}, 0
	}
	return append(ahead, c), none, 0
}

// tally is what was met: operations, effects, and faults, how many frames there were at most, and values in one.
type tally struct {
	ops             [api.Ops]int
	effects, faults map[int]int
	deepest, most   int
}

// number is a drawn word: mostly a small one.
func number(r *draws.Row) int {
	if r.Next()%4 > 0 {
		return int(r.Next()%7) - 2
	}
	return words[r.Next()%uint64(len(words))]
}

// walk goes through a program from a function on, others laying what they are asked for, and fails, if Do answers anything but what the reading does.
func walk(t *testing.T, r *draws.Row, p api.Program, fn int, y *tally) {
	t.Helper()
	c := call{fn: fn}
	for k := range p.Funcs[fn].Args {
		c.locals[k] = number(r)
	}
	l, calls := frame.New(fn, c.locals[:p.Funcs[fn].Args]...), []call{c}
	var had, were [][]api.Frame
	for range 150 {
		self, now := int(r.Next()>>(r.Next()%64)), int(r.Next()%9)
		had, were = append(had, l), append(were, slices.Clone(l))
		last := calls[len(calls)-1]
		y.ops[p.Funcs[last.fn].Code[last.at].Op]++
		y.deepest, y.most = max(y.deepest, len(l)), max(y.most, len(last.values))
		next, e, fault := reading(p, calls, self, now)
		got, want := asked(t, p, l, self, now), answer{frames(next), e, fault}
		if !got.same(want) {
			t.Fatalf("%v of %v: %v, not %v", l, p, got, want)
		}
		y.effects[e.Op]++
		y.faults[fault]++
		l, calls = got.frames, next
		if fault != 0 || e.Op == -2 {
			break
		}
		if e.Op >= 0 {
			for range asks[e.Op].lays {
				v := number(r)
				l, _ = frame.Push(l, v)
				calls[len(calls)-1] = calls[len(calls)-1].laid(v)
			}
		}
	}
	for k := range had {
		if !slices.Equal(had[k], were[k]) {
			t.Fatalf("%v became %v", were[k], had[k])
		}
	}
}

func TestDrawnProgramsThatMayRun(t *testing.T) {
	r, y := draws.Row(15), &tally{effects: map[int]int{}, faults: map[int]int{}}
	for range 700 {
		p := progs.DrawnToRun(&r)
		if where, e := verify.Program(p); e != api.OK {
			t.Fatalf("%v may not run: %v at %v", p, e, where)
		}
		for fn := range p.Funcs {
			for range 2 {
				walk(t, &r, p, fn, y)
			}
		}
	}
	few := slices.Min(y.ops[:]) < 100 || y.effects[-2] < 200 || y.faults[over] < 100 || y.faults[divZero] < 100 || y.faults[tooDeep] < 100
	if few || y.deepest != deep || y.most != room {
		t.Errorf("too few of a kind: %v, effects %v, faults %v, %d frames, %d values", y.ops, y.effects, y.faults, y.deepest, y.most)
	}
}

// What is open

// open asks Do of what need not be right, and fails, if that is changed, or is answered otherwise the second time.
func open(t *testing.T, p api.Program, l []api.Frame, self, now int) {
	t.Helper()
	if a, b := asked(t, p, l, self, now), asked(t, p, l, self, now); !a.same(b) {
		t.Fatalf("%v of %v: %v, and then %v", l, p, a, b)
	}
}

func TestProgramsOfNothing(t *testing.T) {
	for _, p := range []api.Program{{}, {Funcs: []api.Func{}}, {Funcs: []api.Func{{}}}, {Funcs: []api.Func{{Args: 3, Code: []api.Ins{}}, {Locals: -1}}}, {Funcs: []api.Func{{Code: progs.Code("ret")}}}, program("ret")} {
		open(t, p, nil, 1, 2)
		open(t, p, []api.Frame{}, 1, 2)
		for _, fn := range edges {
			for _, pc := range edges {
				open(t, p, []api.Frame{{Fn: fn, Pc: pc, N: 3}}, 1, 2)
				open(t, p, append(odds(3), api.Frame{Fn: fn, Pc: pc}), 1, 2)
			}
		}
	}
}

func TestEachOperationWithEachOperand(t *testing.T) {
	for _, o := range append(row(0, api.Ops), edges...) {
		for _, a := range edges {
			for _, b := range []int{math.MinInt, -1, 0, 1, 4, 5, 15, 16, 17, math.MaxInt} {
				p := api.Program{Funcs: []api.Func{{Code: []api.Ins{{Op: o, A: a, B: b}}}, {Args: b, Locals: a}}}
				for _, n := range []int{0, 1, 2, 5, 15, 16} {
					open(t, p, []api.Frame{at(0, row(1, n)...), {N: n}}, a, b)
				}
			}
		}
	}
}

func TestEachOperationWithEachManyValues(t *testing.T) {
	for o := range api.Ops {
		for _, args := range append(row(0, room+2), -1, math.MinInt, math.MaxInt) {
			p := api.Program{Funcs: []api.Func{{Code: []api.Ins{{Op: o, A: 1, B: args}}}, {Args: args, Code: progs.Code("ret")}}}
			for _, n := range append(row(-1, room+3), math.MinInt, math.MaxInt, 1<<32, 1<<32+1) {
				open(t, p, []api.Frame{{N: n}}, 1, 2)
				open(t, p, append(odds(room+1), api.Frame{N: n}), 1, 2)
			}
		}
	}
}

func TestEachOperationWithEachManyFrames(t *testing.T) {
	for o := range api.Ops {
		p := api.Program{Funcs: []api.Func{{Code: []api.Ins{{Op: o}, {Op: o}}}}}
		for _, n := range append(row(0, 20), 300) {
			l := make([]api.Frame, n, n+1)
			open(t, p, append(l, api.Frame{N: 3}), 1, 2)
			open(t, p, append(l, api.Frame{N: 16, Pc: 1}), 1, 2)
		}
	}
}

func TestDrawnProgramsThatMayBe(t *testing.T) {
	r := draws.Row(151)
	for range 3000 {
		p := progs.Drawn(&r)
		l := frame.New(int(r.Next()%uint64(len(p.Funcs))), row(1, 8)...)
		for range 40 {
			got := asked(t, p, l, 1, 2)
			l = got.frames
			if got.effect.Op >= 0 || len(l) == 0 || got.fault != 0 {
				l = append(l, at(0, number(&r), number(&r)))
				l[len(l)-1].Fn = int(r.Next() % 3)
			}
		}
	}
}

// Memory

func TestAnAnswerIsNotChangedByWhatIsDoneToOthers(t *testing.T) {
	ruin := func(l []api.Frame) {
		for k := range l[:cap(l)] {
			l[:cap(l)][k] = spare
		}
	}
	for text, values := range map[string][]int{"push 4": {}, "load 2": {}, "store 2": {1}, "add": {1, 2}, "add ": {greatest, 2}, "div": {1, 0}, "neg": {1}, "dup": {1}, "drop": {1}, "jump 0": {}, "zero 2": {0, 1}, "call 2": {}, "call 4": {1, 2}, "ret": {1}, "self": {}, "now": {}, "out": {1}, "yield": {}, "wait 0": {}, "joinfor 4 4": {1, 2, 3, 4, 5}} {
		p := doing(text, values, 1)
		for _, ahead := range []int{0, 1, 6, 7} {
			l := append(odds(ahead), at(len(values), values...))
			a, b := lists.Room(l, spare), lists.Room(l, spare)
			want := asked(t, p, l, 3, 5)
			one, e, fault := exec.Do(p, a, 3, 5)
			two, _, _ := exec.Do(p, a, 3, 5)
			three, _, _ := exec.Do(p, b, 3, 5)
			if !lists.Apart(a, b, one, two, three) {
				t.Fatalf("%s: two answers lie in one memory", text)
			}
			ruin(a)
			ruin(two)
			if !(answer{one, e, fault}).same(want) || !slices.Equal(three, want.frames) || !slices.Equal(b, l) {
				t.Errorf("%s: %v and %v, not %v", text, one, three, want)
			}
			ruin(one)
			if got := asked(t, p, b, 3, 5); !got.same(want) {
				t.Errorf("%s: %v, not %v", text, got, want)
			}
		}
	}
}
