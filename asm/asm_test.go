package asm_test

import (
	"fmt"
	"math"
	"regexp"
	"slices"
	"strconv"
	"strings"
	"testing"

	"logjam/api"
	"logjam/asm"
	"logjam/ins"
	"logjam/internal/draws"
	"logjam/internal/progs"
	"logjam/prog"
)

// table is the operations' names and forms as the document's table has them, by number.
var table = strings.Split("push n,load k,store k,add ,sub ,mul ,div ,mod ,neg ,lt ,eq ,and ,or ,xor ,shl ,shr ,dup ,drop ,jump t,zero t,call f,ret ,self ,now ,out ,yield ,"+
	"wait w,waitfor w,sleep ,unlock u,post s,give p,cwait cm,cwaitfor cm,signal c,broadcast c,enrol b,leave b,arrive b,arrivefor b,spawn f,join jj,joinfor jj,grant ,waive ,"+
	"read v,write v,begin ,commit ,claim q,dead m,mend m", ",")

// ranges are the least and the greatest number of each letter that stands for no object; objects are 0 to 31.
var ranges = map[byte][2]int{'n': {-2147483648, 2147483647}, 'k': {0, 7}, 't': {0, 199}, 'f': {0, 15}, 'w': {0, 31}, 'j': {1, 4}}

// nameOf and formOf are those of an operation.
func nameOf(o int) string { return strings.Split(table[o], " ")[0] }
func formOf(o int) string { return strings.Split(table[o], " ")[1] }

// rangeOf is the least and the greatest number of a letter.
func rangeOf(letter byte) (int, int) {
	if l, ok := ranges[letter]; ok {
		return l[0], l[1]
	}
	return 0, 31
}

// opOf is the operation of a name.
func opOf(name string) (int, bool) {
	for o := range table {
		if nameOf(o) == name {
			return o, true
		}
	}
	return 0, false
}

// said is an instruction in writing, be it one that may be or not, if there is such an operation.
func said(x api.Ins) string {
	l := []string{nameOf(x.Op), strconv.Itoa(x.A), strconv.Itoa(x.B)}
	return strings.Join(l[:1+len(formOf(x.Op))], " ")
}

// The names of kinds, and how many numbers objects of kinds have in writing, stand where the kinds are.
var (
	objectNames = []string{1: "mutex", 2: "rw", 3: "sem", 4: "cond", 5: "bar", 6: "pool", 7: "cell"}
	needNames   = []string{1: "lock", 2: "read", 3: "write", 4: "down", 5: "take"}
	hasNumbers  = []int{1: 0, 2: 0, 3: 2, 4: 0, 5: 0, 6: 1, 7: 2}
)

// needSaid is a need in writing.
func needSaid(n api.Need) string {
	if n.Kind < 4 {
		return fmt.Sprintf("%s %d", needNames[n.Kind], n.Obj)
	}
	return fmt.Sprintf("%s %d:%d", needNames[n.Kind], n.Obj, n.N)
}

// waitSaid is a wait in writing.
func waitSaid(w [][]api.Need) string {
	s := ""
	for k, way := range w {
		if k > 0 {
			s += " | "
		}
		for k, n := range way {
			if k > 0 {
				s += " + "
			}
			s += needSaid(n)
		}
	}
	return s
}

// written is the text of a program, be it one that may be or not, if its kinds and operations are there.
func written(p api.Program) string {
	b := &strings.Builder{}
	for _, d := range p.Decls {
		fmt.Fprintf(b, "object %s", objectNames[d.Kind])
		for _, n := range []int{d.A, d.B}[:hasNumbers[d.Kind]] {
			fmt.Fprintf(b, " %d", n)
		}
		b.WriteString("\n")
	}
	for _, w := range p.Waits {
		fmt.Fprintf(b, "wait %s\n", waitSaid(w))
	}
	for _, f := range p.Funcs {
		fmt.Fprintf(b, "func %d %d\n", f.Args, f.Locals)
		for _, x := range f.Code {
			fmt.Fprintf(b, "  %s\n", said(x))
		}
	}
	return b.String()
}

// What lines look like, each with its line feed.
const (
	aNumber = `(?:0|-?[1-9][0-9]{0,9})`
	aNeed   = `(?:(?:lock|read|write) ` + aNumber + `|(?:down|take) ` + aNumber + `:` + aNumber + `)`
	aWay    = aNeed + `(?: \+ ` + aNeed + `)*`
)

var (
	objectLine = regexp.MustCompile(`\Aobject (?:mutex|rw|cond|bar|pool ` + aNumber + `|(?:sem|cell) ` + aNumber + ` ` + aNumber + `)\n\z`)
	waitLine   = regexp.MustCompile(`\Await ` + aWay + `(?: \| ` + aWay + `)*\n\z`)
	funcLine   = regexp.MustCompile(`\Afunc ` + aNumber + ` ` + aNumber + `\n\z`)
	insLine    = regexp.MustCompile(`\A  [a-z]+(?: ` + aNumber + `){0,2}\n\z`)
)

// numbersIn are the numbers among the words of a line, and 0 behind them.
func numbersIn(words []string) [3]int {
	var l [3]int
	k := 0
	for _, word := range words {
		if n, err := strconv.Atoi(word); err == nil {
			l[k] = n
			k++
		}
	}
	return l
}

// objectIn is the object of a line that may stand.
func objectIn(line string) api.Decl {
	words := strings.Fields(line)
	l := numbersIn(words)
	return api.Decl{Kind: slices.Index(objectNames, words[1]), A: l[0], B: l[1]}
}

// waitIn is the wait of a line that may stand.
func waitIn(line string) [][]api.Need {
	w := [][]api.Need{nil}
	for words := strings.FieldsFunc(line, func(r rune) bool { return r == ' ' || r == ':' || r == '\n' })[1:]; len(words) > 0; {
		switch words[0] {
		case "|":
			w = append(w, nil)
			fallthrough
		case "+":
			words = words[1:]
		}
		n := api.Need{Kind: slices.Index(needNames, words[0])}
		n.Obj, _ = strconv.Atoi(words[1])
		words = words[2:]
		if n.Kind > 3 {
			n.N, _ = strconv.Atoi(words[0])
			words = words[1:]
		}
		w[len(w)-1] = append(w[len(w)-1], n)
	}
	return w
}

// funcIn is the function of a line that may stand.
func funcIn(line string) api.Func {
	l := numbersIn(strings.Fields(line))
	return api.Func{Args: l[0], Locals: l[1]}
}

// insIn is the instruction of a line; false, if there is none.
func insIn(line string) (api.Ins, bool) {
	if !insLine.MatchString(line) {
		return api.Ins{}, false
	}
	words := strings.Fields(line)
	o, ok := opOf(words[0])
	l := numbersIn(words)
	return api.Ins{Op: o, A: l[0], B: l[1]}, ok && len(words) == 1+len(formOf(o))
}

// reading is what Parse should answer, as the chapter says it.
func reading(s string) (api.Program, int, api.Errno) {
	if len(s) > 60000 {
		return api.Program{}, 0, api.ErrLong
	}
	var p api.Program
	for k, line := range strings.SplitAfter(s, "\n") {
		x, isIns := insIn(line)
		switch last := len(p.Funcs) - 1; {
		case line == "":
			// Nothing stands behind the last line feed; a line that is empty has one.
		case isIns && last >= 0:
			p.Funcs[last].Code = append(p.Funcs[last].Code, x)
		case funcLine.MatchString(line):
			p.Funcs = append(p.Funcs, funcIn(line))
		case waitLine.MatchString(line) && last < 0:
			p.Waits = append(p.Waits, waitIn(line))
		case objectLine.MatchString(line) && last < 0 && len(p.Waits) == 0:
			p.Decls = append(p.Decls, objectIn(line))
		default:
			return api.Program{}, k + 1, api.ErrForm
		}
	}
	if e := prog.Check(p); e != api.OK {
		return api.Program{}, 0, e
	}
	return p, 0, api.OK
}

// kept fails, if what is done with a program changes it, or its spare room.
func kept(t *testing.T, p api.Program, do func(p api.Program)) {
	t.Helper()
	q := progs.Roomy(p)
	do(q)
	if !progs.Kept(q, p) {
		t.Errorf("%v became %v", p, q)
	}
}

// texts fails, if a program is not written as this text, or is not what is read of it.
func texts(t *testing.T, p api.Program, want string) {
	t.Helper()
	kept(t, p, func(p api.Program) {
		if s, e := asm.Text(p); s != want || e != api.OK {
			t.Errorf("text of %v: %q, %v, not %q", p, s, e, want)
		}
	})
	if s := written(p); s != want {
		t.Errorf("of %v the tests' own text is %q, not %q", p, s, want)
	}
	parses(t, want, p, 0, api.OK)
}

// noText fails, if Text tells anything but an error.
func noText(t *testing.T, p api.Program, want api.Errno) {
	t.Helper()
	kept(t, p, func(p api.Program) {
		if s, e := asm.Text(p); s != "" || e != want {
			t.Errorf("text of %v: %q, %v, not %v", p, s, e, want)
		}
	})
	if e := prog.Check(p); e != want {
		t.Errorf("check of %v: %v, not %v", p, e, want)
	}
}

// parses fails, if Parse, or the tests' own reading, tells anything but what should be.
func parses(t *testing.T, s string, want api.Program, line int, err api.Errno) {
	t.Helper()
	if p, at, e := asm.Parse(s); !progs.Equal(p, want) || at != line || e != err {
		t.Errorf("%.300q: %v, %d, %v, not %v, %d, %v", s, p, at, e, want, line, err)
	}
	if p, at, e := reading(s); !progs.Equal(p, want) || at != line || e != err {
		t.Errorf("of %.300q the tests' own reading is %v, %d, %v, not %v, %d, %v", s, p, at, e, want, line, err)
	}
}

// stopsAt fails, if Parse tells anything but that this line can't stand there.
func stopsAt(t *testing.T, s string, line int) {
	t.Helper()
	parses(t, s, api.Program{}, line, api.ErrForm)
}

// mayNotBe fails, if Parse tells anything but an error of the whole: the text is too long, or each line may stand where it does, but the program may not be.
func mayNotBe(t *testing.T, s string, err api.Errno) {
	t.Helper()
	parses(t, s, api.Program{}, 0, err)
}

// small is the least of programs that do something.
func small() api.Program {
	return api.Program{Funcs: []api.Func{{Code: progs.Code("push 1, ret")}}}
}

const smallText = "func 0 0\n  push 1\n  ret\n"

// great is a program that has some of each part.
func great() api.Program {
	lock, take := api.Need{Kind: api.Lock, Obj: 0}, api.Need{Kind: api.Take, Obj: 5, N: 20}
	return api.Program{
		Decls: []api.Decl{{Kind: api.Mutex}, {Kind: api.Rw}, {Kind: api.Sem, A: 1, B: 2}, {Kind: api.Cond}, {Kind: api.Bar}, {Kind: api.Pool, A: 300}, {Kind: api.Cell, A: -5, B: 1}},
		Waits: [][][]api.Need{
			{{lock}},
			{{{Kind: api.Write, Obj: 1}, take}, {{Kind: api.Down, Obj: 2, N: 1}}},
			{{lock, {Kind: api.Read, Obj: 1}, take}},
			{{lock}, {take}, {{Kind: api.Read, Obj: 1}}, {{Kind: api.Down, Obj: 2, N: 2}}},
		},
		Funcs: []api.Func{
			{Locals: 3, Code: progs.Code("push -300, wait 2, ret")},
			{Args: 2, Locals: 2, Code: progs.Code("ret")},
			{Args: 1, Locals: 8, Code: progs.Code("join 1 3, jump 199, cwait 3 0, add")},
		},
	}
}

const greatText = "object mutex\nobject rw\nobject sem 1 2\nobject cond\nobject bar\nobject pool 300\nobject cell -5 1\n" +
	"wait lock 0\nwait write 1 + take 5:20 | down 2:1\nwait lock 0 + read 1 + take 5:20\nwait lock 0 | take 5:20 | read 1 | down 2:2\n" +
	"func 0 3\n  push -300\n  wait 2\n  ret\n" +
	"func 2 2\n  ret\n" +
	"func 1 8\n  join 1 3\n  jump 199\n  cwait 3 0\n  add\n"

// greatLines is how many lines that text has.
var greatLines = strings.Count(greatText, "\n")

// withLine is that text with another line in the place of one; they are counted from 1 on.
func withLine(at int, line string) string {
	l := strings.SplitAfter(greatText, "\n")
	l[at-1] = line
	return strings.Join(l, "")
}

// P13.1

// lines fails, if an instruction's line is anything but what should be.
func lines(t *testing.T, x api.Ins, want string) {
	t.Helper()
	if got := asm.Line(x); got != want {
		t.Errorf("line of %v: %q, not %q", x, got, want)
	}
}

func TestLineOfEachOperation(t *testing.T) {
	for o, want := range []string{
		"push -2147483648, push 2147483647", "load 0, load 7", "store 0, store 7", "add", "sub", "mul", "div", "mod", "neg", "lt", "eq", "and", "or", "xor", "shl", "shr", "dup", "drop",
		"jump 0, jump 199", "zero 0, zero 199", "call 0, call 15", "ret", "self", "now", "out", "yield", "wait 0, wait 31", "waitfor 0, waitfor 31", "sleep", "unlock 0, unlock 31", "post 0, post 31", "give 0, give 31",
		"cwait 0 0, cwait 31 31", "cwaitfor 0 0, cwaitfor 31 31", "signal 0, signal 31", "broadcast 0, broadcast 31", "enrol 0, enrol 31", "leave 0, leave 31", "arrive 0, arrive 31", "arrivefor 0, arrivefor 31",
		"spawn 0, spawn 15", "join 1 1, join 4 4", "joinfor 1 1, joinfor 4 4", "grant", "waive", "read 0, read 31", "write 0, write 31", "begin", "commit", "claim 0, claim 31", "dead 0, dead 31", "mend 0, mend 31",
	} {
		least, greatest := api.Ins{Op: o}, api.Ins{Op: o}
		form := formOf(o)
		if len(form) > 0 {
			least.A, greatest.A = rangeOf(form[0])
		}
		if len(form) > 1 {
			least.B, greatest.B = rangeOf(form[1])
		}
		l := strings.Split(want, ", ")
		lines(t, least, l[0])
		lines(t, greatest, l[len(l)-1])
	}
}

func TestLineOfWords(t *testing.T) {
	for n, want := range map[int]string{
		0: "push 0", 1: "push 1", -1: "push -1", 9: "push 9", -9: "push -9", 10: "push 10", -10: "push -10", 99: "push 99", 100: "push 100", -100: "push -100", 1000: "push 1000", 65536: "push 65536", 999999999: "push 999999999",
		1000000000: "push 1000000000", -1000000000: "push -1000000000", 2147483646: "push 2147483646", 2147483647: "push 2147483647", -2147483647: "push -2147483647", -2147483648: "push -2147483648",
		2147483648: "", -2147483649: "", 4294967296: "", 4294967297: "", -4294967296: "", math.MaxInt: "", math.MinInt: "",
	} {
		lines(t, api.Ins{Op: api.OpPush, A: n}, want)
	}
}

func TestLineOfBothOperands(t *testing.T) {
	for text, x := range map[string]api.Ins{
		"cwait 3 0": {Op: api.OpCwait, A: 3}, "cwait 0 3": {Op: api.OpCwait, B: 3}, "cwaitfor 10 29": {Op: api.OpCwaitFor, A: 10, B: 29}, "cwaitfor 29 10": {Op: api.OpCwaitFor, A: 29, B: 10},
		"join 1 2": {Op: api.OpJoin, A: 1, B: 2}, "join 2 3": {Op: api.OpJoin, A: 2, B: 3}, "joinfor 1 4": {Op: api.OpJoinFor, A: 1, B: 4}, "joinfor 3 4": {Op: api.OpJoinFor, A: 3, B: 4},
	} {
		lines(t, x, text)
	}
}

// someNumbers are numbers at the edges of all letters' ranges, next to them, and far from them.
var someNumbers = []int{math.MinInt, math.MinInt + 1, -1<<32 - 1, -1 << 32, -1<<31 - 1, -1 << 31, -1<<31 + 1, -256, -32, -2, -1, 0, 1, 2, 3, 4, 5, 6, 7, 8, 9, 10, 14, 15, 16, 17, 30, 31, 32, 33, 63, 64, 99, 100, 127, 128, 198, 199, 200, 201, 255, 256, 257, 999, 1000, 1001, 1<<31 - 1, 1 << 31, 1<<32 - 1, 1 << 32, 1<<32 + 1, math.MaxInt - 1, math.MaxInt}

func TestLineOfEachOperationWithAllOperands(t *testing.T) {
	may := 0
	for o := range api.Ops {
		for _, a := range someNumbers {
			for _, b := range someNumbers {
				x, want := api.Ins{Op: o, A: a, B: b}, ""
				if ins.Check(x) == api.OK {
					want = said(x)
					may++
				}
				lines(t, x, want)
			}
		}
	}
	if may < 1000 {
		t.Errorf("just %d may be", may)
	}
}

func TestLineOfWhatMayNotBe(t *testing.T) {
	for _, n := range slices.Concat(someNumbers, []int{51, 52, 53, 256 + 21, 1<<16 + 21, 1<<32 + 21}) {
		if n < 0 || n >= api.Ops {
			lines(t, api.Ins{Op: n}, "")
			lines(t, api.Ins{Op: n, A: 1, B: 1}, "")
		}
	}
	for _, x := range []struct {
		x    api.Ins
		want api.Errno
	}{
		{api.Ins{Op: -1}, api.ErrKind}, {api.Ins{Op: 52}, api.ErrKind}, {api.Ins{Op: api.OpLoad, A: 8}, api.ErrArg}, {api.Ins{Op: api.OpLoad, A: -1}, api.ErrArg}, {api.Ins{Op: api.OpJump, A: 200}, api.ErrArg},
		{api.Ins{Op: api.OpCall, A: 16}, api.ErrArg}, {api.Ins{Op: api.OpWait, A: 32}, api.ErrArg}, {api.Ins{Op: api.OpMend, A: 32}, api.ErrArg}, {api.Ins{Op: api.OpCwait, A: 1, B: 32}, api.ErrArg}, {api.Ins{Op: api.OpCwait, A: 32, B: 1}, api.ErrArg},
		{api.Ins{Op: api.OpJoin}, api.ErrArg}, {api.Ins{Op: api.OpJoin, A: 2, B: 1}, api.ErrArg}, {api.Ins{Op: api.OpJoin, A: 5, B: 5}, api.ErrArg}, {api.Ins{Op: api.OpPush, A: 1 << 31}, api.ErrArg},
		{api.Ins{Op: api.OpRet, A: 1}, api.ErrForm}, {api.Ins{Op: api.OpRet, B: 1}, api.ErrForm}, {api.Ins{Op: api.OpPush, B: 1}, api.ErrForm}, {api.Ins{Op: api.OpUnlock, A: 3, B: -1}, api.ErrForm},
	} {
		lines(t, x.x, "")
		if e := ins.Check(x.x); e != x.want {
			t.Errorf("check of %v: %v, not %v", x.x, e, x.want)
		}
	}
}

// P13.2

func TestTheExampleOfTheChapter(t *testing.T) {
	texts(t, api.Program{
		Decls: []api.Decl{{Kind: api.Mutex}},
		Waits: [][][]api.Need{{{{Kind: api.Lock}}}},
		Funcs: []api.Func{{Code: progs.Code("wait 0, ret")}},
	}, "object mutex\nwait lock 0\nfunc 0 0\n  wait 0\n  ret\n")
}

func TestTextOfPrograms(t *testing.T) {
	texts(t, small(), smallText)
	texts(t, great(), greatText)
	texts(t, api.Program{Decls: []api.Decl{}, Waits: [][][]api.Need{}, Funcs: []api.Func{{Code: progs.Code("ret")}}}, "func 0 0\n  ret\n")
}

func TestTextOfEachKindOfObject(t *testing.T) {
	for text, d := range map[string]api.Decl{
		"object mutex": {Kind: api.Mutex}, "object rw": {Kind: api.Rw}, "object cond": {Kind: api.Cond}, "object bar": {Kind: api.Bar},
		"object sem 0 1": {Kind: api.Sem, B: 1}, "object sem 1 1": {Kind: api.Sem, A: 1, B: 1}, "object sem 7 12": {Kind: api.Sem, A: 7, B: 12}, "object sem 0 1000": {Kind: api.Sem, B: 1000}, "object sem 1000 1000": {Kind: api.Sem, A: 1000, B: 1000},
		"object pool 1": {Kind: api.Pool, A: 1}, "object pool 12": {Kind: api.Pool, A: 12}, "object pool 1000": {Kind: api.Pool, A: 1000},
		"object cell 0 0": {Kind: api.Cell}, "object cell 5 3": {Kind: api.Cell, A: 5, B: 3}, "object cell -1 0": {Kind: api.Cell, A: -1}, "object cell 2147483647 3": {Kind: api.Cell, A: 1<<31 - 1, B: 3}, "object cell -2147483648 0": {Kind: api.Cell, A: -1 << 31},
	} {
		// What guards a cell may stand ahead of it, or behind.
		p := small()
		p.Decls = []api.Decl{{Kind: api.Mutex}, d, {Kind: api.Bar}, {Kind: api.Rw}}
		texts(t, p, "object mutex\n"+text+"\nobject bar\nobject rw\n"+smallText)
		p.Decls = []api.Decl{{Kind: api.Rw}, {Kind: api.Bar}, d, {Kind: api.Mutex}, d}
		texts(t, p, "object rw\nobject bar\n"+text+"\nobject mutex\n"+text+"\n"+smallText)
	}
}

func TestTextOfAsManyOfEachPartAsThereMayBe(t *testing.T) {
	p := small()
	p.Decls = slices.Repeat([]api.Decl{{Kind: api.Pool, A: 3}}, 32)
	texts(t, p, strings.Repeat("object pool 3\n", 32)+smallText)
	p.Waits = slices.Repeat([][][]api.Need{{{{Kind: api.Take, Obj: 31, N: 3}}}}, 32)
	texts(t, p, strings.Repeat("object pool 3\n", 32)+strings.Repeat("wait take 31:3\n", 32)+smallText)
	p.Funcs = slices.Repeat(p.Funcs, 16)
	texts(t, p, strings.Repeat("object pool 3\n", 32)+strings.Repeat("wait take 31:3\n", 32)+strings.Repeat(smallText, 16))
	for _, many := range []int{1, 2, 15, 16} {
		texts(t, api.Program{Funcs: slices.Repeat(small().Funcs, many)}, strings.Repeat(smallText, many))
	}
	for _, many := range []int{1, 2, 9, 10, 11, 199, 200} {
		f := api.Func{Args: 1, Locals: 1, Code: slices.Repeat(progs.Code("jump 199"), many)}
		texts(t, api.Program{Funcs: []api.Func{f}}, "func 1 1\n"+strings.Repeat("  jump 199\n", many))
		texts(t, api.Program{Funcs: []api.Func{f, small().Funcs[0], f}}, "func 1 1\n"+strings.Repeat("  jump 199\n", many)+smallText+"func 1 1\n"+strings.Repeat("  jump 199\n", many))
	}
}

// fourOfEach are objects of which four of each kind stand together: mutexes from 0 on, rws from 4 on, sems from 8 on, pools from 12 on.
func fourOfEach() []api.Decl {
	var l []api.Decl
	for _, d := range []api.Decl{{Kind: api.Mutex}, {Kind: api.Rw}, {Kind: api.Sem, B: 1000}, {Kind: api.Pool, A: 1000}} {
		l = append(l, d, d, d, d)
	}
	return l
}

const fourOfEachText = "object mutex\nobject mutex\nobject mutex\nobject mutex\nobject rw\nobject rw\nobject rw\nobject rw\n" +
	"object sem 0 1000\nobject sem 0 1000\nobject sem 0 1000\nobject sem 0 1000\nobject pool 1000\nobject pool 1000\nobject pool 1000\nobject pool 1000\n"

func TestTextOfWaits(t *testing.T) {
	for text, w := range map[string][][]api.Need{
		"lock 0":       {{{Kind: api.Lock, Obj: 0}}},
		"lock 3":       {{{Kind: api.Lock, Obj: 3}}},
		"read 4":       {{{Kind: api.Read, Obj: 4}}},
		"write 7":      {{{Kind: api.Write, Obj: 7}}},
		"down 8:1":     {{{Kind: api.Down, Obj: 8, N: 1}}},
		"down 11:1000": {{{Kind: api.Down, Obj: 11, N: 1000}}},
		"take 12:1":    {{{Kind: api.Take, Obj: 12, N: 1}}},
		"take 15:1000": {{{Kind: api.Take, Obj: 15, N: 1000}}},

		"lock 0 + lock 1":                            {{{Kind: api.Lock, Obj: 0}, {Kind: api.Lock, Obj: 1}}},
		"take 15:10 + lock 3 + write 4 + read 7":     {{{Kind: api.Take, Obj: 15, N: 10}, {Kind: api.Lock, Obj: 3}, {Kind: api.Write, Obj: 4}, {Kind: api.Read, Obj: 7}}},
		"lock 0 | lock 0":                            {{{Kind: api.Lock, Obj: 0}}, {{Kind: api.Lock, Obj: 0}}},
		"down 8:2 | down 9:3 | down 8:2 | read 5":    {{{Kind: api.Down, Obj: 8, N: 2}}, {{Kind: api.Down, Obj: 9, N: 3}}, {{Kind: api.Down, Obj: 8, N: 2}}, {{Kind: api.Read, Obj: 5}}},
		"lock 2 + take 13:5 | down 10:7":             {{{Kind: api.Lock, Obj: 2}, {Kind: api.Take, Obj: 13, N: 5}}, {{Kind: api.Down, Obj: 10, N: 7}}},
		"read 5 | write 6 + lock 1 | lock 1":         {{{Kind: api.Read, Obj: 5}}, {{Kind: api.Write, Obj: 6}, {Kind: api.Lock, Obj: 1}}, {{Kind: api.Lock, Obj: 1}}},
		"lock 0 + lock 1 | lock 2 + lock 3 | read 4": {{{Kind: api.Lock, Obj: 0}, {Kind: api.Lock, Obj: 1}}, {{Kind: api.Lock, Obj: 2}, {Kind: api.Lock, Obj: 3}}, {{Kind: api.Read, Obj: 4}}},
	} {
		p := small()
		p.Decls, p.Waits = fourOfEach(), [][][]api.Need{w}
		texts(t, p, fourOfEachText+"wait "+text+"\n"+smallText)
		p.Waits = [][][]api.Need{{{{Kind: api.Lock}}}, w, {{{Kind: api.Read, Obj: 4}}}, w}
		texts(t, p, fourOfEachText+"wait lock 0\nwait "+text+"\nwait read 4\nwait "+text+"\n"+smallText)
	}
}

func TestTextOfTheLongestWait(t *testing.T) {
	way := []api.Need{{Kind: api.Take, Obj: 12, N: 1000}, {Kind: api.Take, Obj: 13, N: 999}, {Kind: api.Take, Obj: 14, N: 998}, {Kind: api.Take, Obj: 15, N: 997}}
	const text = "take 12:1000 + take 13:999 + take 14:998 + take 15:997"
	p := small()
	p.Decls, p.Waits = fourOfEach(), [][][]api.Need{{way, way, way, way}}
	texts(t, p, fourOfEachText+"wait "+text+" | "+text+" | "+text+" | "+text+"\n"+smallText)
}

func TestTextOfArgsAndLocals(t *testing.T) {
	for locals := range 9 {
		for args := range locals + 1 {
			p := api.Program{Funcs: []api.Func{{Args: args, Locals: locals, Code: progs.Code("ret")}}}
			texts(t, p, "func "+strconv.Itoa(args)+" "+strconv.Itoa(locals)+"\n  ret\n")
		}
	}
}

func TestTextOfEachInstruction(t *testing.T) {
	p, text := api.Program{}, ""
	for o := range api.Ops {
		f := api.Func{}
		for _, a := range someNumbers {
			for _, b := range someNumbers {
				if x := (api.Ins{Op: o, A: a, B: b}); ins.Check(x) == api.OK {
					f.Code = append(f.Code, x)
				}
			}
		}
		f.Code = f.Code[:min(len(f.Code), 200)]
		p.Funcs = append(p.Funcs, f)
		text += "func 0 0\n"
		for _, x := range f.Code {
			text += "  " + asm.Line(x) + "\n"
		}
		if len(p.Funcs) == 13 {
			texts(t, p, text)
			p, text = api.Program{}, ""
		}
	}
	if text != "" {
		t.Errorf("%q is left", text)
	}
}

// flaw is something wrong with a program, and what is told of it.
type flaw struct {
	do   func(p *api.Program)
	want api.Errno
}

// flaws are such, of great, in the order in which they are told.
func flaws() []flaw {
	lock := api.Need{Kind: api.Lock}
	return []flaw{
		{func(p *api.Program) { p.Decls = slices.Repeat([]api.Decl{{Kind: api.Mutex}}, 33) }, api.ErrLong},
		{func(p *api.Program) { p.Decls[1].Kind = 0 }, api.ErrKind},
		{func(p *api.Program) { p.Decls[2].A = 3 }, api.ErrArg},
		{func(p *api.Program) { p.Decls[3].A = 1 }, api.ErrForm},
		{func(p *api.Program) { p.Decls[5].A = 1001 }, api.ErrArg},
		{func(p *api.Program) { p.Decls[6].B = 2 }, api.ErrArg},
		{func(p *api.Program) { p.Waits = slices.Repeat(p.Waits[:1], 33) }, api.ErrLong},
		{func(p *api.Program) { p.Waits[0] = nil }, api.ErrForm},
		{func(p *api.Program) { p.Waits[0] = slices.Repeat(p.Waits[0], 5) }, api.ErrLong},
		{func(p *api.Program) { p.Waits[1][1] = nil }, api.ErrForm},
		{func(p *api.Program) { p.Waits[1][1] = slices.Repeat([]api.Need{lock}, 5) }, api.ErrLong},
		{func(p *api.Program) { p.Waits[2][0][1].Kind = 6 }, api.ErrKind},
		{func(p *api.Program) { p.Waits[2][0][1].N = 1 }, api.ErrArg},
		{func(p *api.Program) { p.Waits[2][0][1] = lock }, api.ErrForm},
		{func(p *api.Program) { p.Funcs = nil }, api.ErrForm},
		{func(p *api.Program) { p.Funcs = slices.Repeat(p.Funcs[:1], 17) }, api.ErrLong},
		{func(p *api.Program) { p.Funcs[0].Args = 4 }, api.ErrArg},
		{func(p *api.Program) { p.Funcs[0].Args = -1 }, api.ErrArg},
		{func(p *api.Program) { p.Funcs[0].Locals = 9 }, api.ErrArg},
		{func(p *api.Program) { p.Funcs[0].Code = nil }, api.ErrForm},
		{func(p *api.Program) { p.Funcs[0].Code = slices.Repeat(p.Funcs[0].Code[:1], 201) }, api.ErrLong},
		{func(p *api.Program) { p.Funcs[0].Code[0].Op = 52 }, api.ErrKind},
		{func(p *api.Program) { p.Funcs[0].Code[0].A = 1 << 31 }, api.ErrArg},
		{func(p *api.Program) { p.Funcs[0].Code[0].B = 1 }, api.ErrForm},
		{func(p *api.Program) { p.Funcs[2].Code[3].A = 1 }, api.ErrForm},
	}
}

func TestTextOfWhatMayNotBe(t *testing.T) {
	noText(t, api.Program{}, api.ErrForm)
	noText(t, api.Program{Decls: great().Decls, Waits: great().Waits}, api.ErrForm)
	l := flaws()
	for k, first := range l {
		for _, later := range l[k:] {
			p := great()
			later.do(&p)
			first.do(&p)
			noText(t, p, first.want)
		}
	}
}

// P13.3

func TestParseOfAnEmptyText(t *testing.T) { mayNotBe(t, "", api.ErrForm) }

func TestEachLineEndsWithALineFeed(t *testing.T) {
	for text, lines := range map[string]int{smallText: 3, greatText: greatLines, "object mutex\n": 1, "object mutex\nwait lock 0\n": 2, "func 0 0\n": 1} {
		stopsAt(t, strings.TrimSuffix(text, "\n"), lines)
	}
	for k := range len(greatText) {
		// What is cut off in a line is one that can't stand there; behind a line feed functions may lack.
		if k == 0 || greatText[k-1] == '\n' {
			continue
		}
		stopsAt(t, greatText[:k], 1+strings.Count(greatText[:k], "\n"))
	}
	for _, x := range []struct {
		s    string
		line int
	}{
		{"\n", 1}, {"\n\n", 1}, {"\n" + smallText, 1}, {smallText + "\n", 4}, {smallText + "\n\n", 4}, {smallText + " ", 4}, {smallText + "  ", 4}, {smallText + "  ret", 4}, {smallText + "  r", 4}, {smallText + "func 0 0", 4}, {smallText + "\x00", 4}, {smallText + "\n" + smallText, 4}, {"x", 1}, {" ", 1}, {"object", 1},
		{strings.ReplaceAll(smallText, "\n", "\r\n"), 1}, {strings.ReplaceAll(smallText, "\n", "\r"), 1}, {strings.ReplaceAll(smallText, "\n", "\n\r"), 2}, {strings.ReplaceAll(smallText, "\n", "\n\n"), 2}, {strings.ReplaceAll(smallText, "\n", "\x00"), 1}, {strings.ReplaceAll(smallText, "\n", "\v"), 1}, {strings.ReplaceAll(smallText, "\n", "\u2028"), 1}, {strings.ReplaceAll(smallText, "\n", ";"), 1},
	} {
		stopsAt(t, x.s, x.line)
	}
}

// wrongLines are lines that can stand nowhere.
var wrongLines = []string{
	"", " ", "  ", "   ", "\t", "\x00", "\xff", "x", "#", "// object mutex", "; ret", "-", "0", "0 0", "-1",
	"object", "object ", "object  ", "Object mutex", "OBJECT mutex", "objects mutex", "objec mutex", "obj mutex", "objectmutex", "object:mutex", "object\tmutex", "object  mutex", "object mutex ", " object mutex", "  object mutex", "\tobject mutex", "object mutex\r", "object mutex\x00", "object mutex\t",
	"object Mutex", "object MUTEX", "object mutexes", "object mute", "object m", "object 1", "object none", "object lock", "object semaphore", "object condition", "object barrier", "object mutex mutex", "object \xff", "object mutex object rw", "object mutex, rw", "object mutex | rw",
	"object mutex 0", "object mutex 0 0", "object rw 0", "object rw 1 2", "object cond 0", "object cond 0 0", "object bar 1", "object bar 0 0", "object pool", "object pool ", "object pool 1 0", "object pool 1 1", "object pool 1 ", "object pool  1", "object pool x", "object pool 1 x",
	"object sem", "object sem 1", "object sem 1 ", "object sem  1", "object sem 1 2 3", "object sem 1  2", "object sem 1 2 ", "object sem  1 2", "object sem x 2", "object sem 1 x", "object sem 1,2", "object sem 1:2", "object sem 1\t2", "object cell", "object cell 5", "object cell 5 0 0", "object cell 5 0 ", "object cell 5  0", "object cell -5", "object cell - 5 0",
	"wait", "wait ", "wait  ", "Wait lock 0", "WAIT lock 0", "waits lock 0", "wai lock 0", "waitlock 0", "wait\tlock 0", "wait  lock 0", " wait lock 0", "wait lock 0 ", "wait lock 0\r", "wait lock 0\x00", "waitfor lock 0", "wait 0", "  wait lock 0", "  wait lock", "  wait",
	"wait lock", "wait lock ", "wait lock  0", "wait lock 0 0", "wait lock0", "wait lock:0", "wait lock x", "wait Lock 0", "wait LOCK 0", "wait locks 0", "wait loc 0", "wait mutex 0", "wait none 0", "wait none 0:0", "wait none 0:1", "wait none", "wait \xff 0", "wait 1 0", "wait  0",
	"wait lock 0:0", "wait lock 0:1", "wait lock 0:", "wait read 0:0", "wait read 1:1", "wait write 0:0", "wait write 1:1", "wait write 1:", "wait down 0", "wait down 1", "wait down 1:", "wait down :1", "wait down 1 1", "wait down 1: 1", "wait down 1 :1", "wait down 1:1:1", "wait down 1:1:", "wait down 1::1", "wait down 1;1", "wait down 1.1", "wait down", "wait down x:1", "wait down 1:x", "wait take 0", "wait take 5", "wait take 5:", "wait take :5", "wait take 5 5", "wait take 5:5:5",
	"wait lock 0 +", "wait lock 0 + ", "wait + lock 0", "wait  + lock 0", "wait lock 0 + + read 1", "wait lock 0 +  + read 1", "wait lock 0+read 1", "wait lock 0 +read 1", "wait lock 0+ read 1", "wait lock 0  + read 1", "wait lock 0 +  read 1", "wait lock 0, read 1", "wait lock 0 read 1", "wait lock 0 & read 1", "wait lock 0\t+\tread 1", "wait lock 0 + 1", "wait lock 0 + read", "wait +", "wait  + ",
	"wait lock 0 |", "wait lock 0 | ", "wait | lock 0", "wait  | lock 0", "wait lock 0 | | read 1", "wait lock 0 |  | read 1", "wait lock 0|read 1", "wait lock 0 |read 1", "wait lock 0| read 1", "wait lock 0  | read 1", "wait lock 0 |  read 1", "wait lock 0 || read 1", "wait lock 0 or read 1", "wait lock 0 | 1", "wait |", "wait  | ", "wait lock 0 | + read 1", "wait lock 0 + | read 1", "wait lock 0 | read 1 +", "wait lock 0 + read 1 |", "wait (lock 0)",
	"func", "func ", "func 0", "func 0 ", "func  0", "func 0 0 ", "func 0  0", "func  0 0", " func 0 0", "  func 0 0", "func 0 0 0", "Func 0 0", "FUNC 0 0", "funcs 0 0", "fun 0 0", "function 0 0", "func\t0 0", "func 0\t0", "func0 0", "func 00", "func 0,0", "func 0:0", "func x 0", "func 0 x", "func 0 0\r", "func 0 0\x00", "func main", "func 0 0 ret",
	"ret", " ret", "   ret", "    ret", "\tret", "\t\tret", " \tret", "  ret ", "  ret\t", "  ret\r", "  ret\x00", "  Ret", "  RET", "  return", "  re", "  rets", "  ret 0", "  ret 0 0", "  add 1", "  add 0", "  add 1 2", "  21", "  \xff", "  none", "  nop", "  -", "  ret;", "  ret, ret", "  ret  ret", "  ret ret", "  ret # done", "  ret\tret",
	"  push", "  push ", "  push  1", "  push 1 ", "  push 1 0", "  push 1 2", "  push1", "  push\t1", "  push x", "  push 1x", "  push x1", "  push 1.0", "  push 1e3", "  push 0x1", "  push '1'", "  push \"1\"", "  push 1,", "  push (1)", "  push - 1", "  push 1_000", "  push 1-", "  push ²", "  push １", "  Push 1", "  PUSH 1", "  pu 1", "  pushes 1", "push 1", " push 1", "   push 1", "  push 1\r",
	"  load", "  load x", "  load 1 1", "  jump", "  jump x", "  jump 1 1", "  cwait", "  cwait 1", "  cwait 1 ", "  cwait  1", "  cwait 1  2", "  cwait 1 2 ", "  cwait 1 2 3", "  cwait 1,2", "  cwait 1:2", "  cwait x 2", "  cwait 1 x", "  join 1", "  join 1 1 1", "  join 1/2", "  joinfor", "  joinfor 1", "  join for 1 2", "  wait for 1", "  spawn 1 1", "  claim 0 1",
}

func TestLinesThatCanStandNowhere(t *testing.T) {
	for _, line := range wrongLines {
		stopsAt(t, line+"\n", 1)
		stopsAt(t, line+"\n"+smallText, 1)
		stopsAt(t, "func 0 0\n"+line+"\n  ret\n", 2)
		stopsAt(t, smallText+line+"\n", 4)
		for at := range greatLines {
			stopsAt(t, withLine(at+1, line+"\n"), at+1)
		}
	}
}

// withNumber are lines that have the number 7 somewhere; each other place of a number has another one.
var withNumber = []string{"object sem 7 8", "object sem 1 7", "object pool 7", "object cell 7 0", "object cell 1 7", "wait lock 7", "wait read 7", "wait write 7", "wait down 7:1", "wait down 1:7", "wait take 7:1", "wait take 1:7", "wait lock 0 + take 7:1", "wait lock 0 + take 1:7 + read 1", "wait down 1:1 | down 7:2", "wait down 1:1 | down 2:7 | lock 0", "func 7 8", "func 0 7",
	"  push 7", "  load 7", "  jump 7", "  call 7", "  wait 7", "  unlock 7", "  cwait 7 1", "  cwait 1 7", "  join 7 1", "  join 1 7"}

// notRead are numbers that are none in writing, or have more than 10 digits; oddNumbers are some that are.
var (
	notRead    = []string{"", "-", "--", "+", "00", "01", "007", "-0", "-00", "-01", "+0", "+1", "+7", "--1", "-+1", "1-", "0-", "7 ", " 7", "7\t", "7x", "x7", "0x7", "7.0", "7e0", "7_0", "-x", "٧", "７", "\xff", "7\xff", "7\x00", "12345678901", "-12345678901", "10000000000", "-10000000000", "99999999999", "00000000007", "0000000007", "2147483648000", "4294967296000", "9223372036854775807", "9223372036854775808", "-9223372036854775808", "-9223372036854775809", "18446744073709551615", "18446744073709551616", "18446744073709551623", "340282366920938463463374607431768211463", "00000000000000000000007", strings.Repeat("7", 1000), strings.Repeat("0", 1000), "-" + strings.Repeat("9", 300)}
	oddNumbers = []string{"0", "1", "9", "10", "-1", "-9", "-10", "99", "-99", "1000", "1001", "999999999", "-999999999", "1000000000", "-1000000000", "1234567890", "-1234567890", "2147483647", "2147483648", "-2147483648", "-2147483649", "4294967295", "4294967296", "4294967303", "-4294967289", "9999999999", "-9999999999"}
)

// around is a text in which a line may stand, which is its third one.
func around(line string) string {
	switch line[0] {
	case 'o':
		return "object mutex\nobject bar\n" + line + "\nfunc 0 0\n  ret\n"
	case 'w':
		return "object mutex\nwait lock 0\n" + line + "\nfunc 0 0\n  ret\n"
	}
	return "func 0 0\n  ret\n" + line + "\n  ret\n"
}

func TestNumbersThatAreNone(t *testing.T) {
	for _, line := range withNumber {
		for _, n := range notRead {
			stopsAt(t, around(strings.Replace(line, "7", n, 1)), 3)
		}
	}
}

func TestNumbersOfAtMostTenDigitsMayStandInLines(t *testing.T) {
	met := map[api.Errno]int{}
	for _, line := range withNumber {
		for _, n := range oddNumbers {
			s := around(strings.Replace(line, "7", n, 1))
			p, at, e := reading(s)
			if at != 0 {
				t.Errorf("of %q the tests' own reading is that line %d can't stand", s, at)
			}
			parses(t, s, p, at, e)
			met[e]++
		}
	}
	if met[api.OK] < 50 || met[api.ErrArg] < 300 {
		t.Errorf("too few of a kind: %v", met)
	}
}

func TestWhichNumberIsRead(t *testing.T) {
	for text, want := range map[string]api.Ins{
		"push 0": {}, "push 1": {A: 1}, "push -1": {A: -1}, "push 10": {A: 10}, "push 999999999": {A: 999999999}, "push 1000000000": {A: 1000000000}, "push -1000000000": {A: -1000000000}, "push 2147483647": {A: 1<<31 - 1}, "push -2147483648": {A: -1 << 31},
		"jump 199": {Op: api.OpJump, A: 199}, "cwait 3 4": {Op: api.OpCwait, A: 3, B: 4}, "cwaitfor 31 0": {Op: api.OpCwaitFor, A: 31}, "join 2 3": {Op: api.OpJoin, A: 2, B: 3}, "joinfor 1 4": {Op: api.OpJoinFor, A: 1, B: 4}, "mend 31": {Op: api.OpMend, A: 31},
	} {
		p := api.Program{Funcs: []api.Func{{Args: 2, Locals: 3, Code: []api.Ins{want}}}}
		parses(t, "func 2 3\n  "+text+"\n", p, 0, api.OK)
	}
}

func TestEachLineHasItsPlace(t *testing.T) {
	const object, wait, fn, ret = "object mutex\n", "wait lock 0\n", "func 0 0\n", "  ret\n"
	for _, x := range []struct {
		s    string
		line int
	}{
		{wait + object + fn + ret, 2}, {object + wait + object + fn + ret, 3}, {object + wait + wait + object, 4}, {fn + object, 2}, {fn + ret + object, 3}, {object + wait + fn + ret + object, 5}, {object + fn + ret + object + fn + ret, 4}, {object + fn + ret + fn + ret + object, 6},
		{fn + wait, 2}, {object + fn + wait + ret, 3}, {object + fn + ret + wait, 4}, {object + wait + fn + ret + wait + fn + ret, 5}, {object + fn + ret + fn + wait, 5},
		{ret, 1}, {ret + fn, 1}, {ret + fn + ret, 1}, {object + ret, 2}, {object + ret + fn + ret, 2}, {object + wait + ret, 3}, {object + wait + ret + fn + ret, 3}, {object + ret + wait, 2},
		{wait + ret + object, 2}, {wait + object + ret, 2}, {fn + object + wait, 2}, {fn + ret + wait + object, 3}, {ret + ret + ret, 1},
	} {
		stopsAt(t, x.s, x.line)
	}
	// Where nothing of a part is there, the next one may begin; what lacks then is told of the whole.
	mayNotBe(t, object, api.ErrForm)
	mayNotBe(t, object+wait, api.ErrForm)
	mayNotBe(t, wait, api.ErrArg)
	mayNotBe(t, wait+fn+ret, api.ErrArg)
	mayNotBe(t, fn, api.ErrForm)
	mayNotBe(t, fn+fn+ret, api.ErrForm)
	mayNotBe(t, fn+ret+fn, api.ErrForm)
	mayNotBe(t, fn+fn+fn, api.ErrForm)
	one := api.Func{Code: progs.Code("ret")}
	parses(t, fn+ret, api.Program{Funcs: []api.Func{one}}, 0, api.OK)
	parses(t, object+fn+ret, api.Program{Decls: great().Decls[:1], Funcs: []api.Func{one}}, 0, api.OK)
	parses(t, object+wait+fn+ret+fn+ret, api.Program{Decls: great().Decls[:1], Waits: great().Waits[:1], Funcs: []api.Func{one, one}}, 0, api.OK)
}

// nowhere are lines that can't stand in the place of one of great.
func nowhere(at int) []string {
	l := []string{"\n", "x\n", "  \n", "object mutex \n", "  ret 1\n"}
	switch ahead := strings.Join(strings.SplitAfter(greatText, "\n")[:at-1], ""); {
	case strings.Contains(ahead, "func"):
		return append(l, "object mutex\n", "wait lock 0\n")
	case strings.Contains(ahead, "wait"):
		return append(l, "object mutex\n", "  ret\n")
	}
	return append(l, "  ret\n")
}

func TestTheFirstWrongLineIsTold(t *testing.T) {
	lines := strings.SplitAfter(greatText, "\n")
	for first := 1; first <= greatLines; first++ {
		for later := first; later <= greatLines; later++ {
			for _, a := range nowhere(first) {
				for _, b := range nowhere(later) {
					l := slices.Clone(lines)
					l[later-1] = b
					l[first-1] = a
					stopsAt(t, strings.Join(l, ""), first)
				}
			}
		}
	}
	for _, line := range wrongLines {
		stopsAt(t, smallText+line+"\n"+line+"\n", 4)
		stopsAt(t, strings.Repeat(smallText, 300)+line+"\n"+strings.Repeat(smallText, 300), 901)
	}
}

// notToBe are texts of which each line may stand, but the program may not be, and why.
var notToBe = map[string]api.Errno{
	"": api.ErrForm, "object mutex\n": api.ErrForm, "object mutex\nwait lock 0\n": api.ErrForm, "func 0 0\n": api.ErrForm, "func 0 0\n  ret\nfunc 0 0\n": api.ErrForm, "func 0 0\nfunc 0 0\n  ret\n": api.ErrForm,

	"object sem 0 0\n" + smallText: api.ErrArg, "object sem 2 1\n" + smallText: api.ErrArg, "object sem -1 1\n" + smallText: api.ErrArg, "object sem 0 1001\n" + smallText: api.ErrArg, "object sem -1 -1\n" + smallText: api.ErrArg, "object pool 0\n" + smallText: api.ErrArg, "object pool -1\n" + smallText: api.ErrArg, "object pool 1001\n" + smallText: api.ErrArg, "object pool 9999999999\n" + smallText: api.ErrArg,
	"object cell 0 0\n" + smallText: api.ErrArg, "object mutex\nobject cell 2147483648 0\n" + smallText: api.ErrArg, "object mutex\nobject cell -2147483649 0\n" + smallText: api.ErrArg, "object mutex\nobject cell 0 1\n" + smallText: api.ErrArg, "object mutex\nobject cell 0 2\n" + smallText: api.ErrArg, "object mutex\nobject cell 0 -1\n" + smallText: api.ErrArg, "object bar\nobject cell 0 0\n" + smallText: api.ErrArg,

	"wait lock 0\n" + smallText: api.ErrArg, "object rw\nwait lock 0\n" + smallText: api.ErrArg, "object mutex\nwait lock 1\n" + smallText: api.ErrArg, "object mutex\nwait lock -1\n" + smallText: api.ErrArg, "object mutex\nwait read 0\n" + smallText: api.ErrArg, "object mutex\nwait write 0\n" + smallText: api.ErrArg, "object mutex\nwait down 0:1\n" + smallText: api.ErrArg, "object mutex\nwait take 0:1\n" + smallText: api.ErrArg,
	"object sem 0 3\nwait down 0:0\n" + smallText: api.ErrArg, "object sem 0 3\nwait down 0:4\n" + smallText: api.ErrArg, "object sem 0 3\nwait down 0:-1\n" + smallText: api.ErrArg, "object pool 3\nwait take 0:0\n" + smallText: api.ErrArg, "object pool 3\nwait take 0:4\n" + smallText: api.ErrArg, "object pool 3\nwait take 0:-3\n" + smallText: api.ErrArg,
	"object mutex\nwait lock 0 + lock 0\n" + smallText: api.ErrForm, "object mutex\nobject sem 0 1\nwait lock 0 + down 1:1\n" + smallText: api.ErrForm, "object mutex\nwait lock 0 | lock 0 | lock 0 | lock 0 | lock 0\n" + smallText: api.ErrLong, "object mutex\nwait lock 0 + lock 0 + lock 0 + lock 0 + lock 0\n" + smallText: api.ErrLong, "object mutex\nwait lock 0 | lock 1\n" + smallText: api.ErrArg,

	"func -1 0\n  ret\n": api.ErrArg, "func 1 0\n  ret\n": api.ErrArg, "func 0 9\n  ret\n": api.ErrArg, "func 9 9\n  ret\n": api.ErrArg, "func 0 -1\n  ret\n": api.ErrArg, "func 0 9999999999\n  ret\n": api.ErrArg, "func -9999999999 0\n  ret\n": api.ErrArg,
	"func 0 0\n  push 2147483648\n": api.ErrArg, "func 0 0\n  push -2147483649\n": api.ErrArg, "func 0 0\n  load 8\n": api.ErrArg, "func 0 0\n  store -1\n": api.ErrArg, "func 0 0\n  jump 200\n": api.ErrArg, "func 0 0\n  zero -1\n": api.ErrArg, "func 0 0\n  call 16\n": api.ErrArg, "func 0 0\n  wait 32\n": api.ErrArg, "func 0 0\n  unlock 32\n": api.ErrArg, "func 0 0\n  cwait 0 32\n": api.ErrArg, "func 0 0\n  cwait 32 0\n": api.ErrArg,
	"func 0 0\n  join 2 1\n": api.ErrArg, "func 0 0\n  join 0 1\n": api.ErrArg, "func 0 0\n  join 5 5\n": api.ErrArg, "func 0 0\n  joinfor 1 0\n": api.ErrArg, "func 0 0\n  joinfor 1 5\n": api.ErrArg,

	strings.Repeat("object mutex\n", 33) + smallText: api.ErrLong, strings.Repeat("object pool 0\n", 33) + smallText: api.ErrLong, "object mutex\n" + strings.Repeat("wait lock 0\n", 33) + smallText: api.ErrLong, strings.Repeat("wait lock 0\n", 33) + smallText: api.ErrLong, strings.Repeat(smallText, 17): api.ErrLong, strings.Repeat("func 0 9\n", 17): api.ErrLong,
	"func 0 0\n" + strings.Repeat("  ret\n", 201): api.ErrLong, "func 0 0\n" + strings.Repeat("  load 9\n", 201): api.ErrLong, "func 0 9\n" + strings.Repeat("  ret\n", 201): api.ErrArg, smallText + "func 0 0\n" + strings.Repeat("  ret\n", 201): api.ErrLong,
}

func TestOfWhatMayNotBeTheChecksErrorIsTold(t *testing.T) {
	for s, e := range notToBe {
		mayNotBe(t, s, e)
	}
}

func TestWhatTheCheckTellsFirst(t *testing.T) {
	for s, e := range map[string]api.Errno{
		"object pool 0\nobject sem 0 0\nwait lock 0\nfunc 9 9\n":                                 api.ErrArg,
		"object pool 1\nwait take 0:1 + take 0:1\nwait lock 0\n":                                 api.ErrForm,
		"object pool 1\nwait lock 0\nwait take 0:1 + take 0:1\n":                                 api.ErrArg,
		strings.Repeat("object mutex\n", 33) + "wait lock 99\nfunc 9 9\n":                        api.ErrLong,
		"object mutex\n" + strings.Repeat("wait lock 0 + lock 0\n", 33) + "func 9 9\n":           api.ErrLong,
		"object mutex\nwait lock 0 + lock 0\n" + strings.Repeat("func 9 9\n", 17):                api.ErrForm,
		strings.Repeat("func 9 9\n", 17):                                                         api.ErrLong,
		"func 9 9\nfunc 0 0\n":                                                                   api.ErrArg,
		"func 0 0\nfunc 9 9\n":                                                                   api.ErrForm,
		"func 0 0\n  load 8\nfunc 0 0\n":                                                         api.ErrArg,
		"func 0 0\nfunc 0 0\n  load 8\n":                                                         api.ErrForm,
		"func 0 0\n" + strings.Repeat("  ret\n", 200) + "  load 8\nfunc 9 9\n":                   api.ErrLong,
		"object sem 0 0\n" + strings.Repeat("wait lock 0\n", 33) + strings.Repeat(smallText, 17): api.ErrArg,
	} {
		mayNotBe(t, s, e)
	}
}

func TestAWrongLineIsToldAheadOfWhatTheCheckTells(t *testing.T) {
	for s := range notToBe {
		at := 1 + strings.Count(s, "\n")
		for _, line := range []string{"", "  ", "x", "ret", "object", "  ret 1", "func 0"} {
			stopsAt(t, s+line+"\n", at)
			stopsAt(t, line+"\n"+s, 1)
		}
		if s != "" {
			stopsAt(t, s[:len(s)-1], at-1)
		}
	}
	stopsAt(t, strings.Repeat("object mutex\n", 40)+"object\n", 41)
	stopsAt(t, strings.Repeat("func 9 9\n", 40)+"func\n", 41)
	stopsAt(t, "func 0 0\n"+strings.Repeat("  ret\n", 400)+"wait lock 0\n", 402)
}

// long is a program whose text has so many bytes: it has as many instructions as there may be, of which some are short.
func long(t *testing.T, bytes int) (api.Program, string) {
	t.Helper()
	p := api.Program{Funcs: slices.Repeat([]api.Func{{}}, 16)}
	for k := range p.Funcs {
		p.Funcs[k].Code = slices.Repeat([]api.Ins{{Op: api.OpPush, A: -1 << 31}}, 200)
	}
	over := len(written(p)) - bytes
	for k := 0; over > 0; k++ {
		x, less := api.Ins{Op: api.OpRet}, 13
		if over < less {
			x, less = api.Ins{Op: api.OpPush, A: -1}, min(over, 9)
			x.A = []int{1: -214748364, 2: -21474836, 3: -2147483, 4: -214748, 5: -21474, 6: -2147, 7: -214, 8: -21, 9: -2}[less]
		}
		p.Funcs[k%16].Code[k/16] = x
		over -= less
	}
	s := written(p)
	if len(s) != bytes {
		t.Fatalf("%d bytes, not %d", len(s), bytes)
	}
	return p, s
}

func TestTheLongestText(t *testing.T) {
	for _, bytes := range []int{59998, 59999, 60000} {
		p, s := long(t, bytes)
		texts(t, p, s)
		stopsAt(t, s[:bytes-1], strings.Count(s, "\n"))
		stopsAt(t, "\n"+s[1:], 1)
	}
	for _, bytes := range []int{60001, 60002, 60500} {
		p, s := long(t, bytes)
		mayNotBe(t, s, api.ErrLong)
		// It is written all the same.
		if got, e := asm.Text(p); got != s || e != api.OK {
			t.Errorf("text of %d bytes: %d, %v", bytes, len(got), e)
		}
	}
}

func TestHowLongATextMayBeIsToldAheadOfAllElse(t *testing.T) {
	for _, s := range []string{"\n", "x", " ", "\x00", "\xff", "  ret\n", "func 0 0\n", "object mutex\n", "object pool 0\n", smallText, greatText, "wait lock 0\n", "7", "-", "wait lock 0 + ", "  push 1"} {
		many := strings.Repeat(s, 60001/len(s)+1)
		for _, most := range []int{60001, 60002, 65536, 1 << 17} {
			for len(many) < most {
				many += many
			}
			mayNotBe(t, many[:most], api.ErrLong)
		}
		for _, most := range []int{59999, 60000} {
			p, at, e := reading(many[:most])
			parses(t, many[:most], p, at, e)
			if e == api.OK || at == 0 && most%len(s) > 0 {
				t.Errorf("%d bytes of %q: %d, %v", most, s, at, e)
			}
		}
	}
	mayNotBe(t, strings.Repeat("object mutex\n", 4600), api.ErrLong)
	mayNotBe(t, "func 0 0\n"+strings.Repeat("  ret\n", 9998), api.ErrLong)
	mayNotBe(t, strings.Repeat("func 0 0\n", 6666), api.ErrLong)
	mayNotBe(t, "object mutex\nwait "+strings.Repeat("lock 0 + ", 6000)+"lock 0\n"+smallText, api.ErrLong)
	mayNotBe(t, "object mutex\nwait "+strings.Repeat("lock 0 | ", 6000)+"lock 0\n"+smallText, api.ErrLong)
	stopsAt(t, "object mutex\nwait "+strings.Repeat("lock 0 | ", 6000)+"lock 00\n"+smallText, 2)
}

// byReading fails, if Parse tells anything but what the tests' own reading tells, or if what is read is written as another text. It tells what was wrong, and where.
func byReading(t *testing.T, s string) (int, api.Errno) {
	p, at, e := asm.Parse(s)
	if want, line, err := reading(s); !progs.Equal(p, want) || at != line || e != err {
		t.Fatalf("%q: %v, %d, %v, not %v, %d, %v", s, p, at, e, want, line, err)
	}
	if e == api.OK {
		if got, f := asm.Text(p); got != s || f != api.OK {
			t.Fatalf("text of %v: %q, %v, not %q", p, got, f, s)
		}
	}
	return at, e
}

// dense is a text of few bytes that has a line of each form.
const dense = "object rw\nobject sem 1 9\nobject pool 1\nobject cell -1 0\nwait read 0 + take 2:1 | down 1:7\nfunc 1 2\n  push -10\n  join 1 2\n  jump 0\n  ret\n"

func TestEachByteTurnedPutInOrLeftOut(t *testing.T) {
	if _, e := byReading(t, dense); e != api.OK {
		t.Fatal(e)
	}
	for k := range len(dense) + 1 {
		t.Run("", func(t *testing.T) {
			t.Parallel()
			for b := range 256 {
				byReading(t, dense[:k]+string([]byte{byte(b)})+dense[k:])
				if k < len(dense) {
					byReading(t, dense[:k]+string([]byte{byte(b)})+dense[k+1:])
				}
			}
			if k < len(dense) {
				byReading(t, dense[:k]+dense[k+1:])
				byReading(t, dense[:k]+dense[k:k+1]+dense[k:])
			}
			byReading(t, dense[:k])
			byReading(t, dense[k:])
		})
	}
}

func TestAllShortTexts(t *testing.T) {
	for a := range 256 {
		for b := range 256 {
			for _, s := range []string{string([]byte{byte(a)}), string([]byte{byte(a), byte(b)}), string([]byte{byte(a), byte(b), '\n'})} {
				byReading(t, s)
				byReading(t, "func 0 0\n  ret\n"+s)
				byReading(t, "func 0 0\n  ret"+s)
				byReading(t, "func 0 0\n  push 1"+s)
			}
		}
	}
}

// each calls something with all rows of up to so many of these texts.
func each(l []string, many int, do func(s string)) {
	do("")
	rows := []string{""}
	for range many {
		var longer []string
		for _, s := range rows {
			for _, x := range l {
				do(s + x)
				longer = append(longer, s+x)
			}
		}
		rows = longer
	}
}

func TestAllRowsOfFewWords(t *testing.T) {
	for _, x := range []struct {
		head, tail string
		from       []string
		many       int
	}{
		{"", "", []string{"object", "wait", "func", " ", "  ", "\n", "mutex", "lock", "0", "1", "ret"}, 5},
		{"object", "\n" + smallText, []string{" ", "sem", "cell", "pool", "rw", "0", "1", "-", "\n", "object"}, 5},
		{"object mutex\nobject sem 0 3\nobject pool 3\nwait", "\n" + smallText, []string{" ", "lock", "down", "take", "+", "|", ":", "0", "1", "2"}, 5},
		{"object mutex\nobject sem 0 3\nobject pool 3\nwait ", "\n" + smallText, []string{"lock 0", "down 1:3", "take 2:1", " + ", " | ", " ", "+", "|", "\n", "read 0"}, 5},
		{"func 0 0\n", "\n", []string{"  ", " ", "ret", "push", "join", "1", "-1", "0", "\n", "func"}, 5},
		{"func 0 0\n  push ", "\n", []string{"0", "1", "9", "-", "+", " ", "\n"}, 5},
		{"func ", "\n  ret\n", []string{"0", "1", "9", "-", " ", "\n", "x"}, 5},
	} {
		t.Run("", func(t *testing.T) {
			t.Parallel()
			good := 0
			each(x.from, x.many, func(s string) {
				if _, e := byReading(t, x.head+s+x.tail); e == api.OK {
					good++
				}
			})
			if good == 0 && x.tail != "" {
				t.Errorf("none behind %q may be", x.head)
			}
		})
	}
}

// P13.4

func TestWhatIsWrittenIsRead(t *testing.T) {
	r := draws.Row(13)
	for range 3000 {
		p := progs.Drawn(&r)
		s := written(p)
		if len(s) > 60000 {
			mayNotBe(t, s, api.ErrLong)
			continue
		}
		texts(t, p, s)
	}
}

// pieces are what may be put into texts.
var pieces = append([]string{" ", "  ", "\n", "-", "+", "0", "1", "00", "-0", "\r", "\t", " + ", " | ", ":", "mutex", "lock ", "object ", "wait ", "func ", "func 0 0\n", "  ret\n", "object mutex\n", "wait lock 0\n", "ret", "push", "x", "\xff", "\x00"}, oddNumbers...)

// marred is a text of which some became other ones: bytes, lines, or numbers.
func marred(r *draws.Row, s string) string {
	below := func(n int) int { return int(r.Next() % uint64(n)) }
	for range 1 + below(3) {
		at := below(len(s) + 1)
		lines := strings.SplitAfter(s, "\n")
		one, other := below(len(lines)), below(len(lines))
		switch below(9) {
		case 0:
			s = s[:at] + string([]byte{byte(r.Next())}) + s[min(at+1, len(s)):]
		case 1:
			s = s[:at] + string([]byte{byte(r.Next())}) + s[at:]
		case 2:
			s = s[:at] + s[min(at+1, len(s)):]
		case 3:
			s = s[:at] + pieces[below(len(pieces))] + s[at:]
		case 4:
			lines[one], lines[other] = lines[other], lines[one]
			s = strings.Join(lines, "")
		case 5:
			s = strings.Join(slices.Insert(lines, one, slices.Repeat(lines[other:other+1], 1+below(40)>>below(6))...), "")
		case 6:
			s = strings.Join(slices.Delete(lines, one, one+1), "")
		case 7, 8:
			words := strings.Fields(lines[one])
			if len(words) > 1 {
				to := pieces[below(len(pieces))]
				lines[one] = strings.Replace(lines[one], words[len(words)-1], to, 1)
				s = strings.Join(lines, "")
			}
		}
	}
	if below(32) == 0 {
		s = s[:below(len(s)+1)]
	}
	return s
}

func TestWhatIsReadIsWrittenAsTheSameText(t *testing.T) {
	met, lines := map[api.Errno]int{}, 0
	r := draws.Row(131)
	for range 2000 {
		s := written(progs.Drawn(&r))
		for range 8 {
			at, e := byReading(t, marred(&r, s))
			if at > 0 {
				lines++
			} else {
				met[e]++
			}
		}
	}
	if lines < 1000 || met[api.OK] < 500 || met[api.ErrArg] < 500 || met[api.ErrForm] < 30 || met[api.ErrLong] < 30 {
		t.Errorf("too few of a kind: %d, %v", lines, met)
	}
}

func TestDrawnTexts(t *testing.T) {
	met := map[api.Errno]int{}
	r := draws.Row(133)
	lines := strings.SplitAfter(greatText+dense, "\n")
	for range 100000 {
		s := ""
		for range r.Next() % 6 {
			s += lines[r.Next()%uint64(len(lines))]
		}
		_, e := byReading(t, s+"func 0 0\n  ret\n")
		met[e]++
	}
	if met[api.OK] < 100 || met[api.ErrForm] < 100 || met[api.ErrArg] < 100 {
		t.Errorf("too few of a kind: %v", met)
	}
}

func TestDrawnBytes(t *testing.T) {
	r := draws.Row(132)
	for range 20000 {
		b := make([]byte, r.Next()%200)
		for k := range b {
			b[k] = byte(r.Next())
		}
		byReading(t, string(b))
		for k := range b {
			b[k] = "\n\n    0123456789-+|:abcdefghijklmnopqrstuvwxyz"[int(b[k])%46]
		}
		byReading(t, string(b))
		byReading(t, dense+string(b))
	}
}

// Memory, and the same answer each time

func TestWhatIsReadIsMemoryOfItsOwn(t *testing.T) {
	much := great()
	much.Waits = slices.Repeat(much.Waits, 8)
	much.Funcs = slices.Repeat(much.Funcs, 5)
	_, longest := long(t, 60000)
	for _, s := range []string{smallText, greatText, dense, written(much), longest} {
		one, _, _ := asm.Parse(s)
		two, _, _ := asm.Parse(s)
		if !progs.Apart(one, two) {
			t.Errorf("two lists of what is read of %.300q lie in one memory", s)
		}
		want, _, _ := reading(s)
		for k := range one.Waits {
			clear(one.Waits[k])
		}
		for k := range one.Funcs {
			clear(one.Funcs[k].Code)
		}
		clear(one.Decls)
		clear(one.Waits)
		clear(one.Funcs)
		if !progs.Equal(two, want) {
			t.Errorf("two programs are one: %v", two)
		}
		parses(t, s, want, 0, api.OK)
	}
}

func TestNothingIsLeftOfWhatIsRefused(t *testing.T) {
	for _, s := range []string{greatText + "x", greatText + "object mutex\n", "object mutex\nwait lock 0\n", greatText + "func 9 9\n", strings.Repeat(greatText, 200)} {
		p, at, e := asm.Parse(s)
		if e == api.OK || len(p.Decls)+len(p.Waits)+len(p.Funcs) != 0 {
			t.Errorf("%.300q: %v, %d, %v", s, p, at, e)
		}
	}
}

func TestTheSameIsAnsweredEachTime(t *testing.T) {
	for range 3 {
		texts(t, great(), greatText)
		noText(t, api.Program{}, api.ErrForm)
		stopsAt(t, greatText+"\n", greatLines+1)
		mayNotBe(t, "func 0 9\n  ret\n", api.ErrArg)
		lines(t, api.Ins{Op: api.OpJoin, A: 1, B: 2}, "join 1 2")
		lines(t, api.Ins{Op: api.OpJoin, A: 2, B: 1}, "")
		texts(t, small(), smallText)
	}
}
