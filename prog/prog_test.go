package prog_test

import (
	"encoding/binary"
	"math"
	"slices"
	"strings"
	"testing"

	"logjam/api"
	"logjam/decl"
	"logjam/ins"
	"logjam/internal/draws"
	"logjam/internal/progs"
	"logjam/need"
	"logjam/op"
	"logjam/prog"
)

const head = "\x4c\x4a\x01"
const nine = "\xff\xff\xff\xff\xff\xff\xff\xff\xff"

// push and ret are instructions that may be.
var (
	push = api.Ins{Op: api.OpPush, A: 1}
	ret  = api.Ins{Op: api.OpRet}
)

// small is the least of programs that do something.
func small() api.Program {
	return api.Program{Funcs: []api.Func{{Code: []api.Ins{push, ret}}}}
}

const smallBytes = head + "\x00\x00\x01\x00\x00\x02\x00\x02\x15"

// objects are objects that may be, one of each kind.
func objects() []api.Decl {
	return []api.Decl{{Kind: api.Mutex}, {Kind: api.Rw}, {Kind: api.Sem, A: 1, B: 2}, {Kind: api.Cond}, {Kind: api.Bar}, {Kind: api.Pool, A: 300}, {Kind: api.Cell, A: -5, B: 1}}
}

const objectsBytes = "\x07\x01\x02\x03\x01\x02\x04\x05\x06\xac\x02\x07\x09\x01"

// lockWait, andWait and orWait are waits that may be with these objects.
func lockWait() [][]api.Need { return [][]api.Need{{{Kind: api.Lock, Obj: 0}}} }

func andWait() [][]api.Need {
	return [][]api.Need{{{Kind: api.Write, Obj: 1}, {Kind: api.Take, Obj: 5, N: 200}}}
}

func orWait() [][]api.Need {
	return [][]api.Need{{{Kind: api.Lock, Obj: 0}, {Kind: api.Read, Obj: 1}}, {{Kind: api.Down, Obj: 2, N: 2}}}
}

const (
	lockBytes = "\x01\x01\x01\x00"
	andBytes  = "\x01\x02\x03\x01\x05\x05\xc8\x01"
	orBytes   = "\x02\x02\x01\x00\x02\x01\x01\x04\x02\x02"
)

// great is a program that has several of each part.
func great() api.Program {
	return api.Program{
		Decls: objects(),
		Waits: [][][]api.Need{lockWait(), andWait(), orWait()},
		Funcs: []api.Func{
			{Locals: 3, Code: []api.Ins{{Op: api.OpPush, A: -300}, {Op: api.OpWait, A: 2}, ret}},
			{Args: 2, Locals: 2, Code: []api.Ins{ret}},
			{Args: 1, Locals: 8, Code: []api.Ins{{Op: api.OpJoin, A: 1, B: 3}, {Op: api.OpJump, A: 199}, {Op: api.OpCwait, A: 3, B: 0}, {Op: api.OpAdd}}},
		},
	}
}

const greatBytes = head + objectsBytes + "\x03" + lockBytes + andBytes + orBytes + "\x03" +
	"\x00\x03\x03" + "\x00\xd7\x04" + "\x1a\x02" + "\x15" +
	"\x02\x02\x01" + "\x15" +
	"\x01\x08\x04" + "\x29\x01\x03" + "\x12\xc7\x01" + "\x20\x03\x00" + "\x03"

// wrong is what is wrong with a program, as the chapter says it.
func wrong(p api.Program) api.Errno {
	if _, e := decl.Check(p.Decls); e != api.OK {
		return e
	}
	if len(p.Waits) > 32 {
		return api.ErrLong
	}
	for _, w := range p.Waits {
		if e := need.Check(p.Decls, w); e != api.OK {
			return e
		}
	}
	switch {
	case len(p.Funcs) == 0:
		return api.ErrForm
	case len(p.Funcs) > 16:
		return api.ErrLong
	}
	for _, f := range p.Funcs {
		if e := wrongFunc(f); e != api.OK {
			return e
		}
	}
	return api.OK
}

// wrongFunc is what is wrong with one function.
func wrongFunc(f api.Func) api.Errno {
	switch {
	case f.Args < 0, f.Args > f.Locals, f.Locals > 8:
		return api.ErrArg
	case len(f.Code) == 0:
		return api.ErrForm
	case len(f.Code) > 200:
		return api.ErrLong
	}
	for _, x := range f.Code {
		if e := ins.Check(x); e != api.OK {
			return e
		}
	}
	return api.OK
}

// written is the bytes of a program that may be, its own numbers by the library.
func written(p api.Program) string {
	num := func(n int) string { return string(binary.AppendUvarint(nil, uint64(n))) }
	s, _ := decl.Put(p.Decls)
	s = "LJ\x01" + s + num(len(p.Waits))
	for _, w := range p.Waits {
		b, _ := need.Put(p.Decls, w)
		s += b
	}
	s += num(len(p.Funcs))
	for _, f := range p.Funcs {
		s += num(f.Args) + num(f.Locals) + num(len(f.Code))
		for _, x := range f.Code {
			b, _ := ins.Put(x)
			s += b
		}
	}
	return s
}

// left is bytes that are read, by the library's numbers; with an error they stay where they are.
type left struct {
	s string
	e api.Errno
}

// fail keeps the first error.
func (l *left) fail(e api.Errno) {
	if l.e == api.OK {
		l.e = e
	}
}

// skip goes on behind n bytes.
func (l *left) skip(n int, e api.Errno) {
	l.fail(e)
	if l.e == api.OK {
		l.s = l.s[n:]
	}
}

// num is a number; all that no int has room for is the same, and in no range.
func (l *left) num() int {
	n, many := binary.Uvarint([]byte(l.s[:min(len(l.s), 11)]))
	switch {
	case many < 0, many == 0 && len(l.s) > 9, many > 1 && l.s[many-1] == 0:
		l.fail(api.ErrForm)
	case many == 0:
		l.fail(api.ErrEnd)
	}
	if l.e != api.OK {
		return 0
	}
	l.s = l.s[many:]
	if n > math.MaxInt {
		return math.MaxInt
	}
	return int(n)
}

// count is a number up to most.
func (l *left) count(most int) int {
	n := l.num()
	if n > most {
		l.fail(api.ErrLong)
		return 0
	}
	return n
}

// reading is what Get should answer.
func reading(s string) (api.Program, api.Errno) {
	if len(s) < 3 || s[0] != 0x4c || s[1] != 0x4a || s[2] != 1 {
		return api.Program{}, api.ErrForm
	}
	var p api.Program
	l := &left{s: s[3:]}
	d, n, e := decl.Get(l.s)
	l.skip(n, e)
	p.Decls = d
	for many := l.count(32); many > 0 && l.e == api.OK; many-- {
		w, n, e := need.Get(d, l.s)
		l.skip(n, e)
		p.Waits = append(p.Waits, w)
	}
	for many := l.count(16); many > 0 && l.e == api.OK; many-- {
		f := api.Func{Args: l.num()}
		f.Locals = l.num()
		for code := l.count(200); code > 0 && l.e == api.OK; code-- {
			x, n, e := ins.Get(l.s)
			l.skip(n, e)
			f.Code = append(f.Code, x)
		}
		p.Funcs = append(p.Funcs, f)
	}
	if l.s != "" {
		l.fail(api.ErrForm)
	}
	l.fail(wrong(p))
	if l.e != api.OK {
		return api.Program{}, l.e
	}
	return p, api.OK
}

// kept fails, if what is done with a program changes it, or its spare room.
func kept(t *testing.T, p api.Program, do func(p api.Program)) {
	t.Helper()
	q := progs.Roomy(p)
	do(q)
	if !progs.Kept(q, p) {
		t.Errorf("%v became %v", p, q)
	}
}

// checks fails, if Check tells anything but what should be, or if Put does not tell the same, and, where nothing is wrong, the bytes.
func checks(t *testing.T, p api.Program, want api.Errno) {
	t.Helper()
	kept(t, p, func(p api.Program) {
		if e := prog.Check(p); e != want {
			t.Errorf("check of %v: %v, not %v", p, e, want)
		}
	})
	text := ""
	if want == api.OK {
		text = written(p)
	}
	kept(t, p, func(p api.Program) {
		if s, e := prog.Put(p); s != text || e != want {
			t.Errorf("put of %v: %x, %v, not %x, %v", p, s, e, text, want)
		}
	})
}

// puts fails, if a program is not put as these bytes, or is not what is got of them.
func puts(t *testing.T, p api.Program, want string) {
	t.Helper()
	kept(t, p, func(p api.Program) {
		if s, e := prog.Put(p); s != want || e != api.OK {
			t.Errorf("put of %v: %x, %v, not %x", p, s, e, want)
		}
	})
	gets(t, want, p, api.OK)
	if s := written(p); s != want {
		t.Errorf("of %v the tests' own bytes are %x, not %x", p, s, want)
	}
}

// gets fails, if Get tells anything but what should be.
func gets(t *testing.T, s string, want api.Program, err api.Errno) {
	t.Helper()
	if p, e := prog.Get(s); !progs.Equal(p, want) || e != err {
		t.Errorf("get of %x: %v, %v, not %v, %v", s, p, e, want, err)
	}
	if p, e := reading(s); !progs.Equal(p, want) || e != err {
		t.Errorf("of %x the tests' own reading is %v, %v, not %v, %v", s, p, e, want, err)
	}
}

// refused fails, if Get tells anything but an error; of what it got then nothing may be left.
func refused(t *testing.T, s string, err api.Errno) {
	t.Helper()
	gets(t, s, api.Program{}, err)
	if p, _ := prog.Get(s); len(p.Decls)+len(p.Waits)+len(p.Funcs) != 0 {
		t.Errorf("get of %x: %v", s, p)
	}
}

// P10.1

func TestTheZeroProgram(t *testing.T) {
	checks(t, api.Program{}, api.ErrForm)
	checks(t, api.Program{Decls: []api.Decl{}, Waits: [][][]api.Need{}, Funcs: []api.Func{}}, api.ErrForm)
}

func TestProgramsThatMayBe(t *testing.T) {
	checks(t, small(), api.OK)
	checks(t, great(), api.OK)
	checks(t, api.Program{Decls: []api.Decl{}, Waits: [][][]api.Need{}, Funcs: small().Funcs}, api.OK)
	checks(t, api.Program{Decls: objects(), Funcs: small().Funcs}, api.OK)
}

func TestAProgramMayBeThatIsNotFitToRun(t *testing.T) {
	// What a function may do with its stack, and what its operands name, is asked elsewhere.
	for _, x := range []api.Ins{{Op: api.OpAdd}, {Op: api.OpLoad, A: 7}, {Op: api.OpJump, A: 199}, {Op: api.OpCall, A: 15}, {Op: api.OpWait, A: 31}, {Op: api.OpUnlock, A: 31}} {
		checks(t, api.Program{Funcs: []api.Func{{Code: []api.Ins{x}}}}, api.OK)
		checks(t, api.Program{Funcs: []api.Func{{Args: 8, Locals: 8, Code: []api.Ins{x, x}}}}, api.OK)
	}
}

func TestHowManyWaitsThereMayBe(t *testing.T) {
	for many, want := range map[int]api.Errno{0: api.OK, 1: api.OK, 2: api.OK, 31: api.OK, 32: api.OK, 33: api.ErrLong, 34: api.ErrLong, 64: api.ErrLong, 256: api.ErrLong, 257: api.ErrLong, 1<<16 + 1: api.ErrLong} {
		p := small()
		p.Decls = objects()
		p.Waits = slices.Repeat([][][]api.Need{orWait()}, many)
		checks(t, p, want)
		p.Waits = make([][][]api.Need, many)
		if many > 0 && many < 33 {
			want = api.ErrForm
		}
		checks(t, p, want)
	}
	for _, l := range [][][][]api.Need{nil, {}} {
		p := great()
		p.Waits = l
		if e := prog.Check(p); e != api.OK {
			t.Errorf("check without waits: %v", e)
		}
		if s, e := prog.Put(p); s != written(p) || e != api.OK {
			t.Errorf("put without waits: %x, %v", s, e)
		}
	}
}

func TestHowManyFunctionsThereMayBe(t *testing.T) {
	for many, want := range map[int]api.Errno{0: api.ErrForm, 1: api.OK, 2: api.OK, 15: api.OK, 16: api.OK, 17: api.ErrLong, 18: api.ErrLong, 32: api.ErrLong, 256: api.ErrLong, 257: api.ErrLong, 1<<16 + 1: api.ErrLong} {
		p := great()
		p.Funcs = slices.Repeat(small().Funcs, many)
		checks(t, p, want)
		p.Funcs = make([]api.Func, many)
		if many > 0 && many < 17 {
			want = api.ErrForm
		}
		checks(t, p, want)
	}
	for _, l := range [][]api.Func{nil, {}} {
		for _, p := range []api.Program{small(), great()} {
			p.Funcs = l
			if e := prog.Check(p); e != api.ErrForm {
				t.Errorf("check without functions: %v", e)
			}
			if s, e := prog.Put(p); s != "" || e != api.ErrForm {
				t.Errorf("put without functions: %x, %v", s, e)
			}
		}
	}
}

// eachFunc calls something with programs in which one function is another one, wherever it stands.
func eachFunc(f api.Func, do func(p api.Program)) {
	do(api.Program{Funcs: []api.Func{f}})
	for k := range great().Funcs {
		p := great()
		p.Funcs[k] = f
		do(p)
	}
	p := great()
	p.Funcs = append(slices.Repeat(small().Funcs, 15), f)
	do(p)
}

func TestHowManyInstructionsThereMayBe(t *testing.T) {
	for many, want := range map[int]api.Errno{0: api.ErrForm, 1: api.OK, 2: api.OK, 127: api.OK, 128: api.OK, 199: api.OK, 200: api.OK, 201: api.ErrLong, 202: api.ErrLong, 256: api.ErrLong, 257: api.ErrLong, 1<<16 + 1: api.ErrLong} {
		for _, x := range []api.Ins{push, ret, {Op: api.OpJump, A: 199}} {
			eachFunc(api.Func{Args: 1, Locals: 2, Code: slices.Repeat([]api.Ins{x}, many)}, func(p api.Program) { checks(t, p, want) })
		}
	}
	for _, l := range [][]api.Ins{nil, {}} {
		eachFunc(api.Func{Code: l}, func(p api.Program) {
			if e := prog.Check(p); e != api.ErrForm {
				t.Errorf("check without instructions: %v", e)
			}
			if s, e := prog.Put(p); s != "" || e != api.ErrForm {
				t.Errorf("put without instructions: %x, %v", s, e)
			}
		})
	}
}

func TestArgsAndLocals(t *testing.T) {
	for _, x := range []struct {
		args, locals int
		want         api.Errno
	}{
		{0, 0, api.OK}, {0, 1, api.OK}, {0, 8, api.OK}, {1, 1, api.OK}, {1, 8, api.OK}, {3, 3, api.OK}, {7, 8, api.OK}, {8, 8, api.OK},
		{-1, 0, api.ErrArg}, {-1, 8, api.ErrArg}, {-1, -1, api.ErrArg}, {0, -1, api.ErrArg}, {-2, -1, api.ErrArg}, {1, 0, api.ErrArg}, {4, 3, api.ErrArg}, {8, 7, api.ErrArg}, {9, 8, api.ErrArg},
		{0, 9, api.ErrArg}, {8, 9, api.ErrArg}, {9, 9, api.ErrArg}, {10, 9, api.ErrArg}, {0, 256, api.ErrArg}, {256, 256, api.ErrArg}, {256, 8, api.ErrArg}, {0, 1 << 32, api.ErrArg}, {1 << 32, 8, api.ErrArg}, {1 << 32, 1 << 32, api.ErrArg},
		{math.MinInt, math.MinInt, api.ErrArg}, {math.MinInt, 0, api.ErrArg}, {math.MinInt, 8, api.ErrArg}, {0, math.MinInt, api.ErrArg}, {math.MaxInt, math.MaxInt, api.ErrArg}, {math.MaxInt, 8, api.ErrArg},
		{0, math.MaxInt, api.ErrArg}, {8, math.MaxInt, api.ErrArg}, {math.MinInt, math.MaxInt, api.ErrArg}, {math.MaxInt, math.MinInt, api.ErrArg}, {-1, math.MinInt, api.ErrArg}, {-1, math.MaxInt, api.ErrArg},
	} {
		eachFunc(api.Func{Args: x.args, Locals: x.locals, Code: []api.Ins{ret}}, func(p api.Program) { checks(t, p, x.want) })
	}
}

func TestAllNearArgsAndLocals(t *testing.T) {
	for args := -2; args <= 11; args++ {
		for locals := -2; locals <= 11; locals++ {
			want := api.ErrArg
			if 0 <= args && args <= locals && locals <= 8 {
				want = api.OK
			}
			checks(t, api.Program{Funcs: []api.Func{{Args: args, Locals: locals, Code: []api.Ins{ret}}}}, want)
		}
	}
}

// badDecls are objects that may not be, and why.
var badDecls = []struct {
	d    api.Decl
	want api.Errno
}{
	{api.Decl{}, api.ErrKind}, {api.Decl{Kind: 8}, api.ErrKind}, {api.Decl{Kind: -1, A: 1}, api.ErrKind}, {api.Decl{Kind: api.Sem}, api.ErrArg}, {api.Decl{Kind: api.Sem, A: 2, B: 1}, api.ErrArg}, {api.Decl{Kind: api.Pool}, api.ErrArg},
	{api.Decl{Kind: api.Pool, A: 1001}, api.ErrArg}, {api.Decl{Kind: api.Cell, B: 32}, api.ErrArg}, {api.Decl{Kind: api.Cell, A: 1 << 31}, api.ErrArg}, {api.Decl{Kind: api.Mutex, A: 1}, api.ErrForm}, {api.Decl{Kind: api.Bar, B: -1}, api.ErrForm}, {api.Decl{Kind: api.Pool, A: 1, B: 1}, api.ErrForm},
}

// badWaits are waits that may not be with objects, and why.
var badWaits = []struct {
	w    [][]api.Need
	want api.Errno
}{
	{nil, api.ErrForm}, {[][]api.Need{{}}, api.ErrForm}, {slices.Repeat(lockWait(), 5), api.ErrLong}, {[][]api.Need{slices.Repeat(lockWait()[0], 5)}, api.ErrLong}, {[][]api.Need{{{Kind: 6}}}, api.ErrKind}, {[][]api.Need{{{}}}, api.ErrKind},
	{[][]api.Need{{{Kind: api.Lock, Obj: 32}}}, api.ErrArg}, {[][]api.Need{{{Kind: api.Lock, Obj: 1}}}, api.ErrArg}, {[][]api.Need{{{Kind: api.Lock, Obj: 0, N: 1}}}, api.ErrArg}, {[][]api.Need{{{Kind: api.Down, Obj: 2, N: 3}}}, api.ErrArg}, {[][]api.Need{{{Kind: api.Take, Obj: 5}}}, api.ErrArg},
	{[][]api.Need{slices.Repeat(lockWait()[0], 2)}, api.ErrForm}, {[][]api.Need{{{Kind: api.Lock}}, {{Kind: api.Down, Obj: 2, N: 1}, {Kind: api.Lock}}}, api.ErrForm},
}

// badCode are instructions that may not be, and why.
var badCode = []struct {
	x    api.Ins
	want api.Errno
}{
	{api.Ins{Op: -1}, api.ErrKind}, {api.Ins{Op: 52}, api.ErrKind}, {api.Ins{Op: math.MaxInt}, api.ErrKind}, {api.Ins{Op: api.OpPush, A: 1 << 31}, api.ErrArg}, {api.Ins{Op: api.OpLoad, A: 8}, api.ErrArg}, {api.Ins{Op: api.OpJump, A: 200}, api.ErrArg}, {api.Ins{Op: api.OpCall, A: 16}, api.ErrArg},
	{api.Ins{Op: api.OpWait, A: 32}, api.ErrArg}, {api.Ins{Op: api.OpUnlock, A: -1}, api.ErrArg}, {api.Ins{Op: api.OpJoin, A: 3, B: 2}, api.ErrArg}, {api.Ins{Op: api.OpAdd, A: 1}, api.ErrForm}, {api.Ins{Op: api.OpPush, B: 1}, api.ErrForm}, {api.Ins{Op: api.OpRet, B: -1}, api.ErrForm},
}

func TestAnObjectThatMayNotBe(t *testing.T) {
	for _, x := range badDecls {
		for _, many := range []int{1, 2, 7, 32} {
			for at := range many {
				p := small()
				p.Decls = slices.Repeat([]api.Decl{{Kind: api.Rw}}, many)
				p.Decls[at] = x.d
				checks(t, p, x.want)
			}
		}
	}
	for many, want := range map[int]api.Errno{0: api.OK, 1: api.OK, 32: api.OK, 33: api.ErrLong, 300: api.ErrLong} {
		p := small()
		p.Decls = slices.Repeat([]api.Decl{{Kind: api.Bar}}, many)
		checks(t, p, want)
	}
}

func TestAWaitThatMayNotBe(t *testing.T) {
	for _, x := range badWaits {
		for _, many := range []int{1, 2, 5, 32} {
			for at := range many {
				p := great()
				p.Waits = slices.Repeat([][][]api.Need{andWait()}, many)
				p.Waits[at] = x.w
				checks(t, p, x.want)
			}
		}
	}
}

func TestWaitsAreHeldAgainstTheProgramsOwnObjects(t *testing.T) {
	p := small()
	p.Waits = [][][]api.Need{lockWait()}
	checks(t, p, api.ErrArg)
	p.Decls = []api.Decl{{Kind: api.Rw}}
	checks(t, p, api.ErrArg)
	p.Decls = []api.Decl{{Kind: api.Mutex}}
	checks(t, p, api.OK)
	p.Waits = [][][]api.Need{{{{Kind: api.Take, Obj: 31, N: 9}}}}
	p.Decls = append(slices.Repeat([]api.Decl{{Kind: api.Cond}}, 31), api.Decl{Kind: api.Pool, A: 9})
	checks(t, p, api.OK)
	p.Decls[31].A = 8
	checks(t, p, api.ErrArg)
}

func TestAnInstructionThatMayNotBe(t *testing.T) {
	for _, x := range badCode {
		for _, many := range []int{1, 2, 5, 200} {
			for _, at := range []int{0, 1, many / 2, many - 1} {
				if at >= many {
					continue
				}
				code := slices.Repeat([]api.Ins{push}, many)
				code[at] = x.x
				eachFunc(api.Func{Args: 1, Locals: 1, Code: code}, func(p api.Program) { checks(t, p, x.want) })
			}
		}
	}
}

// flaw is something wrong with a program, and what is told of it.
type flaw struct {
	name string
	do   func(p *api.Program)
	want api.Errno
}

// flaws are such, in the order in which they are told, of a program that has as many parts as great has. Each may be laid over those behind it.
func flaws() []flaw {
	var l []flaw
	add := func(name string, want api.Errno, do func(p *api.Program)) { l = append(l, flaw{name, do, want}) }
	add("33 objects", api.ErrLong, func(p *api.Program) {
		p.Decls = append(p.Decls, slices.Repeat([]api.Decl{{Kind: api.Rw}}, 33-len(p.Decls))...)
	})
	for at := range 7 {
		for _, x := range badDecls {
			add("object", x.want, func(p *api.Program) { p.Decls[at] = x.d })
		}
	}
	add("33 waits", api.ErrLong, func(p *api.Program) {
		p.Waits = append(p.Waits, slices.Repeat([][][]api.Need{orWait()}, 33-len(p.Waits))...)
	})
	for at := range 3 {
		for _, x := range badWaits {
			add("wait", x.want, func(p *api.Program) { p.Waits[at] = x.w })
		}
	}
	add("no functions", api.ErrForm, func(p *api.Program) { p.Funcs = nil })
	add("17 functions", api.ErrLong, func(p *api.Program) {
		p.Funcs = append(p.Funcs, slices.Repeat(small().Funcs, 17-len(p.Funcs))...)
	})
	for at := range 3 {
		inFunc := func(name string, want api.Errno, do func(f *api.Func)) {
			add(name, want, func(p *api.Program) { do(&p.Funcs[at]) })
		}
		inFunc("args below 0", api.ErrArg, func(f *api.Func) { f.Args = -1 })
		inFunc("args above locals", api.ErrArg, func(f *api.Func) { f.Args = f.Locals + 1 })
		inFunc("9 locals", api.ErrArg, func(f *api.Func) { f.Locals = 9 })
		inFunc("no instructions", api.ErrForm, func(f *api.Func) { f.Code = nil })
		inFunc("201 instructions", api.ErrLong, func(f *api.Func) {
			f.Code = append(f.Code, slices.Repeat([]api.Ins{ret}, 201-len(f.Code))...)
		})
		for _, x := range badCode {
			inFunc("first instruction", x.want, func(f *api.Func) { f.Code[0] = x.x })
		}
		if at != 1 {
			for _, x := range badCode {
				inFunc("last instruction", x.want, func(f *api.Func) { f.Code[len(f.Code)-1] = x.x })
			}
		}
	}
	return l
}

func TestWhichErrorOfCheckComesFirst(t *testing.T) {
	l := flaws()
	for k, first := range l {
		for _, later := range l[k:] {
			p := great()
			later.do(&p)
			first.do(&p)
			if e := prog.Check(p); e != first.want {
				t.Errorf("%s and %s: %v, not %v", first.name, later.name, e, first.want)
			}
			if s, e := prog.Put(p); s != "" || e != first.want {
				t.Errorf("put of %s and %s: %x, %v, not %v", first.name, later.name, s, e, first.want)
			}
			if e := wrong(p); e != first.want {
				t.Errorf("of %s and %s the tests' own reading is %v, not %v", first.name, later.name, e, first.want)
			}
		}
	}
}

func TestEachFlawIsToldAndLeavesTheProgramAsItIs(t *testing.T) {
	for _, x := range flaws() {
		p := great()
		x.do(&p)
		checks(t, p, x.want)
	}
}

// P10.2

func TestTheChaptersExample(t *testing.T) {
	puts(t, small(), "\x4c\x4a\x01\x00\x00\x01\x00\x00\x02\x00\x02\x15")
}

func TestByteByByte(t *testing.T) {
	puts(t, small(), smallBytes)
	puts(t, great(), greatBytes)
	p := small()
	p.Decls = []api.Decl{{Kind: api.Mutex}, {Kind: api.Cell, A: 5, B: 0}}
	puts(t, p, head+"\x02\x01\x07\x0a\x00"+"\x00"+"\x01\x00\x00\x02\x00\x02\x15")
	p.Waits = [][][]api.Need{lockWait()}
	puts(t, p, head+"\x02\x01\x07\x0a\x00"+"\x01\x01\x01\x01\x00"+"\x01\x00\x00\x02\x00\x02\x15")
	p.Funcs = []api.Func{{Args: 3, Locals: 7, Code: []api.Ins{ret}}, {Locals: 8, Code: []api.Ins{{Op: api.OpPush, A: -1}}}}
	puts(t, p, head+"\x02\x01\x07\x0a\x00"+"\x01\x01\x01\x01\x00"+"\x02\x03\x07\x01\x15\x00\x08\x01\x00\x01")
}

func TestCountsOfOneByteAndOfTwo(t *testing.T) {
	for many, count := range map[int]string{1: "\x01", 2: "\x02", 16: "\x10", 127: "\x7f", 128: "\x80\x01", 129: "\x81\x01", 199: "\xc7\x01", 200: "\xc8\x01"} {
		p := api.Program{Funcs: []api.Func{{Code: slices.Repeat([]api.Ins{ret}, many)}}}
		puts(t, p, head+"\x00\x00\x01\x00\x00"+count+strings.Repeat("\x15", many))
		p.Funcs = append(p.Funcs, api.Func{Args: 8, Locals: 8, Code: slices.Repeat([]api.Ins{push}, many)})
		puts(t, p, head+"\x00\x00\x02\x00\x00"+count+strings.Repeat("\x15", many)+"\x08\x08"+count+strings.Repeat("\x00\x02", many))
	}
}

func TestAsManyOfEachPartAsThereMayBe(t *testing.T) {
	p := api.Program{Decls: slices.Repeat([]api.Decl{{Kind: api.Mutex}}, 32), Waits: slices.Repeat([][][]api.Need{lockWait()}, 32)}
	p.Funcs = slices.Repeat([]api.Func{{Args: 8, Locals: 8, Code: slices.Repeat([]api.Ins{{Op: api.OpMend, A: 31}}, 200)}}, 16)
	puts(t, p, head+"\x20"+strings.Repeat("\x01", 32)+"\x20"+strings.Repeat("\x01\x01\x01\x00", 32)+"\x10"+strings.Repeat("\x08\x08\xc8\x01"+strings.Repeat("\x33\x1f", 200), 16))
}

// P10.3

func TestGetOfWhatWasPut(t *testing.T) {
	for _, p := range []api.Program{small(), great(), {Decls: objects(), Funcs: small().Funcs}, {Decls: objects(), Waits: slices.Repeat([][][]api.Need{orWait()}, 32), Funcs: slices.Repeat(great().Funcs, 5)}} {
		s, e := prog.Put(p)
		if e != api.OK {
			t.Errorf("put of %v: %v", p, e)
		}
		gets(t, s, p, api.OK)
	}
}

func TestGetOfOtherBeginnings(t *testing.T) {
	refused(t, "", api.ErrForm)
	for n := range len(head) {
		refused(t, head[:n], api.ErrForm)
		refused(t, head[:n]+smallBytes[3:], api.ErrForm)
		refused(t, smallBytes[n+1:], api.ErrForm)
		for b := range 256 {
			if byte(b) == head[n] {
				continue
			}
			for _, s := range []string{head, smallBytes, greatBytes} {
				l := []byte(s)
				l[n] = byte(b)
				refused(t, string(l), api.ErrForm)
				refused(t, string(l[:n+1]), api.ErrForm)
			}
		}
	}
	for _, s := range []string{"\x00" + smallBytes, "L" + smallBytes, "LJ" + smallBytes[1:], "lj\x01" + smallBytes[3:], "JL\x01" + smallBytes[3:], "LJ1" + smallBytes[3:], smallBytes[3:], "\x01\x4a\x4c" + smallBytes[3:], " " + smallBytes} {
		refused(t, s, api.ErrForm)
	}
	refused(t, head, api.ErrEnd)
	gets(t, smallBytes, small(), api.OK)
}

// rests are bytes that may stand behind what is wrong.
var rests = []string{"", "\x00", "\x01", "\x15", "\x80", "\xff", "\x80\x00", nine + "\xff", smallBytes[3:], greatBytes[3:], strings.Repeat("\x15", 300)}

// atWaits, atFuncs and atCode are bytes of programs up to a count. Ahead of some stands what Check refuses, which must be told later than the count.
var (
	atWaits = []string{head + "\x00", head + "\x02\x01\x07\x0a\x00", head + objectsBytes}
	atFuncs = []string{head + "\x00\x00", head + objectsBytes + "\x00", head + objectsBytes + "\x01" + lockBytes, head + objectsBytes + "\x03" + lockBytes + andBytes + orBytes}
	atCode  = []string{head + "\x00\x00\x01\x00\x00", head + objectsBytes + "\x01" + orBytes + "\x02\x00\x01\x01\x15\x08\x08", head + "\x00\x00\x01\x01\x00", head + "\x00\x00\x01\x09\x09", head + "\x00\x00\x02\x00\x00\x00\x00\x01",
		head + "\x00\x00\x03\x00\x00\x01\x15\x05\x04\x00" + "\x00\x00", head + "\x00\x00\x01" + "\x81\x80\x80\x80\x10" + "\x00"}
)

// countsAbove are counts above a limit; fewer bits would take some of them for less.
func countsAbove(most uint64) []uint64 {
	return []uint64{most + 1, most + 2, 201, 202, 255, 256, 257, 300, 1<<14 + 1, 1<<16 + 1, 1<<31 - 1, 1 << 31, 1<<31 + 1, 1<<32 - 1, 1 << 32, 1<<32 + 1, 1<<32 + 2, 1 << 62, 1<<63 - 1, 1 << 63, 1<<63 + 1, math.MaxUint64 - 1, math.MaxUint64}
}

func TestGetOfACountThatIsTooGreat(t *testing.T) {
	for _, x := range []struct {
		most uint64
		at   []string
	}{{32, []string{head}}, {32, atWaits}, {16, atFuncs}, {200, atCode}} {
		for _, at := range x.at {
			for _, n := range countsAbove(x.most) {
				count := string(binary.AppendUvarint(nil, n))
				for _, rest := range rests {
					refused(t, at+count+rest, api.ErrLong)
				}
			}
		}
	}
}

func TestGetOfTheGreatestCounts(t *testing.T) {
	one := "\x01\x00\x00\x01\x15"
	single := []api.Func{{Code: []api.Ins{ret}}}
	waits := strings.Repeat(lockBytes, 33)
	mutex := []api.Decl{{Kind: api.Mutex}}
	gets(t, head+"\x01\x01"+"\x20"+waits[:32*4]+one, api.Program{Decls: mutex, Waits: slices.Repeat([][][]api.Need{lockWait()}, 32), Funcs: single}, api.OK)
	refused(t, head+"\x01\x01"+"\x21"+waits+one, api.ErrLong)
	funcs := strings.Repeat(one[1:], 17)
	gets(t, head+"\x00\x00"+"\x10"+funcs[:16*4], api.Program{Funcs: slices.Repeat(single, 16)}, api.OK)
	refused(t, head+"\x00\x00"+"\x11"+funcs, api.ErrLong)
	code := strings.Repeat("\x15", 201)
	gets(t, head+"\x00\x00\x01\x00\x00\xc8\x01"+code[:200], api.Program{Funcs: []api.Func{{Code: slices.Repeat([]api.Ins{ret}, 200)}}}, api.OK)
	refused(t, head+"\x00\x00\x01\x00\x00\xc9\x01"+code, api.ErrLong)
	objects := strings.Repeat("\x02", 33)
	gets(t, head+"\x20"+objects[:32]+"\x00"+one, api.Program{Decls: slices.Repeat([]api.Decl{{Kind: api.Rw}}, 32), Funcs: single}, api.OK)
	refused(t, head+"\x21"+objects+"\x00"+one, api.ErrLong)
}

func TestGetOfACountOf0(t *testing.T) {
	// No objects, and no waits, there may be; no functions, and no instructions, not.
	gets(t, head+"\x00\x00\x01\x00\x00\x01\x15", api.Program{Funcs: []api.Func{{Code: []api.Ins{ret}}}}, api.OK)
	for _, at := range atFuncs {
		refused(t, at+"\x00", api.ErrForm)
		for _, rest := range rests {
			refused(t, at+"\x00"+rest, api.ErrForm)
		}
	}
	refused(t, head+"\x00\x00\x01\x00\x00\x00", api.ErrForm)
	refused(t, head+"\x00\x00\x01\x08\x08\x00", api.ErrForm)
	refused(t, head+"\x00\x00\x02\x00\x00\x00\x00\x00\x01\x15", api.ErrForm)
	refused(t, head+"\x00\x00\x02\x00\x00\x01\x15\x00\x00\x00", api.ErrForm)
	refused(t, head+"\x00\x00\x02\x00\x00\x00\x00\x00\x00", api.ErrForm)
	refused(t, head+"\x00\x00\x01\x01\x00\x00", api.ErrArg)
	refused(t, head+"\x00\x00\x02\x00\x00\x00\x01\x00\x01\x15", api.ErrForm)
	refused(t, head+"\x00\x00\x02\x01\x00\x01\x15\x00\x00\x00", api.ErrArg)
	// A wait without ways, or a way without needs, is told at its place.
	refused(t, head+objectsBytes+"\x01\x00"+"\x01\x00\x00\x01\x15", api.ErrForm)
	refused(t, head+objectsBytes+"\x01\x01\x00"+"\x01\x00\x00\x01\x15", api.ErrForm)
	refused(t, head+objectsBytes+"\x02"+lockBytes+"\x00"+"\x11", api.ErrForm)
}

// misput are numbers that are not in as few bytes as there may be, or have too many bits.
var misput = []string{"\x80\x00", "\x81\x00", "\x84\x00", "\xff\x00", "\x80\x80\x00", "\x81\x80\x00", "\xff\xff\xff\xff\x00", nine[:8] + "\x00",
	nine + "\x00", nine + "\x02", nine + "\x7f", nine + "\x80", nine + "\x80\x01", nine + "\xff\x01"}

// cut are numbers that end too early.
var cut = []string{"", "\x80", "\x81", "\xff", "\x80\x80", "\xff\xff\xff\xff", nine[:8], nine}

// atNumbers are bytes behind which a number must stand.
func atNumbers() []string {
	l := slices.Concat(atWaits, atFuncs, atCode, []string{head})
	for _, at := range atFuncs {
		l = append(l, at+"\x01", at+"\x01\x00", at+"\x01\x05", at+"\x02\x00\x00\x01\x15", at+"\x02\x00\x00\x00\x00", at+"\x01\x00\x00\x01\x00", at+"\x01\x00\x00\x02\x15\x29\x01", at+"\x10\x01\x00\x01\x15\x09\x80\x01")
	}
	return append(l, head+"\x01\x03", head+"\x01\x03\x01", head+"\x01\x06", head+"\x01\x07", head+"\x02\x01\x07\x0a",
		head+objectsBytes+"\x01", head+objectsBytes+"\x01\x01", head+objectsBytes+"\x01\x01\x01\x01", head+objectsBytes+"\x02"+orBytes+"\x01\x02\x03\x01\x05", head+objectsBytes+"\x02"+orBytes+"\x01\x02\x03\x01\x05\x05")
}

func TestGetOfNumbersThatAreNotWrittenSo(t *testing.T) {
	for _, at := range atNumbers() {
		for _, s := range misput {
			for _, rest := range rests {
				refused(t, at+s+rest, api.ErrForm)
			}
		}
	}
}

func TestGetOfBytesThatEndTooEarly(t *testing.T) {
	for _, at := range atNumbers() {
		for _, s := range cut {
			refused(t, at+s, api.ErrEnd)
		}
	}
	for _, s := range []string{smallBytes, greatBytes, head + "\x00\x00\x01\x00\x00\x80\x01" + strings.Repeat("\x15", 128), head + "\x01\x01\x20" + strings.Repeat(lockBytes, 32) + "\x10" + strings.Repeat("\x08\x08\x02\x00\x01\x15", 16)} {
		for n := len(head); n < len(s); n++ {
			refused(t, s[:n], api.ErrEnd)
		}
		if p, e := prog.Get(s); e != api.OK || len(p.Funcs) == 0 {
			t.Errorf("get of %x: %v, %v", s, p, e)
		}
	}
}

func TestGetOfArgsAndLocals(t *testing.T) {
	for args := range 12 {
		for locals := range 12 {
			s := head + "\x00\x00\x01" + string([]byte{byte(args), byte(locals)}) + "\x01\x15"
			if args <= locals && locals <= 8 {
				gets(t, s, api.Program{Funcs: []api.Func{{Args: args, Locals: locals, Code: []api.Ins{ret}}}}, api.OK)
			} else {
				refused(t, s, api.ErrArg)
			}
		}
	}
}

func TestGetOfArgsAndLocalsThatAreOutOfRange(t *testing.T) {
	for _, n := range []uint64{9, 127, 128, 255, 256, 257, 264, 1 << 16, 1<<31 - 1, 1 << 31, 1<<31 + 1, 1<<31 + 8, 1<<32 - 1, 1 << 32, 1<<32 + 1, 1<<32 + 8, 1 << 62, 1<<63 - 1, 1 << 63, 1<<63 + 1, 1<<63 + 8, 1<<63 + 1<<32, math.MaxUint64 - 1, math.MaxUint64} {
		s := string(binary.AppendUvarint(nil, n))
		for _, x := range []string{s + "\x00", s + "\x08", "\x00" + s, "\x08" + s, s + s} {
			refused(t, head+"\x00\x00\x01"+x+"\x01\x15", api.ErrArg)
			refused(t, head+"\x00\x00\x02\x08\x08\x01\x15"+x+"\x01\x15", api.ErrArg)
			refused(t, head+"\x00\x00\x02"+x+"\x01\x15\x08\x08\x01\x15", api.ErrArg)
			// Told last of all.
			refused(t, head+"\x00\x00\x01"+x+"\x00", api.ErrArg)
			refused(t, head+"\x00\x00\x01"+x+"\x01", api.ErrEnd)
			refused(t, head+"\x00\x00\x01"+x, api.ErrEnd)
			refused(t, head+"\x00\x00\x01"+x+"\xc9\x01", api.ErrLong)
			refused(t, head+"\x00\x00\x01"+x+"\x01\x34", api.ErrKind)
			refused(t, head+"\x00\x00\x01"+x+"\x01\x15\x00", api.ErrForm)
			refused(t, head+"\x00\x00\x02"+x+"\x01\x15", api.ErrEnd)
			refused(t, head+"\x00\x00\x02"+x+"\x01\x15\x80\x00", api.ErrForm)
		}
	}
}

// partsThatMayNotBe are bytes of objects, waits, and instructions, that may not be, and why.
var (
	objectsThatMayNotBe = map[string]api.Errno{"\x01\x00": api.ErrKind, "\x01\x08": api.ErrKind, "\x02\x01\xff": api.ErrKind, "\x01\x06\x00": api.ErrArg, "\x01\x06\xe9\x07": api.ErrArg, "\x01\x03\x02\x01": api.ErrArg, "\x02\x01\x03\x00\x00": api.ErrArg, "\x02\x01\x07\x0a\x01": api.ErrArg, "\x01\x07" + nine + "\x01\x00": api.ErrArg}
	waitsThatMayNotBe   = map[string]api.Errno{"\x00": api.ErrForm, "\x05": api.ErrLong, "\x01\x00": api.ErrForm, "\x01\x05": api.ErrLong, "\x01\x01\x00": api.ErrKind, "\x01\x01\x06": api.ErrKind, "\x01\x01\x01\x01": api.ErrArg, "\x01\x01\x01\x07": api.ErrArg, "\x01\x01\x01" + nine + "\x01": api.ErrArg,
		"\x01\x01\x04\x02\x03": api.ErrArg, "\x01\x01\x05\x05\x00": api.ErrArg, "\x01\x02\x01\x00\x01\x00": api.ErrForm, "\x02\x01\x01\x00\x02\x01\x00\x04\x02\x01": api.ErrForm}
	codeThatMayNotBe = map[string]api.Errno{"\x34": api.ErrKind, "\xff": api.ErrKind, "\x01\x08": api.ErrArg, "\x00\x80\x80\x80\x80\x10": api.ErrArg, "\x12\xc8\x01": api.ErrArg, "\x14\x10": api.ErrArg, "\x1a\x20": api.ErrArg, "\x1d\x20": api.ErrArg, "\x29\x00\x01": api.ErrArg, "\x29\x03\x02": api.ErrArg, "\x29\x01\x05": api.ErrArg, "\x1d" + nine + "\x01": api.ErrArg}
)

func TestGetOfPartsThatMayNotBe(t *testing.T) {
	for _, rest := range rests {
		for s, e := range objectsThatMayNotBe {
			refused(t, head+s+rest, e)
		}
		for s, e := range waitsThatMayNotBe {
			refused(t, head+objectsBytes+"\x01"+s+rest, e)
			refused(t, head+objectsBytes+"\x02"+s+rest, e)
			refused(t, head+objectsBytes+"\x20"+lockBytes+orBytes+s+rest, e)
			refused(t, head+objectsBytes+"\x20"+strings.Repeat(andBytes, 31)+s+rest, e)
		}
		for s, e := range codeThatMayNotBe {
			refused(t, head+"\x00\x00\x01\x00\x00\x01"+s+rest, e)
			refused(t, head+"\x00\x00\x01\x00\x00\x03"+s+rest, e)
			refused(t, head+"\x00\x00\x01\x00\x00\x03\x15\x15"+s+rest, e)
			refused(t, head+"\x00\x00\x10"+strings.Repeat("\x01\x02\x02\x00\x02\x15", 15)+"\x00\x00\xc8\x01"+strings.Repeat("\x15", 199)+s+rest, e)
			// Args and Locals that may not be, and a function without instructions, are told behind it.
			refused(t, head+"\x00\x00\x01\x01\x00\x01"+s+rest, e)
			refused(t, head+"\x00\x00\x02\x00\x00\x00\x00\x00\x01"+s+rest, e)
		}
	}
}

func TestGetOfAByteThatIsNoOperation(t *testing.T) {
	for b := range 256 {
		s := head + "\x00\x00\x01\x00\x00\x02\x15" + string([]byte{byte(b)})
		switch form := op.Form(b); {
		case b >= api.Ops:
			refused(t, s, api.ErrKind)
		case form != "":
			refused(t, s, api.ErrEnd)
		default:
			gets(t, s, api.Program{Funcs: []api.Func{{Code: []api.Ins{ret, {Op: b}}}}}, api.OK)
		}
	}
}

func TestGetOfBytesThatAreLeft(t *testing.T) {
	for _, s := range []string{smallBytes, greatBytes} {
		for _, rest := range rests {
			if rest != "" {
				refused(t, s+rest, api.ErrForm)
			}
		}
		for b := range 256 {
			refused(t, s+string([]byte{byte(b)}), api.ErrForm)
		}
		refused(t, s+s, api.ErrForm)
		refused(t, s+head, api.ErrForm)
	}
}

func TestWhichErrorOfGetComesFirst(t *testing.T) {
	one := "\x00\x00\x01\x15"
	for _, x := range []struct {
		s    string
		want api.Errno
	}{
		// How it begins, ahead of all.
		{"LJ\x02\x21", api.ErrForm}, {"LK\x01\x08", api.ErrForm}, {"LJ", api.ErrForm},
		// What is wrong with objects, of whatever kind, ahead of all that stands behind them.
		{head + "\x21\x80\x00", api.ErrLong}, {head + "\x01\x06\x00", api.ErrArg}, {head + "\x01\x06\x00\x21", api.ErrArg}, {head + "\x01\x06\x00\x80\x00", api.ErrArg}, {head + "\x01\x06\x00\x01\x05", api.ErrArg}, {head + "\x01\x00\x21", api.ErrKind}, {head + "\x01\x06\x00\x00\x01" + one + "\x00", api.ErrArg},
		// But within the objects their bytes ahead of what Check says.
		{head + "\x02\x06\x00", api.ErrEnd}, {head + "\x02\x06\x00\x08", api.ErrKind}, {head + "\x02\x06\x00\x06\x80\x00", api.ErrForm},
		// The count of waits, ahead of them.
		{head + "\x00\x21\x00", api.ErrLong}, {head + "\x00\xa1\x00\x05", api.ErrForm}, {head + "\x00\xa1", api.ErrEnd}, {head + "\x00\x21", api.ErrLong},
		// One wait behind the other, each with all that is wrong with it.
		{head + "\x00\x02\x01\x01\x01\x00\x05", api.ErrArg}, {head + "\x00\x02\x00\x05", api.ErrForm}, {head + "\x00\x02\x05\x00", api.ErrLong}, {head + "\x00\x01\x01\x01\x01\x00", api.ErrArg}, {head + "\x00\x01\x01\x01\x01\x00\x11", api.ErrArg}, {head + "\x00\x01\x01\x01\x01\x00\x01\x00\x00\x01\x34", api.ErrArg}, {head + "\x00\x01\x00\x01" + one + "\x00", api.ErrForm}, {head + "\x01\x01\x02" + lockBytes + "\x01\x02\x01\x00\x01\x00\x91\x00", api.ErrForm},
		{head + "\x01\x01\x01\x02\x01\x01\x01", api.ErrEnd}, {head + "\x01\x01\x01\x02\x00\x05", api.ErrLong},
		// The count of functions, ahead of them.
		{head + "\x00\x00\x11", api.ErrLong}, {head + "\x00\x00\x11\x80\x00", api.ErrLong}, {head + "\x00\x00\x91\x00\x80", api.ErrForm}, {head + "\x00\x00\x91", api.ErrEnd},
		// In a function Args, Locals, the count, and one instruction behind the other.
		{head + "\x00\x00\x01\x80\x00\x80", api.ErrForm}, {head + "\x00\x00\x01\x80", api.ErrEnd}, {head + "\x00\x00\x01\x00\x80\x00\xc9\x01", api.ErrForm}, {head + "\x00\x00\x01\x00\x80\x80\x80", api.ErrEnd}, {head + "\x00\x00\x01\x00\x00\xc9\x00\x34", api.ErrForm}, {head + "\x00\x00\x01\x00\x00\xc9\x01\x34", api.ErrLong}, {head + "\x00\x00\x01\x00\x00\x02\x34\x01\x08", api.ErrKind}, {head + "\x00\x00\x01\x00\x00\x02\x01\x08\x34", api.ErrArg},
		{head + "\x00\x00\x01\x00\x00\x02\x01\x08", api.ErrArg}, {head + "\x00\x00\x01\x00\x00\x02\x01\x80\x00\x34", api.ErrForm}, {head + "\x00\x00\x01\x00\x00\x02\x15", api.ErrEnd},
		// One function behind the other.
		{head + "\x00\x00\x02\x00\x00\x01\x34\x80\x00", api.ErrKind}, {head + "\x00\x00\x02\x00\x00\x01\x01\x08\x00\x00\xc9\x01", api.ErrArg}, {head + "\x00\x00\x02\x00\x00\xc9\x01\x00\x00\x01\x34", api.ErrLong}, {head + "\x00\x00\x02\x00\x80\x00\x01\x34", api.ErrForm}, {head + "\x00\x00\x02" + one, api.ErrEnd},
		// All bytes, ahead of what Check says of Args, Locals, and how many there are.
		{head + "\x00\x00\x01\x01\x00", api.ErrEnd}, {head + "\x00\x00\x01\x01\x00\x80\x00", api.ErrForm}, {head + "\x00\x00\x01\x09\x09\xc9\x01", api.ErrLong}, {head + "\x00\x00\x01\x09\x09\x01\x34", api.ErrKind}, {head + "\x00\x00\x02\x01\x00\x01\x15\x00\x00\x01\x34", api.ErrKind}, {head + "\x00\x00\x02\x01\x00\x01\x15", api.ErrEnd}, {head + "\x00\x00\x02\x01\x00\x01\x15\x00\x00\x01\x01", api.ErrEnd}, {head + "\x00\x00\x02\x00\x00\x00\x00\x00\xc9\x01", api.ErrLong}, {head + "\x00\x00\x02\x00\x00\x00", api.ErrEnd},
		{head + "\x00\x00\x02\x00\x00\x00\x00\x00\x01\x01\x08", api.ErrArg},
		// Bytes that are left, ahead of what Check says, too.
		{head + "\x00\x00\x01\x01\x00\x01\x15", api.ErrArg}, {head + "\x00\x00\x01\x01\x00\x01\x15\x15", api.ErrForm}, {head + "\x00\x00\x01\x09\x09\x01\x15\x80", api.ErrForm}, {head + "\x00\x00\x02\x01\x00\x01\x15" + one + "\x00", api.ErrForm},
		// Of what Check says, its order.
		{head + "\x00\x00\x02\x01\x00\x01\x15\x00\x00\x00", api.ErrArg}, {head + "\x00\x00\x02\x00\x00\x00\x01\x00\x01\x15", api.ErrForm}, {head + "\x00\x00\x01\x01\x00\x00", api.ErrArg},
	} {
		refused(t, x.s, x.want)
	}
}

// P10.4

// same fails, if Get of bytes tells anything but what should be, or what it tells is put as other bytes than these. It tells what was wrong.
func same(t *testing.T, s string) api.Errno {
	p, e := prog.Get(s)
	if want, err := reading(s); !progs.Equal(p, want) || e != err {
		t.Fatalf("get of %x: %v, %v, not %v, %v", s, p, e, want, err)
	}
	if e != api.OK {
		return e
	}
	if got, f := prog.Put(p); got != s || f != api.OK {
		t.Fatalf("put of %v: %x, %v, not %x", p, got, f, s)
	}
	return e
}

// eachShort calls something with all texts of up to three bytes, those of one first byte apart from those of others.
func eachShort(t *testing.T, do func(t *testing.T, s string)) {
	t.Helper()
	do(t, "")
	for a := range 256 {
		t.Run("", func(t *testing.T) {
			t.Parallel()
			do(t, string([]byte{byte(a)}))
			b := []byte{byte(a), 0, 0}
			for n := range 1 << 16 {
				b[1], b[2] = byte(n>>8), byte(n)
				if n < 1<<8 {
					do(t, string([]byte{byte(a), byte(n)}))
				}
				do(t, string(b))
			}
		})
	}
}

func TestAllShortTexts(t *testing.T) {
	eachShort(t, func(t *testing.T, s string) { same(t, head+s) })
}

func TestAllShortTextsBehindWhatProgramsBeginWith(t *testing.T) {
	met := map[api.Errno]int{}
	for _, at := range []string{"\x00\x00\x01", "\x00\x00\x01\x00\x00", "\x00\x00\x02\x01\x02\x01\x15", "\x01\x01\x01\x01\x01", "\x01\x01\x01\x01\x01\x01\x00\x01", "\x01\x06\x05\x00\x01\x00\x00\x02"} {
		b := []byte(head + at + "\x00\x00\x00")
		l := b[len(b)-3:]
		for a := range 64 {
			for n := range 1 << 12 {
				l[0], l[1], l[2] = byte(a), byte(n>>6), byte(n&0x3f)
				met[same(t, string(b))]++
			}
		}
	}
	for _, e := range []api.Errno{api.OK, api.ErrArg, api.ErrForm, api.ErrEnd, api.ErrKind} {
		if met[e] < 100 {
			t.Errorf("just %d of %v", met[e], e)
		}
	}
}

func TestDrawnProgramsAreGot(t *testing.T) {
	r := draws.Row(30)
	for range 3000 {
		p := progs.Drawn(&r)
		checks(t, p, api.OK)
		gets(t, written(p), p, api.OK)
		refused(t, written(p)+string([]byte{byte(r.Next())}), api.ErrForm)
	}
}

// marred is bytes of which some became others, or were taken away or laid between.
func marred(r *draws.Row, b []byte) []byte {
	for range 1 + r.Next()%3 {
		at := len(head) + int(r.Next()%uint64(len(b)-len(head)))
		switch r.Next() % 5 {
		case 0:
			b[at] = byte(r.Next())
		case 1:
			b[at] = byte(r.Next() % 8)
		case 2:
			b[at]++
		case 3:
			b = slices.Delete(b, at, at+1)
		case 4:
			b = slices.Insert(b, at, byte(r.Next()>>(r.Next()%64)))
		}
		if len(b) == len(head) {
			break
		}
	}
	if r.Next()%16 == 0 {
		b = b[:r.Next()%uint64(len(b)+1)]
	}
	return b
}

func TestDrawnTexts(t *testing.T) {
	met := make([]int, api.ErrNone+1)
	r := draws.Row(31)
	for range 20000 {
		b := []byte(written(progs.Drawn(&r)))
		for range 5 {
			met[same(t, string(marred(&r, slices.Clone(b))))]++
		}
	}
	for _, e := range []api.Errno{api.OK, api.ErrArg, api.ErrForm, api.ErrEnd, api.ErrLong, api.ErrKind} {
		if met[e] < 1000 {
			t.Errorf("just %d of %v", met[e], e)
		}
	}
}

func TestDrawnBytes(t *testing.T) {
	met := make([]int, api.ErrNone+1)
	r := draws.Row(32)
	for range 500000 {
		b := []byte(head)
		for range 4 + r.Next()%16 {
			n := r.Next()
			if n%32 != 0 {
				n = n >> 32 % 3
			}
			b = append(b, byte(n))
		}
		met[same(t, string(b))]++
	}
	for _, e := range []api.Errno{api.OK, api.ErrArg, api.ErrForm, api.ErrEnd, api.ErrLong, api.ErrKind} {
		if met[e] < 500 {
			t.Errorf("just %d of %v", met[e], e)
		}
	}
}

func TestWhatIsGotIsMemoryOfItsOwn(t *testing.T) {
	long := great()
	long.Waits = slices.Repeat(long.Waits, 10)
	long.Funcs = slices.Repeat(long.Funcs, 5)
	for _, want := range []api.Program{small(), great(), long} {
		s := written(want)
		one, _ := prog.Get(s)
		two, _ := prog.Get(s)
		if !progs.Apart(one, two) {
			t.Errorf("two lists of %v lie in one memory", want)
		}
		for k := range one.Funcs {
			clear(one.Funcs[k].Code)
		}
		clear(one.Decls)
		clear(one.Waits)
		clear(one.Funcs)
		if !progs.Equal(two, want) {
			t.Errorf("two programs are one: %v", two)
		}
		gets(t, s, want, api.OK)
	}
}

func TestTheSameIsAnsweredEachTime(t *testing.T) {
	for range 3 {
		checks(t, api.Program{}, api.ErrForm)
		puts(t, great(), greatBytes)
		refused(t, greatBytes+"\x00", api.ErrForm)
		refused(t, greatBytes[:len(greatBytes)-1], api.ErrEnd)
		puts(t, small(), smallBytes)
	}
}
