package progs_test

import (
	"slices"
	"testing"

	"logjam/api"
	"logjam/depth"
	"logjam/internal/draws"
	"logjam/internal/progs"
	"logjam/op"
	"logjam/prog"
	"logjam/verify"
)

// some is a program with some of each part.
func some() api.Program {
	return api.Program{
		Decls: []api.Decl{{Kind: api.Mutex}, {Kind: api.Sem, A: 1, B: 2}},
		Waits: [][][]api.Need{{{{Kind: api.Lock, Obj: 0}}}, {{{Kind: api.Lock, Obj: 0}}, {{Kind: api.Down, Obj: 1, N: 2}}}},
		Funcs: []api.Func{{Code: progs.Code("wait 1, ret")}, {Args: 1, Locals: 2, Code: progs.Code("push 5, ret")}},
	}
}

func TestCode(t *testing.T) {
	for text, want := range map[string][]api.Ins{
		"":                         nil,
		"ret":                      {{Op: api.OpRet}},
		"push -1, ret":             {{Op: api.OpPush, A: -1}, {Op: api.OpRet}},
		" cwait 3 4 ,, join 1 2, ": {{Op: api.OpCwait, A: 3, B: 4}, {Op: api.OpJoin, A: 1, B: 2}},
		"push, add":                {{Op: api.OpPush}, {Op: api.OpAdd}},
	} {
		if got := progs.Code(text); !slices.Equal(got, want) {
			t.Errorf("%q: %v, not %v", text, got, want)
		}
	}
}

func TestWhatIsNoCodePanics(t *testing.T) {
	for _, text := range []string{"pish 1", "push x", "push 1 2 3", "push 1 ret", "1"} {
		func() {
			defer func() {
				if recover() == nil {
					t.Errorf("%q is read", text)
				}
			}()
			progs.Code(text)
		}()
	}
}

// changes are what may be done to the lists of a program that has spare room.
var changes = map[string]func(p *api.Program){
	"an object":               func(p *api.Program) { p.Decls[1].A++ },
	"behind the objects":      func(p *api.Program) { p.Decls = append(p.Decls, api.Decl{})[:2] },
	"far behind the objects":  func(p *api.Program) { p.Decls[:4][3].B++ },
	"one object less":         func(p *api.Program) { p.Decls = p.Decls[:1] },
	"one object more":         func(p *api.Program) { p.Decls = p.Decls[:3] },
	"a need":                  func(p *api.Program) { p.Waits[1][0][0].N++ },
	"behind the needs":        func(p *api.Program) { p.Waits[1][0][:2][1].N++ },
	"far behind the needs":    func(p *api.Program) { p.Waits[1][0][:3][2].N++ },
	"one need more":           func(p *api.Program) { p.Waits[1][0] = p.Waits[1][0][:2] },
	"a way":                   func(p *api.Program) { p.Waits[1][0] = nil },
	"behind the ways":         func(p *api.Program) { p.Waits[0][:2][1] = nil },
	"far behind the ways":     func(p *api.Program) { p.Waits[0][:3][2][0].Kind++ },
	"one way less":            func(p *api.Program) { p.Waits[1] = p.Waits[1][:1] },
	"behind the waits":        func(p *api.Program) { p.Waits[:3][2] = nil },
	"far behind the waits":    func(p *api.Program) { p.Waits[:4][3][0] = nil },
	"one wait less":           func(p *api.Program) { p.Waits = p.Waits[:1] },
	"how many arguments":      func(p *api.Program) { p.Funcs[0].Args++ },
	"how many locals":         func(p *api.Program) { p.Funcs[1].Locals++ },
	"an instruction":          func(p *api.Program) { p.Funcs[1].Code[0].A++ },
	"behind the instructions": func(p *api.Program) { p.Funcs[0].Code[:3][2].Op++ },
	"far behind the code":     func(p *api.Program) { p.Funcs[0].Code[:4][3].B++ },
	"one instruction less":    func(p *api.Program) { p.Funcs[0].Code = p.Funcs[0].Code[:1] },
	"behind the functions":    func(p *api.Program) { p.Funcs[:3][2].Locals++ },
	"far behind them":         func(p *api.Program) { p.Funcs[:4][3] = api.Func{} },
	"one function less":       func(p *api.Program) { p.Funcs = p.Funcs[:1] },
}

func TestEachChangeIsSeen(t *testing.T) {
	for name, change := range changes {
		q := progs.Roomy(some())
		if !progs.Equal(q, some()) || !progs.Kept(q, some()) {
			t.Fatalf("%v is not %v", q, some())
		}
		change(&q)
		if progs.Kept(q, some()) {
			t.Errorf("a change is not seen: %s", name)
		}
	}
}

func TestRoomyHasMemoryOfItsOwn(t *testing.T) {
	p := some()
	for _, change := range changes {
		q := progs.Roomy(p)
		change(&q)
	}
	if !progs.Equal(p, some()) {
		t.Errorf("%v became %v", some(), p)
	}
}

func TestNilAndEmptyListsAreAlike(t *testing.T) {
	p := api.Program{Decls: []api.Decl{}, Waits: [][][]api.Need{}, Funcs: []api.Func{}}
	if !progs.Equal(p, api.Program{}) || !progs.Equal(api.Program{}, p) {
		t.Error("they are not")
	}
	if !progs.Kept(progs.Roomy(p), api.Program{}) || !progs.Kept(progs.Roomy(api.Program{}), p) {
		t.Error("with spare room they are not")
	}
}

func TestDrawnProgramsMayBe(t *testing.T) {
	r := draws.Row(1)
	var objects, waits, functions, instructions []int
	for range 2000 {
		p := progs.Drawn(&r)
		if e := prog.Check(p); e != api.OK {
			t.Fatalf("%v: %v", p, e)
		}
		objects, waits, functions = append(objects, len(p.Decls)), append(waits, len(p.Waits)), append(functions, len(p.Funcs))
		for _, f := range p.Funcs {
			instructions = append(instructions, len(f.Code))
		}
	}
	for _, x := range []struct {
		l           []int
		least, most int
	}{{objects, 1, 32}, {waits, 0, 32}, {functions, 1, 16}, {instructions, 1, 200}} {
		if slices.Min(x.l) != x.least || slices.Max(x.l) != x.most {
			t.Errorf("from %d to %d, not from %d to %d", slices.Min(x.l), slices.Max(x.l), x.least, x.most)
		}
	}
}

func TestDrawnProgramsToRunMayRun(t *testing.T) {
	r := draws.Row(3)
	var ops [api.Ops]int
	var functions, instructions, most []int
	back, ahead := 0, 0
	for range 2000 {
		p := progs.DrawnToRun(&r)
		if where, e := verify.Program(p); e != api.OK {
			t.Fatalf("%v: %v at %v", p, e, where)
		}
		functions = append(functions, len(p.Funcs))
		for fn, f := range p.Funcs {
			depths, _, _ := depth.Of(p, fn)
			instructions, most = append(instructions, len(f.Code)), append(most, depth.Most(depths))
			for at, x := range f.Code {
				switch {
				case depths[at] < 0:
					continue
				case op.Form(x.Op) == "t" && x.A > at:
					ahead++
				case op.Form(x.Op) == "t":
					back++
				}
				ops[x.Op]++
			}
		}
	}
	if slices.Min(ops[:]) < 300 || slices.Min(functions) > 1 || slices.Max(functions) < 6 || slices.Min(instructions) > 2 || slices.Max(instructions) < 150 || slices.Min(most) > 1 || slices.Max(most) < 16 || back < 500 || ahead < 500 {
		t.Errorf("too few of a kind: %v, %d functions, %d instructions, %d values, %d back, %d ahead", ops, slices.Max(functions), slices.Max(instructions), slices.Max(most), back, ahead)
	}
}

func TestDrawnProgramsAreTheSameEachTime(t *testing.T) {
	for _, draw := range []func(r *draws.Row) api.Program{progs.Drawn, progs.DrawnToRun} {
		a, b := draws.Row(2), draws.Row(2)
		for range 100 {
			if p, q := draw(&a), draw(&b); !progs.Equal(p, q) || !progs.Apart(p, q) {
				t.Fatalf("%v, and then %v", p, q)
			}
		}
	}
}

// shares are ways in which two lists of two programs, or of one, may lie in one memory.
var shares = map[string]func(p, q *api.Program){
	"objects":                   func(p, q *api.Program) { q.Decls = p.Decls },
	"the last object":           func(p, q *api.Program) { q.Decls = p.Decls[1:2:2] },
	"room behind the objects":   func(p, q *api.Program) { p.Decls, q.Decls = p.Decls[:1], p.Decls[2:3] },
	"waits":                     func(p, q *api.Program) { q.Waits = p.Waits },
	"ways":                      func(p, q *api.Program) { q.Waits[1] = p.Waits[0] },
	"ways of one":               func(p, q *api.Program) { q.Waits[1] = q.Waits[0] },
	"needs":                     func(p, q *api.Program) { q.Waits[0][0] = p.Waits[1][1] },
	"needs of one":              func(p, q *api.Program) { p.Waits[0][0] = p.Waits[1][0] },
	"room behind needs":         func(p, q *api.Program) { p.Waits[0][0] = p.Waits[1][0][1:] },
	"functions":                 func(p, q *api.Program) { q.Funcs = p.Funcs[:1] },
	"instructions":              func(p, q *api.Program) { q.Funcs[0].Code = p.Funcs[1].Code },
	"instructions of one":       func(p, q *api.Program) { q.Funcs[0].Code = q.Funcs[1].Code[:1] },
	"room behind instructions":  func(p, q *api.Program) { q.Funcs[0].Code = q.Funcs[1].Code[2:] },
	"rooms behind instructions": func(p, q *api.Program) { p.Funcs[0].Code = q.Funcs[1].Code[2:] },
}

func TestEachMemoryThatIsSharedIsSeen(t *testing.T) {
	for name, share := range shares {
		p, q := progs.Roomy(some()), progs.Roomy(some())
		if !progs.Apart(p, q) {
			t.Fatalf("%v and %v are not apart", p, q)
		}
		share(&p, &q)
		if progs.Apart(p, q) || progs.Apart(q, p) {
			t.Errorf("what is shared is not seen: %s", name)
		}
	}
}

func TestListsWithoutMemoryAreApart(t *testing.T) {
	p := api.Program{Decls: []api.Decl{}, Waits: [][][]api.Need{{}, {}, {{}, {}}, nil}, Funcs: []api.Func{{Code: []api.Ins{}}, {Code: []api.Ins{}}, {}}}
	if !progs.Apart() || !progs.Apart(p) || !progs.Apart(api.Program{}, p, api.Program{}) {
		t.Error("they are not")
	}
	if progs.Apart(p, p) {
		t.Error("a program is apart from itself")
	}
}
