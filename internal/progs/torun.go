package progs

import (
	"slices"

	"logjam/api"
	"logjam/decl"
	"logjam/internal/draws"
	"logjam/op"
)

// enough is how many instructions a function has at most, when one more statement is drawn: what that one takes, all values that may stand there, up and down, and a ret must find room behind it.
const enough = 140

// maker draws a program that may run.
type maker struct {
	r *draws.Row
	p api.Program
	// f is the function that is drawn; behind its last instruction so many values stand.
	f    api.Func
	have int
	// ahead is how many values stand ahead of each instruction. What no way leads to has a number, too: so each place may be gone to from wherever as many stand.
	ahead []int
	// open are the places of those that go to where no instruction stands yet.
	open []int
}

// DrawnToRun is a program that may run. Its functions go to and fro, call one another, and end, but it may take them long.
func DrawnToRun(r *draws.Row) api.Program {
	m := &maker{r: r, p: drawnObjects(r)}
	for fn := range 1 + m.below(6) {
		f := api.Func{Locals: m.below(9)}
		if fn > 0 {
			f.Args = m.below(f.Locals + 1)
		}
		m.p.Funcs = append(m.p.Funcs, f)
	}
	for fn := range m.p.Funcs {
		m.p.Funcs[fn].Code = m.code(m.p.Funcs[fn])
	}
	return m.p
}

// below is a number from 0 to n - 1.
func (m *maker) below(n int) int { return int(m.r.Next() % uint64(n)) }

// code is the instructions of a function.
func (m *maker) code(f api.Func) []api.Ins {
	m.f, m.have, m.ahead, m.open = f, 0, nil, nil
	for range m.below(120) >> m.below(4) {
		if m.below(4) == 0 {
			m.land()
		}
		if x, ok := m.any(); ok && len(m.f.Code) < enough {
			m.statement(x)
		}
	}
	m.end()
	return m.f.Code
}

// any is an instruction whose operands are there, but that where it goes to is not said yet; not ok, if there is none of the operation that was drawn. What is pure comes more often, what lays a value still more, and a ret, behind which nothing may come, less.
func (m *maker) any() (api.Ins, bool) {
	x := api.Ins{Op: m.below(api.Ops)}
	switch m.below(8) {
	case 0, 1, 2:
		x.Op = m.below(api.OpNow + 1)
	case 3:
		return m.value(), true
	}
	form := op.Form(x.Op)
	if form == "jj" {
		x.A, x.B = drawnCounts(m.r)
		return x, true
	}
	for k := range len(form) {
		l := m.fitting(x.Op, form[k])
		if len(l) == 0 {
			return api.Ins{}, false
		}
		*[]*int{&x.A, &x.B}[k] = l[m.below(len(l))]
	}
	return x, x.Op != api.OpRet || m.below(3) == 0
}

// fitting are numbers that may stand where a letter does.
func (m *maker) fitting(o int, letter byte) []int {
	switch letter {
	case 'n':
		return []int{drawnNumber(m.r, letter)}
	case 't':
		return []int{0}
	}
	var l []int
	for n := range 32 {
		there := decl.Fits(m.p.Decls, letter, n)
		switch letter {
		case 'k':
			there = n < m.f.Locals
		case 'w':
			there = n < len(m.p.Waits)
		case 'f':
			there = n < len(m.p.Funcs) && (o == api.OpCall || m.p.Funcs[n].Args == 1)
		}
		if there {
			l = append(l, n)
		}
	}
	return l
}

// statement is an instruction, and ahead of it what lets its stack be right.
func (m *maker) statement(x api.Ins) {
	takes := m.takes(x)
	for m.have < takes {
		m.put(m.value())
	}
	for m.have-takes+op.Pushes(x.Op) > api.MaxStack {
		m.put(api.Ins{Op: api.OpDrop})
	}
	if op.Form(x.Op) == "t" {
		x.A = m.target(m.have - takes)
	}
	m.put(x)
	if !op.Goes(x.Op) && len(m.open) > 0 {
		m.have = m.behind(m.open[m.below(len(m.open))])
		m.land()
	}
}

// put lays an instruction behind the others.
func (m *maker) put(x api.Ins) {
	m.ahead = append(m.ahead, m.have)
	m.f.Code = append(m.f.Code, x)
	m.have = m.behind(len(m.f.Code) - 1)
}

// takes is how many values an instruction takes.
func (m *maker) takes(x api.Ins) int {
	if x.Op == api.OpCall {
		return m.p.Funcs[x.A].Args
	}
	return op.Pops(x, 0)
}

// behind is how many values stand behind the instruction at a place.
func (m *maker) behind(at int) int {
	x := m.f.Code[at]
	return m.ahead[at] - m.takes(x) + op.Pushes(x.Op)
}

// value is an instruction that lays one more.
func (m *maker) value() api.Ins {
	switch m.below(6) {
	case 0:
		if m.f.Locals > 0 {
			return api.Ins{Op: api.OpLoad, A: m.below(m.f.Locals)}
		}
	case 1:
		if m.have > 0 {
			return api.Ins{Op: api.OpDup}
		}
	case 2:
		return api.Ins{Op: api.OpSelf}
	case 3:
		return api.Ins{Op: api.OpNow}
	}
	return api.Ins{Op: api.OpPush, A: drawnNumber(m.r, 'n')}
}

// target is a place at which so many values stand; if it is to be one that does not stand there yet, it is open, and 0.
func (m *maker) target(have int) int {
	var l []int
	for at, n := range m.ahead {
		if n == have {
			l = append(l, at)
		}
	}
	if len(l) > 0 && m.below(3) == 0 {
		return l[m.below(len(l))]
	}
	m.open = append(m.open, len(m.f.Code))
	return 0
}

// land lets those that are open go to where the next instruction will stand, if behind them stand as many values as there.
func (m *maker) land() {
	m.open = slices.DeleteFunc(m.open, func(at int) bool {
		lands := m.behind(at) == m.have
		if lands {
			m.f.Code[at].A = len(m.f.Code)
		}
		return lands
	})
}

// end lets all land that are open, and ends the function.
func (m *maker) end() {
	least, greatest := m.have, m.have
	for _, at := range m.open {
		least, greatest = min(least, m.behind(at)), max(greatest, m.behind(at))
	}
	for m.have < greatest {
		m.put(m.value())
	}
	for m.land(); m.have > least; m.land() {
		m.put(api.Ins{Op: api.OpDrop})
	}
	if m.have == 0 {
		m.put(m.value())
	}
	m.put(api.Ins{Op: api.OpRet})
}
