package progs

import (
	"slices"

	"logjam/api"
	"logjam/internal/draws"
	"logjam/need"
	"logjam/op"
)

// Drawn is a program that may be, be it fit to run or not.
func Drawn(r *draws.Row) api.Program {
	p := drawnObjects(r)
	for range 1 + r.Next()%16>>(r.Next()%5) {
		p.Funcs = append(p.Funcs, drawnFunc(r))
	}
	return p
}

// drawnObjects is a program that has objects, the first of which is a mutex, and waits alone.
func drawnObjects(r *draws.Row) api.Program {
	p := api.Program{Decls: []api.Decl{{Kind: api.Mutex}}}
	for range r.Next() % 32 >> (r.Next() % 6) {
		p.Decls = append(p.Decls, drawnDecl(r))
	}
	for range r.Next() % 33 >> (r.Next() % 6) {
		p.Waits = append(p.Waits, drawnWait(r, p.Decls))
	}
	return p
}

// drawnNumber is one of a letter's range.
func drawnNumber(r *draws.Row, letter byte) int {
	most := map[byte]uint64{'k': 8, 't': 200, 'f': 16, 'w': 32}
	if letter == 'n' {
		return int(int32(r.Next()) >> (r.Next() % 32))
	}
	if n := most[letter]; n > 0 {
		return int(r.Next() % n)
	}
	return int(r.Next() % 32)
}

// drawnIns is an instruction that may be.
func drawnIns(r *draws.Row) api.Ins {
	x := api.Ins{Op: int(r.Next() % api.Ops)}
	form := op.Form(x.Op)
	if form == "jj" {
		x.A, x.B = drawnCounts(r)
		return x
	}
	if len(form) > 0 {
		x.A = drawnNumber(r, form[0])
	}
	if len(form) > 1 {
		x.B = drawnNumber(r, form[1])
	}
	return x
}

// drawnCounts is how many of how many.
func drawnCounts(r *draws.Row) (int, int) {
	of := 1 + r.Next()%4
	return 1 + int(r.Next()%of), int(of)
}

// drawnFunc is a function that may be; most are short.
func drawnFunc(r *draws.Row) api.Func {
	f := api.Func{Locals: int(r.Next() % 9)}
	f.Args = int(r.Next() % uint64(f.Locals+1))
	for range 1 + r.Next()%200>>(r.Next()%8) {
		f.Code = append(f.Code, drawnIns(r))
	}
	return f
}

// drawnDecl is an object that may be, if the first one is a mutex.
func drawnDecl(r *draws.Row) api.Decl {
	d := api.Decl{Kind: 1 + int(r.Next()%7)}
	switch d.Kind {
	case api.Sem:
		d.B = 1 + int(r.Next()%1000)
		d.A = int(r.Next() % uint64(d.B+1))
	case api.Pool:
		d.A = 1 + int(r.Next()%1000)
	case api.Cell:
		d.A = drawnNumber(r, 'n')
	}
	return d
}

// drawnNeed is a need of an object that can be waited for; of another one it is the lock of the first one, a mutex.
func drawnNeed(r *draws.Row, d []api.Decl) api.Need {
	n := api.Need{Obj: int(r.Next() % uint64(len(d)))}
	switch o := d[n.Obj]; o.Kind {
	case api.Rw:
		n.Kind = api.Read + int(r.Next()%2)
	case api.Sem:
		n.Kind, n.N = api.Down, 1+int(r.Next()%uint64(o.B))
	case api.Pool:
		n.Kind, n.N = api.Take, 1+int(r.Next()%uint64(o.A))
	case api.Mutex:
		n.Kind = api.Lock
	default:
		n = api.Need{Kind: api.Lock}
	}
	return n
}

// drawnWait is a wait of which each way has what may be with the needs ahead of it.
func drawnWait(r *draws.Row, d []api.Decl) [][]api.Need {
	var w [][]api.Need
	for range 1 + r.Next()%4 {
		l := []api.Need{drawnNeed(r, d)}
		for range r.Next() % 4 {
			if more := append(slices.Clone(l), drawnNeed(r, d)); need.Check(d, [][]api.Need{more}) == api.OK {
				l = more
			}
		}
		w = append(w, l)
	}
	return w
}
