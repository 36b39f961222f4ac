// Package progs has programs for tests: with instructions in writing, drawn ones, and such with spare room in which it is seen whether somebody wrote there.
package progs

import (
	"slices"
	"strconv"
	"strings"

	"logjam/api"
	"logjam/internal/lists"
	"logjam/op"
)

// Code is instructions in writing: a name and its operands each, with a comma between each two. A text that is none panics: it is a test's own fault.
func Code(text string) []api.Ins {
	var l []api.Ins
	for part := range strings.SplitSeq(text, ",") {
		if words := strings.Fields(part); len(words) > 0 {
			l = append(l, instruction(words))
		}
	}
	return l
}

// Equal tells whether two programs are the same.
func Equal(p, q api.Program) bool {
	ways := func(v, w [][]api.Need) bool { return slices.EqualFunc(v, w, slices.Equal) }
	funcs := func(f, g api.Func) bool {
		return f.Args == g.Args && f.Locals == g.Locals && slices.Equal(f.Code, g.Code)
	}
	return slices.Equal(p.Decls, q.Decls) && slices.EqualFunc(p.Waits, q.Waits, ways) && slices.EqualFunc(p.Funcs, q.Funcs, funcs)
}

// Roomy is a program of lists with spare room, which shares no memory with the one it was made of.
func Roomy(p api.Program) api.Program {
	q := api.Program{Decls: lists.Room(p.Decls, api.Decl{Kind: 80, A: 81, B: 82}), Waits: lists.Room(p.Waits, [][]api.Need{{{Obj: 70}}}), Funcs: lists.Room(p.Funcs, api.Func{Args: 60})}
	for k := range q.Waits {
		q.Waits[k] = lists.Room(q.Waits[k], []api.Need{{Obj: 71}})
		for n := range q.Waits[k] {
			q.Waits[k][n] = lists.Room(q.Waits[k][n], api.Need{Kind: 77, Obj: 78, N: 79})
		}
	}
	for k := range q.Funcs {
		q.Funcs[k].Code = lists.Room(q.Funcs[k].Code, api.Ins{Op: 90, A: 91, B: 92})
	}
	return q
}

// Kept tells whether what was made by Roomy of a program is still so, its spare room included.
func Kept(roomy, p api.Program) bool {
	return Equal(roomy, p) && Equal(whole(roomy), whole(Roomy(p)))
}

// instruction is the one that a name and operands are.
func instruction(words []string) api.Ins {
	o, ok := op.Of(words[0])
	if !ok {
		panic("no operation: " + words[0])
	}
	var l [2]int
	for k, word := range words[1:] {
		n, err := strconv.Atoi(word)
		if err != nil {
			panic(err)
		}
		l[k] = n
	}
	return api.Ins{Op: o, A: l[0], B: l[1]}
}

// whole is a program with all that stands in its spare room.
func whole(p api.Program) api.Program {
	q := api.Program{Decls: p.Decls[:cap(p.Decls)]}
	for _, w := range p.Waits[:cap(p.Waits)] {
		var ways [][]api.Need
		for _, way := range w[:cap(w)] {
			ways = append(ways, way[:cap(way)])
		}
		q.Waits = append(q.Waits, ways)
	}
	for _, f := range p.Funcs[:cap(p.Funcs)] {
		f.Code = f.Code[:cap(f.Code)]
		q.Funcs = append(q.Funcs, f)
	}
	return q
}
