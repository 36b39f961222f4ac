package progs

import "logjam/api"

// seen is elements of lists, by where they lie.
type seen[T any] map[*T]struct{}

// Apart tells whether no two lists of these programs, be they of one or of two, lie in one memory, their spare room included.
func Apart(programs ...api.Program) bool {
	decls, waits, ways, needs := seen[api.Decl]{}, seen[[][]api.Need]{}, seen[[]api.Need]{}, seen[api.Need]{}
	funcs, code := seen[api.Func]{}, seen[api.Ins]{}
	apart := true
	for _, p := range programs {
		apart = apart && decls.isNew(p.Decls) && waits.isNew(p.Waits) && funcs.isNew(p.Funcs)
		for _, w := range p.Waits {
			apart = apart && ways.isNew(w)
			for _, way := range w {
				apart = apart && needs.isNew(way)
			}
		}
		for _, f := range p.Funcs {
			apart = apart && code.isNew(f.Code)
		}
	}
	return apart
}

// isNew tells whether no element of a list was seen ahead. All of them are then.
func (s seen[T]) isNew(l []T) bool {
	many := len(s)
	l = l[:cap(l)]
	for k := range l {
		s[&l[k]] = struct{}{}
	}
	return len(s) == many+len(l)
}
