package progs

import (
	"logjam/api"
	"logjam/internal/lists"
)

// Apart tells whether no two lists of these programs, be they of one or of two, lie in one memory, their spare room included.
func Apart(programs ...api.Program) bool {
	var decls [][]api.Decl
	var waits [][][][]api.Need
	var ways [][][]api.Need
	var needs [][]api.Need
	var funcs [][]api.Func
	var code [][]api.Ins
	for _, p := range programs {
		decls, waits, funcs = append(decls, p.Decls), append(waits, p.Waits), append(funcs, p.Funcs)
		for _, w := range p.Waits {
			ways, needs = append(ways, w), append(needs, w...)
		}
		for _, f := range p.Funcs {
			code = append(code, f.Code)
		}
	}
	return lists.Apart(decls...) && lists.Apart(waits...) && lists.Apart(ways...) && lists.Apart(needs...) && lists.Apart(funcs...) && lists.Apart(code...)
}
