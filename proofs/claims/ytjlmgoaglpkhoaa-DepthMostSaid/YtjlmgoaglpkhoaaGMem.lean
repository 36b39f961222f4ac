/-
  Functions, waits and programs as they lie in memory, wherever they came from. No condition.
-/
import Derived.Test.YtjlmgoaglpkhoaaGOnce
import Derived.Test.YtjlmgoaglpkhoaaEOwn
namespace Go.Proofs.Ytjlmgoaglpkhoaa.pgm
open Go.RowKit Go.ChangeShapes
open Go.Proofs.Ytjlmgoaglpkhoaa.objs (De zero DAt I64 Ints)
open Go.Proofs.Ytjlmgoaglpkhoaa.need (WAt WG WIn Small)
set_option linter.unusedVariables false

/-- The three cells of a function: its arguments, its locals, its code's slice. -/
def FCells (w : World) (b i : Nat) (ar lo : Int) (v : Value) : Prop := w.cell? ⟨b, i, none⟩ = some (.int .i64 ar) ∧ w.cell? ⟨b, i + 1, none⟩ = some (.int .i64 lo) ∧ w.cell? ⟨b, i + 2, none⟩ = some v
theorem FCells.keep {w w' : World} {b i : Nat} {ar lo : Int} {v : Value} (h : FCells w b i ar lo v) (hb : w'.heap[b]? = w.heap[b]?) : FCells w' b i ar lo v :=
  ⟨(World.cell?_of_block (a := ⟨b, i, none⟩) hb).trans h.1, (World.cell?_of_block (a := ⟨b, i + 1, none⟩) hb).trans h.2.1, (World.cell?_of_block (a := ⟨b, i + 2, none⟩) hb).trans h.2.2⟩
/-- Functions, one behind the other, from where a slice begins: all of each. -/
def FsAt (w : World) (A : Option Addr) (l : List Fn) : Prop :=
  ∀ j, j < l.length → ∃ b off Aj cj, A = some ⟨b, off, none⟩ ∧ b < w.heap.size ∧ FCells w b (off + j * 3) (l.getD j Fn.zero).ar (l.getD j Fn.zero).lo (.slice Aj (l.getD j Fn.zero).co.length cj) ∧ DAt w Aj (l.getD j Fn.zero).co
theorem FsAt.next {w w' : World} {A : Option Addr} {l : List Fn} (h : FsAt w A l) (hb : Below w.heap.size w w') : FsAt w' A l := fun j hj => by
  obtain ⟨b, off, Aj, cj, h1, h2, h3, h4⟩ := h j hj
  exact ⟨b, off, Aj, cj, h1, Nat.lt_of_lt_of_le h2 hb.size, h3.keep (hb.block b h2), h4.next hb⟩
theorem FsAt.nil (w : World) (A : Option Addr) : FsAt w A [] := fun j hj => absurd hj (Nat.not_lt_zero j)
/-- The first twenty functions of a slice, of each the first 250 instructions. -/
def FsG (w : World) (A : Option Addr) (n : Nat) (l : List Fn) : Prop :=
  l.length = min n 20 ∧ ∀ j, j < l.length → ∃ b off Aj nj cj, A = some ⟨b, off, none⟩ ∧ b < w.heap.size ∧ FCells w b (off + j * 3) (l.getD j Fn.zero).ar (l.getD j Fn.zero).lo (.slice Aj nj cj) ∧ DAt w Aj (l.getD j Fn.zero).co ∧ (l.getD j Fn.zero).co.length = min nj 250 ∧ nj ≤ cj ∧ cj ≤ 9223372036854775807 ∧ (Aj = none → nj = 0 ∧ cj = 0)
theorem FsG.next {w w' : World} {A : Option Addr} {n : Nat} {l : List Fn} (h : FsG w A n l) (hb : Below w.heap.size w w') : FsG w' A n l := ⟨h.1, fun j hj => by
  obtain ⟨b, off, Aj, nj, cj, h1, h2, h3, h4, h5⟩ := h.2 j hj
  exact ⟨b, off, Aj, nj, cj, h1, Nat.lt_of_lt_of_le h2 hb.size, h3.keep (hb.block b h2), h4.next hb, h5⟩⟩
/-- Waits, one behind the other, from where a slice begins: all of each. -/
def WsAt (w : World) (A : Option Addr) (l : List (List (List De))) : Prop :=
  ∀ j, j < l.length → ∃ b off Aj cj, A = some ⟨b, off, none⟩ ∧ b < w.heap.size ∧ w.cell? ⟨b, off + j, none⟩ = some (.slice Aj (l.getD j []).length cj) ∧ WAt w Aj (l.getD j [])
theorem WsAt.next {w w' : World} {A : Option Addr} {l : List (List (List De))} (h : WsAt w A l) (hb : Below w.heap.size w w') : WsAt w' A l := fun j hj => by
  obtain ⟨b, off, Aj, cj, h1, h2, h3, h4⟩ := h j hj
  exact ⟨b, off, Aj, cj, h1, Nat.lt_of_lt_of_le h2 hb.size, (hb.cell (p := ⟨b, off + j, none⟩) h2).trans h3, h4.next hb⟩
theorem WsAt.nil (w : World) (A : Option Addr) : WsAt w A [] := fun j hj => absurd hj (Nat.not_lt_zero j)
/-- The first forty waits of a slice, of each the first six ways, of each the first six needs. -/
def WsG (w : World) (A : Option Addr) (n : Nat) (l : List (List (List De))) : Prop :=
  l.length = min n 40 ∧ ∀ j, j < l.length → ∃ b off Aj nj cj, A = some ⟨b, off, none⟩ ∧ b < w.heap.size ∧ w.cell? ⟨b, off + j, none⟩ = some (.slice Aj nj cj) ∧ WG w Aj nj (l.getD j []) ∧ nj ≤ cj ∧ cj ≤ 9223372036854775807 ∧ (Aj = none → nj = 0 ∧ cj = 0)
theorem WsG.next {w w' : World} {A : Option Addr} {n : Nat} {l : List (List (List De))} (h : WsG w A n l) (hb : Below w.heap.size w w') : WsG w' A n l := ⟨h.1, fun j hj => by
  obtain ⟨b, off, Aj, nj, cj, h1, h2, h3, h4, h5⟩ := h.2 j hj
  exact ⟨b, off, Aj, nj, cj, h1, Nat.lt_of_lt_of_le h2 hb.size, (hb.cell (p := ⟨b, off + j, none⟩) h2).trans h3, h4.next hb, h5⟩⟩
/-- A program's value that is whole, and one that came in, of any length. -/
def PAt (w : World) (v : Value) (p : Pg) : Prop := ∃ A B C ca cb cc, v = .agg #[.slice A p.ds.length ca, .slice B p.ws.length cb, .slice C p.fs.length cc] ∧ DAt w A p.ds ∧ WsAt w B p.ws ∧ FsAt w C p.fs
theorem PAt.next {w w' : World} {v : Value} {p : Pg} (h : PAt w v p) (hb : Below w.heap.size w w') : PAt w' v p := by
  obtain ⟨A, B, C, ca, cb, cc, h1, h2, h3, h4⟩ := h
  exact ⟨A, B, C, ca, cb, cc, h1, h2.next hb, h3.next hb, h4.next hb⟩
def PG (w : World) (v : Value) (p : Pg) : Prop := ∃ A B C na nb nc ca cb cc, v = .agg #[.slice A na ca, .slice B nb cb, .slice C nc cc] ∧ p.ds.length = min na 40 ∧ DAt w A p.ds ∧ WsG w B nb p.ws ∧ FsG w C nc p.fs ∧ (A = none → na = 0 ∧ ca = 0) ∧ (B = none → nb = 0 ∧ cb = 0) ∧ (C = none → nc = 0 ∧ cc = 0) ∧ (na ≤ ca ∧ ca ≤ 9223372036854775807) ∧ (nb ≤ cb ∧ cb ≤ 9223372036854775807) ∧ (nc ≤ cc ∧ cc ≤ 9223372036854775807)
theorem PG.next {w w' : World} {v : Value} {p : Pg} (h : PG w v p) (hb : Below w.heap.size w w') : PG w' v p := by
  obtain ⟨A, B, C, na, nb, nc, ca, cb, cc, h1, h0, h2, h3, h4, h5⟩ := h
  exact ⟨A, B, C, na, nb, nc, ca, cb, cc, h1, h0, h2.next hb, h3.next hb, h4.next hb, h5⟩
/-- A program of which the first forty objects and waits, and the first twenty functions, lie there: the caps of its own lists are left open. -/
def PH (w : World) (v : Value) (p : Pg) : Prop := ∃ A B C na nb nc ca cb cc, v = .agg #[.slice A na ca, .slice B nb cb, .slice C nc cc] ∧ p.ds.length = min na 40 ∧ DAt w A p.ds ∧ WsG w B nb p.ws ∧ FsG w C nc p.fs ∧ na ≤ 9223372036854775807 ∧ nb ≤ 9223372036854775807 ∧ nc ≤ 9223372036854775807
theorem PH.next {w w' : World} {v : Value} {p : Pg} (h : PH w v p) (hb : Below w.heap.size w w') : PH w' v p := by
  obtain ⟨A, B, C, na, nb, nc, ca, cb, cc, h1, h0, h2, h3, h4, h5⟩ := h
  exact ⟨A, B, C, na, nb, nc, ca, cb, cc, h1, h0, h2.next hb, h3.next hb, h4.next hb, h5⟩
theorem PG.head {w : World} {v : Value} {p : Pg} (h : PG w v p) : PH w v p := by
  obtain ⟨A, B, C, na, nb, nc, ca, cb, cc, h1, h0, h2, h3, h4, _, _, _, h5, h6, h7⟩ := h
  exact ⟨A, B, C, na, nb, nc, ca, cb, cc, h1, h0, h2, h3, h4, by omega, by omega, by omega⟩
/-- One that may be is there whole. -/
theorem FsG.whole {w : World} {A : Option Addr} {n : Nat} {l : List Fn} (h : FsG w A n l) (hl : l.length ≤ 16) (hw : ∀ f ∈ l, f.co.length ≤ 200) : n = l.length ∧ FsAt w A l := by
  refine ⟨by have := h.1; omega, fun j hj => ?_⟩
  obtain ⟨b, off, Aj, nj, cj, h1, h2, h3, h4, h5, _, _, h6⟩ := h.2 j hj
  have hm := hw _ (getD_in (d := Fn.zero) hj)
  have : nj = (l.getD j Fn.zero).co.length := by omega
  subst this
  exact ⟨b, off, Aj, cj, h1, h2, h3, h4⟩
theorem WsG.whole {w : World} {A : Option Addr} {n : Nat} {l : List (List (List De))} (h : WsG w A n l) (hl : l.length ≤ 32) (hw : ∀ x ∈ l, x.length ≤ 4 ∧ ∀ y ∈ x, y.length ≤ 4) : n = l.length ∧ WsAt w A l := by
  refine ⟨by have := h.1; omega, fun j hj => ?_⟩
  obtain ⟨b, off, Aj, nj, cj, h1, h2, h3, h4, _⟩ := h.2 j hj
  have hm := hw _ (getD_in (d := []) hj)
  obtain ⟨e, h5⟩ := h4.whole (by omega) (fun y hy => by have := hm.2 y hy; omega)
  subst e
  exact ⟨b, off, Aj, cj, h1, h2, h3, h5⟩
theorem PG.whole {w : World} {v : Value} {p : Pg} (h : PG w v p) (hz : chkP p = 0) : PAt w v p := by
  obtain ⟨A, B, C, na, nb, nc, ca, cb, cc, rfl, h0, h2, h3, h4, a1, a2, a3, b1, b2, b3⟩ := h
  obtain ⟨g1, g2, g3, g4, g5, g6⟩ := chkP_zero hz
  have g0 := (Go.Proofs.Ytjlmgoaglpkhoaa.objs.chk_zero g1).1
  obtain rfl : na = p.ds.length := by omega
  obtain ⟨e1, h5⟩ := h3.whole g2 (fun x hx => by
    obtain ⟨_, q1, q2⟩ := Go.Proofs.Ytjlmgoaglpkhoaa.need.chkW_zero (g3 x hx)
    exact ⟨q1, fun y hy => (q2 y hy).2.1⟩)
  obtain ⟨e2, h6⟩ := h4.whole g5 (fun f hf => (chkFn_zero (g6 f hf)).2.2.1)
  subst e1
  subst e2
  exact ⟨A, B, C, ca, cb, cc, rfl, h2, h5, h6⟩
end Go.Proofs.Ytjlmgoaglpkhoaa.pgm
