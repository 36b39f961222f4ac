/-
  Texts of one claim in one file: EOwn, GMem, GRefFn, ERefPut, DRefPut, GRefPut, EGot, EPost, ERefRead. Each has its own sentence, with its conditions.
-/
import Derived.Test.YtnhoeboighndlaaGreatDoorYall11
import Derived.Test.YtnhoeboighndlaaGreatDoorYall21
import Derived.Test.YtnhoeboighndlaaGreatDoorYall7
import Derived.Test.YtnhoeboighndlaaGreatDoorYall15
import Derived.Test.YtnhoeboighndlaaGreatDoorYall12
import Derived.Test.YtnhoeboighndlaaGreatDoorYall8
import Derived.Test.YtnhoeboighndlaaGreatDoorYall16
import Derived.Test.YtnhoeboighndlaaGreatDoorYall13
import Derived.Test.YtnhoeboighndlaaGreatDoorYall2
/-
  What the statements make of their own arguments: objects and waits in memory of their own, and whether objects may be. No condition but that lengths are ints.
-/
namespace Go.Proofs.YtnhoeboighndlaaGreatDoor.need
open Go.RowKit Go.ChangeShapes
open Go.Proofs.YtnhoeboighndlaaGreatDoor.objs (De zero CellsAt DAt chk chk_long chk_zero Own own_new own_copy wpList_appD LIn Ints I64 ChkPost refCheck_any refCheck_long)
set_option linter.unusedVariables false

def DeclPost (l : List De) (w : World) (e : Ending) (w' : World) : Prop := ∃ A2 c2, e = .returned (.slice A2 l.length c2) ∧ DAt w' A2 l ∧ Below w.heap.size w w'
def BadPost (l : List De) (w : World) (e : Ending) (w' : World) : Prop := e = .returned (.bool (decide ((chk l).2 ≠ 0))) ∧ Below w.heap.size w w'
/-- A wait that came in: the first six of its ways, of each the first six needs, all of ints. -/
def WIn (w : World) (A : Option Addr) (n cap : Nat) (l : List (List De)) : Prop := (A = none → n = 0 ∧ cap = 0) ∧ n ≤ cap ∧ cap ≤ 9223372036854775807 ∧ WG w A n l ∧ ∀ x ∈ l, ∀ t ∈ x, Small t
theorem OwnW.whole {W : World} {base n cap : Nat} {A : Option Addr} {l : List (List De)} (h : OwnW W base (.slice A n cap) l) (hl : l.length ≤ 6) (hll : ∀ x ∈ l, x.length ≤ 6) : WG W A l.length l := by
  refine ⟨by omega, fun j hj => ?_⟩
  obtain ⟨xs, h1, h2⟩ := h
  obtain ⟨x, h3, h4⟩ := h2 j hj
  have h6 := hll _ (getW_mem hj)
  rcases h1.2 with ⟨e, h0⟩ | ⟨g, cap', cur, e, hb, hh, _⟩
  · omega
  · injection e with e1 e2 e3
    subst e1
    have hcell : W.cell? ⟨g, 0 + j, none⟩ = some x := by
      have := World.ownsRow.cells h1 (g := g) rfl _ _ h3
      rwa [Addr.add_lit] at this
    rcases h4.2 with ⟨rfl, h0⟩ | ⟨g', c', cur', rfl, hb', hh', hn, hm, _⟩
    · refine ⟨g, 0, none, 0, 0, rfl, lt_of_block hh, hcell, ?_, by omega, Nat.le_refl _, by omega, fun _ => ⟨rfl, rfl⟩⟩
      have := List.length_eq_zero_iff.1 h0
      rw [this]
      exact Go.Proofs.YtnhoeboighndlaaGreatDoor.objs.DAt.nil _ _
    · refine ⟨g, 0, some ⟨g', 0, none⟩, (l.getD j []).length, c', rfl, lt_of_block hh, hcell, h4.at, by omega, hn, by simpa [maxLen] using hm, fun h => by cases h⟩
theorem WG.short {w : World} {A : Option Addr} {n : Nat} {l : List (List De)} (h : WG w A n l) : l.length ≤ 6 ∧ ∀ x ∈ l, x.length ≤ 6 := by
  refine ⟨by have := h.1; omega, fun x hx => ?_⟩
  obtain ⟨j, hj, rfl⟩ := List.getElem_of_mem hx
  obtain ⟨_, _, _, nj, _, _, _, _, _, h5, _⟩ := h.2 j hj
  rw [List.getD_eq_getElem?_getD, List.getElem?_eq_getElem hj, Option.getD_some] at h5
  omega
def OwnPost (l : List (List De)) (w : World) (e : Ending) (w' : World) : Prop := ∃ A2 c2, e = .returned (.slice A2 l.length c2) ∧ WAt w' A2 l ∧ WG w' A2 l.length l ∧ Below w.heap.size w w'
/-- The same, and that its rows are the call's own. -/
def OwnMore (l : List (List De)) (w : World) (e : Ending) (w' : World) : Prop := ∃ A2 c2, e = .returned (.slice A2 l.length c2) ∧ OwnW w' w.heap.size (.slice A2 l.length c2) l ∧ Below w.heap.size w w'
theorem ownN_new (W : World) : OwnN (W.alloc (.cells #[] 79)) W.heap.size (.slice (some ⟨W.heap.size, 0, none⟩) 0 0) [] := OwnN.empty (heap_alloc_new W _)
/-- Behind the copy of a way. -/
theorem ownN_copy {W W2 : World} {v2 : Value} {l : List De} {r : Option Nat} (h1 : OwnN W2 W.heap.size v2 l) (hg : (W.alloc (.cells #[] 79)).grownBy W2 r) (hr : ∀ k, r = some k → k = W.heap.size) : Below W.heap.size W W2 :=
  ((Below.refl _ W).alloc (Nat.le_refl _) _).grown hg (by simp) (fun k e => by rw [hr k e]; exact Nat.le_refl _)
theorem take_more {l : List (List De)} {j : Nat} (h : j < l.length) : l.take (j + 1) = l.take j ++ [l.getD j []] := by
  rw [List.take_add_one, List.getD_eq_getElem?_getD, List.getElem?_eq_getElem h]
  rfl

set_option maxRecDepth 100000 in
set_option maxHeartbeats 8000000 in
theorem own_more (A : Option Addr) (n cap : Nat) (l : List (List De)) (hn : n ≤ 9223372036854775807) (w : World) (hA : WG w A n l) :
    Calls Tryz.prog 15 #[.slice A n cap] w (OwnMore l w) := by
  have HMin := Lib.hid hA.1
  have HSh := Lib.hid hA.short
  have HA := Lib.hid hA
  unfold OwnMore
  clear hA
  go_enter Tryz.func15, Tryz.ntmps15
  have hb0 : Below w.heap.size w (w.alloc (.cells #[] 75)) := (Below.refl _ w).alloc (Nat.le_refl _) _
  have HO0 : Hid (OwnW (w.alloc (.cells #[] 75)) w.heap.size (.slice (some ⟨w.heap.size, 0, none⟩) 0 0) []) := Lib.hid (OwnW.empty (heap_alloc_new w _))
  have HB0 := Lib.hid hb0
  clear hb0
  go_wp2_with fail
  generalize w.alloc (.cells #[] 75) = W0 at *
  go_loopw [3, 4] (fun o i wr => ∃ j : Nat, j ≤ l.length ∧ i = .int .i64 (j : Int) ∧ Hid (OwnW wr w.heap.size o (l.take j)) ∧ Hid (Below w.heap.size w wr)) (fun _ i _ => l.length - (intOf i).toNat)
  case atStart => exact ⟨0, Nat.zero_le _, rfl, HO0, HB0⟩
  case round =>
    obtain ⟨j, hj, rfl, HO, HB⟩ := hrel
    obtain ⟨Ao, co, ho⟩ := HO.out.slice
    have htl : (l.take j).length = j := by rw [List.length_take]; omega
    rw [htl] at ho
    subst ho
    by_cases hlt : j < l.length
    · obtain ⟨b, off, Aj, nj, cj, rfl, hbl, hc, hdj, hmj, hnc, hcm, hno⟩ := (HA.out.next HB.out).2 j hlt
      have HT := Lib.hid (take_more hlt)
      have hlt' : (j : Int) < (n : Int) := by have := HMin.out; omega
      have hlt6 : (j : Int) < 6 := by have := HMin.out; omega
      have hj0 : (0 : Int) ≤ (j : Int) := by omega
      have hj6 : j ≤ 5 := by have := HMin.out; omega
      have hl1 : (l.take j).length ≤ 6 := by omega
      generalize l.getD j [] = lj at *
      generalize l.take j = lt at *
      have hA1 := hdj.next ((Below.refl _ _).alloc (Nat.le_refl _) (.cells #[] 79))
      by_cases h6 : 6 < nj
      · have q6 : decide ((6 : Int) < (nj : Int)) = true := by simp; omega
        obtain ⟨a2, o2, rfl, hbl2, _⟩ := hdj 0 (by omega)
        have hl6 : lj.length = 6 := by omega
        have hc6 : (6 : Int) ≤ (cj : Int) := by omega
        have HBx := Lib.hid (show w.heap.size ≤ wr.heap.size from HB.out.size)
        clear hno hmj
        go_wp2_with (
          at_builtin
          refine wpList_appN (by rfl) (.tmp 27) (.tmp 28) (by rfl) wr.heap.size 6 cj (.slice (some ⟨wr.heap.size, 0, none⟩) 0 0) (some ⟨a2, o2, none⟩) [] lj (by rfl) (ownN_new wr) (by rfl) hl6.symm (fun h => by cases h) hA1 (by simp; omega) (by simp) ?_)
        intro v2 W2 hv2 hg2
        have hb2 := ownN_copy hv2 hg2 (fun k e => by simpa [Value.ownBlock] using e.symm)
        have hO2 := HO.out.next hb2
        have hx2 := hv2.base HBx.out
        obtain ⟨Av, cv, hve⟩ := hv2.slice
        rw [hl6] at hve
        subst hve
        have HB2 := Lib.hid (HB.out.trans (hb2.mono HB.out.size))
        clear hv2 hg2 hA1 hc
        go_wp2_with (
          at_builtin
          refine wpList_appW (w := W2) (by rfl) (.tmp 26) (.tmp 30) (by rfl) w.heap.size 1 (.slice Ao j co) _ lt lj (by rfl) hO2 (by rfl) hx2 (by rfl) (by omega) (HB2.out.size) ?_)
        intro v3 W3 hv3 hg3
        have HO3 := Lib.hid hv3
        have HB3 : Hid (Below w.heap.size w W3) := Lib.hid ((HB2.out.alloc HB2.out.size _).grown hg3 (by simp; have := HB2.out.size; omega) (fun k e => by
          obtain ⟨xs, h1, _⟩ := hO2
          exact (World.ownsRow.lt h1 k e).1))
        clear hv3 hg3 hO2 hx2
        go_wp2
        go_roundw
        case rel => exact ⟨j + 1, by omega, by go_num, by rw [HT.out]; exact HO3, HB3⟩
        case measure => simp [intOf]; omega
      · have q6 : decide ((6 : Int) < (nj : Int)) = false := by simp; omega
        obtain rfl : nj = lj.length := by omega
        have hno2 : Aj = none → lj = [] ∧ cj = 0 := fun h => ⟨List.length_eq_zero_iff.1 (hno h).1, (hno h).2⟩
        have HBx := Lib.hid (show w.heap.size ≤ wr.heap.size from HB.out.size)
        clear hno hmj
        go_wp2_with (
          at_builtin
          refine wpList_appN (by rfl) (.tmp 27) (.tmp 28) (by rfl) wr.heap.size lj.length cj (.slice (some ⟨wr.heap.size, 0, none⟩) 0 0) Aj [] lj (by rfl) (ownN_new wr) (by rfl) rfl hno2 hA1 (by simp; omega) (by simp) ?_)
        intro v2 W2 hv2 hg2
        have hb2 := ownN_copy hv2 hg2 (fun k e => by simpa [Value.ownBlock] using e.symm)
        have hO2 := HO.out.next hb2
        have hx2 := hv2.base HBx.out
        obtain ⟨Av, cv, rfl⟩ := hv2.slice
        have HB2 := Lib.hid (HB.out.trans (hb2.mono HB.out.size))
        clear hv2 hg2 hA1 hc
        go_wp2_with (
          at_builtin
          refine wpList_appW (w := W2) (by rfl) (.tmp 26) (.tmp 30) (by rfl) w.heap.size 1 (.slice Ao j co) _ lt lj (by rfl) hO2 (by rfl) hx2 (by rfl) (by omega) (HB2.out.size) ?_)
        intro v3 W3 hv3 hg3
        have HO3 := Lib.hid hv3
        have HB3 : Hid (Below w.heap.size w W3) := Lib.hid ((HB2.out.alloc HB2.out.size _).grown hg3 (by simp; have := HB2.out.size; omega) (fun k e => by
          obtain ⟨xs, h1, _⟩ := hO2
          exact (World.ownsRow.lt h1 k e).1))
        clear hv3 hg3 hO2 hx2
        go_wp2
        go_roundw
        case rel => exact ⟨j + 1, by omega, by go_num, by rw [HT.out]; exact HO3, HB3⟩
        case measure => simp [intOf]; omega
    · obtain rfl : j = l.length := by omega
      have hall : l.take l.length = l := List.take_length
      rw [hall] at HO
      have hmin := HMin.out
      by_cases hn6 : l.length < n
      · have q1 : (l.length : Int) < (n : Int) := by omega
        have q2 : ¬ (l.length : Int) < 6 := by omega
        have q3 : decide ((l.length : Int) < 6) = false := by simpa using q2
        clear hmin
        go_wp2_with fail
        go_ret
        exact ⟨Ao, co, rfl, HO.out, HB.out⟩
      · have q1 : decide ((l.length : Int) < (n : Int)) = false := by simp; omega
        clear hmin
        go_wp2_with fail
        go_ret
        exact ⟨Ao, co, rfl, HO.out, HB.out⟩
theorem own_any (A : Option Addr) (n cap : Nat) (l : List (List De)) (hn : n ≤ 9223372036854775807) (w : World) (hA : WG w A n l) :
    Calls Tryz.prog 15 #[.slice A n cap] w (OwnPost l w) :=
  (own_more A n cap l hn w hA).mono fun e w' ⟨A2, c2, h1, h2, h3⟩ => ⟨A2, c2, h1, h2.at, h2.whole hA.short.1 hA.short.2, h3⟩
end Go.Proofs.YtnhoeboighndlaaGreatDoor.need

/-
  Functions, waits and programs as they lie in memory, wherever they came from. No condition.
-/
namespace Go.Proofs.YtnhoeboighndlaaGreatDoor.pgm
open Go.RowKit Go.ChangeShapes
open Go.Proofs.YtnhoeboighndlaaGreatDoor.objs (De zero DAt I64 Ints)
open Go.Proofs.YtnhoeboighndlaaGreatDoor.need (WAt WG WIn Small)
set_option linter.unusedVariables false

/-- The three cells of a function: its arguments, its locals, its code's slice. -/
def FCells (w : World) (b i : Nat) (ar lo : Int) (v : Value) : Prop := w.cell? ⟨b, i, none⟩ = some (.int .i64 ar) ∧ w.cell? ⟨b, i + 1, none⟩ = some (.int .i64 lo) ∧ w.cell? ⟨b, i + 2, none⟩ = some v
theorem FCells.keep {w w' : World} {b i : Nat} {ar lo : Int} {v : Value} (h : FCells w b i ar lo v) (hb : w'.heap[b]? = w.heap[b]?) : FCells w' b i ar lo v :=
  ⟨(World.cell?_of_block (a := ⟨b, i, none⟩) hb).trans h.1, (World.cell?_of_block (a := ⟨b, i + 1, none⟩) hb).trans h.2.1, (World.cell?_of_block (a := ⟨b, i + 2, none⟩) hb).trans h.2.2⟩
/-- Functions, one behind the other, from where a slice begins: all of each. -/
def FsAt (w : World) (A : Option Addr) (l : List Fn) : Prop :=
  ∀ j, j < l.length → ∃ b off Aj cj, A = some ⟨b, off, none⟩ ∧ b < w.heap.size ∧ FCells w b (off + j * 3) (l.getD j Fn.zero).ar (l.getD j Fn.zero).lo (.slice Aj (l.getD j Fn.zero).co.length cj) ∧ DAt w Aj (l.getD j Fn.zero).co
theorem FsAt.next {w w' : World} {A : Option Addr} {l : List Fn} (h : FsAt w A l) (hb : Below w.heap.size w w') : FsAt w' A l := fun j hj => by
  obtain ⟨b, off, Aj, cj, h1, h2, h3, h4⟩ := h j hj
  exact ⟨b, off, Aj, cj, h1, Nat.lt_of_lt_of_le h2 hb.size, h3.keep (hb.block b h2), h4.next hb⟩
theorem FsAt.nil (w : World) (A : Option Addr) : FsAt w A [] := fun j hj => absurd hj (Nat.not_lt_zero j)
/-- The first twenty functions of a slice, of each the first 250 instructions. -/
def FsG (w : World) (A : Option Addr) (n : Nat) (l : List Fn) : Prop :=
  l.length = min n 20 ∧ ∀ j, j < l.length → ∃ b off Aj nj cj, A = some ⟨b, off, none⟩ ∧ b < w.heap.size ∧ FCells w b (off + j * 3) (l.getD j Fn.zero).ar (l.getD j Fn.zero).lo (.slice Aj nj cj) ∧ DAt w Aj (l.getD j Fn.zero).co ∧ (l.getD j Fn.zero).co.length = min nj 250 ∧ nj ≤ cj ∧ cj ≤ 9223372036854775807 ∧ (Aj = none → nj = 0 ∧ cj = 0)
theorem FsG.next {w w' : World} {A : Option Addr} {n : Nat} {l : List Fn} (h : FsG w A n l) (hb : Below w.heap.size w w') : FsG w' A n l := ⟨h.1, fun j hj => by
  obtain ⟨b, off, Aj, nj, cj, h1, h2, h3, h4, h5⟩ := h.2 j hj
  exact ⟨b, off, Aj, nj, cj, h1, Nat.lt_of_lt_of_le h2 hb.size, h3.keep (hb.block b h2), h4.next hb, h5⟩⟩
/-- Waits, one behind the other, from where a slice begins: all of each. -/
def WsAt (w : World) (A : Option Addr) (l : List (List (List De))) : Prop :=
  ∀ j, j < l.length → ∃ b off Aj cj, A = some ⟨b, off, none⟩ ∧ b < w.heap.size ∧ w.cell? ⟨b, off + j, none⟩ = some (.slice Aj (l.getD j []).length cj) ∧ WAt w Aj (l.getD j [])
theorem WsAt.next {w w' : World} {A : Option Addr} {l : List (List (List De))} (h : WsAt w A l) (hb : Below w.heap.size w w') : WsAt w' A l := fun j hj => by
  obtain ⟨b, off, Aj, cj, h1, h2, h3, h4⟩ := h j hj
  exact ⟨b, off, Aj, cj, h1, Nat.lt_of_lt_of_le h2 hb.size, (hb.cell (p := ⟨b, off + j, none⟩) h2).trans h3, h4.next hb⟩
theorem WsAt.nil (w : World) (A : Option Addr) : WsAt w A [] := fun j hj => absurd hj (Nat.not_lt_zero j)
/-- The first forty waits of a slice, of each the first six ways, of each the first six needs. -/
def WsG (w : World) (A : Option Addr) (n : Nat) (l : List (List (List De))) : Prop :=
  l.length = min n 40 ∧ ∀ j, j < l.length → ∃ b off Aj nj cj, A = some ⟨b, off, none⟩ ∧ b < w.heap.size ∧ w.cell? ⟨b, off + j, none⟩ = some (.slice Aj nj cj) ∧ WG w Aj nj (l.getD j []) ∧ nj ≤ cj ∧ cj ≤ 9223372036854775807 ∧ (Aj = none → nj = 0 ∧ cj = 0)
theorem WsG.next {w w' : World} {A : Option Addr} {n : Nat} {l : List (List (List De))} (h : WsG w A n l) (hb : Below w.heap.size w w') : WsG w' A n l := ⟨h.1, fun j hj => by
  obtain ⟨b, off, Aj, nj, cj, h1, h2, h3, h4, h5⟩ := h.2 j hj
  exact ⟨b, off, Aj, nj, cj, h1, Nat.lt_of_lt_of_le h2 hb.size, (hb.cell (p := ⟨b, off + j, none⟩) h2).trans h3, h4.next hb, h5⟩⟩
/-- A program's value that is whole, and one that came in, of any length. -/
def PAt (w : World) (v : Value) (p : Pg) : Prop := ∃ A B C ca cb cc, v = .agg #[.slice A p.ds.length ca, .slice B p.ws.length cb, .slice C p.fs.length cc] ∧ DAt w A p.ds ∧ WsAt w B p.ws ∧ FsAt w C p.fs
theorem PAt.next {w w' : World} {v : Value} {p : Pg} (h : PAt w v p) (hb : Below w.heap.size w w') : PAt w' v p := by
  obtain ⟨A, B, C, ca, cb, cc, h1, h2, h3, h4⟩ := h
  exact ⟨A, B, C, ca, cb, cc, h1, h2.next hb, h3.next hb, h4.next hb⟩
def PG (w : World) (v : Value) (p : Pg) : Prop := ∃ A B C na nb nc ca cb cc, v = .agg #[.slice A na ca, .slice B nb cb, .slice C nc cc] ∧ p.ds.length = min na 40 ∧ DAt w A p.ds ∧ WsG w B nb p.ws ∧ FsG w C nc p.fs ∧ (A = none → na = 0 ∧ ca = 0) ∧ (B = none → nb = 0 ∧ cb = 0) ∧ (C = none → nc = 0 ∧ cc = 0) ∧ (na ≤ ca ∧ ca ≤ 9223372036854775807) ∧ (nb ≤ cb ∧ cb ≤ 9223372036854775807) ∧ (nc ≤ cc ∧ cc ≤ 9223372036854775807)
theorem PG.next {w w' : World} {v : Value} {p : Pg} (h : PG w v p) (hb : Below w.heap.size w w') : PG w' v p := by
  obtain ⟨A, B, C, na, nb, nc, ca, cb, cc, h1, h0, h2, h3, h4, h5⟩ := h
  exact ⟨A, B, C, na, nb, nc, ca, cb, cc, h1, h0, h2.next hb, h3.next hb, h4.next hb, h5⟩
/-- A program of which the first forty objects and waits, and the first twenty functions, lie there: the caps of its own lists are left open. -/
def PH (w : World) (v : Value) (p : Pg) : Prop := ∃ A B C na nb nc ca cb cc, v = .agg #[.slice A na ca, .slice B nb cb, .slice C nc cc] ∧ p.ds.length = min na 40 ∧ DAt w A p.ds ∧ WsG w B nb p.ws ∧ FsG w C nc p.fs ∧ na ≤ 9223372036854775807 ∧ nb ≤ 9223372036854775807 ∧ nc ≤ 9223372036854775807
theorem PH.next {w w' : World} {v : Value} {p : Pg} (h : PH w v p) (hb : Below w.heap.size w w') : PH w' v p := by
  obtain ⟨A, B, C, na, nb, nc, ca, cb, cc, h1, h0, h2, h3, h4, h5⟩ := h
  exact ⟨A, B, C, na, nb, nc, ca, cb, cc, h1, h0, h2.next hb, h3.next hb, h4.next hb, h5⟩
theorem PG.head {w : World} {v : Value} {p : Pg} (h : PG w v p) : PH w v p := by
  obtain ⟨A, B, C, na, nb, nc, ca, cb, cc, h1, h0, h2, h3, h4, _, _, _, h5, h6, h7⟩ := h
  exact ⟨A, B, C, na, nb, nc, ca, cb, cc, h1, h0, h2, h3, h4, by omega, by omega, by omega⟩
/-- One that may be is there whole. -/
theorem FsG.whole {w : World} {A : Option Addr} {n : Nat} {l : List Fn} (h : FsG w A n l) (hl : l.length ≤ 16) (hw : ∀ f ∈ l, f.co.length ≤ 200) : n = l.length ∧ FsAt w A l := by
  refine ⟨by have := h.1; omega, fun j hj => ?_⟩
  obtain ⟨b, off, Aj, nj, cj, h1, h2, h3, h4, h5, _, _, h6⟩ := h.2 j hj
  have hm := hw _ (getD_in (d := Fn.zero) hj)
  have : nj = (l.getD j Fn.zero).co.length := by omega
  subst this
  exact ⟨b, off, Aj, cj, h1, h2, h3, h4⟩
theorem WsG.whole {w : World} {A : Option Addr} {n : Nat} {l : List (List (List De))} (h : WsG w A n l) (hl : l.length ≤ 32) (hw : ∀ x ∈ l, x.length ≤ 4 ∧ ∀ y ∈ x, y.length ≤ 4) : n = l.length ∧ WsAt w A l := by
  refine ⟨by have := h.1; omega, fun j hj => ?_⟩
  obtain ⟨b, off, Aj, nj, cj, h1, h2, h3, h4, _⟩ := h.2 j hj
  have hm := hw _ (getD_in (d := []) hj)
  obtain ⟨e, h5⟩ := h4.whole (by omega) (fun y hy => by have := hm.2 y hy; omega)
  subst e
  exact ⟨b, off, Aj, cj, h1, h2, h3, h5⟩
theorem PG.whole {w : World} {v : Value} {p : Pg} (h : PG w v p) (hz : chkP p = 0) : PAt w v p := by
  obtain ⟨A, B, C, na, nb, nc, ca, cb, cc, rfl, h0, h2, h3, h4, a1, a2, a3, b1, b2, b3⟩ := h
  obtain ⟨g1, g2, g3, g4, g5, g6⟩ := chkP_zero hz
  have g0 := (Go.Proofs.YtnhoeboighndlaaGreatDoor.objs.chk_zero g1).1
  obtain rfl : na = p.ds.length := by omega
  obtain ⟨e1, h5⟩ := h3.whole g2 (fun x hx => by
    obtain ⟨_, q1, q2⟩ := Go.Proofs.YtnhoeboighndlaaGreatDoor.need.chkW_zero (g3 x hx)
    exact ⟨q1, fun y hy => (q2 y hy).2.1⟩)
  obtain ⟨e2, h6⟩ := h4.whole g5 (fun f hf => (chkFn_zero (g6 f hf)).2.2.1)
  subst e1
  subst e2
  exact ⟨A, B, C, ca, cb, cc, rfl, h2, h5, h6⟩
end Go.Proofs.YtnhoeboighndlaaGreatDoor.pgm

/-
  The document's own answer of what is wrong with a function. No condition.
-/
namespace Go.Proofs.YtnhoeboighndlaaGreatDoor.pgm
open Go.RowKit Go.ChangeShapes
open Go.Proofs.YtnhoeboighndlaaGreatDoor.objs (De zero DAt)
open Go.Proofs.YtnhoeboighndlaaGreatDoor.inst (refCheck_any)
set_option linter.unusedVariables false

def NumPost (c : Nat) (w : World) (e : Ending) (w' : World) : Prop := e = .returned (.int .i64 (c : Nat)) ∧ Below w.heap.size w w'
def fnBox (ar lo : Int) (v : Value) : Obj := .cells #[.int .i64 ar, .int .i64 lo, v] 49
theorem fn_cells {w W : World} {ar lo : Int} {v : Value} (hb : Below (w.alloc (fnBox ar lo v)).heap.size (w.alloc (fnBox ar lo v)) W) : W.heap[w.heap.size]? = some (fnBox ar lo v) :=
  (hb.block _ (by rw [World.size_alloc]; omega)).trans (heap_alloc_new w _)

set_option maxRecDepth 100000 in
set_option maxHeartbeats 8000000 in
theorem refFn_any (A : Option Addr) (n c : Nat) (ar lo : Int) (l : List De) (hn : l.length = min n 250) (w : World) (hA : DAt w A l) :
    Calls Tryz.prog 18 #[.agg #[.int .i64 ar, .int .i64 lo, .slice A n c]] w (NumPost (chkFn ⟨ar, lo, l⟩) w) := by
  unfold NumPost
  obtain ⟨v, hv⟩ : ∃ v, v = chkFn ⟨ar, lo, l⟩ := ⟨_, rfl⟩
  rw [← hv]
  unfold chkFn at hv
  dsimp only at hv
  have hb0 : Below w.heap.size w (w.alloc (fnBox ar lo (.slice A n c))) := (Below.refl _ w).alloc (Nat.le_refl _) _
  have HB0 := Lib.hid hb0
  by_cases h1 : ar < 0 ∨ lo < ar ∨ 8 < lo
  · rw [if_pos h1] at hv
    clear hn hA hb0
    subst hv
    unfold fnBox at HB0
    by_cases a1 : ar < 0
    · clear h1
      go_enter Tryz.func18, Tryz.ntmps18
      go_wp2_with fail
      go_ret
      exact ⟨rfl, HB0.out⟩
    · by_cases a2 : lo < ar
      · have q1 : decide (ar < 0) = false := by simp; omega
        have q2 : decide (ar > lo) = true := by simp; omega
        clear h1 a1
        go_enter Tryz.func18, Tryz.ntmps18
        go_wp2_with fail
        go_ret
        exact ⟨rfl, HB0.out⟩
      · have a3 : 8 < lo := by omega
        have q1 : decide (ar < 0) = false := by simp; omega
        have q2 : decide (ar > lo) = false := by simp; omega
        clear h1 a1 a2
        go_enter Tryz.func18, Tryz.ntmps18
        go_wp2_with fail
        go_ret
        exact ⟨rfl, HB0.out⟩
  · rw [if_neg h1] at hv
    have q1 : decide (ar < 0) = false := by simp; omega
    have q2 : decide (ar > lo) = false := by simp; omega
    have q3 : decide (lo > 8) = false := by simp; omega
    by_cases h0 : n = 0
    · subst h0
      rw [if_pos (by omega)] at hv
      clear hA hb0 h1 hn
      subst hv
      unfold fnBox at HB0
      go_enter Tryz.func18, Tryz.ntmps18
      go_wp2_with fail
      go_ret
      exact ⟨rfl, HB0.out⟩
    · have q4 : ((n : Int) == 0) = false := by simpa using h0
      rw [if_neg (by omega)] at hv
      by_cases h2 : 200 < n
      · have q5 : decide ((n : Int) > 200) = true := by simp; omega
        rw [if_pos (by omega)] at hv
        clear hA hb0 h1 hn h0 h2
        subst hv
        unfold fnBox at HB0
        go_enter Tryz.func18, Tryz.ntmps18
        go_wp2_with fail
        go_ret
        exact ⟨rfl, HB0.out⟩
      · obtain rfl : n = l.length := by omega
        rw [if_neg (by omega)] at hv
        have q5 : decide ((l.length : Int) > 200) = false := by simp; omega
        have HV := Lib.hid hv
        have hl64 : l.length ≤ 9223372036854775807 := by omega
        have HA := Lib.hid hA
        have HL := Lib.hid h2
        clear hA hb0 h1 hn h0 h2 hv
        unfold fnBox at HB0
        go_enter Tryz.func18, Tryz.ntmps18
        go_wp2_with fail
        go_loopw [3] (fun i wr => ∃ j : Nat, j ≤ l.length ∧ i = .int .i64 (j : Int) ∧ Hid (v = firstE chkI (l.drop j)) ∧ Hid (Below (w.heap.size + 1) (w.alloc (.cells #[.int .i64 ar, .int .i64 lo, .slice A l.length c] 49)) wr)) (fun i _ => l.length - (intOf i).toNat)
        case atStart => exact ⟨0, Nat.zero_le _, rfl, Lib.hid (by simpa using HV.out), Lib.hid (Below.refl _ _)⟩
        case round =>
          obtain ⟨j, hj, rfl, HJ, HW⟩ := hrel
          have HD := Lib.hid (HA.out.next (HB0.out.trans (HW.out.mono (Nat.le_succ _))))
          have hblk : wr.heap[w.heap.size]? = some (.cells #[.int .i64 ar, .int .i64 lo, .slice A l.length c] 49) := (HW.out.block _ (Nat.lt_succ_self _)).trans (heap_alloc_new w _)
          have e2 : wr.cell? ⟨w.heap.size, 2, none⟩ = some (.slice A l.length c) := by unfold World.cell?; rw [hblk]; rfl
          clear hblk
          by_cases hlt : j < l.length
          · have HNx := Lib.hid (firstE_drop (f := chkI) zero hlt)
            obtain ⟨b, off, rfl, hbl, c0, c1, c2⟩ := HD.out j hlt
            have hlt' : (j : Int) < (l.length : Int) := by omega
            have hj0 : (0 : Int) ≤ (j : Int) := by omega
            have HO := Lib.hid (refCheck_any (l.getD j zero).1 (l.getD j zero).2.1 (l.getD j zero).2.2 wr)
            have hI : chkI (l.getD j zero) = Go.Proofs.YtnhoeboighndlaaGreatDoor.inst.chk (l.getD j zero).1 (l.getD j zero).2.1 (l.getD j zero).2.2 := rfl
            rw [← hI] at HO
            clear hI
            generalize l.getD j zero = t at *
            generalize chkI t = q at *
            obtain ⟨tk, ta, tb⟩ := t
            dsimp only at HO c0 c1 c2
            go_wp2_with fail
            refine HO.out.mono ?_
            rintro e w3 ⟨rfl, hb3⟩
            have HW3 := Lib.hid (HW.out.trans (hb3.mono (by have := HW.out.size; rw [World.size_alloc] at this; exact this)))
            have HB3 := Lib.hid (HB0.out.trans (HW3.out.mono (Nat.le_succ _)))
            clear hb3 c0 c1 c2 HO
            by_cases hq : q = 0
            · have HE : Hid (v = firstE chkI (l.drop (j + 1))) := Lib.hid (by rw [HJ.out, HNx.out, if_neg (by simp [hq])])
              have hq' : ((q : Int) != 0) = false := by simp [hq]
              clear hq
              go_wp2
              go_roundw
              case rel => have h200 := HL.out; exact ⟨j + 1, by omega, by go_num, HE, HW3⟩
              case measure => have h200 := HL.out; simp [intOf]; omega
            · have HE : Hid (v = q) := Lib.hid (by rw [HJ.out, HNx.out, if_pos hq])
              have hq' : ((q : Int) != 0) = true := by simpa using hq
              clear hq
              go_wp2
              go_ret
              exact ⟨by rw [HE.out]; rfl, HB3.out⟩
          · have H1 : Hid (v = 0) := Lib.hid (by
              obtain rfl : j = l.length := by omega
              rw [HJ.out, List.drop_length]; rfl)
            have HB3 := Lib.hid (HB0.out.trans (HW.out.mono (Nat.le_succ _)))
            have hge : decide ((j : Int) < (l.length : Int)) = false := by simp; omega
            go_wp2
            go_ret
            exact ⟨by rw [H1.out]; rfl, HB3.out⟩
end Go.Proofs.YtnhoeboighndlaaGreatDoor.pgm

/-
  The document's own bytes of a wait. No condition but that its numbers are small.
-/
namespace Go.Proofs.YtnhoeboighndlaaGreatDoor.need
open Go.RowKit Go.ChangeShapes
open Go.Proofs.YtnhoeboighndlaaGreatDoor.octet (mk_append size_mk num num_length_le Fits)
open Go.Proofs.YtnhoeboighndlaaGreatDoor.objs (De zero CellsAt DAt)
set_option linter.unusedVariables false

/-- What the bytes of a need ask of its numbers. -/
def Slim9 (n : De) : Prop := (1 ≤ n.1 ∧ n.1 ≤ 5) ∧ (0 ≤ n.2.1 ∧ n.2.1 ≤ 1000) ∧ (0 ≤ n.2.2 ∧ n.2.2 ≤ 1000)
/-- While a need is put: the wait, and the need that is put, in a block of its own. -/
structure P9 (w : World) (A : Option Addr) (l : List (List De)) (g : Nat) (k a b : Int) (W : World) : Prop where
  list : WAt W A l
  below : Below w.heap.size w W
  box : W.heap[g]? = some (needBox k a b)
theorem P9.next {w W W' : World} {A : Option Addr} {l : List (List De)} {g : Nat} {k a b : Int} (h : P9 w A l g k a b W) (hb : Below W.heap.size W W') : P9 w A l g k a b W' :=
  ⟨h.list.next hb, h.below.trans (hb.mono h.below.size), (hb.block g (lt_of_block h.box)).trans h.box⟩
theorem P9.cells {w W : World} {A : Option Addr} {l : List (List De)} {g : Nat} {k a b : Int} (h : P9 w A l g k a b W) :
    W.cell? ⟨g, 0, none⟩ = some (.int .i64 k) ∧ W.cell? ⟨g, 1, none⟩ = some (.int .i64 a) ∧ W.cell? ⟨g, 2, none⟩ = some (.int .i64 b) := by
  unfold World.cell?
  rw [h.box]
  exact ⟨rfl, rfl, rfl⟩
theorem p9_new {w wr : World} {A : Option Addr} {l : List (List De)} (k a b : Int) (hA : WAt wr A l) (hb : Below w.heap.size w wr) : P9 w A l wr.heap.size k a b (wr.alloc (needBox k a b)) :=
  ⟨hA.next ((Below.refl _ _).alloc (Nat.le_refl _) _), hb.alloc hb.size _, heap_alloc_new wr _⟩

end Go.Proofs.YtnhoeboighndlaaGreatDoor.need

/-
  The document's own bytes of objects that may be. No condition but that they may be.
-/
namespace Go.Proofs.YtnhoeboighndlaaGreatDoor.objs
open Go.RowKit Go.ChangeShapes
open Go.Proofs.YtnhoeboighndlaaGreatDoor.octet (run_one mk_append size_mk num zig num_length_le Fits)
open Go.Proofs.YtnhoeboighndlaaGreatDoor.word (Word)
set_option linter.unusedVariables false

/-- While objects are put: the list, and the one that is put, in a block of its own. -/
structure PS (w : World) (A : Option Addr) (l : List De) (g : Nat) (k a b : Int) (W : World) : Prop where
  list : DAt W A l
  below : Below w.heap.size w W
  box : W.heap[g]? = some (declBox k a b)
  old : w.heap.size ≤ g
theorem PS.next {w W W' : World} {A : Option Addr} {l : List De} {g : Nat} {k a b : Int} (h : PS w A l g k a b W) (hb : Below W.heap.size W W') : PS w A l g k a b W' :=
  ⟨h.list.next hb, h.below.trans (hb.mono h.below.size), (hb.block g (lt_of_block h.box)).trans h.box, h.old⟩
theorem PS.cells {w W : World} {A : Option Addr} {l : List De} {g : Nat} {k a b : Int} (h : PS w A l g k a b W) :
    W.cell? ⟨g, 0, none⟩ = some (.int .i64 k) ∧ W.cell? ⟨g, 1, none⟩ = some (.int .i64 a) ∧ W.cell? ⟨g, 2, none⟩ = some (.int .i64 b) := by
  have := h.box
  unfold World.cell?
  rw [this]
  exact ⟨rfl, rfl, rfl⟩
theorem ps_new {w wr : World} {A : Option Addr} {l : List De} {k a b : Int} (hA : DAt wr A l) (hb : Below w.heap.size w wr) : PS w A l wr.heap.size k a b (wr.alloc (declBox k a b)) :=
  ⟨hA.next ((Below.refl _ _).alloc (Nat.le_refl _) _), hb.alloc hb.size _, heap_alloc_new wr _, hb.size⟩

/-- The first part of the bytes, the kind's one, and a number's. -/
def PutInv (w : World) (A : Option Addr) (l : List De) (t i : Value) (wr : World) : Prop :=
  ∃ j : Nat, j ≤ l.length ∧ i = .int .i64 (j : Int) ∧ t = .string ⟨(num l.length ++ encs l j).toArray⟩ ∧ Hid (DAt wr A l ∧ Below w.heap.size w wr)

end Go.Proofs.YtnhoeboighndlaaGreatDoor.objs

/-
  The document's own bytes of a program that may be. No condition but that it may be.
-/
namespace Go.Proofs.YtnhoeboighndlaaGreatDoor.pgm
open Go.RowKit Go.ChangeShapes
open Go.Proofs.YtnhoeboighndlaaGreatDoor.octet (mk_append size_mk num num_length_le Fits)
open Go.Proofs.YtnhoeboighndlaaGreatDoor.objs (De zero DAt encL encL_le)
open Go.Proofs.YtnhoeboighndlaaGreatDoor.need (WAt encW encWs_le chkW chkW_zero)
set_option linter.unusedVariables false

theorem slim_of9 {d : List De} {l : List (List De)} (hd : (Go.Proofs.YtnhoeboighndlaaGreatDoor.objs.chk d).2 = 0) (h : chkW d l = 0) : ∀ x ∈ l, ∀ t ∈ x, Go.Proofs.YtnhoeboighndlaaGreatDoor.need.Slim9 t := fun x hx t ht => by
  obtain ⟨h1, h2, _, h4, h5⟩ := Go.Proofs.YtnhoeboighndlaaGreatDoor.need.need_small hd ((chkW_zero h).2.2 x hx |>.2.2 t ht)
  exact ⟨h1, by omega, by omega⟩
theorem encW_le {w : List (List De)} (h : w.length ≤ 4) (h2 : ∀ x ∈ w, x.length ≤ 4) : (encW w).length ≤ 554 := by
  have h1 := num_length_le w.length
  have h3 := encWs_le (w := w) (fun x hx => by have := h2 x hx; omega) w.length (Nat.le_refl _)
  simp only [encW, List.length_append]
  omega
theorem encIn_le (x : De) : (encIn x).length ≤ 21 := Go.Proofs.YtnhoeboighndlaaGreatDoor.inst.encI_le x.1 x.2.1 x.2.2
theorem encFn_le {f : Fn} (h : f.co.length ≤ 200) : (encFn f).length ≤ 4230 := by
  have h1 := num_length_le f.ar.toNat
  have h2 := num_length_le f.lo.toNat
  have h3 := num_length_le f.co.length
  have h4 := encAll_le (e := encIn) (d := zero) (l := f.co) (c := 21) (fun x _ => encIn_le x) f.co.length (Nat.le_refl _)
  simp only [encFn, List.length_append]
  omega

/-- A region that draws its order, whose operations only read and whose callees leave the world in a class of our own. -/
theorem wp_region_cls {P : Program} {C : World → Prop} {id : Nat} {Q : Exit → Act → World → Prop} {a : Act} {w : World} {l : List Oper} (hm : P.follows .mixedOrders = true) (hB : Region.lexB .any l.toArray = true) (hC : C { w with drawn := w.drawn + 1 })
    (h : wpQuiet P l.toArray C (fun a' => ∀ w', C w' → Q .normal a' w') l a) : (Code.region id l.toArray true).wp P Q a w :=
  wp_region_quiet (C := C) hm hB hC (by simpa using h)
/-- While a function is put: it stands in a block of its own. -/
structure PF (w W0 : World) (g : Nat) (a l : Int) (A : Option Addr) (n c : Nat) (co : List De) (W : World) : Prop where
  below : Below (w.heap.size + 1) W0 W
  size : w.heap.size + 1 ≤ W.heap.size
  box : W.heap[g]? = some (fnBox a l (.slice A n c))
  code : DAt W A co
theorem PF.next {w W0 W W' : World} {g : Nat} {a l : Int} {A : Option Addr} {n c : Nat} {co : List De} (h : PF w W0 g a l A n c co W) (hb : Below W.heap.size W W') : PF w W0 g a l A n c co W' :=
  ⟨h.below.trans (hb.mono h.size), Nat.le_trans h.size hb.size, (hb.block g (lt_of_block h.box)).trans h.box, h.code.next hb⟩
theorem PF.drew {w W0 W : World} {g : Nat} {a l : Int} {A : Option Addr} {n c : Nat} {co : List De} (h : PF w W0 g a l A n c co W) : PF w W0 g a l A n c co W.drew := ⟨h.below.drew, h.size, h.box, h.code.drew⟩
theorem PF.cells {w W0 W : World} {g : Nat} {a l : Int} {A : Option Addr} {n c : Nat} {co : List De} (h : PF w W0 g a l A n c co W) :
    W.cell? ⟨g, 0, none⟩ = some (.int .i64 a) ∧ W.cell? ⟨g, 1, none⟩ = some (.int .i64 l) ∧ W.cell? ⟨g, 2, none⟩ = some (.slice A n c) := by
  unfold World.cell?
  rw [h.box]
  exact ⟨rfl, rfl, rfl⟩

end Go.Proofs.YtnhoeboighndlaaGreatDoor.pgm

/-
  What a reading of a wait's bytes tells. No condition.
-/
namespace Go.Proofs.YtnhoeboighndlaaGreatDoor.need
open Go.RowKit Go.ChangeShapes
open Go.Proofs.YtnhoeboighndlaaGreatDoor.objs (De zero DAt)
set_option linter.unusedVariables false

theorem size_list (y : ByteArray) : y.size = y.data.toList.length := by rw [Array.length_toList]; rfl
/-- What a reading of bytes tells. -/
def GotPost9 (g : List (List De) × Nat × Nat) (w : World) (e : Ending) (w' : World) : Prop :=
  ∃ v, e = .returned (.tuple #[v, .int .i64 (g.2.1 : Int), .int .i64 (g.2.2 : Int)]) ∧ (∃ A cap, v = .slice A g.1.length cap ∧ WAt w' A g.1) ∧ Below w.heap.size w w'
end Go.Proofs.YtnhoeboighndlaaGreatDoor.need

/-
  What the program's bytes of a wait must come to. No condition.
-/
namespace Go.Proofs.YtnhoeboighndlaaGreatDoor.need
open Go.RowKit Go.ChangeShapes
open Go.Proofs.YtnhoeboighndlaaGreatDoor.objs (De zero DAt chk I64)
set_option linter.unusedVariables false

/-- The bytes that Put answers. -/
def putW (d : List De) (l : List (List De)) : List UInt8 := if chkW d l = 0 then encW l else []
def PutPost9 (d : List De) (l : List (List De)) (w : World) (e : Ending) (w' : World) : Prop := e = .returned (.tuple #[.string ⟨(putW d l).toArray⟩, .int .i64 (chkW d l : Nat)]) ∧ Below w.heap.size w w'
end Go.Proofs.YtnhoeboighndlaaGreatDoor.need

/-
  Memory while the document's reader goes over ways and needs: the reader, the row of ways, the row of needs, the need that is read. No condition.
-/
namespace Go.Proofs.YtnhoeboighndlaaGreatDoor.need
open Go.RowKit Go.ChangeShapes
open Go.Proofs.YtnhoeboighndlaaGreatDoor.octet (St rdByte rdNum Stands)
open Go.Proofs.YtnhoeboighndlaaGreatDoor.objs (De zero CellsAt DAt cells3 put3 put3_same put3_far put3_below rdN)
set_option linter.unusedVariables false

theorem OwnW.lt {w : World} {base g : Nat} {v : Value} {l : List (List De)} (h : OwnW w base v l) (hg : v.ownBlock = some g) : base ≤ g ∧ g < w.heap.size := by
  obtain ⟨xs, h1, _⟩ := h
  exact World.ownsRow.lt h1 g hg
theorem OwnW.keep {w w' : World} {base : Nat} {v : Value} {l : List (List De)} (h : OwnW w base v l) (hk : ∀ g, base ≤ g → w'.heap[g]? = w.heap[g]?) : OwnW w' base v l := by
  obtain ⟨xs, h1, h2⟩ := h
  refine ⟨xs, ⟨h1.1, h1.2.imp id ?_⟩, fun j hj => ?_⟩
  · rintro ⟨g, c, cur, rfl, hg, hh, r⟩
    exact ⟨g, c, cur, rfl, hg, (hk g hg).trans hh, r⟩
  · obtain ⟨x, h3, h4⟩ := h2 j hj
    exact ⟨x, h3, h4.keep fun g hg => hk g (h4.lt hg).1⟩
/-- What Read tells, and leaves. -/
def ReadPost9 (t : ByteArray) (r : List (List De) × St × Nat) (w : World) (e : Ending) (w' : World) : Prop :=
  ∃ (v : Value) (k : Nat), e = .returned (.tuple #[v, .agg #[.string t, .int .i64 (k : Int), .int .i64 (r.2.1.err : Int)], .int .i64 (r.2.2 : Int)]) ∧ Stands t k r.2.1.err r.2.1 ∧ OwnW w' w.heap.size v r.1 ∧ Below w.heap.size w w'
end Go.Proofs.YtnhoeboighndlaaGreatDoor.need
