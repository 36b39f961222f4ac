/-
  Texts of one claim in one file: DOps, EOps, GOps, DSame, ESame, EInt, ERefPut, DRefPut, GRefPut. Each has its own sentence, with its conditions.
-/
import Derived.Test.YtbekfjjajggffaaDoorVall1
import Derived.Test.YtbekfjjajggffaaDoorVall8
import Derived.Deep.Slices
import Derived.Test.YtbekfjjajggffaaDoorVall14
import Derived.Test.YtbekfjjajggffaaDoorVall3
import Derived.Test.YtbekfjjajggffaaDoorVall7
import Derived.Test.YtbekfjjajggffaaDoorVall9
import Derived.Test.YtbekfjjajggffaaDoorVall5
import Derived.Test.YtbekfjjajggffaaDoorVall21
/-
  A list of objects that came in, as it lies in memory. No condition.
-/
namespace Go.Proofs.YtbekfjjajggffaaDoor.objs
open Go.ChangeShapes Go.WideShapes Go.RowKit
set_option linter.unusedVariables false

theorem cells3i : Tryd.prog.cellsOf 3 = 1 := by kernel_rfl
theorem cellsDecl : Tryd.prog.cellsOf 48 = 3 := by kernel_rfl
theorem add_plain (b off i : Nat) : (⟨b, off, none⟩ : Addr).add i = ⟨b, off + i, none⟩ := Addr.add_lit ..
theorem i64_of {a : Int} (h : (Lit.int .i64 a).wf = true) : I64 a := by
  have hx : -9223372036854775808 ≤ a ∧ a ≤ 9223372036854775807 := by simpa [Lit.wf, IntKind.min, IntKind.max, IntKind.signed, IntKind.bits] using h
  exact hx

section
variable {H : Type} {enc : TypeId × Value → H} {w : World} {base : Nat} {spare : Nat → Bool} {held : Bool}

set_option maxRecDepth 100000 in
/-- One object, out of its three cells. -/
theorem one_decl {n : Nat} {cs : List Value} {y : DataW H × List MemPlace} (h : DataW.trod enc Tryd.prog w base spare held n 48 cs = some y) :
    ∃ o : De, cs = [.int .i64 o.1, .int .i64 o.2.1, .int .i64 o.2.2] ∧ I64 o.1 ∧ I64 o.2.1 ∧ I64 o.2.2 := by
  obtain ⟨xs, m, _, hy, hlen, hxl, hf⟩ := DataW.trod_struct Tryd.underlying48 h
  rw [cellsDecl] at hlen
  match cs, hlen with
  | [v0, v1, v2], _ =>
    match xs, hxl with
    | [y0, y1, y2], _ =>
      have f0 : DataW.trod enc Tryd.prog w base spare held m 3 [v0] = some y0 := by simpa [cells3i] using hf 0 _ rfl
      have f1 : DataW.trod enc Tryd.prog w base spare held m 3 [v1] = some y1 := by simpa [cells3i] using hf 1 _ rfl
      have f2 : DataW.trod enc Tryd.prog w base spare held m 3 [v2] = some y2 := by simpa [cells3i] using hf 2 _ rfl
      obtain ⟨k, e0, _, w0⟩ := DataW.trod_int Tryd.underlying3 f0
      obtain ⟨i, e1, _, w1⟩ := DataW.trod_int Tryd.underlying3 f1
      obtain ⟨j, e2, _, w2⟩ := DataW.trod_int Tryd.underlying3 f2
      refine ⟨(k, i, j), ?_, i64_of w0, i64_of w1, i64_of w2⟩
      simp only [List.cons.injEq, and_true] at e0 e1 e2
      rw [e0, e1, e2]

/-- A list of objects: nil, or its objects in their order, each where it lies; of a long one the first hundred. -/
theorem open_decls {fuel : Nat} {cs : List Value} {x : DataW H × List MemPlace} (hlt : ∀ p ∈ x.2, p.block < w.heap.size) (h : DataW.trod enc Tryd.prog w base spare held fuel 22 cs = some x) :
    ∃ (A : Option Addr) (n cap : Nat) (l : List De), cs = [.slice A n cap] ∧ LIn w A n cap l := by
  rcases Go.Deep.open_slice Tryd.underlying22 h with h0 | ⟨a, len, cap, m, n, D, Pl, hcs, hb, hl, hm, hmm, hx, hi⟩
  · exact ⟨none, 0, 0, [], h0.1, fun _ => ⟨rfl, rfl⟩, Nat.le_refl _, by omega, DAt.nil _ _, fun j hj => absurd hj (Nat.not_lt_zero j), rfl⟩
  · have hm' : cap ≤ 9223372036854775807 := by simpa [maxLen] using hm
    have hlm : len ≤ m := by rw [hmm]; split <;> omega
    have each : ∀ i, ∃ o : De, i < len → w.cell? (a.add (i * 3)) = some (.int .i64 o.1) ∧ w.cell? (a.add (i * 3 + 1)) = some (.int .i64 o.2.1) ∧ w.cell? (a.add (i * 3 + 2)) = some (.int .i64 o.2.2) ∧ I64 o.1 ∧ I64 o.2.1 ∧ I64 o.2.2 := by
      intro i
      by_cases hil : i < len
      · obtain ⟨cs', hc, ht⟩ := hi i (by omega)
        obtain ⟨o, he, hwf⟩ := one_decl ht
        obtain ⟨_, _, hat⟩ := World.cells?_some hc
        rw [cellsDecl] at hat
        subst he
        have a0 := hat 0 (by omega)
        have a1 := hat 1 (by omega)
        have a2 := hat 2 (by omega)
        rw [Go.Deep.add_add] at a0 a1 a2
        exact ⟨o, fun _ => ⟨a0, a1, a2, hwf⟩⟩
      · exact ⟨zero, fun hh => absurd hh hil⟩
    obtain ⟨ops, hall⟩ : ∃ ops : Nat → De, ∀ i, i < len → w.cell? (a.add (i * 3)) = some (.int .i64 (ops i).1) ∧ w.cell? (a.add (i * 3 + 1)) = some (.int .i64 (ops i).2.1) ∧ w.cell? (a.add (i * 3 + 2)) = some (.int .i64 (ops i).2.2) ∧ I64 (ops i).1 ∧ I64 (ops i).2.1 ∧ I64 (ops i).2.2 :=
      ⟨fun i => Classical.choose (each i), fun i hil => Classical.choose_spec (each i) hil⟩
    have hget : ∀ j, j < min len 100 → ((List.range (min len 100)).map ops).getD j zero = ops j := fun j hj => by
      rw [List.getD_eq_getElem?_getD, List.getElem?_map, List.getElem?_range hj]
      rfl
    have hlen : ((List.range (min len 100)).map ops).length = min len 100 := by simp
    refine ⟨some a, len, cap, (List.range (min len 100)).map ops, hcs, fun h => (by cases h), hl, hm', fun j hj => ?_, fun j hj => ?_, hlen⟩
    · rw [hlen] at hj
      have hbl : a.block < w.heap.size := by
        refine hlt (.cell a.block a.off) ?_
        rw [hx]
        exact List.mem_append_left _ (MemPlace.mem_row.2 ⟨0, by rw [cellsDecl]; omega, by simp⟩)
      obtain ⟨b, off, spot⟩ := a
      have hspot : spot = none := by simpa [Addr.add] using World.cell?_spot (hall 0 (by omega)).1
      subst hspot
      obtain ⟨h0, h1, h2, _⟩ := hall j (by omega)
      rw [add_plain] at h0 h1 h2
      rw [hget j hj]
      refine ⟨b, off, rfl, hbl, h0, ?_, ?_⟩
      · rw [Nat.add_assoc]; exact h1
      · rw [Nat.add_assoc]; exact h2
    · rw [hlen] at hj
      rw [hget j hj]
      exact (hall j (by omega)).2.2.2
end
end Go.Proofs.YtbekfjjajggffaaDoor.objs

/-
  A wait that came in, as it lies in memory: of its ways the first six, of each of them the first six needs. No condition.
-/
namespace Go.Proofs.YtbekfjjajggffaaDoor.need
open Go.ChangeShapes Go.WideShapes Go.RowKit
open Go.Proofs.YtbekfjjajggffaaDoor.objs (De zero DAt I64 cells3i i64_of)
set_option linter.unusedVariables false

theorem cellsNeed : Tryd.prog.cellsOf 71 = 3 := by kernel_rfl
theorem cellsRow : Tryd.prog.cellsOf 68 = 1 := by kernel_rfl

section
variable {H : Type} {enc : TypeId × Value → H} {w : World} {base : Nat} {spare : Nat → Bool} {held : Bool}

set_option maxRecDepth 100000 in
/-- One need, out of its three cells. -/
theorem one_need {n : Nat} {cs : List Value} {y : DataW H × List MemPlace} (h : DataW.trod enc Tryd.prog w base spare held n 71 cs = some y) :
    ∃ o : De, cs = [.int .i64 o.1, .int .i64 o.2.1, .int .i64 o.2.2] ∧ I64 o.1 ∧ I64 o.2.1 ∧ I64 o.2.2 := by
  obtain ⟨xs, m, _, hy, hlen, hxl, hf⟩ := DataW.trod_struct Tryd.underlying71 h
  rw [cellsNeed] at hlen
  match cs, hlen with
  | [v0, v1, v2], _ =>
    match xs, hxl with
    | [y0, y1, y2], _ =>
      have f0 : DataW.trod enc Tryd.prog w base spare held m 3 [v0] = some y0 := by simpa [cells3i] using hf 0 _ rfl
      have f1 : DataW.trod enc Tryd.prog w base spare held m 3 [v1] = some y1 := by simpa [cells3i] using hf 1 _ rfl
      have f2 : DataW.trod enc Tryd.prog w base spare held m 3 [v2] = some y2 := by simpa [cells3i] using hf 2 _ rfl
      obtain ⟨k, e0, _, w0⟩ := DataW.trod_int Tryd.underlying3 f0
      obtain ⟨i, e1, _, w1⟩ := DataW.trod_int Tryd.underlying3 f1
      obtain ⟨j, e2, _, w2⟩ := DataW.trod_int Tryd.underlying3 f2
      refine ⟨(k, i, j), ?_, i64_of w0, i64_of w1, i64_of w2⟩
      simp only [List.cons.injEq, and_true] at e0 e1 e2
      rw [e0, e1, e2]

/-- A list of needs: nil, or its needs in their order, each where it lies; of a long one the first six. -/
theorem open_needs {fuel : Nat} {cs : List Value} {x : DataW H × List MemPlace} (hlt : ∀ p ∈ x.2, p.block < w.heap.size) (h : DataW.trod enc Tryd.prog w base spare held fuel 68 cs = some x) :
    ∃ (A : Option Addr) (n cap : Nat) (l : List De), cs = [.slice A n cap] ∧ (A = none → n = 0 ∧ cap = 0) ∧ n ≤ cap ∧ cap ≤ 9223372036854775807 ∧ DAt w A l ∧ (∀ t ∈ l, Small t) ∧ l.length = min n 6 := by
  rcases Go.Deep.open_slice Tryd.underlying68 h with h0 | ⟨a, len, cap, m, n, D, Pl, hcs, hb, hl, hm, hmm, hx, hi⟩
  · exact ⟨none, 0, 0, [], h0.1, fun _ => ⟨rfl, rfl⟩, Nat.le_refl _, by omega, DAt.nil _ _, fun t ht => (by cases ht), rfl⟩
  · have hm' : cap ≤ 9223372036854775807 := by simpa [maxLen] using hm
    have hlm : len ≤ m := by rw [hmm]; split <;> omega
    have each : ∀ i, ∃ o : De, i < len → w.cell? (a.add (i * 3)) = some (.int .i64 o.1) ∧ w.cell? (a.add (i * 3 + 1)) = some (.int .i64 o.2.1) ∧ w.cell? (a.add (i * 3 + 2)) = some (.int .i64 o.2.2) ∧ I64 o.1 ∧ I64 o.2.1 ∧ I64 o.2.2 := by
      intro i
      by_cases hil : i < len
      · obtain ⟨cs', hc, ht⟩ := hi i (by omega)
        obtain ⟨o, he, hwf⟩ := one_need ht
        obtain ⟨_, _, hat⟩ := World.cells?_some hc
        rw [cellsNeed] at hat
        subst he
        have a0 := hat 0 (by omega)
        have a1 := hat 1 (by omega)
        have a2 := hat 2 (by omega)
        rw [Go.Deep.add_add] at a0 a1 a2
        exact ⟨o, fun _ => ⟨a0, a1, a2, hwf⟩⟩
      · exact ⟨zero, fun hh => absurd hh hil⟩
    obtain ⟨ops, hall⟩ : ∃ ops : Nat → De, ∀ i, i < len → w.cell? (a.add (i * 3)) = some (.int .i64 (ops i).1) ∧ w.cell? (a.add (i * 3 + 1)) = some (.int .i64 (ops i).2.1) ∧ w.cell? (a.add (i * 3 + 2)) = some (.int .i64 (ops i).2.2) ∧ I64 (ops i).1 ∧ I64 (ops i).2.1 ∧ I64 (ops i).2.2 :=
      ⟨fun i => Classical.choose (each i), fun i hil => Classical.choose_spec (each i) hil⟩
    have hget : ∀ j, j < min len 6 → ((List.range (min len 6)).map ops).getD j zero = ops j := fun j hj => by
      rw [List.getD_eq_getElem?_getD, List.getElem?_map, List.getElem?_range hj]
      rfl
    have hlen : ((List.range (min len 6)).map ops).length = min len 6 := by simp
    refine ⟨some a, len, cap, (List.range (min len 6)).map ops, hcs, fun h => (by cases h), hl, hm', fun j hj => ?_, fun t ht => ?_, hlen⟩
    · rw [hlen] at hj
      have hbl : a.block < w.heap.size := by
        refine hlt (.cell a.block a.off) ?_
        rw [hx]
        exact List.mem_append_left _ (MemPlace.mem_row.2 ⟨0, by rw [cellsNeed]; omega, by simp⟩)
      obtain ⟨b, off, spot⟩ := a
      have hspot : spot = none := by simpa [Addr.add] using World.cell?_spot (hall 0 (by omega)).1
      subst hspot
      obtain ⟨h0, h1, h2, _⟩ := hall j (by omega)
      rw [add_plain] at h0 h1 h2
      rw [hget j hj]
      refine ⟨b, off, rfl, hbl, h0, ?_, ?_⟩
      · rw [Nat.add_assoc]; exact h1
      · rw [Nat.add_assoc]; exact h2
    · obtain ⟨j, hj, rfl⟩ := List.mem_map.1 ht
      have hj2 := List.mem_range.1 hj
      exact (hall j (by omega)).2.2.2

/-- A list of ways: nil, or its ways in their order, each where it lies; of a long one the first six. -/
theorem open_wait {fuel : Nat} {cs : List Value} {x : DataW H × List MemPlace} (hlt : ∀ p ∈ x.2, p.block < w.heap.size) (h : DataW.trod enc Tryd.prog w base spare held fuel 52 cs = some x) :
    ∃ (A : Option Addr) (n cap : Nat) (l : List (List De)), cs = [.slice A n cap] ∧ WIn w A n cap l := by
  rcases Go.Deep.open_slice1 Tryd.underlying52 cellsRow h with h0 | ⟨a, len, cap, m, n, V, D, Pl, hcs, hb, hl, hm, hmm, hx, hi⟩
  · exact ⟨none, 0, 0, [], h0.1, fun _ => ⟨rfl, rfl⟩, Nat.le_refl _, by omega, ⟨rfl, fun j hj => absurd hj (Nat.not_lt_zero j)⟩, fun x hx => (by cases hx)⟩
  · have hm' : cap ≤ 9223372036854775807 := by simpa [maxLen] using hm
    have hlm : len ≤ m := by rw [hmm]; split <;> omega
    have each : ∀ i, ∃ y : Option Addr × Nat × Nat × List De, i < len → w.cell? (a.add i) = some (.slice y.1 y.2.1 y.2.2.1) ∧ (y.1 = none → y.2.1 = 0 ∧ y.2.2.1 = 0) ∧ y.2.1 ≤ y.2.2.1 ∧ y.2.2.1 ≤ 9223372036854775807 ∧ DAt w y.1 y.2.2.2 ∧ (∀ t ∈ y.2.2.2, Small t) ∧ y.2.2.2.length = min y.2.1 6 := by
      intro i
      by_cases hil : i < len
      · obtain ⟨hc, ht⟩ := hi i (by omega)
        have hlt2 : ∀ p ∈ (D i, Pl i).2, p.block < w.heap.size := fun p hp => by
          refine hlt p ?_
          rw [hx]
          exact List.mem_append_right _ (List.mem_flatMap.2 ⟨i, List.mem_range.2 (by omega), hp⟩)
        obtain ⟨A, n1, c1, l1, hv, h1, h2, h3, h4, h5, h6⟩ := open_needs hlt2 ht
        have hv2 : V i = .slice A n1 c1 := by simpa using hv
        exact ⟨(A, n1, c1, l1), fun _ => ⟨by rw [hc, hv2], h1, h2, h3, h4, h5, h6⟩⟩
      · exact ⟨(none, 0, 0, []), fun hh => absurd hh hil⟩
    obtain ⟨ys, hall⟩ : ∃ ys : Nat → Option Addr × Nat × Nat × List De, ∀ i, i < len → w.cell? (a.add i) = some (.slice (ys i).1 (ys i).2.1 (ys i).2.2.1) ∧ ((ys i).1 = none → (ys i).2.1 = 0 ∧ (ys i).2.2.1 = 0) ∧ (ys i).2.1 ≤ (ys i).2.2.1 ∧ (ys i).2.2.1 ≤ 9223372036854775807 ∧ DAt w (ys i).1 (ys i).2.2.2 ∧ (∀ t ∈ (ys i).2.2.2, Small t) ∧ (ys i).2.2.2.length = min (ys i).2.1 6 :=
      ⟨fun i => Classical.choose (each i), fun i hil => Classical.choose_spec (each i) hil⟩
    have hget : ∀ j, j < min len 6 → ((List.range (min len 6)).map fun i => (ys i).2.2.2).getD j [] = (ys j).2.2.2 := fun j hj => by
      rw [List.getD_eq_getElem?_getD, List.getElem?_map, List.getElem?_range hj]
      rfl
    have hlen : ((List.range (min len 6)).map fun i => (ys i).2.2.2).length = min len 6 := by simp
    refine ⟨some a, len, cap, (List.range (min len 6)).map fun i => (ys i).2.2.2, hcs, fun h => (by cases h), hl, hm', ⟨hlen, fun j hj => ?_⟩, fun t ht => ?_⟩
    · rw [hlen] at hj
      have hbl : a.block < w.heap.size := by
        refine hlt (.cell a.block a.off) ?_
        rw [hx]
        exact List.mem_append_left _ (MemPlace.mem_row.2 ⟨0, by omega, by simp⟩)
      obtain ⟨b, off, spot⟩ := a
      have hspot : spot = none := by simpa [Addr.add] using World.cell?_spot (hall 0 (by omega)).1
      subst hspot
      obtain ⟨h0, h1, h2, h3, h4, _, h6⟩ := hall j (by omega)
      rw [add_plain] at h0
      rw [hget j hj]
      exact ⟨b, off, (ys j).1, (ys j).2.1, (ys j).2.2.1, rfl, hbl, h0, h4, h6, h2, h3, h1⟩
    · obtain ⟨j, hj, rfl⟩ := List.mem_map.1 ht
      have hj2 := List.mem_range.1 hj
      exact (hall j (by omega)).2.2.2.2.2.1
end
end Go.Proofs.YtbekfjjajggffaaDoor.need

/-
  A program that came in, as it lies in memory: its first forty objects and waits, its first twenty functions. No condition.
-/
namespace Go.Proofs.YtbekfjjajggffaaDoor.pgm
open Go.ChangeShapes Go.WideShapes Go.RowKit
open Go.Proofs.YtbekfjjajggffaaDoor.objs (De zero DAt I64 cells3i LIn open_decls CellsAt)
open Go.Proofs.YtbekfjjajggffaaDoor.need (WG WIn open_wait)
set_option linter.unusedVariables false

theorem cellsIns : Tryd.prog.cellsOf 46 = 3 := by kernel_rfl
theorem cellsFn : Tryd.prog.cellsOf 44 = 3 := by kernel_rfl
theorem cellsPg : Tryd.prog.cellsOf 26 = 3 := by kernel_rfl
theorem cellsCode : Tryd.prog.cellsOf 42 = 1 := by kernel_rfl
theorem cellsWait : Tryd.prog.cellsOf 52 = 1 := by kernel_rfl
theorem cellsDs : Tryd.prog.cellsOf 22 = 1 := by kernel_rfl
theorem cellsWs : Tryd.prog.cellsOf 23 = 1 := by kernel_rfl
theorem cellsFs : Tryd.prog.cellsOf 24 = 1 := by kernel_rfl

section
variable {H : Type} {enc : TypeId × Value → H} {w : World} {base : Nat} {spare : Nat → Bool} {held : Bool}

set_option maxRecDepth 100000 in
/-- One instruction, out of its three cells. -/
theorem one_ins {n : Nat} {cs : List Value} {y : DataW H × List MemPlace} (h : DataW.trod enc Tryd.prog w base spare held n 46 cs = some y) :
    ∃ o : De, cs = [.int .i64 o.1, .int .i64 o.2.1, .int .i64 o.2.2] := by
  obtain ⟨xs, m, _, hy, hlen, hxl, hf⟩ := DataW.trod_struct Tryd.underlying46 h
  rw [cellsIns] at hlen
  match cs, hlen with
  | [v0, v1, v2], _ =>
    match xs, hxl with
    | [y0, y1, y2], _ =>
      have f0 : DataW.trod enc Tryd.prog w base spare held m 3 [v0] = some y0 := by simpa [cells3i] using hf 0 _ rfl
      have f1 : DataW.trod enc Tryd.prog w base spare held m 3 [v1] = some y1 := by simpa [cells3i] using hf 1 _ rfl
      have f2 : DataW.trod enc Tryd.prog w base spare held m 3 [v2] = some y2 := by simpa [cells3i] using hf 2 _ rfl
      obtain ⟨k, e0, _, _⟩ := DataW.trod_int Tryd.underlying3 f0
      obtain ⟨i, e1, _, _⟩ := DataW.trod_int Tryd.underlying3 f1
      obtain ⟨j, e2, _, _⟩ := DataW.trod_int Tryd.underlying3 f2
      refine ⟨(k, i, j), ?_⟩
      simp only [List.cons.injEq, and_true] at e0 e1 e2
      rw [e0, e1, e2]
/-- A list of instructions: nil, or its instructions in their order; of a long one the first 250. -/
theorem open_code {fuel : Nat} {cs : List Value} {x : DataW H × List MemPlace} (hlt : ∀ p ∈ x.2, p.block < w.heap.size) (h : DataW.trod enc Tryd.prog w base spare held fuel 42 cs = some x) :
    ∃ (A : Option Addr) (n cap : Nat) (l : List De), cs = [.slice A n cap] ∧ (A = none → n = 0 ∧ cap = 0) ∧ n ≤ cap ∧ cap ≤ 9223372036854775807 ∧ DAt w A l ∧ l.length = min n 250 := by
  rcases Go.Deep.open_slice Tryd.underlying42 h with h0 | ⟨a, len, cap, m, n, D, Pl, hcs, hb, hl, hm, hmm, hx, hi⟩
  · exact ⟨none, 0, 0, [], h0.1, fun _ => ⟨rfl, rfl⟩, Nat.le_refl _, by omega, DAt.nil _ _, rfl⟩
  · have hm' : cap ≤ 9223372036854775807 := by simpa [maxLen] using hm
    have hlm : len ≤ m := by rw [hmm]; split <;> omega
    have each : ∀ i, ∃ o : De, i < len → w.cell? (a.add (i * 3)) = some (.int .i64 o.1) ∧ w.cell? (a.add (i * 3 + 1)) = some (.int .i64 o.2.1) ∧ w.cell? (a.add (i * 3 + 2)) = some (.int .i64 o.2.2) := by
      intro i
      by_cases hil : i < len
      · obtain ⟨cs', hc, ht⟩ := hi i (by omega)
        obtain ⟨o, he⟩ := one_ins ht
        obtain ⟨_, _, hat⟩ := World.cells?_some hc
        rw [cellsIns] at hat
        subst he
        have a0 := hat 0 (by omega)
        have a1 := hat 1 (by omega)
        have a2 := hat 2 (by omega)
        rw [Go.Deep.add_add] at a0 a1 a2
        exact ⟨o, fun _ => ⟨a0, a1, a2⟩⟩
      · exact ⟨zero, fun hh => absurd hh hil⟩
    obtain ⟨ops, hall⟩ : ∃ ops : Nat → De, ∀ i, i < len → w.cell? (a.add (i * 3)) = some (.int .i64 (ops i).1) ∧ w.cell? (a.add (i * 3 + 1)) = some (.int .i64 (ops i).2.1) ∧ w.cell? (a.add (i * 3 + 2)) = some (.int .i64 (ops i).2.2) :=
      ⟨fun i => Classical.choose (each i), fun i hil => Classical.choose_spec (each i) hil⟩
    have hget : ∀ j, j < min len 250 → ((List.range (min len 250)).map ops).getD j zero = ops j := fun j hj => by
      rw [List.getD_eq_getElem?_getD, List.getElem?_map, List.getElem?_range hj]
      rfl
    have hlen : ((List.range (min len 250)).map ops).length = min len 250 := by simp
    refine ⟨some a, len, cap, (List.range (min len 250)).map ops, hcs, fun h => (by cases h), hl, hm', fun j hj => ?_, hlen⟩
    rw [hlen] at hj
    have hbl : a.block < w.heap.size := by
      refine hlt (.cell a.block a.off) ?_
      rw [hx]
      exact List.mem_append_left _ (MemPlace.mem_row.2 ⟨0, by rw [cellsIns]; omega, by simp⟩)
    obtain ⟨b, off, spot⟩ := a
    have hspot : spot = none := by simpa [Addr.add] using World.cell?_spot (hall 0 (by omega)).1
    subst hspot
    obtain ⟨h0, h1, h2⟩ := hall j (by omega)
    rw [add_plain] at h0 h1 h2
    rw [hget j hj]
    refine ⟨b, off, rfl, hbl, h0, ?_, ?_⟩
    · rw [Nat.add_assoc]; exact h1
    · rw [Nat.add_assoc]; exact h2

set_option maxRecDepth 100000 in
/-- One function, out of its three cells. -/
theorem one_fn {n : Nat} {cs : List Value} {y : DataW H × List MemPlace} (hlt : ∀ p ∈ y.2, p.block < w.heap.size) (h : DataW.trod enc Tryd.prog w base spare held n 44 cs = some y) :
    ∃ (ar lo : Int) (A : Option Addr) (n cap : Nat) (l : List De), cs = [.int .i64 ar, .int .i64 lo, .slice A n cap] ∧ (A = none → n = 0 ∧ cap = 0) ∧ n ≤ cap ∧ cap ≤ 9223372036854775807 ∧ DAt w A l ∧ l.length = min n 250 := by
  obtain ⟨xs, m, _, hy, hlen, hxl, hf⟩ := DataW.trod_struct Tryd.underlying44 h
  rw [cellsFn] at hlen
  match cs, hlen with
  | [v0, v1, v2], _ =>
    match xs, hxl with
    | [y0, y1, y2], _ =>
      have f0 : DataW.trod enc Tryd.prog w base spare held m 3 [v0] = some y0 := by simpa [cells3i] using hf 0 _ rfl
      have f1 : DataW.trod enc Tryd.prog w base spare held m 3 [v1] = some y1 := by simpa [cells3i] using hf 1 _ rfl
      have f2 : DataW.trod enc Tryd.prog w base spare held m 42 [v2] = some y2 := by simpa [cellsCode] using hf 2 _ rfl
      obtain ⟨k, e0, _, _⟩ := DataW.trod_int Tryd.underlying3 f0
      obtain ⟨i, e1, _, _⟩ := DataW.trod_int Tryd.underlying3 f1
      obtain ⟨A, n2, cap, l, e2, r⟩ := open_code (fun p hp => hlt p (by rw [hy]; simp [hp])) f2
      refine ⟨k, i, A, n2, cap, l, ?_, r⟩
      simp only [List.cons.injEq, and_true] at e0 e1 e2
      rw [e0, e1, e2]
/-- A list of functions: nil, or its functions in their order; of a long one the first twenty. -/
theorem open_funcs {fuel : Nat} {cs : List Value} {x : DataW H × List MemPlace} (hlt : ∀ p ∈ x.2, p.block < w.heap.size) (h : DataW.trod enc Tryd.prog w base spare held fuel 24 cs = some x) :
    ∃ (A : Option Addr) (n cap : Nat) (l : List Fn), cs = [.slice A n cap] ∧ (A = none → n = 0 ∧ cap = 0) ∧ n ≤ cap ∧ cap ≤ 9223372036854775807 ∧ FsG w A n l := by
  rcases Go.Deep.open_slice Tryd.underlying24 h with h0 | ⟨a, len, cap, m, n, D, Pl, hcs, hb, hl, hm, hmm, hx, hi⟩
  · exact ⟨none, 0, 0, [], h0.1, fun _ => ⟨rfl, rfl⟩, Nat.le_refl _, by omega, rfl, fun j hj => absurd hj (Nat.not_lt_zero j)⟩
  · have hm' : cap ≤ 9223372036854775807 := by simpa [maxLen] using hm
    have hlm : len ≤ m := by rw [hmm]; split <;> omega
    have each : ∀ i, ∃ y : Fn × Option Addr × Nat × Nat, i < len → w.cell? (a.add (i * 3)) = some (.int .i64 y.1.ar) ∧ w.cell? (a.add (i * 3 + 1)) = some (.int .i64 y.1.lo) ∧ w.cell? (a.add (i * 3 + 2)) = some (.slice y.2.1 y.2.2.1 y.2.2.2) ∧ (y.2.1 = none → y.2.2.1 = 0 ∧ y.2.2.2 = 0) ∧ y.2.2.1 ≤ y.2.2.2 ∧ y.2.2.2 ≤ 9223372036854775807 ∧ DAt w y.2.1 y.1.co ∧ y.1.co.length = min y.2.2.1 250 := by
      intro i
      by_cases hil : i < len
      · obtain ⟨cs', hc, ht⟩ := hi i (by omega)
        have hlt2 : ∀ p ∈ (D i, Pl i).2, p.block < w.heap.size := fun p hp => by
          refine hlt p ?_
          rw [hx]
          exact List.mem_append_right _ (List.mem_flatMap.2 ⟨i, List.mem_range.2 (by omega), hp⟩)
        obtain ⟨ar, lo, A, n1, c1, l1, hv, r⟩ := one_fn hlt2 ht
        obtain ⟨_, _, hat⟩ := World.cells?_some hc
        rw [cellsFn] at hat
        subst hv
        have a0 := hat 0 (by omega)
        have a1 := hat 1 (by omega)
        have a2 := hat 2 (by omega)
        rw [Go.Deep.add_add] at a0 a1 a2
        exact ⟨(⟨ar, lo, l1⟩, A, n1, c1), fun _ => ⟨a0, a1, a2, r⟩⟩
      · exact ⟨(Fn.zero, none, 0, 0), fun hh => absurd hh hil⟩
    obtain ⟨ys, hall⟩ : ∃ ys : Nat → Fn × Option Addr × Nat × Nat, ∀ i, i < len → w.cell? (a.add (i * 3)) = some (.int .i64 (ys i).1.ar) ∧ w.cell? (a.add (i * 3 + 1)) = some (.int .i64 (ys i).1.lo) ∧ w.cell? (a.add (i * 3 + 2)) = some (.slice (ys i).2.1 (ys i).2.2.1 (ys i).2.2.2) ∧ ((ys i).2.1 = none → (ys i).2.2.1 = 0 ∧ (ys i).2.2.2 = 0) ∧ (ys i).2.2.1 ≤ (ys i).2.2.2 ∧ (ys i).2.2.2 ≤ 9223372036854775807 ∧ DAt w (ys i).2.1 (ys i).1.co ∧ (ys i).1.co.length = min (ys i).2.2.1 250 :=
      ⟨fun i => Classical.choose (each i), fun i hil => Classical.choose_spec (each i) hil⟩
    have hget : ∀ j, j < min len 20 → ((List.range (min len 20)).map fun i => (ys i).1).getD j Fn.zero = (ys j).1 := fun j hj => by
      rw [List.getD_eq_getElem?_getD, List.getElem?_map, List.getElem?_range hj]
      rfl
    have hlen : ((List.range (min len 20)).map fun i => (ys i).1).length = min len 20 := by simp
    refine ⟨some a, len, cap, (List.range (min len 20)).map fun i => (ys i).1, hcs, fun h => (by cases h), hl, hm', hlen, fun j hj => ?_⟩
    rw [hlen] at hj
    have hbl : a.block < w.heap.size := by
      refine hlt (.cell a.block a.off) ?_
      rw [hx]
      exact List.mem_append_left _ (MemPlace.mem_row.2 ⟨0, by rw [cellsFn]; omega, by simp⟩)
    obtain ⟨b, off, spot⟩ := a
    have hspot : spot = none := by simpa [Addr.add] using World.cell?_spot (hall 0 (by omega)).1
    subst hspot
    obtain ⟨h0, h1, h2, h3, h4, h5, h6, h7⟩ := hall j (by omega)
    rw [add_plain] at h0 h1 h2
    rw [hget j hj]
    refine ⟨b, off, (ys j).2.1, (ys j).2.2.1, (ys j).2.2.2, rfl, hbl, ⟨h0, ?_, ?_⟩, h6, h7, h4, h5, h3⟩
    · rw [Nat.add_assoc]; exact h1
    · rw [Nat.add_assoc]; exact h2
/-- A list of waits: nil, or its waits in their order; of a long one the first forty. -/
theorem open_waits {fuel : Nat} {cs : List Value} {x : DataW H × List MemPlace} (hlt : ∀ p ∈ x.2, p.block < w.heap.size) (h : DataW.trod enc Tryd.prog w base spare held fuel 23 cs = some x) :
    ∃ (A : Option Addr) (n cap : Nat) (l : List (List (List De))), cs = [.slice A n cap] ∧ (A = none → n = 0 ∧ cap = 0) ∧ n ≤ cap ∧ cap ≤ 9223372036854775807 ∧ WsG w A n l := by
  rcases Go.Deep.open_slice1 Tryd.underlying23 cellsWait h with h0 | ⟨a, len, cap, m, n, V, D, Pl, hcs, hb, hl, hm, hmm, hx, hi⟩
  · exact ⟨none, 0, 0, [], h0.1, fun _ => ⟨rfl, rfl⟩, Nat.le_refl _, by omega, rfl, fun j hj => absurd hj (Nat.not_lt_zero j)⟩
  · have hm' : cap ≤ 9223372036854775807 := by simpa [maxLen] using hm
    have hlm : len ≤ m := by rw [hmm]; split <;> omega
    have each : ∀ i, ∃ y : Option Addr × Nat × Nat × List (List De), i < len → w.cell? (a.add i) = some (.slice y.1 y.2.1 y.2.2.1) ∧ WIn w y.1 y.2.1 y.2.2.1 y.2.2.2 := by
      intro i
      by_cases hil : i < len
      · obtain ⟨hc, ht⟩ := hi i (by omega)
        have hlt2 : ∀ p ∈ (D i, Pl i).2, p.block < w.heap.size := fun p hp => by
          refine hlt p ?_
          rw [hx]
          exact List.mem_append_right _ (List.mem_flatMap.2 ⟨i, List.mem_range.2 (by omega), hp⟩)
        obtain ⟨A, n1, c1, l1, hv, r⟩ := open_wait hlt2 ht
        have hv2 : V i = .slice A n1 c1 := by simpa using hv
        exact ⟨(A, n1, c1, l1), fun _ => ⟨by rw [hc, hv2], r⟩⟩
      · exact ⟨(none, 0, 0, []), fun hh => absurd hh hil⟩
    obtain ⟨ys, hall⟩ : ∃ ys : Nat → Option Addr × Nat × Nat × List (List De), ∀ i, i < len → w.cell? (a.add i) = some (.slice (ys i).1 (ys i).2.1 (ys i).2.2.1) ∧ WIn w (ys i).1 (ys i).2.1 (ys i).2.2.1 (ys i).2.2.2 :=
      ⟨fun i => Classical.choose (each i), fun i hil => Classical.choose_spec (each i) hil⟩
    have hget : ∀ j, j < min len 40 → ((List.range (min len 40)).map fun i => (ys i).2.2.2).getD j [] = (ys j).2.2.2 := fun j hj => by
      rw [List.getD_eq_getElem?_getD, List.getElem?_map, List.getElem?_range hj]
      rfl
    have hlen : ((List.range (min len 40)).map fun i => (ys i).2.2.2).length = min len 40 := by simp
    refine ⟨some a, len, cap, (List.range (min len 40)).map fun i => (ys i).2.2.2, hcs, fun h => (by cases h), hl, hm', hlen, fun j hj => ?_⟩
    rw [hlen] at hj
    have hbl : a.block < w.heap.size := by
      refine hlt (.cell a.block a.off) ?_
      rw [hx]
      exact List.mem_append_left _ (MemPlace.mem_row.2 ⟨0, by omega, by simp⟩)
    obtain ⟨b, off, spot⟩ := a
    have hspot : spot = none := by simpa [Addr.add] using World.cell?_spot (hall 0 (by omega)).1
    subst hspot
    obtain ⟨h0, h1, h2, h3, h4, _⟩ := hall j (by omega)
    rw [add_plain] at h0
    rw [hget j hj]
    exact ⟨b, off, (ys j).1, (ys j).2.1, (ys j).2.2.1, rfl, hbl, h0, h4, h2, h3, h1⟩

set_option maxRecDepth 100000 in
/-- A program that came in. -/
theorem open_prog {n : Nat} {cs : List Value} {y : DataW H × List MemPlace} (hlt : ∀ p ∈ y.2, p.block < w.heap.size) (h : DataW.trod enc Tryd.prog w base spare held n 26 cs = some y) :
    ∃ (v0 v1 v2 : Value) (p : Pg), cs = [v0, v1, v2] ∧ PG w (.agg #[v0, v1, v2]) p := by
  obtain ⟨xs, m, _, hy, hlen, hxl, hf⟩ := DataW.trod_struct Tryd.underlying26 h
  rw [cellsPg] at hlen
  match cs, hlen with
  | [v0, v1, v2], _ =>
    match xs, hxl with
    | [y0, y1, y2], _ =>
      have f0 : DataW.trod enc Tryd.prog w base spare held m 22 [v0] = some y0 := by simpa [cellsDs] using hf 0 _ rfl
      have f1 : DataW.trod enc Tryd.prog w base spare held m 23 [v1] = some y1 := by simpa [cellsWs] using hf 1 _ rfl
      have f2 : DataW.trod enc Tryd.prog w base spare held m 24 [v2] = some y2 := by simpa [cellsFs] using hf 2 _ rfl
      obtain ⟨A, na, ca, ds, e0, a1, a2, a3, a4, _, a6⟩ := open_decls (fun p hp => hlt p (by rw [hy]; simp [hp])) f0
      obtain ⟨B, nb, cb, ws, e1, b1, b2, b3, b4⟩ := open_waits (fun p hp => hlt p (by rw [hy]; simp [hp])) f1
      obtain ⟨C, nc, cc, fs, e2, c1, c2, c3, c4⟩ := open_funcs (fun p hp => hlt p (by rw [hy]; simp [hp])) f2
      simp only [List.cons.injEq, and_true] at e0 e1 e2
      subst e0 e1 e2
      refine ⟨_, _, _, ⟨ds.take 40, ws, fs⟩, rfl, A, B, C, na, nb, nc, ca, cb, cc, rfl, ?_, fun j hj => ?_, b4, c4, a1, b1, c1, ⟨a2, a3⟩, ⟨b2, b3⟩, ⟨c2, c3⟩⟩
      · show (ds.take 40).length = min na 40
        rw [List.length_take]
        omega
      · have hj2 : j < (ds.take 40).length := hj
        rw [List.length_take] at hj2
        have e : (ds.take 40).getD j zero = ds.getD j zero := by
          rw [List.getD_eq_getElem?_getD, List.getD_eq_getElem?_getD, List.getElem?_take_of_lt (by omega)]
        show ∃ b off, A = some ⟨b, off, none⟩ ∧ b < w.heap.size ∧ CellsAt w b (off + j * 3) ((ds.take 40).getD j zero)
        rw [e]
        exact a4 j (by omega)
end
end Go.Proofs.YtbekfjjajggffaaDoor.pgm

/-
  Whether two lists of objects are one, as the statements ask it. No condition but that both are of at most a hundred.
-/
namespace Go.Proofs.YtbekfjjajggffaaDoor.objs
open Go.RowKit Go.ChangeShapes
set_option linter.unusedVariables false

theorem De.ext' {a b : De} : a = b ↔ a.1 = b.1 ∧ a.2.1 = b.2.1 ∧ a.2.2 = b.2.2 := by
  obtain ⟨a1, a2, a3⟩ := a
  obtain ⟨b1, b2, b3⟩ := b
  simp
theorem list_ext {l m : List De} (hl : l.length = m.length) (h : ∀ j, j < l.length → l.getD j zero = m.getD j zero) : l = m := by
  apply List.ext_getElem hl
  intro j h1 h2
  have := h j h1
  rwa [List.getD_eq_getElem?_getD, List.getD_eq_getElem?_getD, List.getElem?_eq_getElem h1, List.getElem?_eq_getElem h2] at this

end Go.Proofs.YtbekfjjajggffaaDoor.objs

/-
  Whether two waits are one, as the statements ask it. No condition but that both have at most six ways, each of at most six needs.
-/
namespace Go.Proofs.YtbekfjjajggffaaDoor.need
open Go.RowKit Go.ChangeShapes
open Go.Proofs.YtbekfjjajggffaaDoor.objs (De zero CellsAt DAt below_drewN list_ext De.ext')
set_option linter.unusedVariables false

theorem wlist_ext {l m : List (List De)} (hl : l.length = m.length) (h : ∀ j, j < l.length → l.getD j [] = m.getD j []) : l = m := by
  apply List.ext_getElem hl
  intro j h1 h2
  have := h j h1
  rwa [List.getD_eq_getElem?_getD, List.getD_eq_getElem?_getD, List.getElem?_eq_getElem h1, List.getElem?_eq_getElem h2] at this
def SamePost (r : Bool) (w : World) (e : Ending) (w' : World) : Prop := e = .returned (.bool r) ∧ Below w.heap.size w w'
end Go.Proofs.YtbekfjjajggffaaDoor.need

/-
  The document's decimals of any number. No condition but that it is an int.
-/
namespace Go.Proofs.YtbekfjjajggffaaDoor.need
open Go.RowKit Go.ChangeShapes
open Go.Proofs.YtbekfjjajggffaaDoor.octet (mk_append size_mk)
set_option linter.unusedVariables false

theorem ret_str {a b : ByteArray} (h : a = b) : Ending.returned (.string a) = .returned (.string b) := by rw [h]
theorem ret_text {a b : List UInt8} (h : a = b) : Ending.returned (.string ⟨a.toArray⟩) = .returned (.string ⟨b.toArray⟩) := by rw [h]

theorem intT_least : intT (-9223372036854775808) = [45, 57, 50, 50, 51, 51, 55, 50, 48, 51, 54, 56, 53, 52, 55, 55, 53, 56, 48, 56] := by
  unfold intT
  rw [if_pos (by omega)]
  have e : (-(-9223372036854775808 : Int)).toNat = 9223372036854775808 := rfl
  rw [e]
  rw [digs_big (by decide), digs_big (by decide), digs_big (by decide), digs_big (by decide), digs_big (by decide), digs_big (by decide), digs_big (by decide), digs_big (by decide), digs_big (by decide), digs_big (by decide), digs_big (by decide), digs_big (by decide), digs_big (by decide), digs_big (by decide), digs_big (by decide), digs_big (by decide), digs_big (by decide), digs_big (by decide), digs_small (by decide)]
  rfl
end Go.Proofs.YtbekfjjajggffaaDoor.need

/-
  The document's own bytes of a wait. No condition but that its numbers are small.
-/
namespace Go.Proofs.YtbekfjjajggffaaDoor.need
open Go.RowKit Go.ChangeShapes
open Go.Proofs.YtbekfjjajggffaaDoor.octet (mk_append size_mk num num_length_le Fits)
open Go.Proofs.YtbekfjjajggffaaDoor.objs (De zero CellsAt DAt)
set_option linter.unusedVariables false

/-- What the bytes of a need ask of its numbers. -/
def Slim9 (n : De) : Prop := (1 ≤ n.1 ∧ n.1 ≤ 5) ∧ (0 ≤ n.2.1 ∧ n.2.1 ≤ 1000) ∧ (0 ≤ n.2.2 ∧ n.2.2 ≤ 1000)
/-- While a need is put: the wait, and the need that is put, in a block of its own. -/
structure P9 (w : World) (A : Option Addr) (l : List (List De)) (g : Nat) (k a b : Int) (W : World) : Prop where
  list : WAt W A l
  below : Below w.heap.size w W
  box : W.heap[g]? = some (needBox k a b)
theorem P9.next {w W W' : World} {A : Option Addr} {l : List (List De)} {g : Nat} {k a b : Int} (h : P9 w A l g k a b W) (hb : Below W.heap.size W W') : P9 w A l g k a b W' :=
  ⟨h.list.next hb, h.below.trans (hb.mono h.below.size), (hb.block g (lt_of_block h.box)).trans h.box⟩
theorem P9.cells {w W : World} {A : Option Addr} {l : List (List De)} {g : Nat} {k a b : Int} (h : P9 w A l g k a b W) :
    W.cell? ⟨g, 0, none⟩ = some (.int .i64 k) ∧ W.cell? ⟨g, 1, none⟩ = some (.int .i64 a) ∧ W.cell? ⟨g, 2, none⟩ = some (.int .i64 b) := by
  unfold World.cell?
  rw [h.box]
  exact ⟨rfl, rfl, rfl⟩
theorem p9_new {w wr : World} {A : Option Addr} {l : List (List De)} (k a b : Int) (hA : WAt wr A l) (hb : Below w.heap.size w wr) : P9 w A l wr.heap.size k a b (wr.alloc (needBox k a b)) :=
  ⟨hA.next ((Below.refl _ _).alloc (Nat.le_refl _) _), hb.alloc hb.size _, heap_alloc_new wr _⟩

end Go.Proofs.YtbekfjjajggffaaDoor.need

/-
  The document's own bytes of objects that may be. No condition but that they may be.
-/
namespace Go.Proofs.YtbekfjjajggffaaDoor.objs
open Go.RowKit Go.ChangeShapes
open Go.Proofs.YtbekfjjajggffaaDoor.octet (mk_append size_mk num zig num_length_le Fits)
open Go.Proofs.YtbekfjjajggffaaDoor.word (Word)
set_option linter.unusedVariables false

/-- While objects are put: the list, and the one that is put, in a block of its own. -/
structure PS (w : World) (A : Option Addr) (l : List De) (g : Nat) (k a b : Int) (W : World) : Prop where
  list : DAt W A l
  below : Below w.heap.size w W
  box : W.heap[g]? = some (declBox k a b)
  old : w.heap.size ≤ g
theorem PS.next {w W W' : World} {A : Option Addr} {l : List De} {g : Nat} {k a b : Int} (h : PS w A l g k a b W) (hb : Below W.heap.size W W') : PS w A l g k a b W' :=
  ⟨h.list.next hb, h.below.trans (hb.mono h.below.size), (hb.block g (lt_of_block h.box)).trans h.box, h.old⟩
theorem PS.cells {w W : World} {A : Option Addr} {l : List De} {g : Nat} {k a b : Int} (h : PS w A l g k a b W) :
    W.cell? ⟨g, 0, none⟩ = some (.int .i64 k) ∧ W.cell? ⟨g, 1, none⟩ = some (.int .i64 a) ∧ W.cell? ⟨g, 2, none⟩ = some (.int .i64 b) := by
  have := h.box
  unfold World.cell?
  rw [this]
  exact ⟨rfl, rfl, rfl⟩
theorem ps_new {w wr : World} {A : Option Addr} {l : List De} {k a b : Int} (hA : DAt wr A l) (hb : Below w.heap.size w wr) : PS w A l wr.heap.size k a b (wr.alloc (declBox k a b)) :=
  ⟨hA.next ((Below.refl _ _).alloc (Nat.le_refl _) _), hb.alloc hb.size _, heap_alloc_new wr _, hb.size⟩

/-- The first part of the bytes, the kind's one, and a number's. -/
def PutInv (w : World) (A : Option Addr) (l : List De) (t i : Value) (wr : World) : Prop :=
  ∃ j : Nat, j ≤ l.length ∧ i = .int .i64 (j : Int) ∧ t = .string ⟨(num l.length ++ encs l j).toArray⟩ ∧ Hid (DAt wr A l ∧ Below w.heap.size w wr)

end Go.Proofs.YtbekfjjajggffaaDoor.objs

/-
  The document's own bytes of a program that may be. No condition but that it may be.
-/
namespace Go.Proofs.YtbekfjjajggffaaDoor.pgm
open Go.RowKit Go.ChangeShapes
open Go.Proofs.YtbekfjjajggffaaDoor.octet (mk_append size_mk num num_length_le Fits)
open Go.Proofs.YtbekfjjajggffaaDoor.objs (De zero DAt encL encL_le)
open Go.Proofs.YtbekfjjajggffaaDoor.need (WAt encW encWs_le chkW chkW_zero)
set_option linter.unusedVariables false

theorem slim_of9 {d : List De} {l : List (List De)} (hd : (Go.Proofs.YtbekfjjajggffaaDoor.objs.chk d).2 = 0) (h : chkW d l = 0) : ∀ x ∈ l, ∀ t ∈ x, Go.Proofs.YtbekfjjajggffaaDoor.need.Slim9 t := fun x hx t ht => by
  obtain ⟨h1, h2, _, h4, h5⟩ := Go.Proofs.YtbekfjjajggffaaDoor.need.need_small hd ((chkW_zero h).2.2 x hx |>.2.2 t ht)
  exact ⟨h1, by omega, by omega⟩
theorem encW_le {w : List (List De)} (h : w.length ≤ 4) (h2 : ∀ x ∈ w, x.length ≤ 4) : (encW w).length ≤ 554 := by
  have h1 := num_length_le w.length
  have h3 := encWs_le (w := w) (fun x hx => by have := h2 x hx; omega) w.length (Nat.le_refl _)
  simp only [encW, List.length_append]
  omega
theorem encIn_le (x : De) : (encIn x).length ≤ 21 := Go.Proofs.YtbekfjjajggffaaDoor.inst.encI_le x.1 x.2.1 x.2.2
theorem encFn_le {f : Fn} (h : f.co.length ≤ 200) : (encFn f).length ≤ 4230 := by
  have h1 := num_length_le f.ar.toNat
  have h2 := num_length_le f.lo.toNat
  have h3 := num_length_le f.co.length
  have h4 := encAll_le (e := encIn) (d := zero) (l := f.co) (c := 21) (fun x _ => encIn_le x) f.co.length (Nat.le_refl _)
  simp only [encFn, List.length_append]
  omega

/-- A region that draws its order, whose operations only read and whose callees leave the world in a class of our own. -/
theorem wp_region_cls {P : Program} {C : World → Prop} {id : Nat} {Q : Exit → Act → World → Prop} {a : Act} {w : World} {l : List Oper} (hm : P.follows .mixedOrders = true) (hB : Region.lexB .any l.toArray = true) (hC : C { w with drawn := w.drawn + 1 })
    (h : wpQuiet P l.toArray C (fun a' => ∀ w', C w' → Q .normal a' w') l a) : (Code.region id l.toArray true).wp P Q a w :=
  wp_region_quiet (C := C) hm hB hC (by simpa using h)
/-- While a function is put: it stands in a block of its own. -/
structure PF (w W0 : World) (g : Nat) (a l : Int) (A : Option Addr) (n c : Nat) (co : List De) (W : World) : Prop where
  below : Below (w.heap.size + 1) W0 W
  size : w.heap.size + 1 ≤ W.heap.size
  box : W.heap[g]? = some (fnBox a l (.slice A n c))
  code : DAt W A co
theorem PF.next {w W0 W W' : World} {g : Nat} {a l : Int} {A : Option Addr} {n c : Nat} {co : List De} (h : PF w W0 g a l A n c co W) (hb : Below W.heap.size W W') : PF w W0 g a l A n c co W' :=
  ⟨h.below.trans (hb.mono h.size), Nat.le_trans h.size hb.size, (hb.block g (lt_of_block h.box)).trans h.box, h.code.next hb⟩
theorem PF.drew {w W0 W : World} {g : Nat} {a l : Int} {A : Option Addr} {n c : Nat} {co : List De} (h : PF w W0 g a l A n c co W) : PF w W0 g a l A n c co W.drew := ⟨h.below.drew, h.size, h.box, h.code.drew⟩
theorem PF.cells {w W0 W : World} {g : Nat} {a l : Int} {A : Option Addr} {n c : Nat} {co : List De} (h : PF w W0 g a l A n c co W) :
    W.cell? ⟨g, 0, none⟩ = some (.int .i64 a) ∧ W.cell? ⟨g, 1, none⟩ = some (.int .i64 l) ∧ W.cell? ⟨g, 2, none⟩ = some (.slice A n c) := by
  unfold World.cell?
  rw [h.box]
  exact ⟨rfl, rfl, rfl⟩

end Go.Proofs.YtbekfjjajggffaaDoor.pgm
