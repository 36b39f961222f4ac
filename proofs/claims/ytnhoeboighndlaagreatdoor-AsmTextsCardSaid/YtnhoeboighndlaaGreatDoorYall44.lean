/-
  Texts of one claim in one file: DOps, EOps, GOps. Each has its own sentence, with its conditions.
-/
import Derived.Test.YtnhoeboighndlaaGreatDoorYall36
import Derived.Test.YtnhoeboighndlaaGreatDoorYall11
import Derived.Deep.Slices
import Derived.Test.YtnhoeboighndlaaGreatDoorYall22
/-
  A list of objects that came in, as it lies in memory. No condition.
-/
namespace Go.Proofs.YtnhoeboighndlaaGreatDoor.objs
open Go.ChangeShapes Go.WideShapes Go.RowKit
set_option linter.unusedVariables false

theorem cells3i : Tryz.prog.cellsOf 3 = 1 := by kernel_rfl
theorem cellsDecl : Tryz.prog.cellsOf 44 = 3 := by kernel_rfl
theorem add_plain (b off i : Nat) : (⟨b, off, none⟩ : Addr).add i = ⟨b, off + i, none⟩ := Addr.add_lit ..
theorem i64_of {a : Int} (h : (Lit.int .i64 a).wf = true) : I64 a := by
  have hx : -9223372036854775808 ≤ a ∧ a ≤ 9223372036854775807 := by simpa [Lit.wf, IntKind.min, IntKind.max, IntKind.signed, IntKind.bits] using h
  exact hx

section
variable {H : Type} {enc : TypeId × Value → H} {w : World} {base : Nat} {spare : Nat → Bool} {held : Bool}

set_option maxRecDepth 100000 in
/-- One object, out of its three cells. -/
theorem one_decl {n : Nat} {cs : List Value} {y : DataW H × List MemPlace} (h : DataW.trod enc Tryz.prog w base spare held n 44 cs = some y) :
    ∃ o : De, cs = [.int .i64 o.1, .int .i64 o.2.1, .int .i64 o.2.2] ∧ I64 o.1 ∧ I64 o.2.1 ∧ I64 o.2.2 := by
  obtain ⟨xs, m, _, hy, hlen, hxl, hf⟩ := DataW.trod_struct Tryz.underlying44 h
  rw [cellsDecl] at hlen
  match cs, hlen with
  | [v0, v1, v2], _ =>
    match xs, hxl with
    | [y0, y1, y2], _ =>
      have f0 : DataW.trod enc Tryz.prog w base spare held m 3 [v0] = some y0 := by simpa [cells3i] using hf 0 _ rfl
      have f1 : DataW.trod enc Tryz.prog w base spare held m 3 [v1] = some y1 := by simpa [cells3i] using hf 1 _ rfl
      have f2 : DataW.trod enc Tryz.prog w base spare held m 3 [v2] = some y2 := by simpa [cells3i] using hf 2 _ rfl
      obtain ⟨k, e0, _, w0⟩ := DataW.trod_int Tryz.underlying3 f0
      obtain ⟨i, e1, _, w1⟩ := DataW.trod_int Tryz.underlying3 f1
      obtain ⟨j, e2, _, w2⟩ := DataW.trod_int Tryz.underlying3 f2
      refine ⟨(k, i, j), ?_, i64_of w0, i64_of w1, i64_of w2⟩
      simp only [List.cons.injEq, and_true] at e0 e1 e2
      rw [e0, e1, e2]

/-- A list of objects: nil, or its objects in their order, each where it lies; of a long one the first hundred. -/
theorem open_decls {fuel : Nat} {cs : List Value} {x : DataW H × List MemPlace} (hlt : ∀ p ∈ x.2, p.block < w.heap.size) (h : DataW.trod enc Tryz.prog w base spare held fuel 22 cs = some x) :
    ∃ (A : Option Addr) (n cap : Nat) (l : List De), cs = [.slice A n cap] ∧ LIn w A n cap l := by
  rcases Go.Deep.open_slice Tryz.underlying22 h with h0 | ⟨a, len, cap, m, n, D, Pl, hcs, hb, hl, hm, hmm, hx, hi⟩
  · exact ⟨none, 0, 0, [], h0.1, fun _ => ⟨rfl, rfl⟩, Nat.le_refl _, by omega, DAt.nil _ _, fun j hj => absurd hj (Nat.not_lt_zero j), rfl⟩
  · have hm' : cap ≤ 9223372036854775807 := by simpa [maxLen] using hm
    have hlm : len ≤ m := by rw [hmm]; split <;> omega
    have each : ∀ i, ∃ o : De, i < len → w.cell? (a.add (i * 3)) = some (.int .i64 o.1) ∧ w.cell? (a.add (i * 3 + 1)) = some (.int .i64 o.2.1) ∧ w.cell? (a.add (i * 3 + 2)) = some (.int .i64 o.2.2) ∧ I64 o.1 ∧ I64 o.2.1 ∧ I64 o.2.2 := by
      intro i
      by_cases hil : i < len
      · obtain ⟨cs', hc, ht⟩ := hi i (by omega)
        obtain ⟨o, he, hwf⟩ := one_decl ht
        obtain ⟨_, _, hat⟩ := World.cells?_some hc
        rw [cellsDecl] at hat
        subst he
        have a0 := hat 0 (by omega)
        have a1 := hat 1 (by omega)
        have a2 := hat 2 (by omega)
        rw [Go.Deep.add_add] at a0 a1 a2
        exact ⟨o, fun _ => ⟨a0, a1, a2, hwf⟩⟩
      · exact ⟨zero, fun hh => absurd hh hil⟩
    obtain ⟨ops, hall⟩ : ∃ ops : Nat → De, ∀ i, i < len → w.cell? (a.add (i * 3)) = some (.int .i64 (ops i).1) ∧ w.cell? (a.add (i * 3 + 1)) = some (.int .i64 (ops i).2.1) ∧ w.cell? (a.add (i * 3 + 2)) = some (.int .i64 (ops i).2.2) ∧ I64 (ops i).1 ∧ I64 (ops i).2.1 ∧ I64 (ops i).2.2 :=
      ⟨fun i => Classical.choose (each i), fun i hil => Classical.choose_spec (each i) hil⟩
    have hget : ∀ j, j < min len 100 → ((List.range (min len 100)).map ops).getD j zero = ops j := fun j hj => by
      rw [List.getD_eq_getElem?_getD, List.getElem?_map, List.getElem?_range hj]
      rfl
    have hlen : ((List.range (min len 100)).map ops).length = min len 100 := by simp
    refine ⟨some a, len, cap, (List.range (min len 100)).map ops, hcs, fun h => (by cases h), hl, hm', fun j hj => ?_, fun j hj => ?_, hlen⟩
    · rw [hlen] at hj
      have hbl : a.block < w.heap.size := by
        refine hlt (.cell a.block a.off) ?_
        rw [hx]
        exact List.mem_append_left _ (MemPlace.mem_row.2 ⟨0, by rw [cellsDecl]; omega, by simp⟩)
      obtain ⟨b, off, spot⟩ := a
      have hspot : spot = none := by simpa [Addr.add] using World.cell?_spot (hall 0 (by omega)).1
      subst hspot
      obtain ⟨h0, h1, h2, _⟩ := hall j (by omega)
      rw [add_plain] at h0 h1 h2
      rw [hget j hj]
      refine ⟨b, off, rfl, hbl, h0, ?_, ?_⟩
      · rw [Nat.add_assoc]; exact h1
      · rw [Nat.add_assoc]; exact h2
    · rw [hlen] at hj
      rw [hget j hj]
      exact (hall j (by omega)).2.2.2
end
end Go.Proofs.YtnhoeboighndlaaGreatDoor.objs

/-
  A wait that came in, as it lies in memory: of its ways the first six, of each of them the first six needs. No condition.
-/
namespace Go.Proofs.YtnhoeboighndlaaGreatDoor.need
open Go.ChangeShapes Go.WideShapes Go.RowKit
open Go.Proofs.YtnhoeboighndlaaGreatDoor.objs (De zero DAt I64 cells3i i64_of)
set_option linter.unusedVariables false

theorem cellsNeed : Tryz.prog.cellsOf 79 = 3 := by kernel_rfl
theorem cellsRow : Tryz.prog.cellsOf 75 = 1 := by kernel_rfl

section
variable {H : Type} {enc : TypeId × Value → H} {w : World} {base : Nat} {spare : Nat → Bool} {held : Bool}

set_option maxRecDepth 100000 in
/-- One need, out of its three cells. -/
theorem one_need {n : Nat} {cs : List Value} {y : DataW H × List MemPlace} (h : DataW.trod enc Tryz.prog w base spare held n 79 cs = some y) :
    ∃ o : De, cs = [.int .i64 o.1, .int .i64 o.2.1, .int .i64 o.2.2] ∧ I64 o.1 ∧ I64 o.2.1 ∧ I64 o.2.2 := by
  obtain ⟨xs, m, _, hy, hlen, hxl, hf⟩ := DataW.trod_struct Tryz.underlying79 h
  rw [cellsNeed] at hlen
  match cs, hlen with
  | [v0, v1, v2], _ =>
    match xs, hxl with
    | [y0, y1, y2], _ =>
      have f0 : DataW.trod enc Tryz.prog w base spare held m 3 [v0] = some y0 := by simpa [cells3i] using hf 0 _ rfl
      have f1 : DataW.trod enc Tryz.prog w base spare held m 3 [v1] = some y1 := by simpa [cells3i] using hf 1 _ rfl
      have f2 : DataW.trod enc Tryz.prog w base spare held m 3 [v2] = some y2 := by simpa [cells3i] using hf 2 _ rfl
      obtain ⟨k, e0, _, w0⟩ := DataW.trod_int Tryz.underlying3 f0
      obtain ⟨i, e1, _, w1⟩ := DataW.trod_int Tryz.underlying3 f1
      obtain ⟨j, e2, _, w2⟩ := DataW.trod_int Tryz.underlying3 f2
      refine ⟨(k, i, j), ?_, i64_of w0, i64_of w1, i64_of w2⟩
      simp only [List.cons.injEq, and_true] at e0 e1 e2
      rw [e0, e1, e2]

/-- A list of needs: nil, or its needs in their order, each where it lies; of a long one the first six. -/
theorem open_needs {fuel : Nat} {cs : List Value} {x : DataW H × List MemPlace} (hlt : ∀ p ∈ x.2, p.block < w.heap.size) (h : DataW.trod enc Tryz.prog w base spare held fuel 75 cs = some x) :
    ∃ (A : Option Addr) (n cap : Nat) (l : List De), cs = [.slice A n cap] ∧ (A = none → n = 0 ∧ cap = 0) ∧ n ≤ cap ∧ cap ≤ 9223372036854775807 ∧ DAt w A l ∧ (∀ t ∈ l, Small t) ∧ l.length = min n 6 := by
  rcases Go.Deep.open_slice Tryz.underlying75 h with h0 | ⟨a, len, cap, m, n, D, Pl, hcs, hb, hl, hm, hmm, hx, hi⟩
  · exact ⟨none, 0, 0, [], h0.1, fun _ => ⟨rfl, rfl⟩, Nat.le_refl _, by omega, DAt.nil _ _, fun t ht => (by cases ht), rfl⟩
  · have hm' : cap ≤ 9223372036854775807 := by simpa [maxLen] using hm
    have hlm : len ≤ m := by rw [hmm]; split <;> omega
    have each : ∀ i, ∃ o : De, i < len → w.cell? (a.add (i * 3)) = some (.int .i64 o.1) ∧ w.cell? (a.add (i * 3 + 1)) = some (.int .i64 o.2.1) ∧ w.cell? (a.add (i * 3 + 2)) = some (.int .i64 o.2.2) ∧ I64 o.1 ∧ I64 o.2.1 ∧ I64 o.2.2 := by
      intro i
      by_cases hil : i < len
      · obtain ⟨cs', hc, ht⟩ := hi i (by omega)
        obtain ⟨o, he, hwf⟩ := one_need ht
        obtain ⟨_, _, hat⟩ := World.cells?_some hc
        rw [cellsNeed] at hat
        subst he
        have a0 := hat 0 (by omega)
        have a1 := hat 1 (by omega)
        have a2 := hat 2 (by omega)
        rw [Go.Deep.add_add] at a0 a1 a2
        exact ⟨o, fun _ => ⟨a0, a1, a2, hwf⟩⟩
      · exact ⟨zero, fun hh => absurd hh hil⟩
    obtain ⟨ops, hall⟩ : ∃ ops : Nat → De, ∀ i, i < len → w.cell? (a.add (i * 3)) = some (.int .i64 (ops i).1) ∧ w.cell? (a.add (i * 3 + 1)) = some (.int .i64 (ops i).2.1) ∧ w.cell? (a.add (i * 3 + 2)) = some (.int .i64 (ops i).2.2) ∧ I64 (ops i).1 ∧ I64 (ops i).2.1 ∧ I64 (ops i).2.2 :=
      ⟨fun i => Classical.choose (each i), fun i hil => Classical.choose_spec (each i) hil⟩
    have hget : ∀ j, j < min len 6 → ((List.range (min len 6)).map ops).getD j zero = ops j := fun j hj => by
      rw [List.getD_eq_getElem?_getD, List.getElem?_map, List.getElem?_range hj]
      rfl
    have hlen : ((List.range (min len 6)).map ops).length = min len 6 := by simp
    refine ⟨some a, len, cap, (List.range (min len 6)).map ops, hcs, fun h => (by cases h), hl, hm', fun j hj => ?_, fun t ht => ?_, hlen⟩
    · rw [hlen] at hj
      have hbl : a.block < w.heap.size := by
        refine hlt (.cell a.block a.off) ?_
        rw [hx]
        exact List.mem_append_left _ (MemPlace.mem_row.2 ⟨0, by rw [cellsNeed]; omega, by simp⟩)
      obtain ⟨b, off, spot⟩ := a
      have hspot : spot = none := by simpa [Addr.add] using World.cell?_spot (hall 0 (by omega)).1
      subst hspot
      obtain ⟨h0, h1, h2, _⟩ := hall j (by omega)
      rw [add_plain] at h0 h1 h2
      rw [hget j hj]
      refine ⟨b, off, rfl, hbl, h0, ?_, ?_⟩
      · rw [Nat.add_assoc]; exact h1
      · rw [Nat.add_assoc]; exact h2
    · obtain ⟨j, hj, rfl⟩ := List.mem_map.1 ht
      have hj2 := List.mem_range.1 hj
      exact (hall j (by omega)).2.2.2

/-- A list of ways: nil, or its ways in their order, each where it lies; of a long one the first six. -/
theorem open_wait {fuel : Nat} {cs : List Value} {x : DataW H × List MemPlace} (hlt : ∀ p ∈ x.2, p.block < w.heap.size) (h : DataW.trod enc Tryz.prog w base spare held fuel 45 cs = some x) :
    ∃ (A : Option Addr) (n cap : Nat) (l : List (List De)), cs = [.slice A n cap] ∧ WIn w A n cap l := by
  rcases Go.Deep.open_slice1 Tryz.underlying45 cellsRow h with h0 | ⟨a, len, cap, m, n, V, D, Pl, hcs, hb, hl, hm, hmm, hx, hi⟩
  · exact ⟨none, 0, 0, [], h0.1, fun _ => ⟨rfl, rfl⟩, Nat.le_refl _, by omega, ⟨rfl, fun j hj => absurd hj (Nat.not_lt_zero j)⟩, fun x hx => (by cases hx)⟩
  · have hm' : cap ≤ 9223372036854775807 := by simpa [maxLen] using hm
    have hlm : len ≤ m := by rw [hmm]; split <;> omega
    have each : ∀ i, ∃ y : Option Addr × Nat × Nat × List De, i < len → w.cell? (a.add i) = some (.slice y.1 y.2.1 y.2.2.1) ∧ (y.1 = none → y.2.1 = 0 ∧ y.2.2.1 = 0) ∧ y.2.1 ≤ y.2.2.1 ∧ y.2.2.1 ≤ 9223372036854775807 ∧ DAt w y.1 y.2.2.2 ∧ (∀ t ∈ y.2.2.2, Small t) ∧ y.2.2.2.length = min y.2.1 6 := by
      intro i
      by_cases hil : i < len
      · obtain ⟨hc, ht⟩ := hi i (by omega)
        have hlt2 : ∀ p ∈ (D i, Pl i).2, p.block < w.heap.size := fun p hp => by
          refine hlt p ?_
          rw [hx]
          exact List.mem_append_right _ (List.mem_flatMap.2 ⟨i, List.mem_range.2 (by omega), hp⟩)
        obtain ⟨A, n1, c1, l1, hv, h1, h2, h3, h4, h5, h6⟩ := open_needs hlt2 ht
        have hv2 : V i = .slice A n1 c1 := by simpa using hv
        exact ⟨(A, n1, c1, l1), fun _ => ⟨by rw [hc, hv2], h1, h2, h3, h4, h5, h6⟩⟩
      · exact ⟨(none, 0, 0, []), fun hh => absurd hh hil⟩
    obtain ⟨ys, hall⟩ : ∃ ys : Nat → Option Addr × Nat × Nat × List De, ∀ i, i < len → w.cell? (a.add i) = some (.slice (ys i).1 (ys i).2.1 (ys i).2.2.1) ∧ ((ys i).1 = none → (ys i).2.1 = 0 ∧ (ys i).2.2.1 = 0) ∧ (ys i).2.1 ≤ (ys i).2.2.1 ∧ (ys i).2.2.1 ≤ 9223372036854775807 ∧ DAt w (ys i).1 (ys i).2.2.2 ∧ (∀ t ∈ (ys i).2.2.2, Small t) ∧ (ys i).2.2.2.length = min (ys i).2.1 6 :=
      ⟨fun i => Classical.choose (each i), fun i hil => Classical.choose_spec (each i) hil⟩
    have hget : ∀ j, j < min len 6 → ((List.range (min len 6)).map fun i => (ys i).2.2.2).getD j [] = (ys j).2.2.2 := fun j hj => by
      rw [List.getD_eq_getElem?_getD, List.getElem?_map, List.getElem?_range hj]
      rfl
    have hlen : ((List.range (min len 6)).map fun i => (ys i).2.2.2).length = min len 6 := by simp
    refine ⟨some a, len, cap, (List.range (min len 6)).map fun i => (ys i).2.2.2, hcs, fun h => (by cases h), hl, hm', ⟨hlen, fun j hj => ?_⟩, fun t ht => ?_⟩
    · rw [hlen] at hj
      have hbl : a.block < w.heap.size := by
        refine hlt (.cell a.block a.off) ?_
        rw [hx]
        exact List.mem_append_left _ (MemPlace.mem_row.2 ⟨0, by omega, by simp⟩)
      obtain ⟨b, off, spot⟩ := a
      have hspot : spot = none := by simpa [Addr.add] using World.cell?_spot (hall 0 (by omega)).1
      subst hspot
      obtain ⟨h0, h1, h2, h3, h4, _, h6⟩ := hall j (by omega)
      rw [add_plain] at h0
      rw [hget j hj]
      exact ⟨b, off, (ys j).1, (ys j).2.1, (ys j).2.2.1, rfl, hbl, h0, h4, h6, h2, h3, h1⟩
    · obtain ⟨j, hj, rfl⟩ := List.mem_map.1 ht
      have hj2 := List.mem_range.1 hj
      exact (hall j (by omega)).2.2.2.2.2.1
end
end Go.Proofs.YtnhoeboighndlaaGreatDoor.need

/-
  A program that came in, as it lies in memory: its first forty objects and waits, its first twenty functions. No condition.
-/
namespace Go.Proofs.YtnhoeboighndlaaGreatDoor.pgm
open Go.ChangeShapes Go.WideShapes Go.RowKit
open Go.Proofs.YtnhoeboighndlaaGreatDoor.objs (De zero DAt I64 cells3i LIn open_decls CellsAt)
open Go.Proofs.YtnhoeboighndlaaGreatDoor.need (WG WIn open_wait)
set_option linter.unusedVariables false

theorem cellsIns : Tryz.prog.cellsOf 28 = 3 := by kernel_rfl
theorem cellsFn : Tryz.prog.cellsOf 49 = 3 := by kernel_rfl
theorem cellsPg : Tryz.prog.cellsOf 26 = 3 := by kernel_rfl
theorem cellsCode : Tryz.prog.cellsOf 47 = 1 := by kernel_rfl
theorem cellsWait : Tryz.prog.cellsOf 45 = 1 := by kernel_rfl
theorem cellsDs : Tryz.prog.cellsOf 22 = 1 := by kernel_rfl
theorem cellsWs : Tryz.prog.cellsOf 23 = 1 := by kernel_rfl
theorem cellsFs : Tryz.prog.cellsOf 24 = 1 := by kernel_rfl

section
variable {H : Type} {enc : TypeId × Value → H} {w : World} {base : Nat} {spare : Nat → Bool} {held : Bool}

set_option maxRecDepth 100000 in
/-- One instruction, out of its three cells. -/
theorem one_ins {n : Nat} {cs : List Value} {y : DataW H × List MemPlace} (h : DataW.trod enc Tryz.prog w base spare held n 28 cs = some y) :
    ∃ o : De, cs = [.int .i64 o.1, .int .i64 o.2.1, .int .i64 o.2.2] := by
  obtain ⟨xs, m, _, hy, hlen, hxl, hf⟩ := DataW.trod_struct Tryz.underlying28 h
  rw [cellsIns] at hlen
  match cs, hlen with
  | [v0, v1, v2], _ =>
    match xs, hxl with
    | [y0, y1, y2], _ =>
      have f0 : DataW.trod enc Tryz.prog w base spare held m 3 [v0] = some y0 := by simpa [cells3i] using hf 0 _ rfl
      have f1 : DataW.trod enc Tryz.prog w base spare held m 3 [v1] = some y1 := by simpa [cells3i] using hf 1 _ rfl
      have f2 : DataW.trod enc Tryz.prog w base spare held m 3 [v2] = some y2 := by simpa [cells3i] using hf 2 _ rfl
      obtain ⟨k, e0, _, _⟩ := DataW.trod_int Tryz.underlying3 f0
      obtain ⟨i, e1, _, _⟩ := DataW.trod_int Tryz.underlying3 f1
      obtain ⟨j, e2, _, _⟩ := DataW.trod_int Tryz.underlying3 f2
      refine ⟨(k, i, j), ?_⟩
      simp only [List.cons.injEq, and_true] at e0 e1 e2
      rw [e0, e1, e2]
/-- A list of instructions: nil, or its instructions in their order; of a long one the first 250. -/
theorem open_code {fuel : Nat} {cs : List Value} {x : DataW H × List MemPlace} (hlt : ∀ p ∈ x.2, p.block < w.heap.size) (h : DataW.trod enc Tryz.prog w base spare held fuel 47 cs = some x) :
    ∃ (A : Option Addr) (n cap : Nat) (l : List De), cs = [.slice A n cap] ∧ (A = none → n = 0 ∧ cap = 0) ∧ n ≤ cap ∧ cap ≤ 9223372036854775807 ∧ DAt w A l ∧ l.length = min n 250 := by
  rcases Go.Deep.open_slice Tryz.underlying47 h with h0 | ⟨a, len, cap, m, n, D, Pl, hcs, hb, hl, hm, hmm, hx, hi⟩
  · exact ⟨none, 0, 0, [], h0.1, fun _ => ⟨rfl, rfl⟩, Nat.le_refl _, by omega, DAt.nil _ _, rfl⟩
  · have hm' : cap ≤ 9223372036854775807 := by simpa [maxLen] using hm
    have hlm : len ≤ m := by rw [hmm]; split <;> omega
    have each : ∀ i, ∃ o : De, i < len → w.cell? (a.add (i * 3)) = some (.int .i64 o.1) ∧ w.cell? (a.add (i * 3 + 1)) = some (.int .i64 o.2.1) ∧ w.cell? (a.add (i * 3 + 2)) = some (.int .i64 o.2.2) := by
      intro i
      by_cases hil : i < len
      · obtain ⟨cs', hc, ht⟩ := hi i (by omega)
        obtain ⟨o, he⟩ := one_ins ht
        obtain ⟨_, _, hat⟩ := World.cells?_some hc
        rw [cellsIns] at hat
        subst he
        have a0 := hat 0 (by omega)
        have a1 := hat 1 (by omega)
        have a2 := hat 2 (by omega)
        rw [Go.Deep.add_add] at a0 a1 a2
        exact ⟨o, fun _ => ⟨a0, a1, a2⟩⟩
      · exact ⟨zero, fun hh => absurd hh hil⟩
    obtain ⟨ops, hall⟩ : ∃ ops : Nat → De, ∀ i, i < len → w.cell? (a.add (i * 3)) = some (.int .i64 (ops i).1) ∧ w.cell? (a.add (i * 3 + 1)) = some (.int .i64 (ops i).2.1) ∧ w.cell? (a.add (i * 3 + 2)) = some (.int .i64 (ops i).2.2) :=
      ⟨fun i => Classical.choose (each i), fun i hil => Classical.choose_spec (each i) hil⟩
    have hget : ∀ j, j < min len 250 → ((List.range (min len 250)).map ops).getD j zero = ops j := fun j hj => by
      rw [List.getD_eq_getElem?_getD, List.getElem?_map, List.getElem?_range hj]
      rfl
    have hlen : ((List.range (min len 250)).map ops).length = min len 250 := by simp
    refine ⟨some a, len, cap, (List.range (min len 250)).map ops, hcs, fun h => (by cases h), hl, hm', fun j hj => ?_, hlen⟩
    rw [hlen] at hj
    have hbl : a.block < w.heap.size := by
      refine hlt (.cell a.block a.off) ?_
      rw [hx]
      exact List.mem_append_left _ (MemPlace.mem_row.2 ⟨0, by rw [cellsIns]; omega, by simp⟩)
    obtain ⟨b, off, spot⟩ := a
    have hspot : spot = none := by simpa [Addr.add] using World.cell?_spot (hall 0 (by omega)).1
    subst hspot
    obtain ⟨h0, h1, h2⟩ := hall j (by omega)
    rw [add_plain] at h0 h1 h2
    rw [hget j hj]
    refine ⟨b, off, rfl, hbl, h0, ?_, ?_⟩
    · rw [Nat.add_assoc]; exact h1
    · rw [Nat.add_assoc]; exact h2

set_option maxRecDepth 100000 in
/-- One function, out of its three cells. -/
theorem one_fn {n : Nat} {cs : List Value} {y : DataW H × List MemPlace} (hlt : ∀ p ∈ y.2, p.block < w.heap.size) (h : DataW.trod enc Tryz.prog w base spare held n 49 cs = some y) :
    ∃ (ar lo : Int) (A : Option Addr) (n cap : Nat) (l : List De), cs = [.int .i64 ar, .int .i64 lo, .slice A n cap] ∧ (A = none → n = 0 ∧ cap = 0) ∧ n ≤ cap ∧ cap ≤ 9223372036854775807 ∧ DAt w A l ∧ l.length = min n 250 := by
  obtain ⟨xs, m, _, hy, hlen, hxl, hf⟩ := DataW.trod_struct Tryz.underlying49 h
  rw [cellsFn] at hlen
  match cs, hlen with
  | [v0, v1, v2], _ =>
    match xs, hxl with
    | [y0, y1, y2], _ =>
      have f0 : DataW.trod enc Tryz.prog w base spare held m 3 [v0] = some y0 := by simpa [cells3i] using hf 0 _ rfl
      have f1 : DataW.trod enc Tryz.prog w base spare held m 3 [v1] = some y1 := by simpa [cells3i] using hf 1 _ rfl
      have f2 : DataW.trod enc Tryz.prog w base spare held m 47 [v2] = some y2 := by simpa [cellsCode] using hf 2 _ rfl
      obtain ⟨k, e0, _, _⟩ := DataW.trod_int Tryz.underlying3 f0
      obtain ⟨i, e1, _, _⟩ := DataW.trod_int Tryz.underlying3 f1
      obtain ⟨A, n2, cap, l, e2, r⟩ := open_code (fun p hp => hlt p (by rw [hy]; simp [hp])) f2
      refine ⟨k, i, A, n2, cap, l, ?_, r⟩
      simp only [List.cons.injEq, and_true] at e0 e1 e2
      rw [e0, e1, e2]
/-- A list of functions: nil, or its functions in their order; of a long one the first twenty. -/
theorem open_funcs {fuel : Nat} {cs : List Value} {x : DataW H × List MemPlace} (hlt : ∀ p ∈ x.2, p.block < w.heap.size) (h : DataW.trod enc Tryz.prog w base spare held fuel 24 cs = some x) :
    ∃ (A : Option Addr) (n cap : Nat) (l : List Fn), cs = [.slice A n cap] ∧ (A = none → n = 0 ∧ cap = 0) ∧ n ≤ cap ∧ cap ≤ 9223372036854775807 ∧ FsG w A n l := by
  rcases Go.Deep.open_slice Tryz.underlying24 h with h0 | ⟨a, len, cap, m, n, D, Pl, hcs, hb, hl, hm, hmm, hx, hi⟩
  · exact ⟨none, 0, 0, [], h0.1, fun _ => ⟨rfl, rfl⟩, Nat.le_refl _, by omega, rfl, fun j hj => absurd hj (Nat.not_lt_zero j)⟩
  · have hm' : cap ≤ 9223372036854775807 := by simpa [maxLen] using hm
    have hlm : len ≤ m := by rw [hmm]; split <;> omega
    have each : ∀ i, ∃ y : Fn × Option Addr × Nat × Nat, i < len → w.cell? (a.add (i * 3)) = some (.int .i64 y.1.ar) ∧ w.cell? (a.add (i * 3 + 1)) = some (.int .i64 y.1.lo) ∧ w.cell? (a.add (i * 3 + 2)) = some (.slice y.2.1 y.2.2.1 y.2.2.2) ∧ (y.2.1 = none → y.2.2.1 = 0 ∧ y.2.2.2 = 0) ∧ y.2.2.1 ≤ y.2.2.2 ∧ y.2.2.2 ≤ 9223372036854775807 ∧ DAt w y.2.1 y.1.co ∧ y.1.co.length = min y.2.2.1 250 := by
      intro i
      by_cases hil : i < len
      · obtain ⟨cs', hc, ht⟩ := hi i (by omega)
        have hlt2 : ∀ p ∈ (D i, Pl i).2, p.block < w.heap.size := fun p hp => by
          refine hlt p ?_
          rw [hx]
          exact List.mem_append_right _ (List.mem_flatMap.2 ⟨i, List.mem_range.2 (by omega), hp⟩)
        obtain ⟨ar, lo, A, n1, c1, l1, hv, r⟩ := one_fn hlt2 ht
        obtain ⟨_, _, hat⟩ := World.cells?_some hc
        rw [cellsFn] at hat
        subst hv
        have a0 := hat 0 (by omega)
        have a1 := hat 1 (by omega)
        have a2 := hat 2 (by omega)
        rw [Go.Deep.add_add] at a0 a1 a2
        exact ⟨(⟨ar, lo, l1⟩, A, n1, c1), fun _ => ⟨a0, a1, a2, r⟩⟩
      · exact ⟨(Fn.zero, none, 0, 0), fun hh => absurd hh hil⟩
    obtain ⟨ys, hall⟩ : ∃ ys : Nat → Fn × Option Addr × Nat × Nat, ∀ i, i < len → w.cell? (a.add (i * 3)) = some (.int .i64 (ys i).1.ar) ∧ w.cell? (a.add (i * 3 + 1)) = some (.int .i64 (ys i).1.lo) ∧ w.cell? (a.add (i * 3 + 2)) = some (.slice (ys i).2.1 (ys i).2.2.1 (ys i).2.2.2) ∧ ((ys i).2.1 = none → (ys i).2.2.1 = 0 ∧ (ys i).2.2.2 = 0) ∧ (ys i).2.2.1 ≤ (ys i).2.2.2 ∧ (ys i).2.2.2 ≤ 9223372036854775807 ∧ DAt w (ys i).2.1 (ys i).1.co ∧ (ys i).1.co.length = min (ys i).2.2.1 250 :=
      ⟨fun i => Classical.choose (each i), fun i hil => Classical.choose_spec (each i) hil⟩
    have hget : ∀ j, j < min len 20 → ((List.range (min len 20)).map fun i => (ys i).1).getD j Fn.zero = (ys j).1 := fun j hj => by
      rw [List.getD_eq_getElem?_getD, List.getElem?_map, List.getElem?_range hj]
      rfl
    have hlen : ((List.range (min len 20)).map fun i => (ys i).1).length = min len 20 := by simp
    refine ⟨some a, len, cap, (List.range (min len 20)).map fun i => (ys i).1, hcs, fun h => (by cases h), hl, hm', hlen, fun j hj => ?_⟩
    rw [hlen] at hj
    have hbl : a.block < w.heap.size := by
      refine hlt (.cell a.block a.off) ?_
      rw [hx]
      exact List.mem_append_left _ (MemPlace.mem_row.2 ⟨0, by rw [cellsFn]; omega, by simp⟩)
    obtain ⟨b, off, spot⟩ := a
    have hspot : spot = none := by simpa [Addr.add] using World.cell?_spot (hall 0 (by omega)).1
    subst hspot
    obtain ⟨h0, h1, h2, h3, h4, h5, h6, h7⟩ := hall j (by omega)
    rw [add_plain] at h0 h1 h2
    rw [hget j hj]
    refine ⟨b, off, (ys j).2.1, (ys j).2.2.1, (ys j).2.2.2, rfl, hbl, ⟨h0, ?_, ?_⟩, h6, h7, h4, h5, h3⟩
    · rw [Nat.add_assoc]; exact h1
    · rw [Nat.add_assoc]; exact h2
/-- A list of waits: nil, or its waits in their order; of a long one the first forty. -/
theorem open_waits {fuel : Nat} {cs : List Value} {x : DataW H × List MemPlace} (hlt : ∀ p ∈ x.2, p.block < w.heap.size) (h : DataW.trod enc Tryz.prog w base spare held fuel 23 cs = some x) :
    ∃ (A : Option Addr) (n cap : Nat) (l : List (List (List De))), cs = [.slice A n cap] ∧ (A = none → n = 0 ∧ cap = 0) ∧ n ≤ cap ∧ cap ≤ 9223372036854775807 ∧ WsG w A n l := by
  rcases Go.Deep.open_slice1 Tryz.underlying23 cellsWait h with h0 | ⟨a, len, cap, m, n, V, D, Pl, hcs, hb, hl, hm, hmm, hx, hi⟩
  · exact ⟨none, 0, 0, [], h0.1, fun _ => ⟨rfl, rfl⟩, Nat.le_refl _, by omega, rfl, fun j hj => absurd hj (Nat.not_lt_zero j)⟩
  · have hm' : cap ≤ 9223372036854775807 := by simpa [maxLen] using hm
    have hlm : len ≤ m := by rw [hmm]; split <;> omega
    have each : ∀ i, ∃ y : Option Addr × Nat × Nat × List (List De), i < len → w.cell? (a.add i) = some (.slice y.1 y.2.1 y.2.2.1) ∧ WIn w y.1 y.2.1 y.2.2.1 y.2.2.2 := by
      intro i
      by_cases hil : i < len
      · obtain ⟨hc, ht⟩ := hi i (by omega)
        have hlt2 : ∀ p ∈ (D i, Pl i).2, p.block < w.heap.size := fun p hp => by
          refine hlt p ?_
          rw [hx]
          exact List.mem_append_right _ (List.mem_flatMap.2 ⟨i, List.mem_range.2 (by omega), hp⟩)
        obtain ⟨A, n1, c1, l1, hv, r⟩ := open_wait hlt2 ht
        have hv2 : V i = .slice A n1 c1 := by simpa using hv
        exact ⟨(A, n1, c1, l1), fun _ => ⟨by rw [hc, hv2], r⟩⟩
      · exact ⟨(none, 0, 0, []), fun hh => absurd hh hil⟩
    obtain ⟨ys, hall⟩ : ∃ ys : Nat → Option Addr × Nat × Nat × List (List De), ∀ i, i < len → w.cell? (a.add i) = some (.slice (ys i).1 (ys i).2.1 (ys i).2.2.1) ∧ WIn w (ys i).1 (ys i).2.1 (ys i).2.2.1 (ys i).2.2.2 :=
      ⟨fun i => Classical.choose (each i), fun i hil => Classical.choose_spec (each i) hil⟩
    have hget : ∀ j, j < min len 40 → ((List.range (min len 40)).map fun i => (ys i).2.2.2).getD j [] = (ys j).2.2.2 := fun j hj => by
      rw [List.getD_eq_getElem?_getD, List.getElem?_map, List.getElem?_range hj]
      rfl
    have hlen : ((List.range (min len 40)).map fun i => (ys i).2.2.2).length = min len 40 := by simp
    refine ⟨some a, len, cap, (List.range (min len 40)).map fun i => (ys i).2.2.2, hcs, fun h => (by cases h), hl, hm', hlen, fun j hj => ?_⟩
    rw [hlen] at hj
    have hbl : a.block < w.heap.size := by
      refine hlt (.cell a.block a.off) ?_
      rw [hx]
      exact List.mem_append_left _ (MemPlace.mem_row.2 ⟨0, by omega, by simp⟩)
    obtain ⟨b, off, spot⟩ := a
    have hspot : spot = none := by simpa [Addr.add] using World.cell?_spot (hall 0 (by omega)).1
    subst hspot
    obtain ⟨h0, h1, h2, h3, h4, _⟩ := hall j (by omega)
    rw [add_plain] at h0
    rw [hget j hj]
    exact ⟨b, off, (ys j).1, (ys j).2.1, (ys j).2.2.1, rfl, hbl, h0, h4, h2, h3, h1⟩

set_option maxRecDepth 100000 in
/-- A program that came in. -/
theorem open_prog {n : Nat} {cs : List Value} {y : DataW H × List MemPlace} (hlt : ∀ p ∈ y.2, p.block < w.heap.size) (h : DataW.trod enc Tryz.prog w base spare held n 26 cs = some y) :
    ∃ (v0 v1 v2 : Value) (p : Pg), cs = [v0, v1, v2] ∧ PG w (.agg #[v0, v1, v2]) p := by
  obtain ⟨xs, m, _, hy, hlen, hxl, hf⟩ := DataW.trod_struct Tryz.underlying26 h
  rw [cellsPg] at hlen
  match cs, hlen with
  | [v0, v1, v2], _ =>
    match xs, hxl with
    | [y0, y1, y2], _ =>
      have f0 : DataW.trod enc Tryz.prog w base spare held m 22 [v0] = some y0 := by simpa [cellsDs] using hf 0 _ rfl
      have f1 : DataW.trod enc Tryz.prog w base spare held m 23 [v1] = some y1 := by simpa [cellsWs] using hf 1 _ rfl
      have f2 : DataW.trod enc Tryz.prog w base spare held m 24 [v2] = some y2 := by simpa [cellsFs] using hf 2 _ rfl
      obtain ⟨A, na, ca, ds, e0, a1, a2, a3, a4, _, a6⟩ := open_decls (fun p hp => hlt p (by rw [hy]; simp [hp])) f0
      obtain ⟨B, nb, cb, ws, e1, b1, b2, b3, b4⟩ := open_waits (fun p hp => hlt p (by rw [hy]; simp [hp])) f1
      obtain ⟨C, nc, cc, fs, e2, c1, c2, c3, c4⟩ := open_funcs (fun p hp => hlt p (by rw [hy]; simp [hp])) f2
      simp only [List.cons.injEq, and_true] at e0 e1 e2
      subst e0 e1 e2
      refine ⟨_, _, _, ⟨ds.take 40, ws, fs⟩, rfl, A, B, C, na, nb, nc, ca, cb, cc, rfl, ?_, fun j hj => ?_, b4, c4, a1, b1, c1, ⟨a2, a3⟩, ⟨b2, b3⟩, ⟨c2, c3⟩⟩
      · show (ds.take 40).length = min na 40
        rw [List.length_take]
        omega
      · have hj2 : j < (ds.take 40).length := hj
        rw [List.length_take] at hj2
        have e : (ds.take 40).getD j zero = ds.getD j zero := by
          rw [List.getD_eq_getElem?_getD, List.getD_eq_getElem?_getD, List.getElem?_take_of_lt (by omega)]
        show ∃ b off, A = some ⟨b, off, none⟩ ∧ b < w.heap.size ∧ CellsAt w b (off + j * 3) ((ds.take 40).getD j zero)
        rw [e]
        exact a4 j (by omega)
end
end Go.Proofs.YtnhoeboighndlaaGreatDoor.pgm
