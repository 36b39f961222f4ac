/-
  Texts of one claim in one file: GOps, Nums, NumsIn, PPops. Each has its own sentence, with its conditions.
-/
import Derived.Test.YtjbcmedljgafkaaDoorZq5
import Derived.Test.YtjbcmedljgafkaaDoorProg
import Derived.WalkKit
import Derived.ProofKit
import Derived.IntWalk
import Derived.LoopTactic
import Derived.Lib.Hide
import Derived.Below
import Derived.Outline
import Derived.OwnWalk
import Derived.Deep.RegionLaw
import Derived.Deep.AppendLies
import Derived.Laws.AppendOwnNone
import Derived.Maps.AppendAt
import Derived.Deep.QuietTactic
import Derived.BigQuiet
import Derived.Deep.Cut
import Derived.Deep.CutBlock
import Derived.Deep.DeepCutAuto
import Derived.Deep.RegionHeld3
import Derived.Deep.Slices
import Derived.OpenShut
import Derived.ChangeArms
import Derived.Carry
import Derived.WideKeyArgs
import Derived.Test.YtjbcmedljgafkaaDoorZq1
/-
  A program that came in, as it lies in memory: its first forty objects and waits, its first twenty functions. No condition.
-/

namespace Go.Proofs.YtjbcmedljgafkaaDoor.pgm
open Go.ChangeShapes Go.WideShapes Go.RowKit
open Go.Proofs.YtjbcmedljgafkaaDoor.objs (De zero DAt I64 cells3i LIn open_decls CellsAt)
open Go.Proofs.YtjbcmedljgafkaaDoor.need (WG WIn open_wait)
set_option linter.unusedVariables false

theorem cellsIns : Tryd.prog.cellsOf 55 = 3 := by kernel_rfl
theorem cellsFn : Tryd.prog.cellsOf 58 = 3 := by kernel_rfl
theorem cellsPg : Tryd.prog.cellsOf 26 = 3 := by kernel_rfl
theorem cellsCode : Tryd.prog.cellsOf 56 = 1 := by kernel_rfl
theorem cellsWait : Tryd.prog.cellsOf 67 = 1 := by kernel_rfl
theorem cellsDs : Tryd.prog.cellsOf 22 = 1 := by kernel_rfl
theorem cellsWs : Tryd.prog.cellsOf 23 = 1 := by kernel_rfl
theorem cellsFs : Tryd.prog.cellsOf 24 = 1 := by kernel_rfl

section
variable {H : Type} {enc : TypeId × Value → H} {w : World} {base : Nat} {spare : Nat → Bool} {held : Bool}

set_option maxRecDepth 100000 in
/-- One instruction, out of its three cells. -/
theorem one_ins {n : Nat} {cs : List Value} {y : DataW H × List MemPlace} (h : DataW.trod enc Tryd.prog w base spare held n 55 cs = some y) :
    ∃ o : De, cs = [.int .i64 o.1, .int .i64 o.2.1, .int .i64 o.2.2] := by
  obtain ⟨xs, m, _, hy, hlen, hxl, hf⟩ := DataW.trod_struct Tryd.underlying55 h
  rw [cellsIns] at hlen
  match cs, hlen with
  | [v0, v1, v2], _ =>
    match xs, hxl with
    | [y0, y1, y2], _ =>
      have f0 : DataW.trod enc Tryd.prog w base spare held m 3 [v0] = some y0 := by simpa [cells3i] using hf 0 _ rfl
      have f1 : DataW.trod enc Tryd.prog w base spare held m 3 [v1] = some y1 := by simpa [cells3i] using hf 1 _ rfl
      have f2 : DataW.trod enc Tryd.prog w base spare held m 3 [v2] = some y2 := by simpa [cells3i] using hf 2 _ rfl
      obtain ⟨k, e0, _, _⟩ := DataW.trod_int Tryd.underlying3 f0
      obtain ⟨i, e1, _, _⟩ := DataW.trod_int Tryd.underlying3 f1
      obtain ⟨j, e2, _, _⟩ := DataW.trod_int Tryd.underlying3 f2
      refine ⟨(k, i, j), ?_⟩
      simp only [List.cons.injEq, and_true] at e0 e1 e2
      rw [e0, e1, e2]
/-- A list of instructions: nil, or its instructions in their order; of a long one the first 250. -/
theorem open_code {fuel : Nat} {cs : List Value} {x : DataW H × List MemPlace} (hlt : ∀ p ∈ x.2, p.block < w.heap.size) (h : DataW.trod enc Tryd.prog w base spare held fuel 56 cs = some x) :
    ∃ (A : Option Addr) (n cap : Nat) (l : List De), cs = [.slice A n cap] ∧ (A = none → n = 0 ∧ cap = 0) ∧ n ≤ cap ∧ cap ≤ 9223372036854775807 ∧ DAt w A l ∧ l.length = min n 250 := by
  rcases Go.Deep.open_slice Tryd.underlying56 h with h0 | ⟨a, len, cap, m, n, D, Pl, hcs, hb, hl, hm, hmm, hx, hi⟩
  · exact ⟨none, 0, 0, [], h0.1, fun _ => ⟨rfl, rfl⟩, Nat.le_refl _, by omega, DAt.nil _ _, rfl⟩
  · have hm' : cap ≤ 9223372036854775807 := by simpa [maxLen] using hm
    have hlm : len ≤ m := by rw [hmm]; split <;> omega
    have each : ∀ i, ∃ o : De, i < len → w.cell? (a.add (i * 3)) = some (.int .i64 o.1) ∧ w.cell? (a.add (i * 3 + 1)) = some (.int .i64 o.2.1) ∧ w.cell? (a.add (i * 3 + 2)) = some (.int .i64 o.2.2) := by
      intro i
      by_cases hil : i < len
      · obtain ⟨cs', hc, ht⟩ := hi i (by omega)
        obtain ⟨o, he⟩ := one_ins ht
        obtain ⟨_, _, hat⟩ := World.cells?_some hc
        rw [cellsIns] at hat
        subst he
        have a0 := hat 0 (by omega)
        have a1 := hat 1 (by omega)
        have a2 := hat 2 (by omega)
        rw [Go.Deep.add_add] at a0 a1 a2
        exact ⟨o, fun _ => ⟨a0, a1, a2⟩⟩
      · exact ⟨zero, fun hh => absurd hh hil⟩
    obtain ⟨ops, hall⟩ : ∃ ops : Nat → De, ∀ i, i < len → w.cell? (a.add (i * 3)) = some (.int .i64 (ops i).1) ∧ w.cell? (a.add (i * 3 + 1)) = some (.int .i64 (ops i).2.1) ∧ w.cell? (a.add (i * 3 + 2)) = some (.int .i64 (ops i).2.2) :=
      ⟨fun i => Classical.choose (each i), fun i hil => Classical.choose_spec (each i) hil⟩
    have hget : ∀ j, j < min len 250 → ((List.range (min len 250)).map ops).getD j zero = ops j := fun j hj => by
      rw [List.getD_eq_getElem?_getD, List.getElem?_map, List.getElem?_range hj]
      rfl
    have hlen : ((List.range (min len 250)).map ops).length = min len 250 := by simp
    refine ⟨some a, len, cap, (List.range (min len 250)).map ops, hcs, fun h => (by cases h), hl, hm', fun j hj => ?_, hlen⟩
    rw [hlen] at hj
    have hbl : a.block < w.heap.size := by
      refine hlt (.cell a.block a.off) ?_
      rw [hx]
      exact List.mem_append_left _ (MemPlace.mem_row.2 ⟨0, by rw [cellsIns]; omega, by simp⟩)
    obtain ⟨b, off, spot⟩ := a
    have hspot : spot = none := by simpa [Addr.add] using World.cell?_spot (hall 0 (by omega)).1
    subst hspot
    obtain ⟨h0, h1, h2⟩ := hall j (by omega)
    rw [add_plain] at h0 h1 h2
    rw [hget j hj]
    refine ⟨b, off, rfl, hbl, h0, ?_, ?_⟩
    · rw [Nat.add_assoc]; exact h1
    · rw [Nat.add_assoc]; exact h2

set_option maxRecDepth 100000 in
/-- One function, out of its three cells. -/
theorem one_fn {n : Nat} {cs : List Value} {y : DataW H × List MemPlace} (hlt : ∀ p ∈ y.2, p.block < w.heap.size) (h : DataW.trod enc Tryd.prog w base spare held n 58 cs = some y) :
    ∃ (ar lo : Int) (A : Option Addr) (n cap : Nat) (l : List De), cs = [.int .i64 ar, .int .i64 lo, .slice A n cap] ∧ (A = none → n = 0 ∧ cap = 0) ∧ n ≤ cap ∧ cap ≤ 9223372036854775807 ∧ DAt w A l ∧ l.length = min n 250 := by
  obtain ⟨xs, m, _, hy, hlen, hxl, hf⟩ := DataW.trod_struct Tryd.underlying58 h
  rw [cellsFn] at hlen
  match cs, hlen with
  | [v0, v1, v2], _ =>
    match xs, hxl with
    | [y0, y1, y2], _ =>
      have f0 : DataW.trod enc Tryd.prog w base spare held m 3 [v0] = some y0 := by simpa [cells3i] using hf 0 _ rfl
      have f1 : DataW.trod enc Tryd.prog w base spare held m 3 [v1] = some y1 := by simpa [cells3i] using hf 1 _ rfl
      have f2 : DataW.trod enc Tryd.prog w base spare held m 56 [v2] = some y2 := by simpa [cellsCode] using hf 2 _ rfl
      obtain ⟨k, e0, _, _⟩ := DataW.trod_int Tryd.underlying3 f0
      obtain ⟨i, e1, _, _⟩ := DataW.trod_int Tryd.underlying3 f1
      obtain ⟨A, n2, cap, l, e2, r⟩ := open_code (fun p hp => hlt p (by rw [hy]; simp [hp])) f2
      refine ⟨k, i, A, n2, cap, l, ?_, r⟩
      simp only [List.cons.injEq, and_true] at e0 e1 e2
      rw [e0, e1, e2]
/-- A list of functions: nil, or its functions in their order; of a long one the first twenty. -/
theorem open_funcs {fuel : Nat} {cs : List Value} {x : DataW H × List MemPlace} (hlt : ∀ p ∈ x.2, p.block < w.heap.size) (h : DataW.trod enc Tryd.prog w base spare held fuel 24 cs = some x) :
    ∃ (A : Option Addr) (n cap : Nat) (l : List Fn), cs = [.slice A n cap] ∧ (A = none → n = 0 ∧ cap = 0) ∧ n ≤ cap ∧ cap ≤ 9223372036854775807 ∧ FsG w A n l := by
  rcases Go.Deep.open_slice Tryd.underlying24 h with h0 | ⟨a, len, cap, m, n, D, Pl, hcs, hb, hl, hm, hmm, hx, hi⟩
  · exact ⟨none, 0, 0, [], h0.1, fun _ => ⟨rfl, rfl⟩, Nat.le_refl _, by omega, rfl, fun j hj => absurd hj (Nat.not_lt_zero j)⟩
  · have hm' : cap ≤ 9223372036854775807 := by simpa [maxLen] using hm
    have hlm : len ≤ m := by rw [hmm]; split <;> omega
    have each : ∀ i, ∃ y : Fn × Option Addr × Nat × Nat, i < len → w.cell? (a.add (i * 3)) = some (.int .i64 y.1.ar) ∧ w.cell? (a.add (i * 3 + 1)) = some (.int .i64 y.1.lo) ∧ w.cell? (a.add (i * 3 + 2)) = some (.slice y.2.1 y.2.2.1 y.2.2.2) ∧ (y.2.1 = none → y.2.2.1 = 0 ∧ y.2.2.2 = 0) ∧ y.2.2.1 ≤ y.2.2.2 ∧ y.2.2.2 ≤ 9223372036854775807 ∧ DAt w y.2.1 y.1.co ∧ y.1.co.length = min y.2.2.1 250 := by
      intro i
      by_cases hil : i < len
      · obtain ⟨cs', hc, ht⟩ := hi i (by omega)
        have hlt2 : ∀ p ∈ (D i, Pl i).2, p.block < w.heap.size := fun p hp => by
          refine hlt p ?_
          rw [hx]
          exact List.mem_append_right _ (List.mem_flatMap.2 ⟨i, List.mem_range.2 (by omega), hp⟩)
        obtain ⟨ar, lo, A, n1, c1, l1, hv, r⟩ := one_fn hlt2 ht
        obtain ⟨_, _, hat⟩ := World.cells?_some hc
        rw [cellsFn] at hat
        subst hv
        have a0 := hat 0 (by omega)
        have a1 := hat 1 (by omega)
        have a2 := hat 2 (by omega)
        rw [Go.Deep.add_add] at a0 a1 a2
        exact ⟨(⟨ar, lo, l1⟩, A, n1, c1), fun _ => ⟨a0, a1, a2, r⟩⟩
      · exact ⟨(Fn.zero, none, 0, 0), fun hh => absurd hh hil⟩
    obtain ⟨ys, hall⟩ : ∃ ys : Nat → Fn × Option Addr × Nat × Nat, ∀ i, i < len → w.cell? (a.add (i * 3)) = some (.int .i64 (ys i).1.ar) ∧ w.cell? (a.add (i * 3 + 1)) = some (.int .i64 (ys i).1.lo) ∧ w.cell? (a.add (i * 3 + 2)) = some (.slice (ys i).2.1 (ys i).2.2.1 (ys i).2.2.2) ∧ ((ys i).2.1 = none → (ys i).2.2.1 = 0 ∧ (ys i).2.2.2 = 0) ∧ (ys i).2.2.1 ≤ (ys i).2.2.2 ∧ (ys i).2.2.2 ≤ 9223372036854775807 ∧ DAt w (ys i).2.1 (ys i).1.co ∧ (ys i).1.co.length = min (ys i).2.2.1 250 :=
      ⟨fun i => Classical.choose (each i), fun i hil => Classical.choose_spec (each i) hil⟩
    have hget : ∀ j, j < min len 20 → ((List.range (min len 20)).map fun i => (ys i).1).getD j Fn.zero = (ys j).1 := fun j hj => by
      rw [List.getD_eq_getElem?_getD, List.getElem?_map, List.getElem?_range hj]
      rfl
    have hlen : ((List.range (min len 20)).map fun i => (ys i).1).length = min len 20 := by simp
    refine ⟨some a, len, cap, (List.range (min len 20)).map fun i => (ys i).1, hcs, fun h => (by cases h), hl, hm', hlen, fun j hj => ?_⟩
    rw [hlen] at hj
    have hbl : a.block < w.heap.size := by
      refine hlt (.cell a.block a.off) ?_
      rw [hx]
      exact List.mem_append_left _ (MemPlace.mem_row.2 ⟨0, by rw [cellsFn]; omega, by simp⟩)
    obtain ⟨b, off, spot⟩ := a
    have hspot : spot = none := by simpa [Addr.add] using World.cell?_spot (hall 0 (by omega)).1
    subst hspot
    obtain ⟨h0, h1, h2, h3, h4, h5, h6, h7⟩ := hall j (by omega)
    rw [add_plain] at h0 h1 h2
    rw [hget j hj]
    refine ⟨b, off, (ys j).2.1, (ys j).2.2.1, (ys j).2.2.2, rfl, hbl, ⟨h0, ?_, ?_⟩, h6, h7, h4, h5, h3⟩
    · rw [Nat.add_assoc]; exact h1
    · rw [Nat.add_assoc]; exact h2
/-- A list of waits: nil, or its waits in their order; of a long one the first forty. -/
theorem open_waits {fuel : Nat} {cs : List Value} {x : DataW H × List MemPlace} (hlt : ∀ p ∈ x.2, p.block < w.heap.size) (h : DataW.trod enc Tryd.prog w base spare held fuel 23 cs = some x) :
    ∃ (A : Option Addr) (n cap : Nat) (l : List (List (List De))), cs = [.slice A n cap] ∧ (A = none → n = 0 ∧ cap = 0) ∧ n ≤ cap ∧ cap ≤ 9223372036854775807 ∧ WsG w A n l := by
  rcases Go.Deep.open_slice1 Tryd.underlying23 cellsWait h with h0 | ⟨a, len, cap, m, n, V, D, Pl, hcs, hb, hl, hm, hmm, hx, hi⟩
  · exact ⟨none, 0, 0, [], h0.1, fun _ => ⟨rfl, rfl⟩, Nat.le_refl _, by omega, rfl, fun j hj => absurd hj (Nat.not_lt_zero j)⟩
  · have hm' : cap ≤ 9223372036854775807 := by simpa [maxLen] using hm
    have hlm : len ≤ m := by rw [hmm]; split <;> omega
    have each : ∀ i, ∃ y : Option Addr × Nat × Nat × List (List De), i < len → w.cell? (a.add i) = some (.slice y.1 y.2.1 y.2.2.1) ∧ WIn w y.1 y.2.1 y.2.2.1 y.2.2.2 := by
      intro i
      by_cases hil : i < len
      · obtain ⟨hc, ht⟩ := hi i (by omega)
        have hlt2 : ∀ p ∈ (D i, Pl i).2, p.block < w.heap.size := fun p hp => by
          refine hlt p ?_
          rw [hx]
          exact List.mem_append_right _ (List.mem_flatMap.2 ⟨i, List.mem_range.2 (by omega), hp⟩)
        obtain ⟨A, n1, c1, l1, hv, r⟩ := open_wait hlt2 ht
        have hv2 : V i = .slice A n1 c1 := by simpa using hv
        exact ⟨(A, n1, c1, l1), fun _ => ⟨by rw [hc, hv2], r⟩⟩
      · exact ⟨(none, 0, 0, []), fun hh => absurd hh hil⟩
    obtain ⟨ys, hall⟩ : ∃ ys : Nat → Option Addr × Nat × Nat × List (List De), ∀ i, i < len → w.cell? (a.add i) = some (.slice (ys i).1 (ys i).2.1 (ys i).2.2.1) ∧ WIn w (ys i).1 (ys i).2.1 (ys i).2.2.1 (ys i).2.2.2 :=
      ⟨fun i => Classical.choose (each i), fun i hil => Classical.choose_spec (each i) hil⟩
    have hget : ∀ j, j < min len 40 → ((List.range (min len 40)).map fun i => (ys i).2.2.2).getD j [] = (ys j).2.2.2 := fun j hj => by
      rw [List.getD_eq_getElem?_getD, List.getElem?_map, List.getElem?_range hj]
      rfl
    have hlen : ((List.range (min len 40)).map fun i => (ys i).2.2.2).length = min len 40 := by simp
    refine ⟨some a, len, cap, (List.range (min len 40)).map fun i => (ys i).2.2.2, hcs, fun h => (by cases h), hl, hm', hlen, fun j hj => ?_⟩
    rw [hlen] at hj
    have hbl : a.block < w.heap.size := by
      refine hlt (.cell a.block a.off) ?_
      rw [hx]
      exact List.mem_append_left _ (MemPlace.mem_row.2 ⟨0, by omega, by simp⟩)
    obtain ⟨b, off, spot⟩ := a
    have hspot : spot = none := by simpa [Addr.add] using World.cell?_spot (hall 0 (by omega)).1
    subst hspot
    obtain ⟨h0, h1, h2, h3, h4, _⟩ := hall j (by omega)
    rw [add_plain] at h0
    rw [hget j hj]
    exact ⟨b, off, (ys j).1, (ys j).2.1, (ys j).2.2.1, rfl, hbl, h0, h4, h2, h3, h1⟩

set_option maxRecDepth 100000 in
/-- A program that came in. -/
theorem open_prog {n : Nat} {cs : List Value} {y : DataW H × List MemPlace} (hlt : ∀ p ∈ y.2, p.block < w.heap.size) (h : DataW.trod enc Tryd.prog w base spare held n 26 cs = some y) :
    ∃ (v0 v1 v2 : Value) (p : Pg), cs = [v0, v1, v2] ∧ PG w (.agg #[v0, v1, v2]) p := by
  obtain ⟨xs, m, _, hy, hlen, hxl, hf⟩ := DataW.trod_struct Tryd.underlying26 h
  rw [cellsPg] at hlen
  match cs, hlen with
  | [v0, v1, v2], _ =>
    match xs, hxl with
    | [y0, y1, y2], _ =>
      have f0 : DataW.trod enc Tryd.prog w base spare held m 22 [v0] = some y0 := by simpa [cellsDs] using hf 0 _ rfl
      have f1 : DataW.trod enc Tryd.prog w base spare held m 23 [v1] = some y1 := by simpa [cellsWs] using hf 1 _ rfl
      have f2 : DataW.trod enc Tryd.prog w base spare held m 24 [v2] = some y2 := by simpa [cellsFs] using hf 2 _ rfl
      obtain ⟨A, na, ca, ds, e0, a1, a2, a3, a4, _, a6⟩ := open_decls (fun p hp => hlt p (by rw [hy]; simp [hp])) f0
      obtain ⟨B, nb, cb, ws, e1, b1, b2, b3, b4⟩ := open_waits (fun p hp => hlt p (by rw [hy]; simp [hp])) f1
      obtain ⟨C, nc, cc, fs, e2, c1, c2, c3, c4⟩ := open_funcs (fun p hp => hlt p (by rw [hy]; simp [hp])) f2
      simp only [List.cons.injEq, and_true] at e0 e1 e2
      subst e0 e1 e2
      refine ⟨_, _, _, ⟨ds.take 40, ws, fs⟩, rfl, A, B, C, na, nb, nc, ca, cb, cc, rfl, ?_, fun j hj => ?_, b4, c4, a1, b1, c1, ⟨a2, a3⟩, ⟨b2, b3⟩, ⟨c2, c3⟩⟩
      · show (ds.take 40).length = min na 40
        rw [List.length_take]
        omega
      · have hj2 : j < (ds.take 40).length := hj
        rw [List.length_take] at hj2
        have e : (ds.take 40).getD j zero = ds.getD j zero := by
          rw [List.getD_eq_getElem?_getD, List.getD_eq_getElem?_getD, List.getElem?_take_of_lt (by omega)]
        show ∃ b off, A = some ⟨b, off, none⟩ ∧ b < w.heap.size ∧ CellsAt w b (off + j * 3) ((ds.take 40).getD j zero)
        rw [e]
        exact a4 j (by omega)
end
end Go.Proofs.YtjbcmedljgafkaaDoor.pgm

/-
  Lists of numbers as they lie in memory, wherever they came from; a row of numbers that a call owns, and what an append makes of it. No condition.
-/

namespace Go.Proofs.YtjbcmedljgafkaaDoor.nums
open Go.RowKit Go.ChangeShapes
set_option linter.unusedVariables false

/-- A list of numbers, one behind the other, from where a slice begins. -/
def NAt (w : World) (A : Option Addr) (l : List Int) : Prop := ∀ j, j < l.length → ∃ b off, A = some ⟨b, off, none⟩ ∧ b < w.heap.size ∧ w.cell? ⟨b, off + j, none⟩ = some (.int .i64 (l.getD j 0))
theorem NAt.next {w w' : World} {A : Option Addr} {l : List Int} (h : NAt w A l) (hb : Below w.heap.size w w') : NAt w' A l := fun j hj => by
  obtain ⟨b, off, h1, h2, h3⟩ := h j hj
  exact ⟨b, off, h1, Nat.lt_of_lt_of_le h2 hb.size, (hb.cell (p := ⟨b, off + j, none⟩) h2).trans h3⟩
theorem NAt.keep {w w' : World} {b off : Nat} {l : List Int} (h : NAt w (some ⟨b, off, none⟩) l) (hk : w'.heap[b]? = w.heap[b]?) : NAt w' (some ⟨b, off, none⟩) l := fun j hj => by
  obtain ⟨b', off', h1, h2, h3⟩ := h j hj
  injection h1 with h1
  injection h1 with e1 e2
  subst e1 e2
  have := (World.cell?_of_block (a := ⟨b, off + j, none⟩) hk).trans h3
  refine ⟨b, off, rfl, ?_, this⟩
  rcases Nat.lt_or_ge b w'.heap.size with h | h
  · exact h
  · rw [Array.getElem?_eq_none h, Array.getElem?_eq_getElem h2] at hk
    cases hk
theorem NAt.nil (w : World) (A : Option Addr) : NAt w A [] := fun j hj => absurd hj (Nat.not_lt_zero j)
theorem NAt.take {w : World} {A : Option Addr} {l : List Int} (h : NAt w A l) (n : Nat) : NAt w A (l.take n) := fun j hj => by
  rw [List.length_take] at hj
  obtain ⟨b, off, h1, h2, h3⟩ := h j (by omega)
  refine ⟨b, off, h1, h2, h3.trans ?_⟩
  rw [List.getD_eq_getElem?_getD, List.getD_eq_getElem?_getD, List.getElem?_take_of_lt (by omega)]
theorem getD_any {l : List Int} {j : Nat} (h : j < l.length) (x y : Int) : l.getD j x = l.getD j y := by
  rw [List.getD_eq_getElem?_getD, List.getD_eq_getElem?_getD, List.getElem?_eq_getElem h]
  rfl
def ints (l : List Int) : List Value := l.map (Value.int .i64)
theorem ints_length (l : List Int) : (ints l).length = l.length := by simp [ints]
theorem ints_append (l r : List Int) : ints (l ++ r) = ints l ++ ints r := by simp [ints]
theorem ints_at {l : List Int} {j : Nat} (h : j < l.length) : (ints l)[j]? = some (.int .i64 (l.getD j 0)) := by
  simp [ints, List.getD_eq_getElem?_getD, List.getElem?_eq_getElem h]
theorem ints_oneCell (l : List Int) : ∀ u ∈ ints l, u.oneCell' = true := by
  intro u hu
  obtain ⟨x, _, rfl⟩ := List.mem_map.1 hu
  rfl
/-- A slice's value of numbers, nil or a row of the call's own. -/
def OwnI (w : World) (base : Nat) (v : Value) (l : List Int) : Prop := w.ownsRow base 3 1 v l.length (ints l)
theorem OwnI.nil (w : World) (base : Nat) : OwnI w base (.slice none 0 0) [] := World.ownsRow_nil ..
theorem OwnI.empty {w : World} {g : Nat} (h : w.heap[g]? = some (.cells #[] 3 (0, 0))) : OwnI w g (.slice (some ⟨g, 0, none⟩) 0 0) [] :=
  ⟨rfl, .inr ⟨g, 0, #[], rfl, Nat.le_refl _, h, Nat.le_refl _, Nat.zero_le _, rfl, rfl⟩⟩
theorem OwnI.slice {w : World} {base : Nat} {v : Value} {l : List Int} (h : OwnI w base v l) : ∃ A cap, v = .slice A l.length cap := by
  rcases h.2 with ⟨rfl, h0⟩ | ⟨g, cap, cur, rfl, _⟩
  · exact ⟨none, 0, by rw [h0]⟩
  · exact ⟨_, _, rfl⟩
theorem OwnI.at {w : World} {base cap : Nat} {A : Option Addr} {l : List Int} {n : Nat} (h : OwnI w base (.slice A n cap) l) : NAt w A l := by
  intro j hj
  rcases h.2 with ⟨e, h0⟩ | ⟨g, cap', cur, e, hb, hh, _⟩
  · omega
  · injection e with e1 e2 e3
    subst e1
    refine ⟨g, 0, rfl, lt_of_block hh, ?_⟩
    have := World.ownsRow.cells h (g := g) rfl _ _ (ints_at hj)
    rw [Addr.add_lit] at this
    simpa using this
theorem OwnI.keep {w w' : World} {base : Nat} {v : Value} {l : List Int} (h : OwnI w base v l) (hk : ∀ g, v.ownBlock = some g → w'.heap[g]? = w.heap[g]?) : OwnI w' base v l := by
  refine ⟨h.1, h.2.imp id ?_⟩
  rintro ⟨g, c, cur, rfl, hb, hh, r⟩
  exact ⟨g, c, cur, rfl, hb, (hk g rfl).trans hh, r⟩
theorem OwnI.lt {w : World} {base g : Nat} {v : Value} {l : List Int} (h : OwnI w base v l) (hg : v.ownBlock = some g) : base ≤ g ∧ g < w.heap.size := World.ownsRow.lt h g hg
theorem OwnI.next {w w' : World} {base : Nat} {v : Value} {l : List Int} (h : OwnI w base v l) (hb : Below w.heap.size w w') : OwnI w' base v l := h.keep fun g hg => hb.block g (h.lt hg).2
theorem OwnI.base {w : World} {base base' : Nat} {v : Value} {l : List Int} (h : OwnI w base v l) (hb : base' ≤ base) : OwnI w base' v l := by
  refine ⟨h.1, h.2.imp id ?_⟩
  rintro ⟨g, c, cur, e, hb1, r⟩
  exact ⟨g, c, cur, e, Nat.le_trans hb hb1, r⟩
theorem infoI : (Tryd.prog.info? 3).map (fun i => (i.zero, i.size, i.bytes)) = some (some (.int .i64 0), 1, 8) := by kernel_rfl
theorem src_ints {w : World} {ad : Addr} {r : List Int} (h : NAt w (some ad) r) : ∀ (j : Nat) (u : Value), (ints r)[j]? = some u → w.cell? (ad.add j) = some u := by
  intro j u hu
  have hj : j < r.length := by
    have := (List.getElem?_eq_some_iff.1 hu).1
    rwa [ints_length] at this
  obtain ⟨b, off, e, _, h1⟩ := h j hj
  obtain rfl := Option.some.inj e
  rw [Addr.add_lit, h1, ← hu, ints_at hj]
/-- A list that lies anywhere, put behind a row of a call's own. -/
theorem run_appI (w : World) (ty : TypeId) (base m c : Nat) (v : Value) (A : Option Addr) (l r : List Int) (hrow : OwnI w base v l) (hm : m = r.length) (hA : A = none → r = [] ∧ c = 0) (hsrc : NAt w A r) (hlen : l.length + r.length ≤ 100000) (hbase : base ≤ w.heap.size) :
    ∃ v' w', (Builtin.append_ #[27, 27] ty #[v, .slice A m c]).run Tryd.prog w = .ok v' w' ∧ OwnI w' base v' (l ++ r) ∧ w.grownBy w' v.ownBlock := by
  subst hm
  obtain ⟨i, hi, hz0, hz1, hz2⟩ := info_parts infoI
  cases A with
  | none =>
    obtain ⟨rfl, rfl⟩ := hA rfl
    refine ⟨v, w, run_append_owned_none (P := Tryd.prog) (w := w) base 27 ty 3 i 1 Tryd.underlying27 hi v l.length (ints l) hrow, ?_, ⟨rfl, rfl, rfl, Nat.le_refl _, fun _ _ _ => rfl⟩⟩
    rw [List.append_nil]
    exact hrow
  | some ad =>
    obtain ⟨v', w', h1, h2, h3, _⟩ := run_append_own (P := Tryd.prog) w base 27 ty 3 i _ 1 8 Tryd.underlying27 hi hz0 hz1 hz2 rfl (by omega) v l.length (ints l) hrow ad r.length c (ints r) (by rw [ints_length, Nat.mul_one]) (src_ints hsrc) (ints_oneCell r) (by unfold maxLen; omega) (by omega) hbase
    refine ⟨v', w', h1, ?_, h3⟩
    unfold OwnI
    rw [List.length_append, ints_append]
    exact h2
theorem wp_appI {o : Oper} {a : Act} {w : World} {K : Act → World → Prop} {Q : Exit → Act → World → Prop} (s x : Operand)
    (ho : o.op = .call { callee := .builtin .append, args := #[s, x], argTypes := #[27, 27] }) (base m c : Nat) (v : Value) (A : Option Addr) (l r : List Int)
    (hs : a.eval s = v) (hrow : OwnI w base v l) (hx : a.eval x = .slice A m c) (hm : m = r.length) (hA : A = none → r = [] ∧ c = 0) (hsrc : NAt w A r) (hlen : l.length + r.length ≤ 100000) (hbase : base ≤ w.heap.size)
    (h : ∀ v' w', OwnI w' base v' (l ++ r) → w.grownBy w' v.ownBlock → K (a.put o.dst v') w') : o.wp Tryd.prog a w K Q := by
  obtain ⟨v', w', hr, h2, h3⟩ := run_appI w o.type base m c v A l r hrow hm hA hsrc hlen hbase
  unfold Oper.wp execOp
  simp only [ho, resolve, invoke, builtin, Sem.run_bind, Sem.run_pure, Result.andThen_ok, List.map_toArray, List.map_cons, List.map_nil, hs, hx, hr]
  exact h v' w' h2 h3
theorem wpList_appI {ops : Array Oper} {rest : List Oper} {o : Oper} {a : Act} {w : World} {Q : Exit → Act → World → Prop} (hgd : o.guard = none) (s x : Operand)
    (ho : o.op = .call { callee := .builtin .append, args := #[s, x], argTypes := #[27, 27] }) (base m c : Nat) (v : Value) (A : Option Addr) (l r : List Int)
    (hs : a.eval s = v) (hrow : OwnI w base v l) (hx : a.eval x = .slice A m c) (hm : m = r.length) (hA : A = none → r = [] ∧ c = 0) (hsrc : NAt w A r) (hlen : l.length + r.length ≤ 100000) (hbase : base ≤ w.heap.size)
    (h : ∀ v' w', OwnI w' base v' (l ++ r) → w.grownBy w' v.ownBlock → wpList Tryd.prog ops Q rest (a.put o.dst v') w') : wpList Tryd.prog ops Q (o :: rest) a w :=
  wpList_plain hgd fun _ hK => wp_appI s x ho base m c v A l r hs hrow hx hm hA hsrc hlen hbase fun v' w' h2 h3 => hK _ _ (h v' w' h2 h3)
end Go.Proofs.YtjbcmedljgafkaaDoor.nums

/-
  Lists of numbers, and of yes and no, that came in, as they lie in memory. No condition.
-/

namespace Go.Proofs.YtjbcmedljgafkaaDoor.nums
open Go.ChangeShapes Go.WideShapes Go.RowKit
set_option linter.unusedVariables false

theorem cellsInt : Tryd.prog.cellsOf 3 = 1 := by kernel_rfl
/-- A list of yes and no, from where a slice begins. -/
def YsAt (w : World) (A : Option Addr) (l : List Bool) : Prop := ∀ j, j < l.length → ∃ b off, A = some ⟨b, off, none⟩ ∧ b < w.heap.size ∧ w.cell? ⟨b, off + j, none⟩ = some (.bool (l.getD j false))
theorem YsAt.next {w w' : World} {A : Option Addr} {l : List Bool} (h : YsAt w A l) (hb : Below w.heap.size w w') : YsAt w' A l := fun j hj => by
  obtain ⟨b, off, h1, h2, h3⟩ := h j hj
  exact ⟨b, off, h1, Nat.lt_of_lt_of_le h2 hb.size, (hb.cell (p := ⟨b, off + j, none⟩) h2).trans h3⟩
theorem YsAt.nil (w : World) (A : Option Addr) : YsAt w A [] := fun j hj => absurd hj (Nat.not_lt_zero j)

section
variable {H : Type} {enc : TypeId × Value → H} {w : World} {base : Nat} {spare : Nat → Bool} {held : Bool}
/-- A list of numbers: nil, or its numbers in their order. -/
theorem open_nums {fuel : Nat} {cs : List Value} {x : DataW H × List MemPlace} (h : DataW.trod enc Tryd.prog w base spare held fuel 27 cs = some x) :
    ∃ (A : Option Addr) (n cap : Nat) (l : List Int), cs = [.slice A n cap] ∧ (A = none → n = 0 ∧ cap = 0) ∧ n ≤ cap ∧ cap ≤ 9223372036854775807 ∧ l.length = n ∧ NAt w A l ∧ ∀ z ∈ l, (Lit.int .i64 z).wf = true := by
  rcases open_ints Tryd.underlying27 Tryd.underlying3 cellsInt h with ⟨hcs, hx⟩ | ⟨a, len, cap, zs, hcs, _, hl, hm, hz, hx, hcell, hwz⟩
  · exact ⟨none, 0, 0, [], hcs, fun _ => ⟨rfl, rfl⟩, Nat.le_refl _, by omega, rfl, NAt.nil _ _, fun z hz => by cases hz⟩
  · have hm' : cap ≤ 9223372036854775807 := by simpa [maxLen] using hm
    have hzl : len ≤ zs.length := by rw [hz]; split <;> omega
    refine ⟨some a, len, cap, zs.take len, hcs, fun h => (by cases h), hl, hm', by rw [List.length_take]; omega, fun j hj => ?_, fun z hz => hwz z (List.mem_of_mem_take hz)⟩
    rw [List.length_take] at hj
    obtain ⟨b, off, spot⟩ := a
    have hspot : spot = none := by simpa [Addr.add] using World.cell?_spot (hcell 0 (by omega))
    subst hspot
    have hbW : b < w.heap.size := World.block_lt_of_cell? w _ (hcell 0 (by omega))
    have h1 := hcell j (by omega)
    rw [add_plain] at h1
    refine ⟨b, off, rfl, hbW, h1.trans ?_⟩
    rw [List.getD_eq_getElem?_getD, List.getD_eq_getElem?_getD, List.getElem?_take_of_lt (by omega)]
end
end Go.Proofs.YtjbcmedljgafkaaDoor.nums

/-
  How many values an instruction takes: the program's own call, wherever the second operand is not the greatest number. 
-/

namespace Go.Proofs.YtjbcmedljgafkaaDoor.oper
open Go.RowKit Go.ChangeShapes

def tkL : List Int := [20, 42, 41, 3, 4, 5, 6, 7, 9, 10, 11, 12, 13, 14, 15, 40, 43, 2, 8, 16, 17, 19, 21, 24, 27, 28, 30, 31, 33, 39, 44, 46, 49]
theorem tk_rest : ∀ k : Nat, k < 52 → (tkL.all fun j => !((k : Int) == j)) = true → tk.getD k 0 = 0 := by decide +kernel
theorem tk_other (n : Int) (h : (tkL.all fun j => !(n == j)) = true) : numb tk n = 0 := by
  by_cases hk : 0 ≤ n ∧ n ≤ 51
  · obtain ⟨k, hk', rfl⟩ := nat_of hk
    rw [numb_at hk']
    exact tk_rest k hk' h
  · exact numb_no (by omega)
/-- How many values are taken, by operation, second operand, and arguments. -/
def pops (o b args : Int) : Int := if o = 20 then args else if o = 41 then b else if o = 42 then 1 + b else numb tk o
/-- The memory that an instruction handed in by value takes. -/
def insBox (o a b : Int) : Obj := .cells #[.int .i64 o, .int .i64 a, .int .i64 b] 55
theorem pops_other (n b args : Int) (h : (tkL.all fun j => !(n == j)) = true) : pops n b args = 0 := by
  have hne : ∀ j ∈ tkL, n ≠ j := fun j hj => by simpa using List.all_eq_true.1 h j hj
  unfold pops
  rw [if_neg (hne 20 (by decide)), if_neg (hne 41 (by decide)), if_neg (hne 42 (by decide)), tk_other n h]

set_option maxHeartbeats 2000000 in
theorem pops_any (o a b args : Int) (hb0 : -9223372036854775808 ≤ b) (hb1 : b < 9223372036854775807) (w : World) :
    Calls Tryd.prog 43 #[.agg #[.int .i64 o, .int .i64 a, .int .i64 b], .int .i64 args] w fun e w' => e = .returned (.int .i64 (pops o b args)) ∧ w' = w.alloc (insBox o a b) := by
  go_enter Tryd.func43, Tryd.ntmps43
  go_wp2
  all_goals go_ret
  all_goals refine ⟨ret_int ?_, rfl⟩
  all_goals first
    | (have hq := eq_of_beq ‹(o == _) = true›; subst hq; first | rfl | (unfold pops; simp only [Int.zero_add]; rfl))
    | (rw [pops_other o b args (by simp only [tkL, List.all_cons, List.all_nil, Bool.not_false, Bool.and_self, *])])
end Go.Proofs.YtjbcmedljgafkaaDoor.oper
