/-
  Lists of calls of 3 numbers that came in, as they lie in memory. No condition.
-/
import Derived.Test.YtlkcpplpjjbiaaaObjKit
import Derived.Deep.Slices
import Derived.OpenShut
import Derived.Below
import Derived.ChangeSame
import Derived.ChangeArms
import Derived.Carry
import Derived.ProofKit
import Derived.WideKeyArgs
namespace Go.Proofs.Ytlkcpplpjjbiaaa.reg
open Go.ChangeShapes Go.WideShapes Go.RowKit
open Go.Proofs.Ytlkcpplpjjbiaaa.obj (I64 i64_of)
set_option linter.unusedVariables false

theorem cellsInt : Try.prog.cellsOf 3 = 1 := by kernel_rfl
theorem cellsOp : Try.prog.cellsOf 36 = 3 := by kernel_rfl
theorem add_plain (b off i : Nat) : (⟨b, off, none⟩ : Addr).add i = ⟨b, off + i, none⟩ := Addr.add_lit ..
/-- Calls as they came in: 3 numbers each. -/
def OpsAt (w : World) (A : Option Addr) (ops : List (Int × Int × Int)) : Prop :=
  ∀ j, j < ops.length → ∃ b off, A = some ⟨b, off, none⟩ ∧ b < w.heap.size ∧ w.cell? ⟨b, off + j * 3, none⟩ = some (.int .i64 (ops.getD j (0, 0, 0)).1) ∧ w.cell? ⟨b, off + j * 3 + 1, none⟩ = some (.int .i64 (ops.getD j (0, 0, 0)).2.1) ∧ w.cell? ⟨b, off + j * 3 + 2, none⟩ = some (.int .i64 (ops.getD j (0, 0, 0)).2.2)
theorem OpsAt.next {w w' : World} {A : Option Addr} {ops : List (Int × Int × Int)} (h : OpsAt w A ops) (hb : Below w.heap.size w w') : OpsAt w' A ops := fun j hj => by
  obtain ⟨b, off, h1, h2, h3, h4, h5⟩ := h j hj
  exact ⟨b, off, h1, Nat.lt_of_lt_of_le h2 hb.size, (hb.cell (p := ⟨b, off + j * 3, none⟩) h2).trans h3, (hb.cell (p := ⟨b, off + j * 3 + 1, none⟩) h2).trans h4, (hb.cell (p := ⟨b, off + j * 3 + 2, none⟩) h2).trans h5⟩

section
variable {H : Type} {enc : TypeId × Value → H} {w : World} {base : Nat} {spare : Nat → Bool} {held : Bool}

set_option maxRecDepth 100000 in
/-- One call, out of its 3 cells. -/
theorem one_op {n : Nat} {cs : List Value} {y : DataW H × List MemPlace} (h : DataW.trod enc Try.prog w base spare held n 36 cs = some y) :
    ∃ o : Int × Int × Int, cs = [.int .i64 o.1, .int .i64 o.2.1, .int .i64 o.2.2] ∧ I64 o.1 ∧ I64 o.2.1 ∧ I64 o.2.2 := by
  obtain ⟨xs, m, _, hy, hlen, hxl, hf⟩ := DataW.trod_struct Try.underlying36 h
  rw [cellsOp] at hlen
  match cs, hlen with
  | [v0, v1, v2], _ =>
    match xs, hxl with
    | [y0, y1, y2], _ =>
      have f0 : DataW.trod enc Try.prog w base spare held m 3 [v0] = some y0 := by simpa [cellsInt] using hf 0 _ rfl
      have f1 : DataW.trod enc Try.prog w base spare held m 3 [v1] = some y1 := by simpa [cellsInt] using hf 1 _ rfl
      have f2 : DataW.trod enc Try.prog w base spare held m 3 [v2] = some y2 := by simpa [cellsInt] using hf 2 _ rfl
      obtain ⟨k, e0, _, w0⟩ := DataW.trod_int Try.underlying3 f0
      obtain ⟨l, e1, _, w1⟩ := DataW.trod_int Try.underlying3 f1
      obtain ⟨m, e2, _, w2⟩ := DataW.trod_int Try.underlying3 f2
      refine ⟨(k, l, m), ?_, i64_of w0, i64_of w1, i64_of w2⟩
      simp only [List.cons.injEq, and_true] at e0 e1 e2
      rw [e0, e1, e2]

set_option maxRecDepth 100000 in
/-- A list of calls: nil, or its calls in their order. -/
theorem open_ops {fuel : Nat} {cs : List Value} {x : DataW H × List MemPlace} (hlt : ∀ p ∈ x.2, p.block < w.heap.size) (h : DataW.trod enc Try.prog w base spare held fuel 23 cs = some x) :
    ∃ (a : Option Addr) (cap : Nat) (ops : List (Int × Int × Int)), cs = [.slice a ops.length cap] ∧ ops.length ≤ maxLen ∧ OpsAt w a ops ∧ ∀ j, j < ops.length → I64 (ops.getD j (0, 0, 0)).1 ∧ I64 (ops.getD j (0, 0, 0)).2.1 ∧ I64 (ops.getD j (0, 0, 0)).2.2 := by
  rcases Go.Deep.open_slice Try.underlying23 h with h0 | ⟨a, len, cap, m, n, D, Pl, hcs, hb, hl, hm, hmm, hx, hi⟩
  · exact ⟨none, 0, [], h0.1, Nat.zero_le _, fun j hj => absurd hj (Nat.not_lt_zero j), fun j hj => absurd hj (Nat.not_lt_zero j)⟩
  · by_cases hl0 : len = 0
    · subst hl0
      exact ⟨some a, cap, [], hcs, Nat.zero_le _, fun j hj => absurd hj (Nat.not_lt_zero j), fun j hj => absurd hj (Nat.not_lt_zero j)⟩
    have hlm : len ≤ m := by rw [hmm]; split <;> omega
    have each : ∀ i, ∃ o : Int × Int × Int, i < len → w.cell? (a.add (i * 3)) = some (.int .i64 o.1) ∧ w.cell? (a.add (i * 3 + 1)) = some (.int .i64 o.2.1) ∧ w.cell? (a.add (i * 3 + 2)) = some (.int .i64 o.2.2) ∧ I64 o.1 ∧ I64 o.2.1 ∧ I64 o.2.2 := by
      intro i
      by_cases hil : i < len
      · obtain ⟨cs', hc, ht⟩ := hi i (by omega)
        obtain ⟨o, he, hwf⟩ := one_op ht
        obtain ⟨_, _, hat⟩ := World.cells?_some hc
        rw [cellsOp] at hat
        subst he
        have a0 := hat 0 (by omega)
        have a1 := hat 1 (by omega)
        have a2 := hat 2 (by omega)
        rw [Go.Deep.add_add] at a0 a1 a2
        exact ⟨o, fun _ => ⟨a0, a1, a2, hwf⟩⟩
      · exact ⟨(0, 0, 0), fun hh => absurd hh hil⟩
    obtain ⟨ops, hall⟩ : ∃ ops : Nat → Int × Int × Int, ∀ i, i < len → w.cell? (a.add (i * 3)) = some (.int .i64 (ops i).1) ∧ w.cell? (a.add (i * 3 + 1)) = some (.int .i64 (ops i).2.1) ∧ w.cell? (a.add (i * 3 + 2)) = some (.int .i64 (ops i).2.2) ∧ I64 (ops i).1 ∧ I64 (ops i).2.1 ∧ I64 (ops i).2.2 :=
      ⟨fun i => Classical.choose (each i), fun i hil => Classical.choose_spec (each i) hil⟩
    have hbl : a.block < w.heap.size := by
      refine hlt (.cell a.block a.off) ?_
      rw [hx]
      exact List.mem_append_left _ (MemPlace.mem_row.2 ⟨0, by rw [cellsOp]; omega, by simp⟩)
    obtain ⟨b, off, spot⟩ := a
    have hspot : spot = none := by simpa [Addr.add] using World.cell?_spot (hall 0 (by omega)).1
    subst hspot
    have hlen : ((List.range len).map ops).length = len := by simp
    have hget : ∀ j, j < len → ((List.range len).map ops).getD j (0, 0, 0) = ops j := fun j hj => by
      rw [List.getD_eq_getElem?_getD, List.getElem?_map, List.getElem?_range hj]
      rfl
    refine ⟨some ⟨b, off, none⟩, cap, (List.range len).map ops, by rw [hlen]; exact hcs, by rw [hlen]; exact Nat.le_trans hl hm, fun j hj => ?_, fun j hj => ?_⟩
    · rw [hlen] at hj
      rw [hget j hj]
      obtain ⟨h0, h1, h2, _⟩ := hall j hj
      rw [add_plain] at h0 h1 h2
      exact ⟨b, off, rfl, hbl, h0, h1, h2⟩
    · rw [hlen] at hj
      rw [hget j hj]
      exact (hall j hj).2.2.2
end
end Go.Proofs.Ytlkcpplpjjbiaaa.reg
