/-
  A list of calls that came in, as it lies in memory: each call's kind, number, number with a sign and text; and what the bound on all that is read says of the texts. No condition.
-/
import Derived.Test.YtlbnmlcdjkaiiaaRows
import Derived.Test.YtlbnmlcdjkaiiaaWrites
import Derived.Deep.Slices
import Derived.ChangeArms
namespace Go.Proofs.Ytlbnmlcdjkaiiaa.octetWrites
open Go.ChangeShapes Go.WideShapes Go.RowKit Go.Proofs.Ytlbnmlcdjkaiiaa.octet
set_option linter.unusedVariables false

theorem cells3 : Try.prog.cellsOf 3 = 1 := by kernel_rfl
theorem cells28 : Try.prog.cellsOf 28 = 1 := by kernel_rfl
theorem cells9 : Try.prog.cellsOf 9 = 1 := by kernel_rfl
theorem cells30 : Try.prog.cellsOf 30 = 4 := by kernel_rfl

section
variable {H : Type} {enc : TypeId × Value → H} {w : World} {base : Nat} {spare : Nat → Bool} {held : Bool}
def opData (o : OpD) : DataW H := .agg [.lit (.int .i64 o.kind), .lit (.int .u64 (o.n : Int)), .lit (.int .i64 o.i), .lit (.string o.s.data.toList)]

/-- One call, out of its four cells. -/
theorem one_op {n : Nat} {cs : List Value} {y : DataW H × List MemPlace} (h : DataW.trod enc Try.prog w base spare held n 30 cs = some y) :
    ∃ o : OpD, o.fits ∧ y.1 = opData o ∧ cs = [.int .i64 o.kind, .int .u64 (o.n : Int), .int .i64 o.i, .string o.s] := by
  obtain ⟨xs, m, _, hy, hlen, hxl, hf⟩ := DataW.trod_struct Try.underlying30 h
  rw [cells30] at hlen
  match cs, hlen with
  | [v0, v1, v2, v3], _ =>
    match xs, hxl with
    | [y0, y1, y2, y3], _ =>
      have f0 : DataW.trod enc Try.prog w base spare held m 3 [v0] = some y0 := by simpa [cells3] using hf 0 _ rfl
      have f1 : DataW.trod enc Try.prog w base spare held m 28 [v1] = some y1 := by simpa [cells28] using hf 1 _ rfl
      have f2 : DataW.trod enc Try.prog w base spare held m 3 [v2] = some y2 := by simpa [cells3] using hf 2 _ rfl
      have f3 : DataW.trod enc Try.prog w base spare held m 9 [v3] = some y3 := by simpa [cells9] using hf 3 _ rfl
      obtain ⟨k, e0, d0, w0⟩ := DataW.trod_int Try.underlying3 f0
      obtain ⟨u, e1, d1, w1⟩ := DataW.trod_int Try.underlying28 f1
      obtain ⟨i, e2, d2, w2⟩ := DataW.trod_int Try.underlying3 f2
      obtain ⟨s, e3, d3, w3⟩ := DataW.trod_string Try.underlying9 f3
      have hu : 0 ≤ u ∧ u ≤ 18446744073709551615 := by simpa [Lit.wf, IntKind.min, IntKind.max, IntKind.signed, IntKind.bits] using w1
      have hi : -9223372036854775808 ≤ i ∧ i ≤ 9223372036854775807 := by simpa [Lit.wf, IntKind.min, IntKind.max, IntKind.signed, IntKind.bits] using w2
      obtain ⟨un, rfl⟩ := Int.eq_ofNat_of_zero_le hu.1
      refine ⟨⟨k, un, i, s⟩, ⟨by show un < 18446744073709551616; omega, hi.1, hi.2⟩, ?_, ?_⟩
      · rw [hy, d0, d1, d2, d3]
        rfl
      · simp only [List.cons.injEq, and_true] at e0 e1 e2 e3
        rw [e0, e1, e2, e3]

/-- A list of calls: nil, or its calls in their order. -/
theorem open_ops {fuel : Nat} {cs : List Value} {x : DataW H × List MemPlace} (h : DataW.trod enc Try.prog w base spare held fuel 22 cs = some x) :
    (cs = [.slice none 0 0] ∧ x = (.nil, [])) ∨
    ∃ (a : Addr) (len cap : Nat) (rest : List (DataW H)) (ops : Nat → OpD), cs = [.slice (some a) len cap] ∧ x.1 = .slice ((List.range len).map fun i => opData (ops i)) rest ∧ (0 < len → ∃ p ∈ x.2, p.block = a.block) ∧
      ∀ i, i < len → (ops i).fits ∧ w.cell? (a.add (i * 4)) = some (.int .i64 (ops i).kind) ∧ w.cell? (a.add (i * 4 + 1)) = some (.int .u64 ((ops i).n : Int)) ∧ w.cell? (a.add (i * 4 + 2)) = some (.int .i64 (ops i).i) ∧ w.cell? (a.add (i * 4 + 3)) = some (.string (ops i).s) := by
  rcases Go.Deep.open_slice Try.underlying22 h with h0 | ⟨a, len, cap, m, n, D, Pl, hcs, hb, hl, hm, hmm, hx, hi⟩
  · exact .inl h0
  · right
    have hlm : len ≤ m := by rw [hmm]; split <;> omega
    have each : ∀ i, ∃ o : OpD, i < len → o.fits ∧ D i = opData o ∧ w.cell? (a.add (i * 4)) = some (.int .i64 o.kind) ∧ w.cell? (a.add (i * 4 + 1)) = some (.int .u64 (o.n : Int)) ∧ w.cell? (a.add (i * 4 + 2)) = some (.int .i64 o.i) ∧ w.cell? (a.add (i * 4 + 3)) = some (.string o.s) := by
      intro i
      by_cases hil : i < len
      · obtain ⟨cs', hc, ht⟩ := hi i (by omega)
        obtain ⟨o, ho, hd, he⟩ := one_op ht
        obtain ⟨_, _, hat⟩ := World.cells?_some hc
        rw [cells30] at hat
        subst he
        have a0 := hat 0 (by omega)
        have a1 := hat 1 (by omega)
        have a2 := hat 2 (by omega)
        have a3 := hat 3 (by omega)
        rw [Go.Deep.add_add] at a0 a1 a2 a3
        exact ⟨o, fun _ => ⟨ho, hd, a0, a1, a2, a3⟩⟩
      · exact ⟨⟨0, 0, 0, .empty⟩, fun hh => absurd hh hil⟩
    refine ⟨a, len, cap, (List.range (m - len)).map fun j => D (len + j), fun i => Classical.choose (each i), hcs, ?_, ?_, ?_⟩
    · rw [hx]
      show DataW.slice _ _ = DataW.slice _ _
      congr 1
      refine List.map_congr_left fun i him => ?_
      exact (Classical.choose_spec (each i) (by simpa using him)).2.1
    · intro hpos
      refine ⟨.cell a.block a.off, ?_, rfl⟩
      rw [hx]
      refine List.mem_append_left _ (MemPlace.mem_row.2 ⟨0, by rw [cells30]; omega, by simp⟩)
    · intro i hil
      have hh := Classical.choose_spec (each i) hil
      exact ⟨hh.1, hh.2.2⟩

theorem bulk_append (l r : List (DataW H)) : Rows.uptoBulkAll (l ++ r) = Rows.uptoBulkAll l + Rows.uptoBulkAll r := by
  induction l with
  | nil => simp [Rows.uptoBulkAll]
  | cons x l ih => simp only [List.cons_append, Rows.uptoBulkAll, ih]; omega
/-- What the bound says: the calls are so few, and their texts are together so short. -/
theorem bulk_range (ops : Nat → OpD) (n : Nat) : tot ops n + 5 * n ≤ Rows.uptoBulkAll ((List.range n).map fun i => opData (H := H) (ops i)) := by
  induction n with
  | zero => simp [tot]
  | succ n ih =>
    rw [List.range_succ, List.map_append, bulk_append, tot]
    have h : Rows.uptoBulkAll (List.map (fun i => opData (H := H) (ops i)) [n]) = (ops n).s.size + 5 := by
      have e : (ops n).s.data.toList.length = (ops n).s.size := by rw [Array.length_toList]; rfl
      simp only [List.map_cons, List.map_nil, Rows.uptoBulkAll, opData, Rows.uptoBulk]
      omega
    omega
end
end Go.Proofs.Ytlbnmlcdjkaiiaa.octetWrites
