/-
  The bytes of any calls, one behind the other, are just those that the document gives: for every list of calls that is, with all its texts, of bulk at most 1048576.
-/
import Derived.Test.YtlbnmlcdjkaiiaaOps
import Derived.JoinedCond
import Derived.WideKeyArgs
namespace Go.Proofs.Ytlbnmlcdjkaiiaa.octetWrites
open Go.ChangeShapes Go.WideShapes Go.ChangeAt Go.RowKit Go.Proofs.Ytlbnmlcdjkaiiaa.octet
set_option linter.unusedVariables false

theorem laidOut : laidOutB Try.prog = true := by kernel_rfl

theorem lies_of {w : World} {b off len : Nat} {ops : Nat → OpD} (h : ∀ i, i < len → (ops i).fits ∧ w.cell? ((⟨b, off, none⟩ : Addr).add (i * 4)) = some (.int .i64 (ops i).kind) ∧ w.cell? ((⟨b, off, none⟩ : Addr).add (i * 4 + 1)) = some (.int .u64 ((ops i).n : Int)) ∧ w.cell? ((⟨b, off, none⟩ : Addr).add (i * 4 + 2)) = some (.int .i64 (ops i).i) ∧ w.cell? ((⟨b, off, none⟩ : Addr).add (i * 4 + 3)) = some (.string (ops i).s)) : Lies w b off len ops := by
  intro i hi
  obtain ⟨_, h0, h1, h2, h3⟩ := h i hi
  rw [add_plain] at h0 h1 h2 h3
  rw [Nat.add_assoc, Nat.add_assoc, Nat.add_assoc]
  exact ⟨h0, h1, h2, h3⟩

set_option maxRecDepth 100000 in
theorem lifted (os : Os) (started : os.Started) (H : Type) (enc : TypeId × Value → H) (F : Stop.Interp) :
    ReturnsInHanded {} Try.checked os 3 .any ((Rows.OpenSpec.upto Rows.octetWritesSpec).pre6 enc Try.prog Try.f3 Rows.octetWritesUptoRow.domain false) (((Rows.OpenSpec.upto Rows.octetWritesSpec).at F).post enc Try.prog Try.f3 false true false false) := by
  refine returnsInHanded_of_cond (C := Try.checked) (s := Rows.OpenSpec.upto Rows.octetWritesSpec) (k := Rows.uptoSmall) rfl own started (by kernel_rfl) Try.func3
    (OpenSpec.witness (enc := enc) (C := Try.checked) (s := Rows.OpenSpec.upto Rows.octetWritesSpec) (k := Rows.uptoSmall) rfl false ⟨#[], #[.slice none 0 0], []⟩ 8 (by kernel_rfl) (by kernel_rfl) (by kernel_rfl)
      (x := ([.nil], [], [])) (by kernel_rfl) rfl (by kernel_rfl)) ?_
  intro W base args ds gs before hval0 hW _ hk0 _
  have hval : ∀ (j : Nat) t v, Try.f3.params[j]? = some t → args[j]? = some v → Value.okWide Try.prog W .any base t v := hval0
  have hW' : DataW.Whole enc Try.prog Try.f3.params.toList Rows.octetWritesSpec.vars false W args.toList ds gs before := hW
  obtain ⟨p, q, hA0, hV0, rfl, hfz, hnd⟩ := hW
  have hV : DataW.TrodVars enc Try.prog W (fun _ => true) Rows.octetWritesSpec.vars gs q := hV0
  have hA : DataW.TrodAll enc Try.prog W 0 (fun _ => true) true Try.f3.params.toList args.toList ds p := hA0
  rw [Try.params3] at hA hval
  obtain ⟨v0, d0, rfl, rfl, h0⟩ := trodAll_one hA
  obtain ⟨rfl, rfl⟩ := trodVars_none hV
  obtain ⟨a0, len, cap, rfl⟩ := okWide_slice Try.underlying22 (hval 0 22 v0 rfl rfl)
  have h0k := h0
  obtain ⟨fuel, hf⟩ := h0
  clear hA0 hval0 hV0
  have hk1 : Rows.uptoSmall H [d0] = true := by simpa using hk0
  have hk : Rows.uptoBulkAll [d0] ≤ 1048576 := of_decide_eq_true hk1
  simp only [List.append_nil] at hW'
  have hlt : ∀ x ∈ p, x.block < W.heap.size := fun x hx => by simpa using hW'.lt x hx
  have hwalk : Calls Try.prog 3 #[.slice a0 len cap] W fun e w' => e = .returned (.bool true) ∧ Below W.heap.size W w' := by
    rcases open_ops hf with ⟨hcs, hx⟩ | ⟨a, len', cap', rest, ops, hcs, hx, hpl, hops⟩
    · simp [Value.cells] at hcs
      obtain ⟨rfl, rfl, rfl⟩ := hcs
      exact walk_none none 0 W
    · simp [Value.cells] at hcs
      obtain ⟨rfl, rfl, rfl⟩ := hcs
      simp only at hx
      by_cases hl0 : len = 0
      · subst hl0
        exact walk_none _ cap W
      · obtain ⟨b, off, spot⟩ := a
        have hspot : spot = none := by simpa [Addr.add] using World.cell?_spot (hops 0 (by omega)).2.1
        subst hspot
        obtain ⟨pl, hpm, hpb⟩ := hpl (by omega)
        have hbW : b < W.heap.size := by
          have h1 := hlt pl hpm
          rw [hpb] at h1
          exact h1
        have hbulk := bulk_range (H := H) ops len
        rw [hx] at hk
        simp only [Rows.uptoBulkAll, Rows.uptoBulk] at hk
        exact walk_some b off len cap ops (by omega) (by omega) (fun i hi => (hops i hi).1) W hbW (lies_of hops)
  refine hwalk.mono fun e W' ⟨he, hb⟩ => ?_
  subst he
  exact ⟨_, rfl, post_below (s := Rows.octetWritesSpec) (pa := p) (pv := []) hW' (fun _ _ _ => (trodAll_cons_mk (shut_bool Try.underlying4 _) trodAll_mk0))
    (fun sp hsp => trodAll_mk1 (WideElems.Trod_stays laidOut (by kernel_rfl) (of_decide_eq_true (by kernel_rfl)) h0k (fun x hx => hb.same (hlt x hx)) (fun x hx => hsp x hx))) (fun _ _ => rfl) (by simp)
    hb (ok_one (by kernel_rfl) rfl (okWide_bool_mk Try.underlying4 _))⟩

theorem proved : Rows.OctetWritesUptoSaid :=
  OpenClaim.holds_of_cond 3 Try.f3 rfl rfl rfl rfl rfl rfl rfl ⟨rfl, rfl, rfl, rfl, rfl⟩ rfl rfl rfl rfl rfl (by kernel_rfl) Try.func3 (by kernel_rfl)
    (of_decide_eq_true (by kernel_rfl)) (by unfold Func.isWrapper; first | (rw [if_pos (by decide +kernel)]; kernel_rfl) | (rw [if_neg (by decide +kernel)]; exact ⟨rfl, rfl⟩))
    (fun os started H enc _ F => lifted os started H enc F)
end Go.Proofs.Ytlbnmlcdjkaiiaa.octetWrites
