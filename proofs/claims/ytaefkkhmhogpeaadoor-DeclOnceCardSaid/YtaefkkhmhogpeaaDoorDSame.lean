/-
  Whether two lists of objects are one, as the statements ask it. No condition but that both are of at most a hundred.
-/
import Derived.Test.YtaefkkhmhogpeaaDoorDRefFit
namespace Go.Proofs.YtaefkkhmhogpeaaDoor.objs
open Go.RowKit Go.ChangeShapes
set_option linter.unusedVariables false

theorem De.ext' {a b : De} : a = b ↔ a.1 = b.1 ∧ a.2.1 = b.2.1 ∧ a.2.2 = b.2.2 := by
  obtain ⟨a1, a2, a3⟩ := a
  obtain ⟨b1, b2, b3⟩ := b
  simp
theorem list_ext {l m : List De} (hl : l.length = m.length) (h : ∀ j, j < l.length → l.getD j zero = m.getD j zero) : l = m := by
  apply List.ext_getElem hl
  intro j h1 h2
  have := h j h1
  rwa [List.getD_eq_getElem?_getD, List.getD_eq_getElem?_getD, List.getElem?_eq_getElem h1, List.getElem?_eq_getElem h2] at this

set_option maxRecDepth 100000 in
set_option maxHeartbeats 4000000 in
theorem same_any (A B : Option Addr) (ca cb : Nat) (l m : List De) (hl : l.length ≤ 100) (hm : m.length ≤ 100) (w : World) (hA : DAt w A l) (hB : DAt w B m) :
    Calls Tryd.prog 26 #[.slice A l.length ca, .slice B m.length cb] w fun e w' => e = .returned (.bool (decide (l = m))) ∧ Below w.heap.size w w' := by
  by_cases hlm : l.length = m.length
  · obtain ⟨r, hr⟩ : ∃ r, r = decide (l = m) := ⟨_, rfl⟩
    have HR := Lib.hid hr
    rw [← hr]
    have HL := Lib.hid hlm
    have HA := Lib.hid hA
    have HB := Lib.hid hB
    rw [← hlm]
    clear hr hA hB hlm hm
    go_enter Tryd.func26, Tryd.ntmps26
    go_wp2_with fail
    go_loopw [5] (fun i wr => ∃ j : Nat, j ≤ l.length ∧ i = .int .i64 (j : Int) ∧ Hid (∀ k, k < j → l.getD k zero = m.getD k zero) ∧ Hid (DAt wr A l ∧ DAt wr B m ∧ Below w.heap.size w wr)) (fun i _ => l.length - (intOf i).toNat)
    case atStart => exact ⟨0, Nat.zero_le _, rfl, Lib.hid (fun k hk => absurd hk (Nat.not_lt_zero k)), Lib.hid ⟨HA.out, HB.out, Below.refl _ _⟩⟩
    case round =>
      obtain ⟨j, hj, rfl, HO, HS⟩ := hrel
      by_cases hlt : j < l.length
      · obtain ⟨a, oa, rfl, _, a0, a1, a2⟩ := HS.out.1 j hlt
        obtain ⟨b, ob, rfl, _, b0, b1, b2⟩ := HS.out.2.1 j (by rw [← HL.out]; exact hlt)
        have hlt' : (j : Int) < (l.length : Int) := by omega
        by_cases hx : l.getD j zero = m.getD j zero
        · have HE : Hid (∀ k, k < j + 1 → l.getD k zero = m.getD k zero) := Lib.hid (fun k hk => by
            rcases Nat.lt_or_ge k j with h1 | h1
            · exact HO.out k h1
            · obtain rfl : k = j := by omega
              exact hx)
          rw [← hx] at b0 b1 b2
          clear hx
          generalize l.getD j zero = d at *
          go_wp2_with fail
          go_quiet (fail)
          go_wp2
          go_roundw
          case rel => exact ⟨j + 1, by omega, by go_num, HE, Lib.hid ⟨HS.out.1.drewN _, HS.out.2.1.drewN _, below_drewN HS.out.2.2 _⟩⟩
          case measure => simp [intOf]; omega
        · have HE : Hid (¬ l = m) := Lib.hid (fun h => hx (by rw [h]))
          have hne : ¬ ((l.getD j zero).1 = (m.getD j zero).1 ∧ (l.getD j zero).2.1 = (m.getD j zero).2.1 ∧ (l.getD j zero).2.2 = (m.getD j zero).2.2) := fun h => hx (De.ext'.2 h)
          clear hx
          generalize l.getD j zero = d at *
          generalize m.getD j zero = f at *
          obtain ⟨d1, d2, d3⟩ := d
          obtain ⟨f1, f2, f3⟩ := f
          dsimp only at a0 a1 a2 b0 b1 b2 hne
          by_cases e1 : d1 = f1
          · subst e1
            by_cases e2 : d2 = f2
            · subst e2
              have hc : (d3 == f3) = false := by rw [beq_eq_false_iff_ne]; exact fun e => hne ⟨rfl, rfl, e⟩
              clear hne
              go_wp2_with fail
              go_quiet (fail)
              go_wp2
              go_ret
              exact ⟨by rw [HR.out, decide_eq_false HE.out]; rfl, below_drewN HS.out.2.2 _⟩
            · have hc : (d2 == f2) = false := by rw [beq_eq_false_iff_ne]; exact e2
              clear hne e2
              go_wp2_with fail
              go_quiet (fail)
              go_wp2
              go_ret
              exact ⟨by rw [HR.out, decide_eq_false HE.out]; rfl, below_drewN HS.out.2.2 _⟩
          · have hc : (d1 == f1) = false := by rw [beq_eq_false_iff_ne]; exact e1
            clear hne e1
            go_wp2_with fail
            go_quiet (fail)
            go_wp2
            go_ret
            exact ⟨by rw [HR.out, decide_eq_false HE.out]; rfl, below_drewN HS.out.2.2 _⟩
      · obtain rfl : j = l.length := by omega
        have HE : Hid (l = m) := Lib.hid (list_ext HL.out HO.out)
        go_wp2_with fail
        go_ret
        exact ⟨by rw [HR.out, decide_eq_true HE.out]; rfl, HS.out.2.2⟩
  · have hd : decide (l = m) = false := decide_eq_false (fun h => hlm (by rw [h]))
    rw [hd]
    have hne : ((l.length : Int) != (m.length : Int)) = true := by simp; omega
    clear hlm hd hA hB
    go_enter Tryd.func26, Tryd.ntmps26
    go_wp2_with fail
    go_ret
    exact ⟨rfl, Below.refl _ _⟩
end Go.Proofs.YtaefkkhmhogpeaaDoor.objs
