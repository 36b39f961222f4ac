/-
  The walk of DeclChecks over the bundle: whatever the program's own text is. No condition but that bundle.
-/
import Derived.Test.YtaefkkhmhogpeaaDoorDBackWalk
namespace Go.Proofs.YtaefkkhmhogpeaaDoor.objs
open Go.RowKit Go.ChangeShapes
open Go.Proofs.YtaefkkhmhogpeaaDoor.octet (size_mk)
set_option linter.unusedVariables false


set_option maxRecDepth 100000 in
set_option maxHeartbeats 8000000 in
theorem checks_walk {Ok : World → Prop} (K : Keeps Ok) (A : Option Addr) (n cap : Nat) (l : List De) (w : World) (hI : LIn w A n cap l) (hw : Ok w) :
    Calls Tryd.prog 7 #[.slice A n cap] w fun e w' => e = .returned (.bool true) ∧ Below w.heap.size w w' := by
  obtain ⟨hnone, hnc, hcm, hA0, hints, hlen⟩ := hI
  have HL := fun W hW => Lib.hid (lives_any K W hW)
  have HM := Lib.hid K.mono
  have HW := Lib.hid hw
  have HA := Lib.hid hA0
  by_cases hn : n ≤ 100
  · by_cases hz : (chk l).2 = 0
    · have e : n = l.length := by omega
      subst e
      have hd100 : decide ((100 : Int) < (l.length : Int)) = false := by simp; omega
      have hl100 : l.length ≤ 100 := by omega
      have HCk := fun A2 c2 W h1 h2 => Lib.hid (K.check A2 c2 l W (by omega) hints h1 h2)
      have HRc := fun W h => Lib.hid (refCheck_any A cap l (by omega) W h)
      have HPt := fun A2 c2 W h1 h2 => Lib.hid (K.put A2 c2 l W (by omega) hints h1 h2)
      have HNo : Hid (A = none → l = [] ∧ cap = 0) := Lib.hid (fun h => ⟨List.eq_nil_of_length_eq_zero (by have := (hnone h).1; omega), (hnone h).2⟩)
      unfold ChkPost at HCk HRc
      unfold PutPost putL at HPt
      have HRp := fun W h => Lib.hid (refPut_any A cap l hz W h)
      rw [if_pos hz] at HPt
      rw [(chk_zero hz).2.1] at HCk HRc HPt
      dsimp only at HCk HRc HPt
      have hqs := size_mk (encL l)
      generalize encL l = q at *
      clear hz
      clear hnone hints K hw hnc hcm hlen hA0 
      go_enter Tryd.func7, Tryd.ntmps7
      have HB1 : Hid (Below w.heap.size w w) := Lib.hid (Below.refl _ _)
      have hA1 := HA.out.next ((Below.refl _ _).alloc (Nat.le_refl _) (.cells #[] 80))
      go_wp2_with (
        at_builtin
        refine wpList_appD (by rfl) (.tmp 15) (.tmp 16) (by rfl) w.heap.size l.length cap (.slice (some ⟨w.heap.size, 0, none⟩) 0 0) A [] l (by rfl) (own_new w) (by rfl) rfl HNo.out hA1 (by simp; omega) (by simp) ?_)
      intro v2 w2 hv2 hg2
      obtain ⟨hB2, hA2, A2, c2, rfl, hC2⟩ := own_copy HA.out HB1.out hv2 hg2 (fun k e => by simpa [Value.ownBlock] using e.symm)
      have HB2 := Lib.hid hB2
      have HK2 := HCk A2 c2 w2 hC2 (HM.out _ _ HW.out hB2)
      have HA2 := Lib.hid hA2
      have HC2 := Lib.hid hC2
      clear hv2 hg2 hB2 hA2 hC2 hA1 HCk
      go_wp2_with fail
      refine HK2.out.mono ?_
      rintro e w3 ⟨rfl, hb3⟩
      have HA3 := Lib.hid (HA2.out.next hb3)
      have HC3 := Lib.hid (HC2.out.next hb3)
      have HR3 := HRc w3 HA3.out
      have HB3 := Lib.hid (HB2.out.trans (hb3.mono HB2.out.size))
      clear hb3 HRc
      skip
      go_wp2_with fail
      refine HR3.out.mono ?_
      rintro e w4 ⟨rfl, hb4⟩
      have HA4 := Lib.hid (HA3.out.next hb4)
      have HB4 := Lib.hid (HB3.out.trans (hb4.mono HB3.out.size))
      have HP4 := HPt A2 c2 w4 (HC3.out.next hb4) (HM.out _ _ HW.out HB4.out)
      clear hb4 HPt
      go_wp2_with fail
      refine HP4.out.mono ?_
      rintro e w5 ⟨rfl, hb5⟩
      have HA5 := Lib.hid (HA4.out.next hb5)
      have HB5 := Lib.hid (HB4.out.trans (hb5.mono HB4.out.size))
      clear hb5
      go_wp2_with fail
      refine (HRp _ HA5.out).out.mono ?_
      rintro e w6 ⟨rfl, hb6⟩
      have HB6 := Lib.hid (HB5.out.trans (hb6.mono HB5.out.size))
      clear hb6
      go_wp2_with fail
      refine (HL _ (HM.out _ _ HW.out HB6.out)).out.mono ?_
      rintro e w7 ⟨rfl, hb7⟩
      have HB7 := Lib.hid (HB6.out.trans (hb7.mono HB6.out.size))
      clear hb7
      go_wp2
      go_ret
      exact ⟨rfl, HB7.out⟩
    · have e : n = l.length := by omega
      subst e
      have hd100 : decide ((100 : Int) < (l.length : Int)) = false := by simp; omega
      have hl100 : l.length ≤ 100 := by omega
      have HCk := fun A2 c2 W h1 h2 => Lib.hid (K.check A2 c2 l W (by omega) hints h1 h2)
      have HRc := fun W h => Lib.hid (refCheck_any A cap l (by omega) W h)
      have HPt := fun A2 c2 W h1 h2 => Lib.hid (K.put A2 c2 l W (by omega) hints h1 h2)
      have HNo : Hid (A = none → l = [] ∧ cap = 0) := Lib.hid (fun h => ⟨List.eq_nil_of_length_eq_zero (by have := (hnone h).1; omega), (hnone h).2⟩)
      unfold ChkPost at HCk HRc
      unfold PutPost putL at HPt
      rw [if_neg hz] at HPt
      generalize chk l = p at *
      obtain ⟨pi, pe⟩ := p
      dsimp only at HCk HRc HPt hz
      have hz1 : ((pe : Int) != 0) = true := by simpa using hz
      have hz2 : ((pe : Int) == 0) = false := by simpa using hz
      clear hz
      clear hnone hints K hw hnc hcm hlen hA0 
      go_enter Tryd.func7, Tryd.ntmps7
      have HB1 : Hid (Below w.heap.size w w) := Lib.hid (Below.refl _ _)
      have hA1 := HA.out.next ((Below.refl _ _).alloc (Nat.le_refl _) (.cells #[] 80))
      go_wp2_with (
        at_builtin
        refine wpList_appD (by rfl) (.tmp 15) (.tmp 16) (by rfl) w.heap.size l.length cap (.slice (some ⟨w.heap.size, 0, none⟩) 0 0) A [] l (by rfl) (own_new w) (by rfl) rfl HNo.out hA1 (by simp; omega) (by simp) ?_)
      intro v2 w2 hv2 hg2
      obtain ⟨hB2, hA2, A2, c2, rfl, hC2⟩ := own_copy HA.out HB1.out hv2 hg2 (fun k e => by simpa [Value.ownBlock] using e.symm)
      have HB2 := Lib.hid hB2
      have HK2 := HCk A2 c2 w2 hC2 (HM.out _ _ HW.out hB2)
      have HA2 := Lib.hid hA2
      have HC2 := Lib.hid hC2
      clear hv2 hg2 hB2 hA2 hC2 hA1 HCk
      go_wp2_with fail
      refine HK2.out.mono ?_
      rintro e w3 ⟨rfl, hb3⟩
      have HA3 := Lib.hid (HA2.out.next hb3)
      have HC3 := Lib.hid (HC2.out.next hb3)
      have HR3 := HRc w3 HA3.out
      have HB3 := Lib.hid (HB2.out.trans (hb3.mono HB2.out.size))
      clear hb3 HRc
      skip
      go_wp2_with fail
      refine HR3.out.mono ?_
      rintro e w4 ⟨rfl, hb4⟩
      have HA4 := Lib.hid (HA3.out.next hb4)
      have HB4 := Lib.hid (HB3.out.trans (hb4.mono HB3.out.size))
      have HP4 := HPt A2 c2 w4 (HC3.out.next hb4) (HM.out _ _ HW.out HB4.out)
      clear hb4 HPt
      go_wp2_with fail
      refine HP4.out.mono ?_
      rintro e w5 ⟨rfl, hb5⟩
      have HA5 := Lib.hid (HA4.out.next hb5)
      have HB5 := Lib.hid (HB4.out.trans (hb5.mono HB4.out.size))
      clear hb5
      have HB6 := HB5
      go_wp2_with fail
      refine (HL _ (HM.out _ _ HW.out HB6.out)).out.mono ?_
      rintro e w7 ⟨rfl, hb7⟩
      have HB7 := Lib.hid (HB6.out.trans (hb7.mono HB6.out.size))
      clear hb7
      go_wp2
      go_ret
      exact ⟨rfl, HB7.out⟩
  · have hz : (chk l).2 ≠ 0 := by rw [chk_long (by omega)]; decide
    have e : l.length = 100 := by omega
    have hd100 : decide ((100 : Int) < (n : Int)) = true := by simp; omega
    have hl100 : l.length ≤ 100 := by omega
    have h100 : (100 : Int) ≤ (cap : Int) := by omega
    obtain ⟨ad, rfl⟩ : ∃ ad, A = some ad := by
      cases A with
      | none => have := (hnone rfl).1; omega
      | some ad => exact ⟨ad, rfl⟩
    have HCk := fun A2 c2 W h1 h2 => Lib.hid (K.check A2 c2 l W (by omega) hints h1 h2)
    have HRc := fun W h => Lib.hid (refCheck_any (some ad) cap l (by omega) W h)
    have HPt := fun A2 c2 W h1 h2 => Lib.hid (K.put A2 c2 l W (by omega) hints h1 h2)
    have HNo : Hid ((some ad) = none → l = [] ∧ cap = 0) := Lib.hid (fun h => ⟨List.eq_nil_of_length_eq_zero (by have := (hnone h).1; omega), (hnone h).2⟩)
    unfold ChkPost at HCk HRc
    unfold PutPost putL at HPt
    have HE : Hid (l.length = 100) := Lib.hid e
    rw [if_neg hz] at HPt
    generalize chk l = p at *
    obtain ⟨pi, pe⟩ := p
    dsimp only at HCk HRc HPt hz
    have hz1 : ((pe : Int) != 0) = true := by simpa using hz
    have hz2 : ((pe : Int) == 0) = false := by simpa using hz
    clear hz
    clear hnone hints K hw hnc hcm hlen hA0 e
    go_enter Tryd.func7, Tryd.ntmps7
    have HB1 : Hid (Below w.heap.size w w) := Lib.hid (Below.refl _ _)
    have hA1 := HA.out.next ((Below.refl _ _).alloc (Nat.le_refl _) (.cells #[] 80))
    go_wp2_with (
      at_builtin
      refine wpList_appD (by rfl) (.tmp 15) (.tmp 16) (by rfl) w.heap.size 100 cap (.slice (some ⟨w.heap.size, 0, none⟩) 0 0) (some ad) [] l (by rfl) (own_new w) (by rfl) HE.out.symm HNo.out hA1 (by simp; omega) (by simp) ?_)
    intro v2 w2 hv2 hg2
    obtain ⟨hB2, hA2, A2, c2, rfl, hC2⟩ := own_copy HA.out HB1.out hv2 hg2 (fun k e => by simpa [Value.ownBlock] using e.symm)
    have HB2 := Lib.hid hB2
    have HK2 := HCk A2 c2 w2 hC2 (HM.out _ _ HW.out hB2)
    have HA2 := Lib.hid hA2
    have HC2 := Lib.hid hC2
    clear hv2 hg2 hB2 hA2 hC2 hA1 HCk
    go_wp2_with fail
    refine HK2.out.mono ?_
    rintro e w3 ⟨rfl, hb3⟩
    have HA3 := Lib.hid (HA2.out.next hb3)
    have HC3 := Lib.hid (HC2.out.next hb3)
    have HR3 := HRc w3 HA3.out
    have HB3 := Lib.hid (HB2.out.trans (hb3.mono HB2.out.size))
    clear hb3 HRc
    rw [HE.out] at HR3
    go_wp2_with fail
    refine HR3.out.mono ?_
    rintro e w4 ⟨rfl, hb4⟩
    have HA4 := Lib.hid (HA3.out.next hb4)
    have HB4 := Lib.hid (HB3.out.trans (hb4.mono HB3.out.size))
    have HP4 := HPt A2 c2 w4 (HC3.out.next hb4) (HM.out _ _ HW.out HB4.out)
    clear hb4 HPt
    go_wp2_with fail
    refine HP4.out.mono ?_
    rintro e w5 ⟨rfl, hb5⟩
    have HA5 := Lib.hid (HA4.out.next hb5)
    have HB5 := Lib.hid (HB4.out.trans (hb5.mono HB4.out.size))
    clear hb5
    have HB6 := HB5
    go_wp2_with fail
    refine (HL _ (HM.out _ _ HW.out HB6.out)).out.mono ?_
    rintro e w7 ⟨rfl, hb7⟩
    have HB7 := Lib.hid (HB6.out.trans (hb7.mono HB6.out.size))
    clear hb7
    go_wp2
    go_ret
    exact ⟨rfl, HB7.out⟩
end Go.Proofs.YtaefkkhmhogpeaaDoor.objs
