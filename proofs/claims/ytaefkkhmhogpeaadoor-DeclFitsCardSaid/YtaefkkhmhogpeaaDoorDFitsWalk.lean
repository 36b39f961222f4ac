/-
  The walk of DeclFits over the bundle: whatever the program's own text is. No condition but that bundle.
-/
import Derived.Test.YtaefkkhmhogpeaaDoorDBackWalk
namespace Go.Proofs.YtaefkkhmhogpeaaDoor.objs
open Go.RowKit Go.ChangeShapes
open Go.Proofs.YtaefkkhmhogpeaaDoor.octet (size_mk)
set_option linter.unusedVariables false


set_option maxRecDepth 100000 in
set_option maxHeartbeats 8000000 in
theorem fits_walk {Ok : World → Prop} (K : Keeps Ok) (A : Option Addr) (n cap : Nat) (l : List De) (c : UInt8) (o : Int) (ho : I64 o) (w : World) (hI : LIn w A n cap l) (hw : Ok w) :
    Calls Tryd.prog 11 #[.slice A n cap, .int .u8 (c.toNat : Int), .int .i64 o] w fun e w' => e = .returned (.bool true) ∧ Below w.heap.size w w' := by
  obtain ⟨hnone, hnc, hcm, hA0, hints, hlen⟩ := hI
  have HL := fun W hW => Lib.hid (lives_any K W hW)
  have HM := Lib.hid K.mono
  have HW := Lib.hid hw
  have HA := Lib.hid hA0
  have HNk := fun W hW => Lib.hid (K.name o W ho hW)
  by_cases hn : n ≤ 100
  · by_cases hob : 0 < o ∧ o < 8
    · have e : n = l.length := by omega
      subst e
      have hd100 : decide ((100 : Int) < (l.length : Int)) = false := by simp; omega
      have hl100 : l.length ≤ 100 := by omega
      have HFt := fun A2 c2 W h1 h2 => Lib.hid (K.fits A2 c2 l c o W (by omega) hints ho h1 h2)
      have HRf := fun W h => Lib.hid (refFits_any A cap l c o (by omega) W h)
      have HNo : Hid (A = none → l = [] ∧ cap = 0) := Lib.hid (fun h => ⟨List.eq_nil_of_length_eq_zero (by have := (hnone h).1; omega), (hnone h).2⟩)
      obtain ⟨m, rfl⟩ : ∃ m : Nat, o = (m : Int) := ⟨o.toNat, by omega⟩
      have hm8 : m < 8 := by omega
      have hnm : nameK (m : Int) = names.getD m ⟨#[]⟩ := by unfold nameK; rw [if_pos hob, Int.toNat_natCast]
      rw [hnm] at HNk
      have HNs := Lib.hid (refNames8_any w)
      unfold NamesPost at HNs
      have ho1 : decide ((0 : Int) < (m : Int)) = true := by simp; omega
      have ho2 : decide ((m : Int) < 8) = true := by simp; omega
      have ho3 : (m : Int) < 8 := by omega
      have hp1 : 0 < m := by omega
      generalize fits l c m = x at *
      have hcell : ∀ (W : World) (g : Nat), (∀ j, j < 8 → W.cell? ⟨g, j, none⟩ = some (.string (names.getD j ⟨#[]⟩))) → W.cell? ⟨g, m, none⟩ = some (.string (names.getD m ⟨#[]⟩)) := fun W g h => h m hm8
      generalize names.getD m ⟨#[]⟩ = nm at *
      clear hnone hints K hw hnc hcm hlen hA0 hnm hob 
      go_enter Tryd.func11, Tryd.ntmps11
      go_wp2_with fail
      refine HNs.out.mono ?_
      rintro e w1 ⟨g, rfl, hcl, hb1⟩
      have hcm := hcell _ _ hcl
      have HB1 := Lib.hid hb1
      have HA1 := Lib.hid (HA.out.next hb1)
      clear hcell hcl hb1 HNs
      have hA1 := HA1.out.next ((Below.refl _ _).alloc (Nat.le_refl _) (.cells #[] 80))
      go_wp2_with (
        at_builtin
        refine wpList_appD (by rfl) (.tmp 23) (.tmp 24) (by rfl) w1.heap.size l.length cap (.slice (some ⟨w1.heap.size, 0, none⟩) 0 0) A [] l (by rfl) (own_new w1) (by rfl) rfl HNo.out hA1 (by simp; omega) (by simp) ?_)
      intro v2 w2 hv2 hg2
      obtain ⟨hB2, hA2, A2, c2, rfl, hC2⟩ := own_copy HA.out HB1.out hv2 hg2 (fun k e => by simpa [Value.ownBlock] using e.symm)
      have HB2 := Lib.hid hB2
      have HF2 := HFt A2 c2 w2 hC2 (HM.out _ _ HW.out hB2)
      have HA2 := Lib.hid hA2
      clear hv2 hg2 hB2 hA2 hC2 hA1
      go_wp2_with fail
      refine HF2.out.mono ?_
      rintro e w3 ⟨rfl, hb3⟩
      have HR3 := HRf w3 (HA2.out.next hb3)
      have HB3 := Lib.hid (HB2.out.trans (hb3.mono HB2.out.size))
      clear hb3
      skip
      go_wp2_with fail
      refine HR3.out.mono ?_
      rintro e w4 ⟨rfl, hb4⟩
      have HB4 := Lib.hid (HB3.out.trans (hb4.mono HB3.out.size))
      clear hb4
      go_wp2_with fail
      refine (HNk _ (HM.out _ _ HW.out HB4.out)).out.mono ?_
      rintro e w5 ⟨rfl, hb5⟩
      have HB5 := Lib.hid (HB4.out.trans (hb5.mono HB4.out.size))
      clear hb5
      go_wp2_with fail
      refine (HL _ (HM.out _ _ HW.out HB5.out)).out.mono ?_
      rintro e w6 ⟨rfl, hb6⟩
      have HB6 := Lib.hid (HB5.out.trans (hb6.mono HB5.out.size))
      clear hb6
      go_wp2
      go_ret
      exact ⟨rfl, HB6.out⟩
    · have e : n = l.length := by omega
      subst e
      have hd100 : decide ((100 : Int) < (l.length : Int)) = false := by simp; omega
      have hl100 : l.length ≤ 100 := by omega
      have HFt := fun A2 c2 W h1 h2 => Lib.hid (K.fits A2 c2 l c o W (by omega) hints ho h1 h2)
      have HRf := fun W h => Lib.hid (refFits_any A cap l c o (by omega) W h)
      have HNo : Hid (A = none → l = [] ∧ cap = 0) := Lib.hid (fun h => ⟨List.eq_nil_of_length_eq_zero (by have := (hnone h).1; omega), (hnone h).2⟩)
      have hnm : nameK o = ⟨#[]⟩ := by unfold nameK; rw [if_neg hob]
      rw [hnm] at HNk
      generalize fits l c o = x at *
      clear hnone hints K hw hnc hcm hlen hA0 hnm  
      go_enter Tryd.func11, Tryd.ntmps11
      have HB1 : Hid (Below w.heap.size w w) := Lib.hid (Below.refl _ _)
      have HA1 := HA
      by_cases ho1 : 0 < o
      · have hd1 : decide (0 < o) = true := by simpa using ho1
        have hd2 : decide (o < 8) = false := by simp; omega
        clear ho1 hob
        have hA1 := HA1.out.next ((Below.refl _ _).alloc (Nat.le_refl _) (.cells #[] 80))
        go_wp2_with (
          at_builtin
          refine wpList_appD (by rfl) (.tmp 23) (.tmp 24) (by rfl) w.heap.size l.length cap (.slice (some ⟨w.heap.size, 0, none⟩) 0 0) A [] l (by rfl) (own_new w) (by rfl) rfl HNo.out hA1 (by simp; omega) (by simp) ?_)
        intro v2 w2 hv2 hg2
        obtain ⟨hB2, hA2, A2, c2, rfl, hC2⟩ := own_copy HA.out HB1.out hv2 hg2 (fun k e => by simpa [Value.ownBlock] using e.symm)
        have HB2 := Lib.hid hB2
        have HF2 := HFt A2 c2 w2 hC2 (HM.out _ _ HW.out hB2)
        have HA2 := Lib.hid hA2
        clear hv2 hg2 hB2 hA2 hC2 hA1
        go_wp2_with fail
        refine HF2.out.mono ?_
        rintro e w3 ⟨rfl, hb3⟩
        have HR3 := HRf w3 (HA2.out.next hb3)
        have HB3 := Lib.hid (HB2.out.trans (hb3.mono HB2.out.size))
        clear hb3
        skip
        go_wp2_with fail
        refine HR3.out.mono ?_
        rintro e w4 ⟨rfl, hb4⟩
        have HB4 := Lib.hid (HB3.out.trans (hb4.mono HB3.out.size))
        clear hb4
        go_wp2_with fail
        refine (HNk _ (HM.out _ _ HW.out HB4.out)).out.mono ?_
        rintro e w5 ⟨rfl, hb5⟩
        have HB5 := Lib.hid (HB4.out.trans (hb5.mono HB4.out.size))
        clear hb5
        go_wp2_with fail
        refine (HL _ (HM.out _ _ HW.out HB5.out)).out.mono ?_
        rintro e w6 ⟨rfl, hb6⟩
        have HB6 := Lib.hid (HB5.out.trans (hb6.mono HB5.out.size))
        clear hb6
        go_wp2
        go_ret
        exact ⟨rfl, HB6.out⟩
      · have hd1 : decide (0 < o) = false := by simpa using ho1
        clear ho1 hob
        have hA1 := HA1.out.next ((Below.refl _ _).alloc (Nat.le_refl _) (.cells #[] 80))
        go_wp2_with (
          at_builtin
          refine wpList_appD (by rfl) (.tmp 23) (.tmp 24) (by rfl) w.heap.size l.length cap (.slice (some ⟨w.heap.size, 0, none⟩) 0 0) A [] l (by rfl) (own_new w) (by rfl) rfl HNo.out hA1 (by simp; omega) (by simp) ?_)
        intro v2 w2 hv2 hg2
        obtain ⟨hB2, hA2, A2, c2, rfl, hC2⟩ := own_copy HA.out HB1.out hv2 hg2 (fun k e => by simpa [Value.ownBlock] using e.symm)
        have HB2 := Lib.hid hB2
        have HF2 := HFt A2 c2 w2 hC2 (HM.out _ _ HW.out hB2)
        have HA2 := Lib.hid hA2
        clear hv2 hg2 hB2 hA2 hC2 hA1
        go_wp2_with fail
        refine HF2.out.mono ?_
        rintro e w3 ⟨rfl, hb3⟩
        have HR3 := HRf w3 (HA2.out.next hb3)
        have HB3 := Lib.hid (HB2.out.trans (hb3.mono HB2.out.size))
        clear hb3
        skip
        go_wp2_with fail
        refine HR3.out.mono ?_
        rintro e w4 ⟨rfl, hb4⟩
        have HB4 := Lib.hid (HB3.out.trans (hb4.mono HB3.out.size))
        clear hb4
        go_wp2_with fail
        refine (HNk _ (HM.out _ _ HW.out HB4.out)).out.mono ?_
        rintro e w5 ⟨rfl, hb5⟩
        have HB5 := Lib.hid (HB4.out.trans (hb5.mono HB4.out.size))
        clear hb5
        go_wp2_with fail
        refine (HL _ (HM.out _ _ HW.out HB5.out)).out.mono ?_
        rintro e w6 ⟨rfl, hb6⟩
        have HB6 := Lib.hid (HB5.out.trans (hb6.mono HB5.out.size))
        clear hb6
        go_wp2
        go_ret
        exact ⟨rfl, HB6.out⟩
  · by_cases hob : 0 < o ∧ o < 8
    · have e : l.length = 100 := by omega
      have hd100 : decide ((100 : Int) < (n : Int)) = true := by simp; omega
      have hl100 : l.length ≤ 100 := by omega
      have h100 : (100 : Int) ≤ (cap : Int) := by omega
      obtain ⟨ad, rfl⟩ : ∃ ad, A = some ad := by
        cases A with
        | none => have := (hnone rfl).1; omega
        | some ad => exact ⟨ad, rfl⟩
      have HFt := fun A2 c2 W h1 h2 => Lib.hid (K.fits A2 c2 l c o W (by omega) hints ho h1 h2)
      have HRf := fun W h => Lib.hid (refFits_any (some ad) cap l c o (by omega) W h)
      have HNo : Hid ((some ad) = none → l = [] ∧ cap = 0) := Lib.hid (fun h => ⟨List.eq_nil_of_length_eq_zero (by have := (hnone h).1; omega), (hnone h).2⟩)
      have HE : Hid (l.length = 100) := Lib.hid e
      obtain ⟨m, rfl⟩ : ∃ m : Nat, o = (m : Int) := ⟨o.toNat, by omega⟩
      have hm8 : m < 8 := by omega
      have hnm : nameK (m : Int) = names.getD m ⟨#[]⟩ := by unfold nameK; rw [if_pos hob, Int.toNat_natCast]
      rw [hnm] at HNk
      have HNs := Lib.hid (refNames8_any w)
      unfold NamesPost at HNs
      have ho1 : decide ((0 : Int) < (m : Int)) = true := by simp; omega
      have ho2 : decide ((m : Int) < 8) = true := by simp; omega
      have ho3 : (m : Int) < 8 := by omega
      have hp1 : 0 < m := by omega
      generalize fits l c m = x at *
      have hcell : ∀ (W : World) (g : Nat), (∀ j, j < 8 → W.cell? ⟨g, j, none⟩ = some (.string (names.getD j ⟨#[]⟩))) → W.cell? ⟨g, m, none⟩ = some (.string (names.getD m ⟨#[]⟩)) := fun W g h => h m hm8
      generalize names.getD m ⟨#[]⟩ = nm at *
      clear hnone hints K hw hnc hcm hlen hA0 hnm hob e
      go_enter Tryd.func11, Tryd.ntmps11
      go_wp2_with fail
      refine HNs.out.mono ?_
      rintro e w1 ⟨g, rfl, hcl, hb1⟩
      have hcm := hcell _ _ hcl
      have HB1 := Lib.hid hb1
      have HA1 := Lib.hid (HA.out.next hb1)
      clear hcell hcl hb1 HNs
      have hA1 := HA1.out.next ((Below.refl _ _).alloc (Nat.le_refl _) (.cells #[] 80))
      go_wp2_with (
        at_builtin
        refine wpList_appD (by rfl) (.tmp 23) (.tmp 24) (by rfl) w1.heap.size 100 cap (.slice (some ⟨w1.heap.size, 0, none⟩) 0 0) (some ad) [] l (by rfl) (own_new w1) (by rfl) HE.out.symm HNo.out hA1 (by simp; omega) (by simp) ?_)
      intro v2 w2 hv2 hg2
      obtain ⟨hB2, hA2, A2, c2, rfl, hC2⟩ := own_copy HA.out HB1.out hv2 hg2 (fun k e => by simpa [Value.ownBlock] using e.symm)
      have HB2 := Lib.hid hB2
      have HF2 := HFt A2 c2 w2 hC2 (HM.out _ _ HW.out hB2)
      have HA2 := Lib.hid hA2
      clear hv2 hg2 hB2 hA2 hC2 hA1
      go_wp2_with fail
      refine HF2.out.mono ?_
      rintro e w3 ⟨rfl, hb3⟩
      have HR3 := HRf w3 (HA2.out.next hb3)
      have HB3 := Lib.hid (HB2.out.trans (hb3.mono HB2.out.size))
      clear hb3
      rw [HE.out] at HR3
      go_wp2_with fail
      refine HR3.out.mono ?_
      rintro e w4 ⟨rfl, hb4⟩
      have HB4 := Lib.hid (HB3.out.trans (hb4.mono HB3.out.size))
      clear hb4
      go_wp2_with fail
      refine (HNk _ (HM.out _ _ HW.out HB4.out)).out.mono ?_
      rintro e w5 ⟨rfl, hb5⟩
      have HB5 := Lib.hid (HB4.out.trans (hb5.mono HB4.out.size))
      clear hb5
      go_wp2_with fail
      refine (HL _ (HM.out _ _ HW.out HB5.out)).out.mono ?_
      rintro e w6 ⟨rfl, hb6⟩
      have HB6 := Lib.hid (HB5.out.trans (hb6.mono HB5.out.size))
      clear hb6
      go_wp2
      go_ret
      exact ⟨rfl, HB6.out⟩
    · have e : l.length = 100 := by omega
      have hd100 : decide ((100 : Int) < (n : Int)) = true := by simp; omega
      have hl100 : l.length ≤ 100 := by omega
      have h100 : (100 : Int) ≤ (cap : Int) := by omega
      obtain ⟨ad, rfl⟩ : ∃ ad, A = some ad := by
        cases A with
        | none => have := (hnone rfl).1; omega
        | some ad => exact ⟨ad, rfl⟩
      have HFt := fun A2 c2 W h1 h2 => Lib.hid (K.fits A2 c2 l c o W (by omega) hints ho h1 h2)
      have HRf := fun W h => Lib.hid (refFits_any (some ad) cap l c o (by omega) W h)
      have HNo : Hid ((some ad) = none → l = [] ∧ cap = 0) := Lib.hid (fun h => ⟨List.eq_nil_of_length_eq_zero (by have := (hnone h).1; omega), (hnone h).2⟩)
      have HE : Hid (l.length = 100) := Lib.hid e
      have hnm : nameK o = ⟨#[]⟩ := by unfold nameK; rw [if_neg hob]
      rw [hnm] at HNk
      generalize fits l c o = x at *
      clear hnone hints K hw hnc hcm hlen hA0 hnm  e
      go_enter Tryd.func11, Tryd.ntmps11
      have HB1 : Hid (Below w.heap.size w w) := Lib.hid (Below.refl _ _)
      have HA1 := HA
      by_cases ho1 : 0 < o
      · have hd1 : decide (0 < o) = true := by simpa using ho1
        have hd2 : decide (o < 8) = false := by simp; omega
        clear ho1 hob
        have hA1 := HA1.out.next ((Below.refl _ _).alloc (Nat.le_refl _) (.cells #[] 80))
        go_wp2_with (
          at_builtin
          refine wpList_appD (by rfl) (.tmp 23) (.tmp 24) (by rfl) w.heap.size 100 cap (.slice (some ⟨w.heap.size, 0, none⟩) 0 0) (some ad) [] l (by rfl) (own_new w) (by rfl) HE.out.symm HNo.out hA1 (by simp; omega) (by simp) ?_)
        intro v2 w2 hv2 hg2
        obtain ⟨hB2, hA2, A2, c2, rfl, hC2⟩ := own_copy HA.out HB1.out hv2 hg2 (fun k e => by simpa [Value.ownBlock] using e.symm)
        have HB2 := Lib.hid hB2
        have HF2 := HFt A2 c2 w2 hC2 (HM.out _ _ HW.out hB2)
        have HA2 := Lib.hid hA2
        clear hv2 hg2 hB2 hA2 hC2 hA1
        go_wp2_with fail
        refine HF2.out.mono ?_
        rintro e w3 ⟨rfl, hb3⟩
        have HR3 := HRf w3 (HA2.out.next hb3)
        have HB3 := Lib.hid (HB2.out.trans (hb3.mono HB2.out.size))
        clear hb3
        rw [HE.out] at HR3
        go_wp2_with fail
        refine HR3.out.mono ?_
        rintro e w4 ⟨rfl, hb4⟩
        have HB4 := Lib.hid (HB3.out.trans (hb4.mono HB3.out.size))
        clear hb4
        go_wp2_with fail
        refine (HNk _ (HM.out _ _ HW.out HB4.out)).out.mono ?_
        rintro e w5 ⟨rfl, hb5⟩
        have HB5 := Lib.hid (HB4.out.trans (hb5.mono HB4.out.size))
        clear hb5
        go_wp2_with fail
        refine (HL _ (HM.out _ _ HW.out HB5.out)).out.mono ?_
        rintro e w6 ⟨rfl, hb6⟩
        have HB6 := Lib.hid (HB5.out.trans (hb6.mono HB5.out.size))
        clear hb6
        go_wp2
        go_ret
        exact ⟨rfl, HB6.out⟩
      · have hd1 : decide (0 < o) = false := by simpa using ho1
        clear ho1 hob
        have hA1 := HA1.out.next ((Below.refl _ _).alloc (Nat.le_refl _) (.cells #[] 80))
        go_wp2_with (
          at_builtin
          refine wpList_appD (by rfl) (.tmp 23) (.tmp 24) (by rfl) w.heap.size 100 cap (.slice (some ⟨w.heap.size, 0, none⟩) 0 0) (some ad) [] l (by rfl) (own_new w) (by rfl) HE.out.symm HNo.out hA1 (by simp; omega) (by simp) ?_)
        intro v2 w2 hv2 hg2
        obtain ⟨hB2, hA2, A2, c2, rfl, hC2⟩ := own_copy HA.out HB1.out hv2 hg2 (fun k e => by simpa [Value.ownBlock] using e.symm)
        have HB2 := Lib.hid hB2
        have HF2 := HFt A2 c2 w2 hC2 (HM.out _ _ HW.out hB2)
        have HA2 := Lib.hid hA2
        clear hv2 hg2 hB2 hA2 hC2 hA1
        go_wp2_with fail
        refine HF2.out.mono ?_
        rintro e w3 ⟨rfl, hb3⟩
        have HR3 := HRf w3 (HA2.out.next hb3)
        have HB3 := Lib.hid (HB2.out.trans (hb3.mono HB2.out.size))
        clear hb3
        rw [HE.out] at HR3
        go_wp2_with fail
        refine HR3.out.mono ?_
        rintro e w4 ⟨rfl, hb4⟩
        have HB4 := Lib.hid (HB3.out.trans (hb4.mono HB3.out.size))
        clear hb4
        go_wp2_with fail
        refine (HNk _ (HM.out _ _ HW.out HB4.out)).out.mono ?_
        rintro e w5 ⟨rfl, hb5⟩
        have HB5 := Lib.hid (HB4.out.trans (hb5.mono HB4.out.size))
        clear hb5
        go_wp2_with fail
        refine (HL _ (HM.out _ _ HW.out HB5.out)).out.mono ?_
        rintro e w6 ⟨rfl, hb6⟩
        have HB6 := Lib.hid (HB5.out.trans (hb6.mono HB5.out.size))
        clear hb6
        go_wp2
        go_ret
        exact ⟨rfl, HB6.out⟩
end Go.Proofs.YtaefkkhmhogpeaaDoor.objs
