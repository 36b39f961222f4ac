/-
  The walk of NeedBack over the bundle: whatever the program's own text is. A text of at most two to the forty-seventh bytes, but for a thousand.
-/
import Derived.Test.YtfkcmdnnmnkklaaDoorEWalks
namespace Go.Proofs.YtfkcmdnnmnkklaaDoor.need
open Go.RowKit Go.ChangeShapes
open Go.Proofs.YtfkcmdnnmnkklaaDoor.objs (De zero DAt chk chk_zero I64 Ints LIn)
open Go.Proofs.YtfkcmdnnmnkklaaDoor.octet (size_mk)
set_option linter.unusedVariables false

set_option maxRecDepth 100000 in
set_option maxHeartbeats 8000000 in
theorem back_walk {Ok : World → Prop} (K : Keeps Ok) (A : Option Addr) (n cap : Nat) (d : List De) (B : Option Addr) (nw cw : Nat) (l : List (List De)) (t : ByteArray) (ht : t.size ≤ 140737488351232) (w : World) (hI : LIn w A n cap d) (hU : WIn w B nw cw l) (hw : Ok w) :
    Calls Tryd.prog 5 #[.slice A n cap, .slice B nw cw, .string t] w fun e w' => e = .returned (.bool true) ∧ Below w.heap.size w w' := by
  have HBd := Lib.hid (bad_any A n cap d w hI)
  unfold BadPost at HBd
  have HL := fun W hW => Lib.hid (lives_any K W hW)
  have HM := Lib.hid K.mono
  have HW := Lib.hid hw
  by_cases hz : (chk d).2 = 0
  · obtain ⟨rfl, h32, hA, hno⟩ := in_whole hI hz
    rw [decide_eq_false (by simp [hz] : ¬ (chk d).2 ≠ 0)] at HBd
    have HDc := fun W h => Lib.hid (decl_any A cap d hno (by omega) W h)
    unfold DeclPost at HDc
    have HA := Lib.hid hA
    obtain ⟨hnone, hnc, hcm, hG, hsm⟩ := hU
    have HRc := fun W h1 h2 => Lib.hid (refCheck9_any A B cap nw cw d l (by omega) W h1 h2)
    unfold ChkPost9 at HRc
    by_cases hc : chkW d l = 0
    · obtain ⟨_, h4, hall⟩ := chkW_zero hc
      obtain ⟨rfl, hWA⟩ := hG.whole (by omega) (fun x hx => by have := (hall x hx).2.1; omega)
      have hF := fine_of hz hc
      have HGw := Lib.hid hG
      have HWA := Lib.hid hWA
      have HOw := fun W h => Lib.hid (own_any B l.length cw l (by omega) W h)
      have HPt := fun A2 c2 B2 d2 W h1 h2 h3 => Lib.hid (K.put A2 B2 c2 d2 d l W hz hF h1 h2 h3)
      unfold OwnPost at HOw
      unfold PutPost9 putW at HPt
      rw [hc, if_pos rfl] at HPt
      rw [hc] at HRc
      have hql : (encW l).length ≤ 900 := by
        have h1 := Go.Proofs.YtfkcmdnnmnkklaaDoor.octet.num_length_le l.length
        have h2 := encWs_le (w := l) (fun x hx => (hF.2 x hx).1) l.length (Nat.le_refl _)
        simp only [encW, List.length_append]
        omega
      have hqs := size_mk (encW l)
      have hdl : (ByteArray.mk (encW l).toArray ++ t).data.toList = encW l ++ t.data.toList := by rw [ByteArray.data_append, Array.toList_append]
      have hds : (ByteArray.mk (encW l).toArray ++ t).size = (encW l).length + t.size := by rw [size_list, hdl, List.length_append, ← size_list]
      have HGt := fun A2 c2 W h1 h2 => Lib.hid (K.get A2 c2 d (ByteArray.mk (encW l).toArray ++ t) W hz (by omega) h1 h2)
      rw [hdl, Go.Proofs.YtfkcmdnnmnkklaaDoor.need.back hz hc] at HGt
      unfold GotPost9 at HGt
      dsimp only at HGt
      have HSm := fun D cd W h1 h2 => Lib.hid (refSame9_any B D cw cd l l hF.1 hF.1 (fun x hx => (hF.2 x hx).1) (fun x hx => (hF.2 x hx).1) W h1 h2)
      unfold SamePost at HSm
      rw [decide_eq_true rfl] at HSm
      clear K hw hI hA hno hz hc hnone hnc hcm hG hsm hF hall h4 hWA hdl hds
      generalize encW l = eb at *
      go_enter Tryd.func5, Tryd.ntmps5
      go_wp2_with fail
      refine HBd.out.mono ?_
      rintro e w1 ⟨rfl, hb1⟩
      have HB1 := Lib.hid hb1
      clear hb1
      have HR1 := HRc w1 (HA.out.next HB1.out) (HGw.out.next HB1.out)
      go_wp2_with fail
      refine HR1.out.mono ?_
      rintro e w2 ⟨rfl, hb2⟩
      have HB2 := Lib.hid (HB1.out.trans (hb2.mono HB1.out.size))
      clear hb2
      have HD2 := HDc w2 (HA.out.next HB2.out)
      go_wp2_with fail
      refine HD2.out.mono ?_
      rintro e w3 ⟨A3, c3, rfl, hd3, hb3⟩
      have HB3 := Lib.hid (HB2.out.trans (hb3.mono HB2.out.size))
      have HD3 := Lib.hid hd3
      clear hd3
      clear hb3
      have HO3 := HOw w3 (HGw.out.next HB3.out)
      go_wp2_with fail
      refine HO3.out.mono ?_
      rintro e w4 ⟨B4, c4, rfl, hw4, _, hb4⟩
      have HB4 := Lib.hid (HB3.out.trans (hb4.mono HB3.out.size))
      have HD4 := Lib.hid (HD3.out.next hb4)
      clear hb4
      have HP4 := HPt A3 c3 B4 c4 w4 HD4.out hw4 (HM.out _ _ HW.out HB4.out)
      clear hw4
      go_wp2_with fail
      refine HP4.out.mono ?_
      rintro e w5 ⟨rfl, hb5⟩
      have HB5 := Lib.hid (HB4.out.trans (hb5.mono HB4.out.size))
      clear hb5
      have HD5 := HDc w5 (HA.out.next HB5.out)
      go_wp2_with fail
      refine HD5.out.mono ?_
      rintro e w6 ⟨A6, c6, rfl, hd6, hb6⟩
      have HB6 := Lib.hid (HB5.out.trans (hb6.mono HB5.out.size))
      clear hb6
      have HG6 := HGt A6 c6 w6 hd6 (HM.out _ _ HW.out HB6.out)
      clear hd6
      go_wp2_with fail
      refine HG6.out.mono ?_
      rintro e w7 ⟨v7, rfl, ⟨D7, c7, rfl, hw7⟩, hb7⟩
      have HB7 := Lib.hid (HB6.out.trans (hb7.mono HB6.out.size))
      clear hb7
      have HS7 := HSm D7 c7 w7 (HWA.out.next HB7.out) hw7
      clear hw7
      go_wp2_with fail
      refine HS7.out.mono ?_
      rintro e w8 ⟨rfl, hb8⟩
      have HB8 := Lib.hid (HB7.out.trans (hb8.mono HB7.out.size))
      clear hb8
      go_wp2_with fail
      refine (HL _ (HM.out _ _ HW.out HB8.out)).out.mono ?_
      rintro e w90 ⟨rfl, hb90⟩
      have HB90 := Lib.hid (HB8.out.trans (hb90.mono HB8.out.size))
      clear hb90
      go_wp2
      go_ret
      exact ⟨rfl, HB90.out⟩
    · have hc1 : ((chkW d l : Int) != 0) = true := by simpa using hc
      have HGw := Lib.hid hG
      clear K hw hI hA hno hz hc hnone hnc hcm hG hsm HDc
      generalize chkW d l = q at *
      go_enter Tryd.func5, Tryd.ntmps5
      go_wp2_with fail
      refine HBd.out.mono ?_
      rintro e w1 ⟨rfl, hb1⟩
      have HB1 := Lib.hid hb1
      clear hb1
      have HR1 := HRc w1 (HA.out.next HB1.out) (HGw.out.next HB1.out)
      go_wp2_with fail
      refine HR1.out.mono ?_
      rintro e w2 ⟨rfl, hb2⟩
      have HB2 := Lib.hid (HB1.out.trans (hb2.mono HB1.out.size))
      clear hb2
      go_wp2_with fail
      refine (HL _ (HM.out _ _ HW.out HB2.out)).out.mono ?_
      rintro e w90 ⟨rfl, hb90⟩
      have HB90 := Lib.hid (HB2.out.trans (hb90.mono HB2.out.size))
      clear hb90
      go_wp2
      go_ret
      exact ⟨rfl, HB90.out⟩
  · rw [decide_eq_true (by simpa using hz : (chk d).2 ≠ 0)] at HBd
    clear K hw hI hz hU
    go_enter Tryd.func5, Tryd.ntmps5
    go_wp2_with fail
    refine HBd.out.mono ?_
    rintro e w1 ⟨rfl, hb1⟩
    have HB1 := Lib.hid hb1
    clear hb1
    go_wp2_with fail
    refine (HL _ (HM.out _ _ HW.out HB1.out)).out.mono ?_
    rintro e w90 ⟨rfl, hb90⟩
    have HB90 := Lib.hid (HB1.out.trans (hb90.mono HB1.out.size))
    clear hb90
    go_wp2
    go_ret
    exact ⟨rfl, HB90.out⟩
end Go.Proofs.YtfkcmdnnmnkklaaDoor.need
