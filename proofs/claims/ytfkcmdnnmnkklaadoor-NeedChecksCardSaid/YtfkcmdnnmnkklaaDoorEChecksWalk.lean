/-
  The walk of NeedChecks over the bundle: whatever the program's own text is. No condition but that bundle.
-/
import Derived.Test.YtfkcmdnnmnkklaaDoorEWalks
namespace Go.Proofs.YtfkcmdnnmnkklaaDoor.need
open Go.RowKit Go.ChangeShapes
open Go.Proofs.YtfkcmdnnmnkklaaDoor.objs (De zero DAt chk chk_zero I64 Ints LIn)
open Go.Proofs.YtfkcmdnnmnkklaaDoor.octet (size_mk)
set_option linter.unusedVariables false

set_option maxRecDepth 100000 in
set_option maxHeartbeats 8000000 in
theorem checks_walk {Ok : World → Prop} (K : Keeps Ok) (A : Option Addr) (n cap : Nat) (d : List De) (B : Option Addr) (nw cw : Nat) (l : List (List De)) (w : World) (hI : LIn w A n cap d) (hU : WIn w B nw cw l) (hw : Ok w) :
    Calls Tryd.prog 3 #[.slice A n cap, .slice B nw cw] w fun e w' => e = .returned (.bool true) ∧ Below w.heap.size w w' := by
  have HBd := Lib.hid (bad_any A n cap d w hI)
  unfold BadPost at HBd
  have HL := fun W hW => Lib.hid (lives_any K W hW)
  have HM := Lib.hid K.mono
  have HW := Lib.hid hw
  by_cases hz : (chk d).2 = 0
  · obtain ⟨rfl, h32, hA, hno⟩ := in_whole hI hz
    rw [decide_eq_false (by simp [hz] : ¬ (chk d).2 ≠ 0)] at HBd
    have HDc := fun W h => Lib.hid (decl_any A cap d hno (by omega) W h)
    unfold DeclPost at HDc
    have HA := Lib.hid hA
    obtain ⟨hnone, hnc, hcm, hG, hsm⟩ := hU
    obtain ⟨s1, s2⟩ := hG.short
    have hF : Fine l := ⟨s1, fun x hx => ⟨s2 x hx, hsm x hx⟩⟩
    have HGw := Lib.hid hG
    have HOw0 := fun W h => Lib.hid (own_any B nw cw l (by omega) W h)
    have HOw := fun B2 c2 W h => Lib.hid (own_any B2 l.length c2 l (by omega) W h)
    have HRc := fun B2 c2 W h1 h2 => Lib.hid (refCheck9_any A B2 cap l.length c2 d l (by omega) W h1 h2)
    have HPt := fun A2 c2 B2 d2 W h1 h2 h3 => Lib.hid (K.put A2 B2 c2 d2 d l W hz hF h1 h2 h3)
    have HCk := fun A2 c2 B2 d2 W h1 h2 h3 => Lib.hid (K.check A2 B2 c2 d2 d l W hz hF h1 h2 h3)
    have HRp := fun h B2 c2 W h2 => Lib.hid (refPut9_any B2 c2 l s1 s2 (slim_of hz h) W h2)
    unfold OwnPost at HOw0 HOw
    unfold ChkPost9 at HRc HCk
    unfold PutPost9 putW at HPt
    clear K hw hI hA hno hz hnone hnc hcm hG hsm s1 s2 hF
    by_cases hc : chkW d l = 0
    · have HRp2 := HRp hc
      rw [hc, if_pos rfl] at HPt
      rw [hc] at HRc HCk
      clear hc HRp
      generalize encW l = eb at *
      go_enter Tryd.func3, Tryd.ntmps3
      go_wp2_with fail
      refine HBd.out.mono ?_
      rintro e w1 ⟨rfl, hb1⟩
      have HB1 := Lib.hid hb1
      clear hb1
      have HO1 := HOw0 w1 (HGw.out.next HB1.out)
      go_wp2_with fail
      refine HO1.out.mono ?_
      rintro e w2 ⟨B2, c2, rfl, hw2, hg2, hb2⟩
      have HB2 := Lib.hid (HB1.out.trans (hb2.mono HB1.out.size))
      clear hb2
      have HW2 := Lib.hid hw2
      have HG2 := Lib.hid hg2
      have HR2 := HRc B2 c2 w2 (HA.out.next HB2.out) hg2
      clear hw2 hg2
      go_wp2_with fail
      refine HR2.out.mono ?_
      rintro e w3 ⟨rfl, hb3⟩
      have HB3 := Lib.hid (HB2.out.trans (hb3.mono HB2.out.size))
      have HW3 := Lib.hid (HW2.out.next hb3)
      have HG3 := Lib.hid (HG2.out.next hb3)
      clear hb3
      have HD3 := HDc w3 (HA.out.next HB3.out)
      go_wp2_with fail
      refine HD3.out.mono ?_
      rintro e w4 ⟨A4, c4, rfl, hd4, hb4⟩
      have HB4 := Lib.hid (HB3.out.trans (hb4.mono HB3.out.size))
      have HD4 := Lib.hid hd4
      have HW4 := Lib.hid (HW3.out.next hb4)
      have HG4 := Lib.hid (HG3.out.next hb4)
      clear hd4
      clear hb4
      have HO4 := HOw B2 c2 w4 HG4.out
      go_wp2_with fail
      refine HO4.out.mono ?_
      rintro e w5 ⟨B5, c5, rfl, hw5, _, hb5⟩
      have HB5 := Lib.hid (HB4.out.trans (hb5.mono HB4.out.size))
      have HD5 := Lib.hid (HD4.out.next hb5)
      have HW5 := Lib.hid (HW4.out.next hb5)
      have HG5 := Lib.hid (HG4.out.next hb5)
      clear hb5
      have HP5 := HPt A4 c4 B5 c5 w5 HD5.out hw5 (HM.out _ _ HW.out HB5.out)
      clear hw5
      go_wp2_with fail
      refine HP5.out.mono ?_
      rintro e w6 ⟨rfl, hb6⟩
      have HB6 := Lib.hid (HB5.out.trans (hb6.mono HB5.out.size))
      have HW6 := Lib.hid (HW5.out.next hb6)
      have HG6 := Lib.hid (HG5.out.next hb6)
      clear hb6
      have HD6 := HDc w6 (HA.out.next HB6.out)
      go_wp2_with fail
      refine HD6.out.mono ?_
      rintro e w7 ⟨A7, c7, rfl, hd7, hb7⟩
      have HB7 := Lib.hid (HB6.out.trans (hb7.mono HB6.out.size))
      have HD7 := Lib.hid hd7
      have HW7 := Lib.hid (HW6.out.next hb7)
      have HG7 := Lib.hid (HG6.out.next hb7)
      clear hd7
      clear hb7
      have HO7 := HOw B2 c2 w7 HG7.out
      go_wp2_with fail
      refine HO7.out.mono ?_
      rintro e w8 ⟨B8, c8, rfl, hw8, _, hb8⟩
      have HB8 := Lib.hid (HB7.out.trans (hb8.mono HB7.out.size))
      have HD8 := Lib.hid (HD7.out.next hb8)
      have HW8 := Lib.hid (HW7.out.next hb8)
      clear hb8
      have HC8 := HCk A7 c7 B8 c8 w8 HD8.out hw8 (HM.out _ _ HW.out HB8.out)
      clear hw8
      go_wp2_with fail
      refine HC8.out.mono ?_
      rintro e w9 ⟨rfl, hb9⟩
      have HB9 := Lib.hid (HB8.out.trans (hb9.mono HB8.out.size))
      have HW9 := Lib.hid (HW8.out.next hb9)
      clear hb9
      have HR9 := HRp2 B2 c2 w9 HW9.out
      go_wp2_with fail
      refine HR9.out.mono ?_
      rintro e w10 ⟨rfl, hb10⟩
      have HB10 := Lib.hid (HB9.out.trans (hb10.mono HB9.out.size))
      clear hb10
      go_wp2_with fail
      refine (HL _ (HM.out _ _ HW.out HB10.out)).out.mono ?_
      rintro e w90 ⟨rfl, hb90⟩
      have HB90 := Lib.hid (HB10.out.trans (hb90.mono HB10.out.size))
      clear hb90
      go_wp2
      go_ret
      exact ⟨rfl, HB90.out⟩
    · rw [if_neg hc] at HPt
      have hc1 : ((chkW d l : Int) != 0) = true := by simpa using hc
      have hc2 : ((chkW d l : Int) == 0) = false := by simpa using hc
      clear hc HRp
      generalize chkW d l = q at *
      go_enter Tryd.func3, Tryd.ntmps3
      go_wp2_with fail
      refine HBd.out.mono ?_
      rintro e w1 ⟨rfl, hb1⟩
      have HB1 := Lib.hid hb1
      clear hb1
      have HO1 := HOw0 w1 (HGw.out.next HB1.out)
      go_wp2_with fail
      refine HO1.out.mono ?_
      rintro e w2 ⟨B2, c2, rfl, hw2, hg2, hb2⟩
      have HB2 := Lib.hid (HB1.out.trans (hb2.mono HB1.out.size))
      clear hb2
      have HW2 := Lib.hid hw2
      have HG2 := Lib.hid hg2
      have HR2 := HRc B2 c2 w2 (HA.out.next HB2.out) hg2
      clear hw2 hg2
      go_wp2_with fail
      refine HR2.out.mono ?_
      rintro e w3 ⟨rfl, hb3⟩
      have HB3 := Lib.hid (HB2.out.trans (hb3.mono HB2.out.size))
      have HW3 := Lib.hid (HW2.out.next hb3)
      have HG3 := Lib.hid (HG2.out.next hb3)
      clear hb3
      have HD3 := HDc w3 (HA.out.next HB3.out)
      go_wp2_with fail
      refine HD3.out.mono ?_
      rintro e w4 ⟨A4, c4, rfl, hd4, hb4⟩
      have HB4 := Lib.hid (HB3.out.trans (hb4.mono HB3.out.size))
      have HD4 := Lib.hid hd4
      have HW4 := Lib.hid (HW3.out.next hb4)
      have HG4 := Lib.hid (HG3.out.next hb4)
      clear hd4
      clear hb4
      have HO4 := HOw B2 c2 w4 HG4.out
      go_wp2_with fail
      refine HO4.out.mono ?_
      rintro e w5 ⟨B5, c5, rfl, hw5, _, hb5⟩
      have HB5 := Lib.hid (HB4.out.trans (hb5.mono HB4.out.size))
      have HD5 := Lib.hid (HD4.out.next hb5)
      have HW5 := Lib.hid (HW4.out.next hb5)
      have HG5 := Lib.hid (HG4.out.next hb5)
      clear hb5
      have HP5 := HPt A4 c4 B5 c5 w5 HD5.out hw5 (HM.out _ _ HW.out HB5.out)
      clear hw5
      go_wp2_with fail
      refine HP5.out.mono ?_
      rintro e w6 ⟨rfl, hb6⟩
      have HB6 := Lib.hid (HB5.out.trans (hb6.mono HB5.out.size))
      have HW6 := Lib.hid (HW5.out.next hb6)
      have HG6 := Lib.hid (HG5.out.next hb6)
      clear hb6
      have HD6 := HDc w6 (HA.out.next HB6.out)
      go_wp2_with fail
      refine HD6.out.mono ?_
      rintro e w7 ⟨A7, c7, rfl, hd7, hb7⟩
      have HB7 := Lib.hid (HB6.out.trans (hb7.mono HB6.out.size))
      have HD7 := Lib.hid hd7
      have HW7 := Lib.hid (HW6.out.next hb7)
      have HG7 := Lib.hid (HG6.out.next hb7)
      clear hd7
      clear hb7
      have HO7 := HOw B2 c2 w7 HG7.out
      go_wp2_with fail
      refine HO7.out.mono ?_
      rintro e w8 ⟨B8, c8, rfl, hw8, _, hb8⟩
      have HB8 := Lib.hid (HB7.out.trans (hb8.mono HB7.out.size))
      have HD8 := Lib.hid (HD7.out.next hb8)
      have HW8 := Lib.hid (HW7.out.next hb8)
      clear hb8
      have HC8 := HCk A7 c7 B8 c8 w8 HD8.out hw8 (HM.out _ _ HW.out HB8.out)
      clear hw8
      go_wp2_with fail
      refine HC8.out.mono ?_
      rintro e w9 ⟨rfl, hb9⟩
      have HB9 := Lib.hid (HB8.out.trans (hb9.mono HB8.out.size))
      have HW9 := Lib.hid (HW8.out.next hb9)
      clear hb9
      go_wp2_with fail
      refine (HL _ (HM.out _ _ HW.out HB9.out)).out.mono ?_
      rintro e w90 ⟨rfl, hb90⟩
      have HB90 := Lib.hid (HB9.out.trans (hb90.mono HB9.out.size))
      clear hb90
      go_wp2
      go_ret
      exact ⟨rfl, HB90.out⟩
  · rw [decide_eq_true (by simpa using hz : (chk d).2 ≠ 0)] at HBd
    clear K hw hI hz hU
    go_enter Tryd.func3, Tryd.ntmps3
    go_wp2_with fail
    refine HBd.out.mono ?_
    rintro e w1 ⟨rfl, hb1⟩
    have HB1 := Lib.hid hb1
    clear hb1
    go_wp2_with fail
    refine (HL _ (HM.out _ _ HW.out HB1.out)).out.mono ?_
    rintro e w90 ⟨rfl, hb90⟩
    have HB90 := Lib.hid (HB1.out.trans (hb90.mono HB1.out.size))
    clear hb90
    go_wp2
    go_ret
    exact ⟨rfl, HB90.out⟩
end Go.Proofs.YtfkcmdnnmnkklaaDoor.need
