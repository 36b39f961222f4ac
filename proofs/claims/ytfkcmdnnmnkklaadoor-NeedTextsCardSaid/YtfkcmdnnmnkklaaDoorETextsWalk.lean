/-
  The walk of NeedTexts over the bundle: whatever the program's own text is. No condition but that bundle.
-/
import Derived.Test.YtfkcmdnnmnkklaaDoorEWalks
namespace Go.Proofs.YtfkcmdnnmnkklaaDoor.need
open Go.RowKit Go.ChangeShapes
open Go.Proofs.YtfkcmdnnmnkklaaDoor.objs (De zero DAt chk chk_zero I64 Ints LIn)
open Go.Proofs.YtfkcmdnnmnkklaaDoor.octet (size_mk)
set_option linter.unusedVariables false

set_option maxRecDepth 100000 in
set_option maxHeartbeats 8000000 in
theorem texts_walk {Ok : World → Prop} (K : Keeps Ok) (B : Option Addr) (nw cw : Nat) (l : List (List De)) (k : Int) (hk : I64 k) (w : World) (hU : WIn w B nw cw l) (hw : Ok w) :
    Calls Tryd.prog 7 #[.slice B nw cw, .int .i64 k] w fun e w' => e = .returned (.bool true) ∧ Below w.heap.size w w' := by
  have HL := fun W hW => Lib.hid (lives_any K W hW)
  have HM := Lib.hid K.mono
  have HW := Lib.hid hw
  obtain ⟨hnone, hnc, hcm, hG, hsm⟩ := hU
  obtain ⟨s1, s2⟩ := hG.short
  have hF : Fine l := ⟨s1, fun x hx => ⟨s2 x hx, hsm x hx⟩⟩
  have HO0 := Lib.hid (own_any B nw cw l (by omega) w hG)
  have HOw := fun B2 c2 W h => Lib.hid (own_any B2 l.length c2 l (by omega) W h)
  have HTx := fun B2 c2 W h1 h2 => Lib.hid (K.text B2 c2 l W hF h1 h2)
  have HRt := fun B2 c2 W h1 => Lib.hid (refText9_any B2 c2 l s1 hF.2 W h1)
  have HOb := fun B2 c2 W h1 h2 => Lib.hid (K.objs B2 c2 l k W hF hk h1 h2)
  have HRo := fun B2 c2 W h1 => Lib.hid (refObjects9_any B2 c2 l k s1 s2 W h1)
  unfold OwnPost at HO0 HOw
  unfold TextPost9 at HTx
  unfold ObjsPost9 at HOb
  clear K hw hk hnone hnc hcm hG hsm s1 s2 hF
  generalize textW l = tx at *
  generalize objects l k = ob at *
  go_enter Tryd.func7, Tryd.ntmps7
  go_wp2_with fail
  refine HO0.out.mono ?_
  rintro e w1 ⟨B1, c1, rfl, hw1, hg1, hb1⟩
  have HB1 := Lib.hid hb1
  have HW1 := Lib.hid hw1
  have HG1 := Lib.hid hg1
  clear hb1 hw1 hg1
  have HO1 := HOw B1 c1 w1 HG1.out
  go_wp2_with fail
  refine HO1.out.mono ?_
  rintro e w2 ⟨B2, c2, rfl, hw2, _, hb2⟩
  have HB2 := Lib.hid (HB1.out.trans (hb2.mono HB1.out.size))
  have HW2 := Lib.hid (HW1.out.next hb2)
  have HG2 := Lib.hid (HG1.out.next hb2)
  clear hb2
  have HT2 := HTx B2 c2 w2 hw2 (HM.out _ _ HW.out HB2.out)
  clear hw2
  go_wp2_with fail
  refine HT2.out.mono ?_
  rintro e w3 ⟨rfl, hb3⟩
  have HB3 := Lib.hid (HB2.out.trans (hb3.mono HB2.out.size))
  have HW3 := Lib.hid (HW2.out.next hb3)
  have HG3 := Lib.hid (HG2.out.next hb3)
  clear hb3
  have HR3 := HRt B1 c1 w3 HW3.out
  go_wp2_with fail
  refine HR3.out.mono ?_
  rintro e w4 ⟨rfl, hb4⟩
  have HB4 := Lib.hid (HB3.out.trans (hb4.mono HB3.out.size))
  have HW4 := Lib.hid (HW3.out.next hb4)
  have HG4 := Lib.hid (HG3.out.next hb4)
  clear hb4
  have HO4 := HOw B1 c1 w4 HG4.out
  go_wp2_with fail
  refine HO4.out.mono ?_
  rintro e w5 ⟨B5, c5, rfl, hw5, _, hb5⟩
  have HB5 := Lib.hid (HB4.out.trans (hb5.mono HB4.out.size))
  have HW5 := Lib.hid (HW4.out.next hb5)
  clear hb5
  have HT5 := HOb B5 c5 w5 hw5 (HM.out _ _ HW.out HB5.out)
  clear hw5
  go_wp2_with fail
  refine HT5.out.mono ?_
  rintro e w6 ⟨rfl, hb6⟩
  have HB6 := Lib.hid (HB5.out.trans (hb6.mono HB5.out.size))
  have HW6 := Lib.hid (HW5.out.next hb6)
  clear hb6
  have HR6 := HRo B1 c1 w6 HW6.out
  go_wp2_with fail
  refine HR6.out.mono ?_
  rintro e w7 ⟨rfl, rfl⟩
  go_wp2_with fail
  refine (HL _ (HM.out _ _ HW.out HB6.out)).out.mono ?_
  rintro e w90 ⟨rfl, hb90⟩
  have HB90 := Lib.hid (HB6.out.trans (hb90.mono HB6.out.size))
  clear hb90
  go_wp2
  go_ret
  exact ⟨rfl, HB90.out⟩
end Go.Proofs.YtfkcmdnnmnkklaaDoor.need
