/-
  Texts of one claim in one file: YOnce. Each has its own sentence, with its conditions.
-/
import Derived.Test.YtnhoeboighndlaaGreatDoorYall26
import Derived.Test.YtnhoeboighndlaaGreatDoorYall38
/-
  What is read, written, is the same text: the walk over what is asked of the program's calls. Conditions: a world that the calls take.
-/
namespace Go.Proofs.YtnhoeboighndlaaGreatDoor.pgm.asm
open Go.RowKit Go.ChangeShapes
open Go.Proofs.YtnhoeboighndlaaGreatDoor.pgm
open Go.Proofs.YtnhoeboighndlaaGreatDoor.octet (size_mk)
open Go.Proofs.YtnhoeboighndlaaGreatDoor.objs (De zero DAt)
set_option linter.unusedVariables false

theorem none_at (w : World) : PAt w (.agg #[.slice none 0 0, .slice none 0 0, .slice none 0 0]) Pg.none :=
  ⟨none, none, none, 0, 0, 0, rfl, fun j hj => absurd hj (Nat.not_lt_zero j), fun j hj => absurd hj (Nat.not_lt_zero j), fun j hj => absurd hj (Nat.not_lt_zero j)⟩

set_option maxRecDepth 100000 in
set_option maxHeartbeats 4000000 in
theorem once_walk {Ok : World → Prop} (K : Keeps Ok) (t : List UInt8) (w : World) (hw : Ok w) : Calls Tryz.prog 5 #[.string ⟨t.toArray⟩] w fun e w' => e = .returned (.bool true) ∧ Below w.heap.size w w' := by
  have HK := Lib.hid K
  have HL := fun W h => Lib.hid (lives_any K W h)
  have HP := Lib.hid (K.parse t w hw)
  unfold ParsePost at HP
  have HW := Lib.hid hw
  clear hw K
  by_cases hz : (parse t).2.2 = 0
  · obtain ⟨h1, h2, h3⟩ := parse_once hz
    rw [hz, h2] at HP
    have HTx : Hid (textA (parse t).1 = t) := Lib.hid (by unfold textA; rw [if_pos h1, h3])
    generalize hq : (parse t).1 = q at *
    clear h2 h3 hz hq
    go_enter Tryz.func5, Tryz.ntmps5
    go_wp2_with fail
    refine HP.out.mono ?_
    rintro e w1 ⟨v, rfl, hv, hb1⟩
    have hv' := hv
    obtain ⟨A, B, C, ca, cb, cc, rfl, _⟩ := hv
    have HB1 := Lib.hid hb1
    have HO1 := Lib.hid (HK.out.mono _ _ HW.out hb1)
    have hbx : Below w1.heap.size w1 (w1.alloc (pgB A B C q.ds.length q.ws.length q.fs.length ca cb cc)) := (Below.refl _ _).alloc (Nat.le_refl _) _
    have HBx := Lib.hid (HB1.out.trans (hbx.mono HB1.out.size))
    have HOx := Lib.hid (HK.out.mono _ _ HO1.out hbx)
    have HT := Lib.hid (HK.out.text _ q _ HOx.out (hv'.next hbx) (small_chk h1))
    unfold TextPost at HT
    rw [HTx.out, h1] at HT
    unfold pgB at HBx HOx HT
    clear hv' hb1 hbx HTx h1 HP HW
    go_wp2_with fail
    refine HT.out.mono ?_
    rintro e w2 ⟨rfl, hb2⟩
    have HB2 := Lib.hid (HBx.out.trans (hb2.mono HBx.out.size))
    have HO2 := Lib.hid (HK.out.mono _ _ HOx.out hb2)
    clear hb2 HT HBx HOx
    go_wp2_with fail
    refine (HL _ HO2.out).out.mono ?_
    rintro e w3 ⟨rfl, hb3⟩
    have HB3 := Lib.hid (HB2.out.trans (hb3.mono HB2.out.size))
    clear hb3
    go_wp2_with fail
    go_ret
    exact ⟨rfl, HB3.out⟩
  · have hn := parse_none hz
    rw [hn] at HP
    have hne : (((parse t).2.2 : Int) != 0) = true := by simpa using hz
    generalize (parse t).2.2 = er at *
    generalize (parse t).2.1 = n at *
    have hn0 : decide ((n : Int) ≥ 0) = true := decide_eq_true (by omega)
    clear hz hn
    have hsm : Go.Proofs.YtnhoeboighndlaaGreatDoor.pgm.SmallP Pg.none := ⟨by decide, by decide, (fun x hx => by cases hx), by decide, (fun f hf => by cases hf)⟩
    have HS := fun va W h => Lib.hid (same10_any va (.agg #[.slice none 0 0, .slice none 0 0, .slice none 0 0]) Pg.none Pg.none hsm hsm W h (none_at W))
    unfold SamePost10 at HS
    rw [eqP_yes rfl] at HS
    go_enter Tryz.func5, Tryz.ntmps5
    go_wp2_with fail
    refine HP.out.mono ?_
    rintro e w1 ⟨v, rfl, hv, hb1⟩
    have hv' := hv
    obtain ⟨A, B, C, ca, cb, cc, rfl, _⟩ := hv
    have f1 : Pg.none.ds.length = 0 := rfl
    have f2 : Pg.none.ws.length = 0 := rfl
    have f3 : Pg.none.fs.length = 0 := rfl
    simp only [f1, f2, f3] at hv' ⊢
    have HB1 := Lib.hid hb1
    have HO1 := Lib.hid (HK.out.mono _ _ HW.out hb1)
    have hbx : Below w1.heap.size w1 (w1.alloc (pgB A B C 0 0 0 ca cb cc)) := (Below.refl _ _).alloc (Nat.le_refl _) _
    have HBx := Lib.hid (HB1.out.trans (hbx.mono HB1.out.size))
    have HOx := Lib.hid (HK.out.mono _ _ HO1.out hbx)
    have HT := HS _ _ (hv'.next hbx)
    unfold pgB at HBx HOx HT
    clear hv' hb1 hbx HP HW HS
    go_wp2_with fail
    refine HT.out.mono ?_
    rintro e w2 ⟨rfl, hb2⟩
    have HB2 := Lib.hid (HBx.out.trans (hb2.mono HBx.out.size))
    have HO2 := Lib.hid (HK.out.mono _ _ HOx.out hb2)
    clear hb2 HT HBx HOx
    go_wp2_with fail
    refine (HL _ HO2.out).out.mono ?_
    rintro e w3 ⟨rfl, hb3⟩
    have HB3 := Lib.hid (HB2.out.trans (hb3.mono HB2.out.size))
    clear hb3
    go_wp2_with fail
    go_ret
    exact ⟨rfl, HB3.out⟩
end Go.Proofs.YtnhoeboighndlaaGreatDoor.pgm.asm
