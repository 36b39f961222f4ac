/-
  Texts of one claim in one file: YBack. Each has its own sentence, with its conditions.
-/
import Derived.Test.YtnhoeboighndlaaGreatDoorYall26
import Derived.Test.YtnhoeboighndlaaGreatDoorYall38
import Derived.Test.YtnhoeboighndlaaGreatDoorYall37
import Derived.Test.YtnhoeboighndlaaGreatDoorYall40
/-
  A program that may be comes back from its text: the walk over what is asked of the program's calls. Conditions: a world that the calls take, and a program that lies there.
-/
namespace Go.Proofs.YtnhoeboighndlaaGreatDoor.pgm.asm
open Go.RowKit Go.ChangeShapes
open Go.Proofs.YtnhoeboighndlaaGreatDoor.pgm
open Go.Proofs.YtnhoeboighndlaaGreatDoor.octet (size_mk)
open Go.Proofs.YtnhoeboighndlaaGreatDoor.objs (De zero DAt cells3)
set_option linter.unusedVariables false

theorem small_whole {p : Pg} (h : chkP p = 0) : Go.Proofs.YtnhoeboighndlaaGreatDoor.pgm.SmallP p := by
  obtain ⟨g1, g2, g3, g4, g5, g6⟩ := chkP_zero h
  have g0 := (Go.Proofs.YtnhoeboighndlaaGreatDoor.objs.chk_zero g1).1
  refine ⟨by omega, by omega, fun x hx => ?_, by omega, fun f hf => ?_⟩
  · obtain ⟨h1, h2, h3⟩ := Go.Proofs.YtnhoeboighndlaaGreatDoor.need.chkW_zero (g3 x hx)
    exact ⟨by omega, fun y hy => by have := (h3 y hy).2.1; omega⟩
  · have := (chkFn_zero (g6 f hf)).2.2.1
    omega

set_option maxRecDepth 100000 in
set_option maxHeartbeats 4000000 in
theorem back_walk {Ok : World → Prop} (K : Keeps Ok) (v : Value) (p : Pg) (w : World) (hv : PG w v p) (hw : Ok w) : Calls Tryz.prog 4 #[v] w fun e w' => e = .returned (.bool true) ∧ Below w.heap.size w w' := by
  have HOw := fun v W h => Lib.hid (own10_any v p W h)
  unfold OwnPost10 at HOw
  have HRc := fun v W h => Lib.hid (refCheck10_any v p W h)
  unfold NumPost at HRc
  have HK := Lib.hid K
  have HL := fun W h => Lib.hid (lives_any K W h)
  have HW := Lib.hid hw
  clear hw K
  by_cases hz : chkP p = 0
  · have hv2 := hv.whole hz
    obtain ⟨A, B, C, ca, cb, cc, hve, -, -, -⟩ := id hv2
    subst hve
    have HSm := Lib.hid (small_chk hz)
    have HSw := Lib.hid (small_whole hz)
    have HTx : Hid (textA p = textP p) := Lib.hid (by unfold textA; rw [if_pos hz])
    have HPa := Lib.hid (fun h => parse_text hz h)
    have HZ := Lib.hid hz
    rw [hz] at HRc
    have hb0 : Below w.heap.size w (w.alloc (pgB A B C p.ds.length p.ws.length p.fs.length ca cb cc)) := (Below.refl _ _).alloc (Nat.le_refl _) _
    have hx0 := heap_alloc_new w (pgB A B C p.ds.length p.ws.length p.fs.length ca cb cc)
    have HV0 := Lib.hid (hv.next hb0)
    have HA0 := Lib.hid (hv2.next hb0)
    have HB0 := Lib.hid hb0
    have HO0 := Lib.hid (HK.out.mono _ _ HW.out hb0)
    unfold pgB at HV0 HB0 hx0 HA0 HO0
    clear hv hv2 hb0 HW
    go_enter Tryz.func4, Tryz.ntmps4
    go_upto_region 1 with fail
    generalize w.alloc (.cells #[.slice A p.ds.length ca, .slice B p.ws.length cb, .slice C p.fs.length cc] 26) = W0 at *
    obtain ⟨x0, x1, x2, -, -, -⟩ := cells3 hx0
    have HX0 := Lib.hid hx0
    clear hx0
    go_wp2_with fail
    refine (HRc _ _ HV0.out.head).out.mono ?_
    rintro _ w1 ⟨rfl, hb1⟩
    have HB1 := Lib.hid (HB0.out.trans (hb1.mono HB0.out.size))
    have HV1 := Lib.hid (HV0.out.next hb1)
    have HA1 := Lib.hid (HA0.out.next hb1)
    have HO1 := Lib.hid (HK.out.mono _ _ HO0.out hb1)
    have HX1 := Lib.hid ((hb1.block _ (lt_of_block HX0.out)).trans HX0.out)
    obtain ⟨y0, y1, y2, -, -, -⟩ := cells3 HX1.out
    clear hb1 HRc HB0 HV0 HA0 HO0 HX0 x0 x1 x2 hz
    go_wp2_with fail
    refine (HOw _ _ HV1.out).out.mono ?_
    rintro _ w2 ⟨v2, rfl, hst, hb2⟩
    have HB2 := Lib.hid (HB1.out.trans (hb2.mono HB1.out.size))
    have HA2 := Lib.hid (HA1.out.next hb2)
    have HO2 := Lib.hid (HK.out.mono _ _ HO1.out hb2)
    have HX2 := Lib.hid ((hb2.block _ (lt_of_block HX1.out)).trans HX1.out)
    have HT := Lib.hid (HK.out.text v2 p w2 HO2.out hst.now.1 HSm.out)
    unfold TextPost at HT
    rw [HTx.out, HZ.out] at HT
    clear hb2 HOw HB1 HV1 HA1 HO1 HX1 y0 y1 y2 hst HSm HTx
    go_wp2_with fail
    refine HT.out.mono ?_
    rintro _ w3 ⟨rfl, hb3⟩
    have HB3 := Lib.hid (HB2.out.trans (hb3.mono HB2.out.size))
    have HA3 := Lib.hid (HA2.out.next hb3)
    have HO3 := Lib.hid (HK.out.mono _ _ HO2.out hb3)
    have HX3 := Lib.hid ((hb3.block _ (lt_of_block HX2.out)).trans HX2.out)
    have HP := Lib.hid (HK.out.parse (textP p) w3 HO3.out)
    unfold ParsePost at HP
    clear hb3 HT HB2 HA2 HO2 HX2
    have hsz := size_mk (textP p)
    by_cases h6 : (textP p).length ≤ 60000
    · rw [HPa.out h6] at HP
      have t1 : decide (((textP p).length : Int) > 60000) = false := decide_eq_false (by omega)
      generalize textP p = tx at *
      clear HPa
      go_wp2_with fail
      refine HP.out.mono ?_
      rintro _ w4 ⟨v4, rfl, hv4, hb4⟩
      have HB4 := Lib.hid (HB3.out.trans (hb4.mono HB3.out.size))
      have HA4 := Lib.hid (HA3.out.next hb4)
      have HO4 := Lib.hid (HK.out.mono _ _ HO3.out hb4)
      have HX4 := Lib.hid ((hb4.block _ (lt_of_block HX3.out)).trans HX3.out)
      have hv5 := hv4
      obtain ⟨A4, B4, C4, ca4, cb4, cc4, rfl, -, -, -⟩ := hv4
      have hb5 : Below w4.heap.size w4 (w4.alloc (pgB A4 B4 C4 p.ds.length p.ws.length p.fs.length ca4 cb4 cc4)) := (Below.refl _ _).alloc (Nat.le_refl _) _
      have HB5 := Lib.hid (HB4.out.trans (hb5.mono HB4.out.size))
      have HO5 := Lib.hid (HK.out.mono _ _ HO4.out hb5)
      have HX5 := Lib.hid ((hb5.block _ (lt_of_block HX4.out)).trans HX4.out)
      have HS := Lib.hid (same10_any _ _ p p HSw.out HSw.out _ (HA4.out.next hb5) (hv5.next hb5))
      unfold SamePost10 at HS
      rw [eqP_yes rfl] at HS
      unfold pgB at HB5 HO5 HX5 HS
      obtain ⟨y0, y1, y2, -, -, -⟩ := cells3 HX5.out
      clear hb4 hb5 hv5 HB3 HA3 HO3 HX3 HB4 HA4 HO4 HX4 HP
      go_wp2_with fail
      refine HS.out.mono ?_
      rintro _ w6 ⟨rfl, hb6⟩
      have HB6 := Lib.hid (HB5.out.trans (hb6.mono HB5.out.size))
      have HO6 := Lib.hid (HK.out.mono _ _ HO5.out hb6)
      clear hb6 HS HB5 HO5 HX5 y0 y1 y2
      go_wp2_with fail
      refine (HL _ HO6.out).out.mono ?_
      rintro _ w7 ⟨rfl, hb7⟩
      have HB7 := Lib.hid (HB6.out.trans (hb7.mono HB6.out.size))
      clear hb7
      go_wp2_with fail
      go_ret
      exact ⟨rfl, HB7.out⟩
    · rw [parse_long (by omega)] at HP
      have t1 : decide (((textP p).length : Int) > 60000) = true := decide_eq_true (by omega)
      generalize textP p = tx at *
      clear HPa
      go_wp2_with fail
      refine HP.out.mono ?_
      rintro _ w4 ⟨v4, rfl, hv4, hb4⟩
      have HB4 := Lib.hid (HB3.out.trans (hb4.mono HB3.out.size))
      have HO4 := Lib.hid (HK.out.mono _ _ HO3.out hb4)
      obtain ⟨A4, B4, C4, ca4, cb4, cc4, rfl, -, -, -⟩ := hv4
      have f1 : Pg.none.ds.length = 0 := rfl
      have f2 : Pg.none.ws.length = 0 := rfl
      have f3 : Pg.none.fs.length = 0 := rfl
      simp only [f1, f2, f3]
      have hb5 : Below w4.heap.size w4 (w4.alloc (pgB A4 B4 C4 0 0 0 ca4 cb4 cc4)) := (Below.refl _ _).alloc (Nat.le_refl _) _
      have HB5 := Lib.hid (HB4.out.trans (hb5.mono HB4.out.size))
      have HO5 := Lib.hid (HK.out.mono _ _ HO4.out hb5)
      unfold pgB at HB5 HO5
      clear hb4 hb5 HB3 HA3 HO3 HX3 HB4 HO4 HP
      go_wp2_with fail
      refine (HL _ HO5.out).out.mono ?_
      rintro _ w7 ⟨rfl, hb7⟩
      have HB7 := Lib.hid (HB5.out.trans (hb7.mono HB5.out.size))
      clear hb7
      go_wp2_with fail
      go_ret
      exact ⟨rfl, HB7.out⟩
  · have hz' : ((chkP p : Int) != 0) = true := by simpa using hz
    obtain ⟨A, B, C, na, nb, nc, ca, cb, cc, hve, -⟩ := id hv
    subst hve
    have hb0 : Below w.heap.size w (w.alloc (pgB A B C na nb nc ca cb cc)) := (Below.refl _ _).alloc (Nat.le_refl _) _
    have HV0 := Lib.hid (hv.next hb0)
    have HB0 := Lib.hid hb0
    have HO0 := Lib.hid (HK.out.mono _ _ HW.out hb0)
    unfold pgB at HV0 HB0 HO0
    generalize chkP p = q at *
    clear hv hb0 HW hz HOw
    go_enter Tryz.func4, Tryz.ntmps4
    go_wp2_with fail
    refine (HRc _ _ HV0.out.head).out.mono ?_
    rintro _ w1 ⟨rfl, hb1⟩
    have HB1 := Lib.hid (HB0.out.trans (hb1.mono HB0.out.size))
    have HO1 := Lib.hid (HK.out.mono _ _ HO0.out hb1)
    clear hb1 HRc
    go_wp2_with fail
    refine (HL _ HO1.out).out.mono ?_
    rintro _ w7 ⟨rfl, hb7⟩
    have HB7 := Lib.hid (HB1.out.trans (hb7.mono HB1.out.size))
    clear hb7
    go_wp2_with fail
    go_ret
    exact ⟨rfl, HB7.out⟩
end Go.Proofs.YtnhoeboighndlaaGreatDoor.pgm.asm
