/-
  The walks of ProgGets and ProgBack. The tables must lie where their initialisers lay them; a text of at most two to the forty-seventh bytes, but for what a program's bytes may be.
-/
import Derived.Test.YtahejekcfgkiaaaGreatDoorGall22
import Derived.Test.YtahejekcfgkiaaaGreatDoorGRefGet
import Derived.Test.YtahejekcfgkiaaaGreatDoorGall25
namespace Go.Proofs.YtahejekcfgkiaaaGreatDoor.pgm
open Go.RowKit Go.ChangeShapes
open Go.Proofs.YtahejekcfgkiaaaGreatDoor.objs (De zero DAt cells3 put3 put3_same put3_far put3_below)
set_option linter.unusedVariables false

set_option maxRecDepth 100000 in
set_option maxHeartbeats 4000000 in
theorem gets_walk (t : ByteArray) (ht : t.size ≤ 140737489403904) (w : World) (hw : Okp w) :
    Calls Tryz.prog 4 #[.string t] w fun e w' => e = .returned (.bool true) ∧ Below w.heap.size w w' := by
  have HG := Lib.hid (get_text t w ht hw)
  have HR := fun W => Lib.hid (refGet10_any W t ht)
  unfold GotP at HG HR
  have hsm := small_got t.data.toList
  have HL := fun W h => Lib.hid (lives_any W h)
  have HK := Lib.hid hw
  generalize readP rdIns t.data.toList = q at *
  obtain ⟨p, e⟩ := q
  dsimp only at HG HR hsm
  clear ht hw
  go_enter Tryz.func4, Tryz.ntmps4
  go_wp2_with fail
  refine HG.out.mono ?_
  rintro _ w1 ⟨v, rfl, hv, hb1⟩
  obtain ⟨A, B, C, ca, cb, cc, hve, -⟩ := id hv
  subst hve
  have hbx : Below w1.heap.size w1 (w1.alloc (.cells #[.slice A p.ds.length ca, .slice B p.ws.length cb, .slice C p.fs.length cc] 26)) := (Below.refl _ _).alloc (Nat.le_refl _) _
  have HB := Lib.hid (hb1.trans (hbx.mono hb1.size))
  have HP := Lib.hid (hv.next hbx)
  have HX := Lib.hid (heap_alloc_new w1 (.cells #[.slice A p.ds.length ca, .slice B p.ws.length cb, .slice C p.fs.length cc] 26))
  clear hb1 hbx hv HG
  go_upto_region 2 with fail
  generalize w1.alloc (.cells #[.slice A p.ds.length ca, .slice B p.ws.length cb, .slice C p.fs.length cc] 26) = W1 at *
  generalize w1.heap.size = b1 at *
  go_wp2_with fail
  refine (HR _).out.mono ?_
  rintro _ w2 ⟨v, rfl, hv, hb2⟩
  obtain ⟨D, E, F, cd, ce, cf, hve, -⟩ := id hv
  subst hve
  have hbx : Below w2.heap.size w2 (w2.alloc (.cells #[.slice D p.ds.length cd, .slice E p.ws.length ce, .slice F p.fs.length cf] 26)) := (Below.refl _ _).alloc (Nat.le_refl _) _
  have hb3 := hb2.trans (hbx.mono hb2.size)
  have HB2 := Lib.hid (HB.out.trans (hb3.mono HB.out.size))
  have HP2 := Lib.hid (HP.out.next hb3)
  have HQ2 := Lib.hid (hv.next hbx)
  obtain ⟨x0, x1, x2, -, -, -⟩ := cells3 ((hb3.block _ (lt_of_block HX.out)).trans HX.out)
  obtain ⟨y0, y1, y2, -, -, -⟩ := cells3 (heap_alloc_new w2 (.cells #[.slice D p.ds.length cd, .slice E p.ws.length ce, .slice F p.fs.length cf] 26))
  clear hb2 hbx hb3 hv HB HP HX HR
  go_upto_region 3 with fail
  generalize w2.alloc (.cells #[.slice D p.ds.length cd, .slice E p.ws.length ce, .slice F p.fs.length cf] 26) = W2 at *
  have HSm := Lib.hid (same10_any (.agg #[.slice A p.ds.length ca, .slice B p.ws.length cb, .slice C p.fs.length cc]) (.agg #[.slice D p.ds.length cd, .slice E p.ws.length ce, .slice F p.fs.length cf]) p p hsm hsm W2 HP2.out HQ2.out)
  unfold SamePost10 at HSm
  rw [eqP_self] at HSm
  go_wp2_with fail
  refine HSm.out.mono ?_
  rintro _ w3 ⟨rfl, hb3⟩
  have HB3 := Lib.hid (HB2.out.trans (hb3.mono HB2.out.size))
  clear hb3 HSm x0 x1 x2 y0 y1 y2 HP2 HQ2
  go_wp2_with fail
  refine (HL _ (HK.out.next HB3.out)).out.mono ?_
  rintro _ w4 ⟨rfl, hb4⟩
  have HB4 := Lib.hid (HB3.out.trans (hb4.mono HB3.out.size))
  clear hb4
  go_wp2
  go_ret
  exact ⟨rfl, HB4.out⟩
end Go.Proofs.YtahejekcfgkiaaaGreatDoor.pgm
