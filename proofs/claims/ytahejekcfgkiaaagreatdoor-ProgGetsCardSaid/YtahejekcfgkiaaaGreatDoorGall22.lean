/-
  Texts of one claim in one file: GSpec, GOnceW. Each has its own sentence, with its conditions.
-/
import Derived.Test.YtahejekcfgkiaaaGreatDoorGall19
import Derived.Test.YtahejekcfgkiaaaGreatDoorGall20
import Derived.Test.YtahejekcfgkiaaaGreatDoorGall21
import Derived.WalkLawsBesides
/-
  The common end of all statements on programs: whether one is put and got. The tables must lie where their initialisers lay them.
-/
namespace Go.Proofs.YtahejekcfgkiaaaGreatDoor.pgm
open Go.RowKit Go.ChangeShapes
open Go.Proofs.YtahejekcfgkiaaaGreatDoor.objs (De zero DAt cells3)
open Go.Proofs.YtahejekcfgkiaaaGreatDoor.need (WAt)
set_option linter.unusedVariables false

/-- The program that lives makes. -/
def liF : Fn := ⟨0, 0, [(0, 1, 0), (21, 0, 0)]⟩
def liP : Pg := ⟨[], [], [liF]⟩
def liB : List UInt8 := [76, 74, 1, 0, 0, 1, 0, 0, 2, 0, 2, 21]
theorem chk_liP : chkP liP = 0 := by decide +kernel
theorem chk_none : chkP Pg.none = 2 := by decide +kernel
theorem enc_liP : encP liP = liB := by decide +kernel
theorem get_liP : readP rdIns liB = (liP, 0) := by
  have h := back (rdI := rdIns) reads.back chk_liP []
  rw [List.append_nil, enc_liP] at h
  rw [h, if_neg (by simp)]
theorem small_liP : SmallP liP := by
  refine ⟨by decide, by decide, fun x hx => (by cases hx), by decide, fun f hf => ?_⟩
  rw [List.mem_singleton.1 hf]
  decide
def inB : Obj := .cells #[.int .i64 0, .int .i64 1, .int .i64 0, .int .i64 21, .int .i64 0, .int .i64 0] 51
def fnB (g : Nat) : Obj := .cells #[.int .i64 0, .int .i64 0, .slice (some ⟨g, 0, none⟩) 2 2] 49
def prB (g : Nat) : Obj := .cells #[.slice none 0 0, .slice none 0 0, .slice (some ⟨g, 0, none⟩) 1 1] 26
def liV (g : Nat) : Value := .agg #[.slice none 0 0, .slice none 0 0, .slice (some ⟨g, 0, none⟩) 1 1]
def liW (w : World) : World := ((w.alloc inB).alloc (fnB w.heap.size)).alloc (prB (w.heap.size + 1))
theorem liW_below (w : World) : Below w.heap.size w (liW w) := ((((Below.refl _ w).alloc (Nat.le_refl _) _).alloc (by rw [World.size_alloc]; omega) _).alloc (by rw [World.size_alloc, World.size_alloc]; omega) _)
theorem liW_box (w : World) : (liW w).heap[w.heap.size + 1 + 1]? = some (prB (w.heap.size + 1)) := by
  have z1 : (w.alloc inB).heap.size = w.heap.size + 1 := World.size_alloc w _
  have z2 : ((w.alloc inB).alloc (fnB w.heap.size)).heap.size = w.heap.size + 1 + 1 := by rw [World.size_alloc, z1]
  rw [← z2]
  exact heap_alloc_new _ _
theorem liW_at (w : World) : PAt (liW w) (liV (w.heap.size + 1)) liP := by
  have z1 : (w.alloc inB).heap.size = w.heap.size + 1 := World.size_alloc w _
  have z2 : ((w.alloc inB).alloc (fnB w.heap.size)).heap.size = w.heap.size + 1 + 1 := by rw [World.size_alloc, z1]
  have b0 : (liW w).heap[w.heap.size]? = some inB := (Below.heap_alloc _ _ _ (by omega)).trans ((Below.heap_alloc _ _ _ (by omega)).trans (heap_alloc_new w _))
  have b1 : (liW w).heap[w.heap.size + 1]? = some (fnB w.heap.size) := (Below.heap_alloc _ _ _ (by omega)).trans (by rw [← z1]; exact heap_alloc_new _ _)
  refine ⟨none, none, some ⟨w.heap.size + 1, 0, none⟩, 0, 0, 1, rfl, DAt.nil _ _, WsAt.nil _ _, fun j hj => ?_⟩
  have hj2 : j < 1 := hj
  obtain rfl : j = 0 := by omega
  refine ⟨_, 0, some ⟨w.heap.size, 0, none⟩, 2, rfl, lt_of_block b1, ⟨?_, ?_, ?_⟩, fun i hi => ?_⟩
  · unfold World.cell?
    rw [b1]
    rfl
  · unfold World.cell?
    rw [b1]
    rfl
  · unfold World.cell?
    rw [b1]
    rfl
  have hi2 : i < 2 := hi
  refine ⟨_, 0, rfl, lt_of_block b0, ?_⟩
  unfold Go.Proofs.YtahejekcfgkiaaaGreatDoor.objs.CellsAt World.cell?
  rw [b0]
  match i, hi2 with
  | 0, _ => exact ⟨rfl, rfl, rfl⟩
  | 1, _ => exact ⟨rfl, rfl, rfl⟩

set_option maxRecDepth 100000 in
set_option maxHeartbeats 4000000 in
theorem lives_any (w : World) (hw : Okp w) : Calls Tryz.prog 11 #[] w fun e w' => e = .returned (.bool true) ∧ Below w.heap.size w w' := by
  have HB0 := Lib.hid (liW_below w)
  have HP0 := Lib.hid (liW_at w)
  have HX0 := Lib.hid (liW_box w)
  unfold liV at HP0
  have HPt := fun W h1 h2 => Lib.hid (put_any (liV (w.heap.size + 1)) liP (by decide) W h1 h2)
  unfold PutPost10 putP liV at HPt
  rw [if_pos chk_liP, chk_liP, enc_liP] at HPt
  have HG := fun W h2 => Lib.hid (get_any liB W (by decide) h2)
  rw [get_liP] at HG
  unfold GotP at HG
  have HSm := fun v W h1 h2 => Lib.hid (same10_any (liV (w.heap.size + 1)) v liP liP small_liP small_liP W h1 h2)
  unfold SamePost10 liV at HSm
  rw [eqP_self] at HSm
  have HC := fun W h2 => Lib.hid (check_any (.agg #[.slice none 0 0, .slice none 0 0, .slice none 0 0]) Pg.none (by decide) W (pat_none W) h2)
  unfold NumPost at HC
  rw [chk_none] at HC
  have HK := Lib.hid hw
  clear hw
  go_enter Tryz.func11, Tryz.ntmps11
  unfold liW inB fnB prB at HB0 HP0 HX0
  unfold liB at HPt HG
  obtain ⟨x0, x1, x2, _, _, _⟩ := cells3 HX0.out
  go_upto_region 2 with fail
  generalize ((w.alloc (.cells #[.int .i64 0, .int .i64 1, .int .i64 0, .int .i64 21, .int .i64 0, .int .i64 0] 51)).alloc (.cells #[.int .i64 0, .int .i64 0, .slice (some ⟨w.heap.size, 0, none⟩) 2 2] 49)).alloc (.cells #[.slice none 0 0, .slice none 0 0, .slice (some ⟨w.heap.size + 1, 0, none⟩) 1 1] 26) = W0 at *
  go_wp2_with fail
  refine (HPt _ HP0.out (HK.out.next HB0.out)).out.mono ?_
  rintro e w1 ⟨rfl, hb1⟩
  have HB1 := Lib.hid (HB0.out.trans (hb1.mono HB0.out.size))
  have HP1 := Lib.hid (HP0.out.next hb1)
  have HX1 := Lib.hid ((hb1.block _ (lt_of_block HX0.out)).trans HX0.out)
  clear hb1 HB0 HP0 HX0 HPt x0 x1 x2
  go_wp2_with fail
  refine (HG _ (HK.out.next HB1.out)).out.mono ?_
  rintro e w2 ⟨v, rfl, hv, hb2⟩
  obtain ⟨A, B, C, ca, cb, cc, hve, _⟩ := id hv
  subst hve
  have hbx : Below w2.heap.size w2 (w2.alloc (.cells #[.slice A liP.ds.length ca, .slice B liP.ws.length cb, .slice C liP.fs.length cc] 26)) := (Below.refl _ _).alloc (Nat.le_refl _) _
  have hb3 := hb2.trans (hbx.mono hb2.size)
  have HB2 := Lib.hid (HB1.out.trans (hb3.mono HB1.out.size))
  have HP2 := Lib.hid (HP1.out.next hb3)
  have hX2 := (hb3.block _ (lt_of_block HX1.out)).trans HX1.out
  have HQ2 := Lib.hid (hv.next hbx)
  obtain ⟨y0, y1, y2, _, _, _⟩ := cells3 (heap_alloc_new w2 (.cells #[.slice A liP.ds.length ca, .slice B liP.ws.length cb, .slice C liP.fs.length cc] 26))
  obtain ⟨x0, x1, x2, _, _, _⟩ := cells3 hX2
  clear hb2 hbx hb3 hv hX2 HB1 HP1 HX1 HG
  go_upto_region 4 with fail
  generalize w2.alloc (.cells #[.slice A liP.ds.length ca, .slice B liP.ws.length cb, .slice C liP.fs.length cc] 26) = W2 at *
  go_wp2_with fail
  refine (HSm _ _ HP2.out HQ2.out).out.mono ?_
  rintro e w3 ⟨rfl, hb3⟩
  have HB3 := Lib.hid (HB2.out.trans (hb3.mono HB2.out.size))
  clear hb3 HB2 HP2 HQ2 HSm x0 x1 x2 y0 y1 y2
  go_wp2_with fail
  refine (HC _ (HK.out.next HB3.out)).out.mono ?_
  rintro e w4 ⟨rfl, hb4⟩
  have HB4 := Lib.hid (HB3.out.trans (hb4.mono HB3.out.size))
  clear hb4
  go_wp2
  go_ret
  exact ⟨rfl, HB4.out⟩
end Go.Proofs.YtahejekcfgkiaaaGreatDoor.pgm

/-
  The walk of ProgOnce. The tables must lie where their initialisers lay them; a text of at most two to the forty-seventh bytes.
-/
namespace Go.Proofs.YtahejekcfgkiaaaGreatDoor.pgm
open Go.RowKit Go.ChangeShapes
open Go.Proofs.YtahejekcfgkiaaaGreatDoor.objs (De zero DAt cells3)
set_option linter.unusedVariables false

theorem small_zero {p : Pg} (h : chkP p = 0) : SmallP p := by
  obtain ⟨h1, h2, h3, h4, h5, h6⟩ := chkP_zero h
  have h0 := (Go.Proofs.YtahejekcfgkiaaaGreatDoor.objs.chk_zero h1).1
  refine ⟨by omega, by omega, fun x hx => ?_, by omega, fun f hf => by have := (chkFn_zero (h6 f hf)).2.2.1; omega⟩
  obtain ⟨_, q1, q2⟩ := Go.Proofs.YtahejekcfgkiaaaGreatDoor.need.chkW_zero (h3 x hx)
  exact ⟨by omega, fun y hy => by have := (q2 y hy).2.1; omega⟩
theorem small_none : SmallP Pg.none := ⟨by decide, by decide, fun x hx => (by cases hx), by decide, fun f hf => (by cases hf)⟩
theorem small_got (l : List UInt8) : SmallP (readP rdIns l).1 := by
  rcases Nat.eq_zero_or_pos (readP rdIns l).2 with h | h
  · exact small_zero (once reads h).1
  · rw [got_bad (rdI := rdIns) (by omega)]
    exact small_none
theorem text_list (t : ByteArray) : (⟨t.data.toList.toArray⟩ : ByteArray) = t := by
  obtain ⟨d⟩ := t
  simp
theorem get_text (t : ByteArray) (w : World) (ht : t.size ≤ 140737489403904) (hok : Okp w) : Calls Tryz.prog 12 #[.string t] w (GotP (readP rdIns t.data.toList) w) := by
  have h := get_any t.data.toList w (by rw [Array.length_toList]; exact ht) hok
  rwa [text_list] at h

end Go.Proofs.YtahejekcfgkiaaaGreatDoor.pgm
