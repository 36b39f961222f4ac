/-
  What a call makes of frames, by the document. At most nine hundred frames, each of twenty-seven numbers.
-/
import Derived.Test.YtphcffbbdpbkfaaFRefRet
namespace Go.Proofs.Ytphcffbbdpbkfaa.frames
open Go.RowKit Go.ChangeShapes
set_option linter.unusedVariables false
set_option linter.unusedSimpArgs false

/-- A call handed in by value. -/
def opB (k a v : Int) : Obj := .cells #[.int .i64 k, .int .i64 a, .int .i64 v] 27
theorem op_cells {W : World} {b : Nat} {k a v : Int} (h : W.heap[b]? = some (opB k a v)) : W.cell? ⟨b, 0, none⟩ = some (.int .i64 k) ∧ W.cell? ⟨b, 1, none⟩ = some (.int .i64 a) ∧ W.cell? ⟨b, 2, none⟩ = some (.int .i64 v) := by
  unfold World.cell?
  rw [h]
  exact ⟨rfl, rfl, rfl⟩

set_option maxRecDepth 100000 in
set_option maxHeartbeats 8000000 in
theorem refDo_any (A : Option Addr) (c : Nat) (l : List Fr) (kd k v : Int) (w : World) (hI : In w A c l) (hl : l.length ≤ 900) :
    Calls Try.prog 13 #[.slice A l.length c, .agg #[.int .i64 kd, .int .i64 k, .int .i64 v]] w (FrsPost (doF l kd k v) w) := by
  have hb0 : Below w.heap.size w (w.alloc (opB kd k v)) := (Below.refl _ w).alloc (Nat.le_refl _) _
  have hx0 := heap_alloc_new w (opB kd k v)
  obtain ⟨c0, c1, c2⟩ := op_cells hx0
  have HB := Lib.hid hb0
  have HI := Lib.hid (hI.next hb0)
  unfold opB at c0 c1 c2 HB HI
  obtain ⟨r, hr⟩ : ∃ r, r = doF l kd k v := ⟨_, rfl⟩
  rw [← hr]
  unfold doF at hr
  unfold FrsPost
  clear hb0 hx0 hI
  go_enter Try.func13, Try.ntmps13
  go_upto_region 1 with fail
  generalize w.alloc (.cells #[.int .i64 kd, .int .i64 k, .int .i64 v] 27) = W1 at *
  by_cases e0 : kd = 0
  · rw [if_pos e0] at hr
    subst e0
    have HQ := Lib.hid (refPush_any A c l v W1 HI.out)
    unfold ListPost at HQ
    cases hq : pushF l v with
    | none =>
      rw [hq] at hr HQ
      dsimp only [Option.map, Option.getD] at hr HQ
      subst hr
      clear hq
      go_wp2_with fail
      refine HQ.out.mono ?_
      rintro _ w2 ⟨hb2, rfl⟩
      have HB2 := Lib.hid (HB.out.trans (hb2.mono HB.out.size))
      have HI2 := Lib.hid (HI.out.next hb2)
      clear hb2 c0 c1 c2
      go_wp2
      go_ret
      exact ⟨A, c, rfl, HI2.out, HB2.out⟩
    | some y =>
      skip
      rw [hq] at hr HQ
      dsimp only [Option.map, Option.getD] at hr HQ
      subst hr
      clear hq
      go_wp2_with fail
      refine HQ.out.mono ?_
      rintro _ w2 ⟨hb2, A2, d2, rfl, hI2⟩
      have HB2 := Lib.hid (HB.out.trans (hb2.mono HB.out.size))
      have HI2 := Lib.hid hI2
      clear hb2 c0 c1 c2 hI2
      go_wp2
      go_ret
      exact ⟨A2, d2, rfl, HI2.out, HB2.out⟩
  by_cases e1 : kd = 1
  · rw [if_neg e0, if_pos e1] at hr
    subst e1
    have HQ := Lib.hid (refPop_any A c l k W1 HI.out)
    unfold PopPost at HQ
    cases hq : popF l k with
    | none =>
      rw [hq] at hr HQ
      dsimp only [Option.map, Option.getD] at hr HQ
      subst hr
      clear hq
      go_wp2_with fail
      refine HQ.out.mono ?_
      rintro _ w2 ⟨hb2, rfl⟩
      have HB2 := Lib.hid (HB.out.trans (hb2.mono HB.out.size))
      have HI2 := Lib.hid (HI.out.next hb2)
      clear hb2 c0 c1 c2
      go_wp2
      go_ret
      exact ⟨A, c, rfl, HI2.out, HB2.out⟩
    | some y =>
      obtain ⟨y, z⟩ := y
      rw [hq] at hr HQ
      dsimp only [Option.map, Option.getD] at hr HQ
      subst hr
      clear hq
      go_wp2_with fail
      refine HQ.out.mono ?_
      rintro _ w2 ⟨hb2, A2, d2, B2, d3, rfl, hI2, -, -⟩
      have HB2 := Lib.hid (HB.out.trans (hb2.mono HB.out.size))
      have HI2 := Lib.hid hI2
      clear hb2 c0 c1 c2 hI2
      go_wp2
      go_ret
      exact ⟨A2, d2, rfl, HI2.out, HB2.out⟩
  by_cases e2 : kd = 2
  · rw [if_neg e0, if_neg e1, if_pos e2] at hr
    subst e2
    have HQ := Lib.hid (refTurn_any A c l v W1 HI.out)
    unfold FrsPost at HQ
    rw [← hr] at HQ
    clear hr
    go_wp2_with fail
    refine HQ.out.mono ?_
    rintro _ w2 ⟨A2, d2, rfl, hI2, hb2⟩
    have HB2 := Lib.hid (HB.out.trans (hb2.mono HB.out.size))
    have HI2 := Lib.hid hI2
    clear hb2 c0 c1 c2 hI2
    go_wp2
    go_ret
    exact ⟨A2, d2, rfl, HI2.out, HB2.out⟩
  by_cases e3 : kd = 3
  · rw [if_neg e0, if_neg e1, if_neg e2, if_pos e3] at hr
    subst e3
    have HQ := Lib.hid (refCall_any A c l v k W1 HI.out hl)
    unfold ListPost at HQ
    cases hq : callF l v k with
    | none =>
      rw [hq] at hr HQ
      dsimp only [Option.map, Option.getD] at hr HQ
      subst hr
      clear hq
      go_wp2_with fail
      refine HQ.out.mono ?_
      rintro _ w2 ⟨hb2, rfl⟩
      have HB2 := Lib.hid (HB.out.trans (hb2.mono HB.out.size))
      have HI2 := Lib.hid (HI.out.next hb2)
      clear hb2 c0 c1 c2
      go_wp2
      go_ret
      exact ⟨A, c, rfl, HI2.out, HB2.out⟩
    | some y =>
      skip
      rw [hq] at hr HQ
      dsimp only [Option.map, Option.getD] at hr HQ
      subst hr
      clear hq
      go_wp2_with fail
      refine HQ.out.mono ?_
      rintro _ w2 ⟨hb2, A2, d2, rfl, hI2⟩
      have HB2 := Lib.hid (HB.out.trans (hb2.mono HB.out.size))
      have HI2 := Lib.hid hI2
      clear hb2 c0 c1 c2 hI2
      go_wp2
      go_ret
      exact ⟨A2, d2, rfl, HI2.out, HB2.out⟩
  by_cases e4 : kd = 4
  · rw [if_neg e0, if_neg e1, if_neg e2, if_neg e3, if_pos e4] at hr
    subst e4
    have HQ := Lib.hid (refRet_any A c l W1 HI.out)
    unfold RetPost at HQ
    cases hq : retF l with
    | none =>
      rw [hq] at hr HQ
      dsimp only [Option.map, Option.getD] at hr HQ
      subst hr
      clear hq
      go_wp2_with fail
      refine HQ.out.mono ?_
      rintro _ w2 ⟨hb2, rfl⟩
      have HB2 := Lib.hid (HB.out.trans (hb2.mono HB.out.size))
      have HI2 := Lib.hid (HI.out.next hb2)
      clear hb2 c0 c1 c2
      go_wp2
      go_ret
      exact ⟨A, c, rfl, HI2.out, HB2.out⟩
    | some y =>
      obtain ⟨y, z⟩ := y
      rw [hq] at hr HQ
      dsimp only [Option.map, Option.getD] at hr HQ
      subst hr
      clear hq
      go_wp2_with fail
      refine HQ.out.mono ?_
      rintro _ w2 ⟨hb2, A2, d2, rfl, hI2⟩
      have HB2 := Lib.hid (HB.out.trans (hb2.mono HB.out.size))
      have HI2 := Lib.hid hI2
      clear hb2 c0 c1 c2 hI2
      go_wp2
      go_ret
      exact ⟨A2, d2, rfl, HI2.out, HB2.out⟩
  by_cases e5 : kd = 5
  · rw [if_neg e0, if_neg e1, if_neg e2, if_neg e3, if_neg e4, if_pos e5] at hr
    subst e5
    have HQ := Lib.hid (refStore_any A c l k v W1 HI.out)
    unfold FrsPost at HQ
    rw [← hr] at HQ
    clear hr
    go_wp2_with fail
    refine HQ.out.mono ?_
    rintro _ w2 ⟨A2, d2, rfl, hI2, hb2⟩
    have HB2 := Lib.hid (HB.out.trans (hb2.mono HB.out.size))
    have HI2 := Lib.hid hI2
    clear hb2 c0 c1 c2 hI2
    go_wp2
    go_ret
    exact ⟨A2, d2, rfl, HI2.out, HB2.out⟩
  · rw [if_neg e0, if_neg e1, if_neg e2, if_neg e3, if_neg e4, if_neg e5] at hr
    have m0 : (kd == 0) = false := by simpa using e0
    have m1 : (kd == 1) = false := by simpa using e1
    have m2 : (kd == 2) = false := by simpa using e2
    have m3 : (kd == 3) = false := by simpa using e3
    have m4 : (kd == 4) = false := by simpa using e4
    have m5 : (kd == 5) = false := by simpa using e5
    clear e0 e1 e2 e3 e4 e5
    have HQ := Lib.hid (refGo_any A c l v W1 HI.out)
    unfold FrsPost at HQ
    rw [← hr] at HQ
    clear hr
    go_wp2_with fail
    refine HQ.out.mono ?_
    rintro _ w2 ⟨A2, d2, rfl, hI2, hb2⟩
    have HB2 := Lib.hid (HB.out.trans (hb2.mono HB.out.size))
    have HI2 := Lib.hid hI2
    clear hb2 c0 c1 c2 hI2
    go_wp2
    go_ret
    exact ⟨A2, d2, rfl, HI2.out, HB2.out⟩
end Go.Proofs.Ytphcffbbdpbkfaa.frames
