/-
  The document's own frames behind a return, and behind any call. At most nine hundred frames, each of twenty-seven numbers.
-/
import Derived.Test.YtphcffbbdpbkfaaFRefTurn
import Derived.StillTailTactics
import Derived.BigQuiet
import Derived.Deep.QuietTactic
namespace Go.Proofs.Ytphcffbbdpbkfaa.frames
open Go.RowKit Go.ChangeShapes
open Go.Proofs.Ytphcffbbdpbkfaa.nums (NAt)
set_option linter.unusedVariables false
set_option linter.unusedSimpArgs false

/-- Frames, what was returned, and true; nil, 0 and false: there are none. -/
def RetPost (x : Option (List Fr × Int)) (w : World) (e : Ending) (w' : World) : Prop :=
  Below w.heap.size w w' ∧ match x with
  | none => e = .returned (.tuple #[.slice none 0 0, .int .i64 0, .bool false])
  | some (l, v) => ∃ A c, e = .returned (.tuple #[.slice A l.length c, .int .i64 v, .bool true]) ∧ In w' A c l
theorem below_drewN' {B : Nat} {a w : World} (h : Below B a w) (n : Nat) : Below B a (w.drewN n) := ⟨h.os, h.tape, h.output, h.size, h.block⟩
theorem pop_one {l x : List Fr} {a : List Int} (h : popF l 1 = some (x, a)) : l.length ≠ 0 ∧ ∃ v, a = [v] := by
  unfold popF at h
  split at h
  · cases h
  · rename_i hc
    have ha := congrArg Prod.snd (Option.some.inj h)
    dsimp only at ha
    exact ⟨fun e => hc (.inl e), _, ha.symm⟩

set_option maxRecDepth 100000 in
set_option maxHeartbeats 4000000 in
theorem refRet_any (A : Option Addr) (c : Nat) (l : List Fr) (w : World) (hI : In w A c l) :
    Calls Try.prog 29 #[.slice A l.length c] w (RetPost (retF l) w) := by
  have HP := Lib.hid (refPop_any A c l 1 w hI)
  have HI := Lib.hid hI
  unfold PopPost at HP
  obtain ⟨r, hr⟩ : ∃ r, r = retF l := ⟨_, rfl⟩
  rw [← hr]
  unfold retF at hr
  unfold RetPost
  cases hp : popF l 1 with
  | none =>
    rw [hp] at hr HP
    dsimp only at hr HP
    subst hr
    clear hp hI
    go_enter Try.func29, Try.ntmps29
    go_wp2_with fail
    refine HP.out.mono ?_
    rintro _ w1 ⟨hb1, rfl⟩
    have HB1 := Lib.hid hb1
    clear hb1
    go_wp2
    go_ret3
    exact ⟨HB1.out, rfl⟩
  | some xa =>
    obtain ⟨x, a⟩ := xa
    obtain ⟨h0, v, rfl⟩ := pop_one hp
    have h00 := h0
    obtain ⟨b, off, m, rfl, hm, hb, -, -⟩ := hI.top h0
    have hlen := hI.len
    have hcap := hI.cap
    rw [hp] at hr HP
    dsimp only at hr HP
    rw [show [v].getD 0 0 = v from rfl] at hr
    have HT := Lib.hid (hI.take m (by omega))
    have HLt : Hid ((l.take m).length = m) := Lib.hid (by rw [List.length_take]; omega)
    rw [show l.length - 1 = m by omega] at hr
    rw [hm] at hr hlen hcap ⊢
    have k0 : (0 : Int) ≤ (m : Int) := by omega
    have k1 : (m : Int) ≤ (c : Int) := by omega
    have hw0 : IntKind.i64.wrap ((m : Int) + 1 - 1) = (m : Int) := by rw [IntKind.wrap_i64]; omega
    have hw1 : IntKind.i64.wrap (m : Int) = (m : Int) := by rw [IntKind.wrap_i64]; omega
    clear hp hI h0
    go_enter Try.func29, Try.ntmps29
    rw [hm] at HP
    go_wp2_with fail
    refine HP.out.mono ?_
    rintro _ w1 ⟨hb1, A1, c1, B1, d1, rfl, hI1, hN1, hO1⟩
    have HB1 := Lib.hid hb1
    obtain ⟨b2, o2, rfl, hb2, cv⟩ := hN1 0 (by simp)
    rw [show [v].getD 0 0 = v from rfl, Nat.add_zero] at cv
    have HT1 := Lib.hid (HT.out.next hb1)
    have HCv := Lib.hid cv
    have HNb := Lib.hid hb2
    have d0 : (0 : Int) < 1 := by decide
    clear hb1 hI1 hN1 hO1 HT hb2
    by_cases h1 : m = 0
    · subst h1
      rw [if_pos rfl] at hr
      subst hr
      have q1 : (((0 + 1 : Nat) : Int) == 1) = true := by decide
      go_upto_region 5 with fail
      go_quiet (fail)
      go_wp2
      go_ret3
      exact ⟨below_drewN' HB1.out _, none, 0, rfl, in_nil _⟩
    · rw [if_neg (by omega)] at hr
      have q1 : (((m + 1 : Nat) : Int) == 1) = false := by simp; omega
      have HQ := Lib.hid (refPush_any (some ⟨b, off, none⟩) c (l.take m) v w1.drew (HT1.out.next (Below.refl _ _).drew))
      rw [HLt.out] at HQ
      unfold ListPost at HQ
      go_upto_region 6 with fail
      cases hq : pushF (l.take m) v with
      | none =>
        rw [hq] at hr HQ
        dsimp only at hr HQ
        subst hr
        have HQ2 : Hid (Calls Try.prog 25 #[.slice (some ⟨b, off, none⟩) m c, .int .i64 v] w1.drew fun e w' => e = .returned (.tuple #[.slice none 0 0, .bool false]) ∧ w'.cell? ⟨b2, o2, none⟩ = some (.int .i64 v) ∧ Hid (Below w.heap.size w w')) := Lib.hid (HQ.out.mono fun e w' ⟨hb2, he⟩ => ⟨he, (hb2.cell (p := ⟨b2, o2, none⟩) HNb.out).trans HCv.out, Lib.hid (HB1.out.drew.trans (hb2.mono HB1.out.size))⟩)
        clear hq HQ
        go_region_held3 (fun w' => w'.cell? ⟨b2, o2, none⟩ = some (.int .i64 v)) (go_keep)
          (first | (go_at_call 25; refine HQ2.out.mono ?_; rintro _ w2 ⟨rfl, cv2, HB2⟩))
        all_goals
          go_wp2
          go_ret3
          exact ⟨HB2.out, rfl⟩
      | some y =>
        rw [hq] at hr HQ
        dsimp only at hr HQ
        subst hr
        have HQ2 : Hid (Calls Try.prog 25 #[.slice (some ⟨b, off, none⟩) m c, .int .i64 v] w1.drew fun e w' => ∃ A2 c2, e = .returned (.tuple #[.slice A2 y.length c2, .bool true]) ∧ w'.cell? ⟨b2, o2, none⟩ = some (.int .i64 v) ∧ Hid (Below w.heap.size w w' ∧ In w' A2 c2 y)) := Lib.hid (HQ.out.mono fun e w' ⟨hb2, A2, c2, he, hI2⟩ => ⟨A2, c2, he, (hb2.cell (p := ⟨b2, o2, none⟩) HNb.out).trans HCv.out, Lib.hid ⟨HB1.out.drew.trans (hb2.mono HB1.out.size), hI2⟩⟩)
        clear hq HQ
        go_region_held3 (fun w' => w'.cell? ⟨b2, o2, none⟩ = some (.int .i64 v)) (go_keep)
          (first | (go_at_call 25; refine HQ2.out.mono ?_; rintro _ w2 ⟨A2, c2, rfl, cv2, HB2⟩))
        all_goals
          clear cv
          go_upto_region 9 with fail
          go_quiet (fail)
          go_wp2
          go_ret3
          exact ⟨below_drewN' HB2.out.1 _, A2, c2, rfl, HB2.out.2.next (below_drewN' (Below.refl _ _) _)⟩
end Go.Proofs.Ytphcffbbdpbkfaa.frames
