/-
  The program's cells as they lie in memory: a struct of one row, nil or a block of its own; and where in it an object's cell stands (typed over the code of 644c691). No condition.
-/
import Derived.Test.YtdmcmgcecdgegaaCeRow
import Derived.Test.YtdmcmgcecdgegaaWPlain
import Derived.LoopTactic
import Derived.Deep.LoopGhost
import Derived.WalkSpells
namespace Go.Proofs.Ytdmcmgcecdgegaa.cel
open Go.RowKit Go.ChangeShapes
open Go.Proofs.Ytdmcmgcecdgegaa.objs (De zero)
open Go.Proofs.Ytdmcmgcecdgegaa.gd (Own GAt)
set_option linter.unusedVariables false
set_option linter.unusedSimpArgs false

/-- How a number stands to another. -/
def cmpI (a b : Int) : Int := if a < b then -1 else if b < a then 1 else 0
theorem nan_any (n : Int) (w : World) : Calls Try.prog 25 #[.int .i64 n] w fun e w' => e = .returned (.bool false) ∧ w = w' := by
  go_enter Try.func25, Try.ntmps25
  go_wp2
  go_ret
  exact ⟨by simp, rfl⟩
set_option maxHeartbeats 1000000 in
theorem compare_any (a b : Int) (w : World) : Calls Try.prog 24 #[.int .i64 a, .int .i64 b] w fun e w' => e = .returned (.int .i64 (cmpI a b)) ∧ w = w' := by
  unfold cmpI
  by_cases h1 : a < b
  · rw [if_pos h1]
    have d1 : decide (a < b) = true := decide_eq_true h1
    go_enter Try.func24, Try.ntmps24
    go_wp2_with (refine (nan_any _ _).mono ?_; rintro _ _ ⟨rfl, rfl⟩)
    go_ret
    exact ⟨rfl, rfl⟩
  · rw [if_neg h1]
    have d1 : decide (a < b) = false := decide_eq_false h1
    by_cases h2 : b < a
    · rw [if_pos h2]
      have d2 : decide (b < a) = true := decide_eq_true h2
      have d3 : decide (a > b) = true := decide_eq_true h2
      go_enter Try.func24, Try.ntmps24
      go_wp2_with (refine (nan_any _ _).mono ?_; rintro _ _ ⟨rfl, rfl⟩)
      go_ret
      exact ⟨rfl, rfl⟩
    · rw [if_neg h2]
      have d2 : decide (b < a) = false := decide_eq_false h2
      have d3 : decide (a > b) = false := decide_eq_false h2
      go_enter Try.func24, Try.ntmps24
      go_wp2_with (refine (nan_any _ _).mono ?_; rintro _ _ ⟨rfl, rfl⟩)
      go_ret
      exact ⟨rfl, rfl⟩
set_option maxHeartbeats 1000000 in
theorem order_any (x y z obj : Int) (w : World) : Calls Try.prog 23 #[.agg #[.int .i64 x, .int .i64 y, .int .i64 z], .int .i64 obj] w fun e w' => e = .returned (.int .i64 (cmpI x obj)) ∧ Below w.heap.size w w' := by
  have HC := Lib.hid (fun W => compare_any x obj W)
  have HB := Lib.hid ((Below.refl _ w).alloc (Nat.le_refl _) (.cells #[.int .i64 x, .int .i64 y, .int .i64 z] 47))
  generalize cmpI x obj = r at *
  go_enter Try.func23, Try.ntmps23
  go_wp2_with (refine (HC.out _).mono ?_; rintro _ _ ⟨rfl, rfl⟩)
  go_ret
  exact ⟨rfl, HB.out⟩

set_option maxHeartbeats 4000000 in
/-- Where an object's cell stands among cells that rise. -/
theorem search_any (A : Option Addr) (cap : Nat) (l : List De) (obj : Int) (w : World) (hr : Rising l) (hl : l.length ≤ 4096) (hA : GAt w A l) :
    Calls Try.prog 22 #[.slice A l.length cap, .int .i64 obj, .func (.func 23) #[] #[]] w fun e w' =>
      Below w.heap.size w w' ∧ ∃ (i : Nat) (r : Bool), e = .returned (.tuple #[.int .i64 (i : Int), .bool r]) ∧ (∀ k, Stands l obj k → i = k ∧ r = true) ∧ (Lacks l obj → r = false) := by
  have HA := Lib.hid hA
  have HR := Lib.hid hr
  have HO := Lib.hid (fun x y z W => order_any x y z obj W)
  clear hA hr
  go_enter Try.func22, Try.ntmps22
  go_wp2
  go_loopw [9, 10] (fun s9 s10 wr => ∃ lo hi : Nat, s9 = .int .i64 (lo : Int) ∧ s10 = .int .i64 (hi : Int) ∧ lo ≤ hi ∧ hi ≤ l.length ∧ Hid (Below w.heap.size w wr ∧ (∀ t, t < lo → (l.getD t zero).1 < obj) ∧ (∀ t, hi ≤ t → t < l.length → obj ≤ (l.getD t zero).1))) (fun s9 s10 _ => (intOf s10).toNat - (intOf s9).toNat)
  case atStart => exact ⟨0, l.length, rfl, rfl, Nat.zero_le _, Nat.le_refl _, Lib.hid ⟨Below.refl _ _, fun t ht => absurd ht (Nat.not_lt_zero _), fun t h1 h2 => by omega⟩⟩
  case round =>
    obtain ⟨lo, hi, rfl, rfl, hlh, hin, HS⟩ := hrel
    by_cases hlt : lo < hi
    · have HW := Lib.hid (HA.out.next HS.out.1)
      obtain ⟨b, off, rfl, _, c0, c1, c2⟩ := HW.out ((lo + hi) / 2) (by omega)
      generalize hy : l.getD ((lo + hi) / 2) zero = y at c0 c1 c2
      have Y := Lib.hid hy
      clear hy
      obtain ⟨x, v, z⟩ := y
      dsimp only at c0 c1 c2
      have hc := HO.out x v z wr
      by_cases hx : x < obj
      · have e : cmpI x obj = -1 := by unfold cmpI; rw [if_pos hx]
        rw [e] at hc
        have HM : Hid (∀ t, t < (lo + hi) / 2 + 1 → (l.getD t zero).1 < obj) := Lib.hid fun t ht => by
          by_cases e : t = (lo + hi) / 2
          · rw [e, Y.out]; exact hx
          · have := HR.out t ((lo + hi) / 2) (by omega) (by omega)
            rw [Y.out] at this
            dsimp only at this
            omega
        clear e hx
        go_wp2_with (refine hc.mono ?_; rintro e w' ⟨rfl, hb⟩)
        have HB := Lib.hid (HS.out.1.trans (hb.mono HS.out.1.size))
        clear hb
        go_roundw
        case rel => exact ⟨(lo + hi) / 2 + 1, hi, by rw [show ((lo : Int) + (hi : Int)) / 2 + 1 = (((lo + hi) / 2 + 1 : Nat) : Int) by omega], rfl, by omega, hin, Lib.hid ⟨HB.out, HM.out, HS.out.2.2⟩⟩
        case measure => simp [intOf]; omega
      · have e : ¬ cmpI x obj < 0 := by unfold cmpI; rw [if_neg hx]; split <;> omega
        generalize cmpI x obj = q at *
        have HM : Hid (∀ t, (lo + hi) / 2 ≤ t → t < l.length → obj ≤ (l.getD t zero).1) := Lib.hid fun t ht h2 => by
          by_cases e : t = (lo + hi) / 2
          · rw [e, Y.out]; dsimp only; omega
          · have := HR.out ((lo + hi) / 2) t (by omega) h2
            rw [Y.out] at this
            dsimp only at this
            omega
        clear hx
        go_wp2_with (refine hc.mono ?_; rintro e w' ⟨rfl, hb⟩)
        have HB := Lib.hid (HS.out.1.trans (hb.mono HS.out.1.size))
        clear hb
        go_roundw
        case rel => exact ⟨lo, (lo + hi) / 2, rfl, by rw [show ((lo : Int) + (hi : Int)) / 2 = (((lo + hi) / 2 : Nat) : Int) by omega], by omega, by omega, Lib.hid ⟨HB.out, HS.out.2.1, HM.out⟩⟩
        case measure => simp [intOf]; omega
    · obtain rfl : hi = lo := by omega
      have HK : Hid (∀ k, Stands l obj k → hi = k) := Lib.hid fun k hk => by
        rcases Nat.lt_trichotomy k hi with h | h | h
        · have := HS.out.2.1 k h
          rw [hk.2] at this
          omega
        · exact h.symm
        · have h1 := HS.out.2.2 hi (Nat.le_refl _) (Nat.lt_trans h hk.1)
          have h2 := HR.out hi k h hk.1
          rw [hk.2] at h2
          omega
      by_cases hn : hi < l.length
      · have HW := Lib.hid (HA.out.next HS.out.1)
        obtain ⟨b, off, rfl, _, c0, c1, c2⟩ := HW.out hi hn
        generalize hy : l.getD hi zero = y at c0 c1 c2
        have Y := Lib.hid hy
        clear hy
        obtain ⟨x, v, z⟩ := y
        dsimp only at c0 c1 c2
        have hc := HO.out x v z wr
        have HE : Hid ((cmpI x obj == 0) = true ↔ x = obj) := Lib.hid (by
          unfold cmpI
          split
          · simp; omega
          · split
            · simp; omega
            · simp; omega)
        generalize cmpI x obj = q at *
        go_wp2_with (refine hc.mono ?_; rintro e w' ⟨rfl, hb⟩)
        all_goals
          have HB := Lib.hid (HS.out.1.trans (hb.mono HS.out.1.size))
          go_ret2
          refine ⟨HB.out, hi, q == 0, rfl, fun k hk => ?_, fun hk => ?_⟩
          · obtain rfl := HK.out k hk
            refine ⟨rfl, HE.out.2 ?_⟩
            have := hk.2
            rw [Y.out] at this
            exact this
          · rw [← Bool.not_eq_true, HE.out]
            intro e
            exact hk hi hn (by rw [Y.out]; exact e)
      · have HN : Hid (∀ k, Stands l obj k → False) := Lib.hid fun k hk => by
          have h1 := HK.out k hk
          have h2 := hk.1
          omega
        go_wp2_with fail
        all_goals
          go_ret2
          exact ⟨HS.out.1, hi, false, rfl, fun k hk => (HN.out k hk).elim, fun _ => rfl⟩
end Go.Proofs.Ytdmcmgcecdgegaa.cel
