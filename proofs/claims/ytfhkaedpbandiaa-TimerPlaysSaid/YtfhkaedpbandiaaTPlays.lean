/-
  The walk of TimerPlays: any calls, and the document's list beside them. No condition.
-/
import Derived.Test.YtfhkaedpbandiaaTInv
namespace Go.Proofs.Ytfhkaedpbandiaa.timer
open Go.RowKit
attribute [local go_sem ↓] Go.wp_at_zero Go.wp_at_succ

/-- What holds at each round's head. -/
def PlaysHead (w : World) (bt len : Nat) (s ok i : Value) (wr : World) : Prop :=
  ∃ (j gg cap bh bm : Nat) (m : List E), i = .int .i64 (j : Int) ∧ j ≤ len ∧ j ≤ 60 ∧ m.length ≤ j ∧ s = .slice (some ⟨gg, 0, none⟩) m.length cap ∧ ok = .bool true ∧ Inv w bt wr bh bm gg cap m

set_option maxHeartbeats 2000000 in
set_option maxRecDepth 100000 in
theorem plays_walk (a : Option Addr) (len cap0 : Nat) (ops : Nat → O) (x : Int) (hx : Wf x) (hlen : len ≤ maxLen) (w : World) (hl : OpsIn w a len ops) :
    Calls Try.prog 3 #[.slice a len cap0, .int .i64 x] w fun e w' => e = .returned (.bool true) ∧ Below w.heap.size w w' := by
  have hlen : len ≤ 9223372036854775807 := hlen
  have HL := Lib.hid hl
  have HI0 := Lib.hid (inv_new w)
  clear hl
  go_enter Try.func3, Try.ntmps3
  go_wp2_with fail
  generalize (w.alloc (.cells #[.slice none 0 0, .map none] 27)).alloc (.cells #[] 57) = w0 at *
  have H0 : Hid (PlaysHead w w.heap.size len (.slice (some ⟨w.heap.size + 1, 0, none⟩) 0 0) (.bool true) (.int .i64 0) w0) := ⟨0, _, 0, _, _, [], rfl, Nat.zero_le _, Nat.zero_le _, Nat.le_refl _, rfl, rfl, HI0.out⟩
  clear HI0
  go_loopw [6, 7, 8] (PlaysHead w w.heap.size len) (fun _ _ i _ => len - (intOf i).toNat)
  case atStart => exact H0.out
  case round =>
    clear H0
    obtain ⟨j, gg, cap, bh, bm, m, rfl, hj, hj60, hml, rfl, rfl, hI⟩ := hrel
    by_cases hlt : j < len ∧ j < 60
    · obtain ⟨hlt, h60⟩ := hlt
      have d1 : decide (j < len) = true := by simp; omega
      have d2 : decide ((j : Int) < 60) = true := by simp; omega
      obtain ⟨b, off, rfl, hbw, hops⟩ : ∃ b off, a = some ⟨b, off, none⟩ ∧ b < w.heap.size ∧ OpsAt w b off len ops := HL.out.resolve_left (by omega)
      have HC := Lib.hid fun w' (h : Below w.heap.size w w') => (hops.keep (h.block b hbw)) j hlt
      obtain ⟨c0, c1, c2, hwf⟩ := HC.out wr hI.below
      generalize ops j = o at *
      clear hops
      have hdo := do_any wr w.heap.size bh bm gg cap m o.1 o.2.1 o.2.2 hI.lies hI.row (by omega) hwf
      have hsl := step_length m o.1 o.2.1 o.2.2
      generalize step m o.1 o.2.1 o.2.2 = m' at *
      have HI := Lib.hid hI
      clear hI
      go_wp2_with fail
      refine hdo.mono ?_
      intro e w2 hd
      obtain ⟨bh', bm', g', cap', rfl, hI2⟩ := HI.out.did hd
      obtain ⟨e0, e1, e2, _⟩ := HC.out w2 hI2.below
      have ht := tells_any w2 w.heap.size bh' bm' g' cap' m' x hI2.lies hI2.row (by omega) hx
      have HI2 := Lib.hid hI2
      clear hdo hd hI2 c0 c1 c2 HI
      go_wp2_with fail
      refine ht.mono ?_
      rintro e w3 ⟨rfl, n, rfl⟩
      have ht2 := tells_any (w2.drewN n) w.heap.size bh' bm' g' cap' m' o.2.1 (HI2.out.drewN n).lies (HI2.out.drewN n).row (by omega) hwf
      clear ht
      go_wp2_with fail
      refine ht2.mono ?_
      rintro e w4 ⟨rfl, n2, rfl⟩
      have HT := Lib.hid fun n => (show PlaysHead w w.heap.size len (.slice (some ⟨g', 0, none⟩) m'.length cap') (.bool true) (.int .i64 ((j + 1 : Nat) : Int)) (w2.drewN n) from
        ⟨j + 1, g', cap', bh', bm', m', rfl, hlt, h60, by omega, rfl, rfl, HI2.out.drewN n⟩)
      clear ht2 HI2 HC e0 e1 e2
      go_wp2_with fail
      exact ⟨HT.out _, by simp [intOf]; omega⟩
    · have HB := Lib.hid hI.below
      clear hI HL
      go_wp2_with fail
      all_goals
        refine (lives_any _).mono ?_
        rintro e w' ⟨rfl, hb⟩
        have HB2 := Lib.hid (HB.out.trans (hb.mono HB.out.size))
        clear hb
        go_wp2
        go_ret
        exact ⟨rfl, HB2.out⟩
end Go.Proofs.Ytfhkaedpbandiaa.timer
