/-
  The program's calls on a set that look for its numbers: the least, the next above one, the one with so many below it; each reads the table of math/bits, which must lie where its initialiser lays it. And how many there are, and all moved.
-/
import Derived.Test.YtjedinodopcdaaaDoorBBit
import Derived.Below
import Derived.Deep.DeepCutAuto
import Derived.Deep.CutBlock
namespace Go.Proofs.YtjedinodopcdaaaDoor.bits
open Go.RowKit Go.ChangeShapes

/-- The table of math/bits lies where its initialiser lays it. -/
def Tab (w : World) : Prop := ∀ j, j < 64 → w.cell? ⟨0, j, none⟩ = some (.int .u8 ((Lib.deBruijn64tab.getD j 0 : Nat) : Int))
theorem Tab.below {B : Nat} {w w' : World} (h : Tab w) (hb : Below B w w') (hB : 0 < B) : Tab w' := fun j hj => (hb.cell (p := ⟨0, j, none⟩) hB).trans (h j hj)
theorem Tab.cell {w w' : World} (h : Tab w) (hc : ∀ p, w'.cell? p = w.cell? p) : Tab w' := fun j hj => (hc _).trans (h j hj)

theorem tz_key (x a : Nat) (hx : x < 18446744073709551616) (hx0 : x ≠ 0) (hlow : x &&& (18446744073709551616 - x) = a) :
    IntKind.u64.wrap (bits BinOp.and IntKind.u64 (x : Int) (IntKind.u64.wrap (-(x : Int))) * 285870213051353865) / 288230376151711744 = ((a * 285870213051353865 % 18446744073709551616 / 288230376151711744 : Nat) : Int) := by
  have e1 : IntKind.u64.wrap (-(x : Int)) = ((18446744073709551616 - x : Nat) : Int) := by rw [IntKind.wrap_u64]; omega
  rw [e1, bits_and_u64_nat x _ hx (by omega), hlow, IntKind.wrap_u64]
  omega

set_option maxHeartbeats 1000000 in
theorem tz_core (x k idx : Nat) (w : World) (hx0 : ((x : Int) == 0) = false)
    (key : IntKind.u64.wrap (bits BinOp.and IntKind.u64 (x : Int) (IntKind.u64.wrap (-(x : Int))) * 285870213051353865) / 288230376151711744 = (idx : Int))
    (hi : idx < 64) (hk : k < 64) (hcell : w.cell? ⟨0, idx, none⟩ = some (.int .u8 (k : Int))) :
    Calls Tryd.prog 39 #[.int .u64 (x : Int)] w fun e w' => e = .returned (.int .i64 (k : Int)) ∧ w = w' := by
  go_enter Tryd.func39, Tryd.ntmps39
  go_wp2_with (simp only [key])
  go_ret
  exact ⟨rfl, rfl⟩

/-- The least of a set that has some. -/
theorem tz_any (s : Nat) (hs : Is64 s) (h0 : s ≠ 0) (w : World) (hT : Tab w) :
    Calls Tryd.prog 39 #[.int .u64 (s : Int)] w fun e w' => e = .returned (.int .i64 (atI (els s) 0)) ∧ w = w' := by
  rw [← first_eq hs h0]
  obtain ⟨hlow, hk⟩ := Lib.lowest_bit 64 s h0 hs
  obtain ⟨hi, htab⟩ := Lib.deBruijn64_at _ hk
  have hcell := hT _ hi
  rw [htab] at hcell
  exact tz_core s _ _ w (by simp; omega) (tz_key s _ hs h0 hlow) hi hk hcell

set_option maxHeartbeats 400000 in
theorem first_any (s : Nat) (hs : Is64 s) (w : World) (hT : Tab w) :
    Calls Tryd.prog 36 #[.int .u64 (s : Int)] w fun e w' => e = .returned (.int .i64 (atI (els s) 0)) ∧ w = w' := by
  by_cases h0 : s = 0
  · subst h0
    rw [els_zero, show atI [] 0 = -1 from rfl, show ((0 : Nat) : Int) = 0 from rfl]
    go_enter Tryd.func36, Tryd.ntmps36
    go_wp2
    go_ret
    exact ⟨rfl, rfl⟩
  · have H := Lib.hid (tz_any s hs h0 w hT)
    have hb : ((s : Int) == 0) = false := by simp [h0]
    clear h0 hT
    go_enter Tryd.func36, Tryd.ntmps36
    go_wp2_with fail
    refine H.out.mono ?_
    rintro e w1 ⟨rfl, rfl⟩
    go_wp2
    go_ret
    exact ⟨rfl, rfl⟩

set_option maxHeartbeats 400000 in
theorem next_any (s : Nat) (hs : Is64 s) (n : Int) (w : World) (hT : Tab w) :
    Calls Tryd.prog 37 #[.int .u64 (s : Int), .int .i64 n] w fun e w' => e = .returned (.int .i64 (nextI s n)) ∧ w = w' := by
  have hm := minus_lt (t := allN n) hs
  have ho := wout_lt hm n
  have HA := Lib.hid (andNot_u64 hs (allN_lt n))
  have HE : Hid (nextI s n = atI (els (wout (minus s (allN n)) n)) 0) := by unfold nextI; rw [els_above]; rfl
  rw [HE.out]
  go_enter Tryd.func37, Tryd.ntmps37
  go_wp2_with fail
  refine (all_any _ _).mono ?_
  rintro e w1 ⟨rfl, rfl⟩
  go_wp2_with fail
  rw [HA.out]
  refine (without_any _ hm _ _).mono ?_
  rintro e w1 ⟨rfl, rfl⟩
  go_wp2_with fail
  refine (first_any _ ho _ hT).mono ?_
  rintro e w1 ⟨rfl, rfl⟩
  go_wp2
  go_ret
  exact ⟨rfl, rfl⟩

end Go.Proofs.YtjedinodopcdaaaDoor.bits
