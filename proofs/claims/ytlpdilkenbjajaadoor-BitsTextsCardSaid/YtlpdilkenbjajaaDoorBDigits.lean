/-
  The document's decimals of a number below 64. No condition.
-/
import Derived.Test.YtlpdilkenbjajaaDoorBSay
import Derived.Deep.RegionHeld3
namespace Go.Proofs.YtlpdilkenbjajaaDoor.bits
open Go.RowKit Go.ChangeShapes

theorem mk_append (l r : List UInt8) : ByteArray.mk l.toArray ++ ByteArray.mk r.toArray = ByteArray.mk (l ++ r).toArray := by
  apply ByteArray.ext
  apply Array.toList_inj.1
  simp [ByteArray.data_append]
/-- A slice of one byte as a text. -/
theorem run_byte_at (v : World) (b : Nat) (x : Int) (c : UInt8) (hc : (c.toNat : Int) = x) (h : v.cell? ⟨b, 0, none⟩ = some (.int .u8 x)) :
    (convert 37 9 (.slice (some ⟨b, 0, none⟩) 1 1)).run Tryd.prog v = .ok (.string ⟨[c].toArray⟩) v := by
  refine run_convert_bytes_back _ 37 9 5 ⟨b, 0, none⟩ 1 [c] Tryd.underlying37 Tryd.underlying5 Tryd.underlying9 (fun j hj => ?_)
  have hj0 : j = 0 := by simpa using hj
  subst hj0
  rw [← hc] at h
  exact h

set_option maxHeartbeats 400000 in
theorem small_any (n : Nat) (hn : n < 10) (w : World) :
    Calls Tryd.prog 16 #[.int .i64 (n : Int)] w fun e w' => e = .returned (.string ⟨(dig n).toArray⟩) ∧ w' = w.alloc (.cells #[.int .u8 (48 + (n : Int))] 5) := by
  obtain ⟨c, hc⟩ : ∃ c, c = UInt8.ofNat (48 + n) := ⟨_, rfl⟩
  have HD : Hid (dig n = [c]) := Lib.hid (by unfold dig; rw [if_pos hn, hc])
  rw [HD.out]
  have hrun := run_byte_at (w.alloc (.cells #[.int .u8 (48 + (n : Int))] 5)) w.heap.size (48 + (n : Int)) c (by rw [hc, UInt8.toNat_ofNat']; omega) (cell_of_one (heap_alloc_new w _))
  clear hc HD
  go_enter Tryd.func16, Tryd.ntmps16
  go_wp2
  go_ret
  exact ⟨rfl, rfl⟩

set_option maxHeartbeats 1000000 in
theorem great_any (n : Nat) (h10 : 10 ≤ n) (hn : n < 100) (w : World) :
    Calls Tryd.prog 16 #[.int .i64 (n : Int)] w fun e w' => e = .returned (.string ⟨(dig n).toArray⟩) ∧ Below w.heap.size w w' := by
  obtain ⟨q, hq⟩ : ∃ q : Nat, q = n / 10 := ⟨_, rfl⟩
  obtain ⟨y, hy⟩ : ∃ y : Nat, y = n % 10 := ⟨_, rfl⟩
  have HD : Hid (dig n = dig q ++ dig y) := Lib.hid (by
    unfold dig
    rw [if_neg (by omega), if_pos (by omega), if_pos (by omega), hq, hy]
    rfl)
  have e1 : IntKind.i64.wrap ((n : Int) / 10) = (q : Int) := by rw [IntKind.wrap_i64]; omega
  have e2 : (n : Int).tmod 10 = (y : Int) := by rw [Int.tmod_eq_emod_of_nonneg (by omega)]; omega
  obtain ⟨x, hx⟩ : ∃ x : Int, x = 48 + (y : Int) := ⟨_, rfl⟩
  have e3 : IntKind.i64.wrap (48 + (y : Int)) = x := by rw [hx, IntKind.wrap_i64]; omega
  have e4 : IntKind.u8.wrap x = x := by rw [hx]; simp [IntKind.wrap, IntKind.signed, IntKind.bits]; omega
  obtain ⟨c, hc⟩ : ∃ c, c = UInt8.ofNat (48 + y) := ⟨_, rfl⟩
  have HC : Hid (dig y = [c]) := Lib.hid (by unfold dig; rw [if_pos (by omega), hc])
  have hconv := (fun v b => run_byte_at v b x c (by rw [hc, UInt8.toNat_ofNat', hx]; omega))
  obtain ⟨d, hd1⟩ : ∃ d, dig q = [d] := ⟨_, by unfold dig; rw [if_pos (by omega)]⟩
  have hS := fun u => small_any q (by omega) u
  rw [hd1] at hS
  have HS := Lib.hid hS
  have HD1 := Lib.hid hd1
  have s1 : (ByteArray.mk [d].toArray).size = 1 := rfl
  have s2 : (ByteArray.mk [c].toArray).size = 1 := rfl
  have s3 : (ByteArray.mk #[d]).size = 1 := rfl
  have s4 : (ByteArray.mk #[c]).size = 1 := rfl
  clear hS hd1
  have hd : decide ((n : Int) < 10) = false := by simp; omega
  clear hx hc hq hy h10 hn
  go_enter Tryd.func16, Tryd.ntmps16
  go_wp2_with fail
  go_region_with ((go_at_call 16; refine (HS.out _).mono ?_; rintro e w2 ⟨rfl, rfl⟩))
  all_goals go_wp2
  all_goals
    go_ret
    refine ⟨?_, ((Below.refl _ w).drew.alloc (Nat.le_refl _) _).alloc (by simp) _⟩
    rw [HD.out, HD1.out, HC.out, ← mk_append]
    rfl
/-- The document's decimals. -/
theorem refDigits_any (n : Nat) (hn : n < 64) (w : World) :
    Calls Tryd.prog 16 #[.int .i64 (n : Int)] w fun e w' => e = .returned (.string ⟨(dig n).toArray⟩) ∧ Below w.heap.size w w' := by
  by_cases h : n < 10
  · exact (small_any n h w).mono fun e w' ⟨he, hw⟩ => ⟨he, by rw [hw]; exact (Below.refl _ _).alloc (Nat.le_refl _) _⟩
  · exact great_any n (by omega) (by omega) w
end Go.Proofs.YtlpdilkenbjajaaDoor.bits
