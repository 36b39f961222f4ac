/-
  The set of a list that is read where it lies. No condition but that the list is no longer than an int can say.
-/
import Derived.Test.YtiekbbknmneikaaBAt
namespace Go.Proofs.Ytiekbbknmneikaa.bits
open Go.RowKit Go.ChangeShapes

set_option maxRecDepth 100000 in
set_option maxHeartbeats 1000000 in
theorem of_any (b off cap : Nat) (l : List Int) (hl : l.length ≤ 9223372036854775807) (w : World) (h : RowAt w b off l) :
    Calls Try.prog 30 #[.slice (some ⟨b, off, none⟩) l.length cap] w fun e w' => e = .returned (.int .u64 ((ofI 0 l : Nat) : Int)) ∧ w = w' := by
  have HR := Lib.hid h
  clear h
  generalize hN : l.length = N at *
  have HN := Lib.hid hN
  clear hN
  go_enter Try.func30, Try.ntmps30
  go_wp2
  go_loop [3, 8] (fun t i => ∃ k : Nat, k ≤ N ∧ i = .int .i64 (k : Int) ∧ t = .int .u64 ((ofI 0 (l.take k) : Nat) : Int)) (fun _ i => N - (intOf i).toNat)
  case atStart => exact ⟨0, Nat.zero_le _, rfl, rfl⟩
  case round =>
    obtain ⟨k, hk, rfl, rfl⟩ := hrel
    have hs := ofI_lt (l.take k) 0 (by unfold Is64; omega)
    by_cases hlt : k < N
    · have hkl : k < l.length := by have := HN.out; omega
      have hc := HR.out k hkl
      have HT := Lib.hid (ofI_take hkl 0)
      generalize ofI 0 (l.take k) = s at *
      generalize l[k] = x at *
      go_wp2_with fail
      refine (with_any s hs x _).mono ?_
      rintro e w1 ⟨rfl, rfl⟩
      go_wp2
      go_round
      case rel => exact ⟨k + 1, by omega, by go_num, by rw [HT.out]⟩
      case measure => simp [intOf]; omega
    · obtain rfl : k = N := by omega
      have HT : Hid (l.take k = l) := Lib.hid (List.take_of_length_le (by have := HN.out; omega))
      go_wp2
      go_ret
      exact ⟨ret_int (by rw [HT.out]), rfl⟩
end Go.Proofs.Ytiekbbknmneikaa.bits
