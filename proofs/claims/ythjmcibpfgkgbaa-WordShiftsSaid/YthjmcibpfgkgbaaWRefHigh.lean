/-
  The document's own answer of a product's highest bits. No condition.
-/
import Derived.Test.YthjmcibpfgkgbaaWRefDo
namespace Go.Proofs.Ythjmcibpfgkgbaa.word
open Go.RowKit Go.ChangeShapes

set_option maxHeartbeats 1000000 in
theorem refHigh_any (a b : Int) (w : World) :
    Calls Try.prog 16 #[.int .i64 a, .int .i64 b] w fun e w' => e = .returned (.int .i64 (hi (low a) (low b))) ∧ w = w' := by
  have hm := mul_bound (low_word a) (low_word b)
  have HA := Lib.hid (fun u : World => refLow_any a u)
  have HB := Lib.hid (fun u : World => refLow_any b u)
  have HH : Hid (hi (low a) (low b) = low a * low b / 4294967296) := Lib.hid rfl
  rw [HH.out]
  clear HH
  have HD := Lib.hid (hi_down (p := low a * low b))
  generalize low a = x at *
  generalize low b = y at *
  by_cases h : (x * y).tmod 4294967296 < 0
  · have HE : Hid (x * y / 4294967296 = (x * y).tdiv 4294967296 - 1) := Lib.hid (by rw [HD.out, if_pos h])
    have hq : -4611686018427387904 ≤ (x * y).tdiv 4294967296 - 1 := by
      have := HE.out
      omega
    have hq2 : (x * y).tdiv 4294967296 ≤ 4611686018427387904 := by
      have := HE.out
      omega
    clear HD
    go_enter Try.func16, Try.ntmps16
    go_wp2_with fail
    refine (HA.out _).mono ?_
    rintro e w1 ⟨rfl, rfl⟩
    go_wp2_with fail
    refine (HB.out _).mono ?_
    rintro e w1 ⟨rfl, rfl⟩
    go_wp2
    go_ret
    exact ⟨ret_int HE.out.symm, rfl⟩
  · have HE : Hid (x * y / 4294967296 = (x * y).tdiv 4294967296) := Lib.hid (by rw [HD.out, if_neg h])
    have hq : -4611686018427387904 ≤ (x * y).tdiv 4294967296 := by
      have := HE.out
      omega
    have hq2 : (x * y).tdiv 4294967296 ≤ 4611686018427387904 := by
      have := HE.out
      omega
    clear HD
    go_enter Try.func16, Try.ntmps16
    go_wp2_with fail
    refine (HA.out _).mono ?_
    rintro e w1 ⟨rfl, rfl⟩
    go_wp2_with fail
    refine (HB.out _).mono ?_
    rintro e w1 ⟨rfl, rfl⟩
    go_wp2
    go_ret
    exact ⟨ret_int HE.out.symm, rfl⟩
end Go.Proofs.Ythjmcibpfgkgbaa.word
