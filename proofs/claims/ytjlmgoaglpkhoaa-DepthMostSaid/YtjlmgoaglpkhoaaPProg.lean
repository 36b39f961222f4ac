/-
  The program's own calls on operations: which numbers are one, its form, what is laid, and whether the next one follows. No condition.
-/
import Derived.Test.YtjlmgoaglpkhoaaProg
import Derived.Test.YtjlmgoaglpkhoaaPPlain
import Derived.WalkKit
import Derived.ProofKit
import Derived.IntWalk
import Derived.LoopTactic
import Derived.Lib.Hide
import Derived.Below
import Derived.Outline
namespace Go.Proofs.Ytjlmgoaglpkhoaa.oper
open Go.RowKit Go.ChangeShapes

theorem ret_int {k : IntKind} {a b : Int} (h : a = b) : Ending.returned (.int k a) = .returned (.int k b) := by rw [h]
theorem ret_bool {a b : Bool} (h : a = b) : Ending.returned (.bool a) = .returned (.bool b) := by rw [h]
theorem ret_string {a b : ByteArray} (h : a = b) : Ending.returned (.string a) = .returned (.string b) := by rw [h]

theorem known_yes (n : Int) (h0 : 0 ≤ n) (h1 : n ≤ 51) (w : World) : Calls Try.prog 39 #[.int .i64 n] w fun e w' => e = .returned (.bool true) ∧ w = w' := by
  have h2 : n < 52 := by omega
  go_enter Try.func39, Try.ntmps39
  go_wp2
  go_ret
  exact ⟨rfl, rfl⟩
theorem known_no (n : Int) (h : n < 0 ∨ 51 < n) (w : World) : Calls Try.prog 39 #[.int .i64 n] w fun e w' => e = .returned (.bool false) ∧ w = w' := by
  by_cases h0 : 0 ≤ n
  · have h1 : ¬ n < 52 := by omega
    have hd : decide (n < 52) = false := by simpa using h1
    go_enter Try.func39, Try.ntmps39
    go_wp2
    go_ret
    exact ⟨rfl, rfl⟩
  · have hd : decide (0 ≤ n) = false := by simpa using h0
    go_enter Try.func39, Try.ntmps39
    go_wp2
    go_ret
    exact ⟨rfl, rfl⟩

def fmL : List Int := [0, 1, 2, 18, 19, 20, 40, 26, 27, 29, 30, 31, 32, 33, 34, 35, 36, 37, 38, 39, 41, 42, 45, 46, 49, 50, 51]
def lyL : List Int := [2, 17, 18, 19, 21, 25, 16, 45]
theorem nat_of {n : Int} (h : 0 ≤ n ∧ n ≤ 51) : ∃ k : Nat, k < 52 ∧ n = (k : Int) := ⟨n.toNat, by omega, by omega⟩
theorem txt_at {l : List ByteArray} {k : Nat} (h : k < 52) : txt l (k : Int) = l.getD k ⟨#[]⟩ := by
  unfold txt
  rw [if_pos (by omega), Int.toNat_natCast]
theorem numb_at {l : List Int} {k : Nat} (h : k < 52) : numb l (k : Int) = l.getD k 0 := by
  unfold numb
  rw [if_pos (by omega), Int.toNat_natCast]
theorem txt_no {l : List ByteArray} {n : Int} (h : n < 0 ∨ 51 < n) : txt l n = ⟨#[]⟩ := by
  unfold txt
  rw [if_neg (by omega)]
theorem numb_no {l : List Int} {n : Int} (h : n < 0 ∨ 51 < n) : numb l n = 0 := by
  unfold numb
  rw [if_neg (by omega)]
theorem fm_rest : ∀ k : Nat, k < 52 → (fmL.all fun j => !((k : Int) == j)) = true → fm.getD k ⟨#[]⟩ = ⟨#[]⟩ := by decide +kernel
theorem fm_other (n : Int) (h : (fmL.all fun j => !(n == j)) = true) : txt fm n = ⟨#[]⟩ := by
  by_cases hk : 0 ≤ n ∧ n ≤ 51
  · obtain ⟨k, hk', rfl⟩ := nat_of hk
    rw [txt_at hk']
    exact fm_rest k hk' h
  · exact txt_no (by omega)
theorem ly_rest : ∀ k : Nat, k < 52 → (lyL.all fun j => !((k : Int) == j)) = true → ly.getD k 0 = 1 := by decide +kernel
theorem ly_other (n : Int) (h0 : 0 ≤ n) (h1 : n ≤ 51) (h : (lyL.all fun j => !(n == j)) = true) : numb ly n = 1 := by
  obtain ⟨k, hk, rfl⟩ := nat_of ⟨h0, h1⟩
  rw [numb_at hk]
  exact ly_rest k hk h

set_option maxHeartbeats 1000000 in
theorem pushes_yes (n : Int) (h0 : 0 ≤ n) (h1 : n ≤ 51) (w : World) : Calls Try.prog 38 #[.int .i64 n] w fun e w' => e = .returned (.int .i64 (numb ly n)) ∧ w = w' := by
  go_enter Try.func38, Try.ntmps38
  go_wp2_with (go_at_call 39; refine (known_yes n h0 h1 _).mono ?_; rintro e w' ⟨rfl, rfl⟩)
  all_goals go_ret
  all_goals refine ⟨ret_int ?_, rfl⟩
  all_goals first
    | (have hq := eq_of_beq ‹(n == _) = true›; subst hq; rfl)
    | (rw [ly_other n h0 h1 (by simp only [lyL, List.all_cons, List.all_nil, Bool.not_false, Bool.and_self, *])])
theorem pushes_no (n : Int) (h : n < 0 ∨ 51 < n) (w : World) : Calls Try.prog 38 #[.int .i64 n] w fun e w' => e = .returned (.int .i64 (numb ly n)) ∧ w = w' := by
  have HN := Lib.hid (numb_no (l := ly) h)
  go_enter Try.func38, Try.ntmps38
  go_wp2_with (go_at_call 39; refine (known_no n h _).mono ?_; rintro e w' ⟨rfl, rfl⟩)
  all_goals go_ret
  all_goals refine ⟨ret_int ?_, rfl⟩
  all_goals first
    | (exfalso; have hq := eq_of_beq ‹(n == _) = true›; omega)
    | (rw [HN.out])

/-- Whether the next instruction follows. -/
def goesB (n : Int) : Bool := decide (0 ≤ n ∧ n ≤ 51 ∧ n ≠ 18 ∧ n ≠ 21)
theorem goes_yes (n : Int) (h0 : 0 ≤ n) (h1 : n ≤ 51) (h2 : (n != 18) = true) (h3 : (n != 21) = true) (w : World) : Calls Try.prog 27 #[.int .i64 n] w fun e w' => e = .returned (.bool true) ∧ w = w' := by
  have H := Lib.hid (known_yes n h0 h1 w)
  go_enter Try.func27, Try.ntmps27
  go_wp2_with fail
  refine H.out.mono ?_
  rintro e w' ⟨rfl, rfl⟩
  go_wp2
  go_ret
  exact ⟨rfl, rfl⟩
theorem goes_not (n : Int) (h : n < 0 ∨ 51 < n) (w : World) : Calls Try.prog 27 #[.int .i64 n] w fun e w' => e = .returned (.bool false) ∧ w = w' := by
  have H := Lib.hid (known_no n h w)
  clear h
  go_enter Try.func27, Try.ntmps27
  go_wp2_with fail
  refine H.out.mono ?_
  rintro e w' ⟨rfl, rfl⟩
  go_wp2
  go_ret
  exact ⟨rfl, rfl⟩
theorem goes_18 (w : World) : Calls Try.prog 27 #[.int .i64 18] w fun e w' => e = .returned (.bool false) ∧ w = w' := by
  have H := Lib.hid (known_yes 18 (by omega) (by omega) w)
  go_enter Try.func27, Try.ntmps27
  go_wp2_with fail
  refine H.out.mono ?_
  rintro e w' ⟨rfl, rfl⟩
  go_wp2
  go_ret
  exact ⟨rfl, rfl⟩
theorem goes_21 (w : World) : Calls Try.prog 27 #[.int .i64 21] w fun e w' => e = .returned (.bool false) ∧ w = w' := by
  have H := Lib.hid (known_yes 21 (by omega) (by omega) w)
  go_enter Try.func27, Try.ntmps27
  go_wp2_with fail
  refine H.out.mono ?_
  rintro e w' ⟨rfl, rfl⟩
  go_wp2
  go_ret
  exact ⟨rfl, rfl⟩
theorem goes_any (n : Int) (w : World) : Calls Try.prog 27 #[.int .i64 n] w fun e w' => e = .returned (.bool (goesB n)) ∧ w = w' := by
  unfold goesB
  by_cases h : 0 ≤ n ∧ n ≤ 51
  · by_cases h2 : n = 18
    · subst h2; exact goes_18 w
    · by_cases h3 : n = 21
      · subst h3; exact goes_21 w
      · rw [decide_eq_true (by omega)]
        exact goes_yes n h.1 h.2 (by simpa using h2) (by simpa using h3) w
  · rw [decide_eq_false (by omega)]
    exact goes_not n (by omega) w
end Go.Proofs.Ytjlmgoaglpkhoaa.oper
