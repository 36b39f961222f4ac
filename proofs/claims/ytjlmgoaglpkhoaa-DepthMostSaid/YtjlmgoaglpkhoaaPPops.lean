/-
  How many values an instruction takes: the program's own call, wherever the second operand is not the greatest number. 
-/
import Derived.Test.YtjlmgoaglpkhoaaPProg
namespace Go.Proofs.Ytjlmgoaglpkhoaa.oper
open Go.RowKit Go.ChangeShapes

def tkL : List Int := [20, 42, 41, 3, 4, 5, 6, 7, 9, 10, 11, 12, 13, 14, 15, 40, 43, 2, 8, 16, 17, 19, 21, 24, 27, 28, 30, 31, 33, 39, 44, 46, 49]
theorem tk_rest : ∀ k : Nat, k < 52 → (tkL.all fun j => !((k : Int) == j)) = true → tk.getD k 0 = 0 := by decide +kernel
theorem tk_other (n : Int) (h : (tkL.all fun j => !(n == j)) = true) : numb tk n = 0 := by
  by_cases hk : 0 ≤ n ∧ n ≤ 51
  · obtain ⟨k, hk', rfl⟩ := nat_of hk
    rw [numb_at hk']
    exact tk_rest k hk' h
  · exact numb_no (by omega)
/-- How many values are taken, by operation, second operand, and arguments. -/
def pops (o b args : Int) : Int := if o = 20 then args else if o = 41 then b else if o = 42 then 1 + b else numb tk o
/-- The memory that an instruction handed in by value takes. -/
def insBox (o a b : Int) : Obj := .cells #[.int .i64 o, .int .i64 a, .int .i64 b] 40
theorem pops_other (n b args : Int) (h : (tkL.all fun j => !(n == j)) = true) : pops n b args = 0 := by
  have hne : ∀ j ∈ tkL, n ≠ j := fun j hj => by simpa using List.all_eq_true.1 h j hj
  unfold pops
  rw [if_neg (hne 20 (by decide)), if_neg (hne 41 (by decide)), if_neg (hne 42 (by decide)), tk_other n h]

set_option maxHeartbeats 2000000 in
theorem pops_any (o a b args : Int) (hb0 : -9223372036854775808 ≤ b) (hb1 : b < 9223372036854775807) (w : World) :
    Calls Try.prog 36 #[.agg #[.int .i64 o, .int .i64 a, .int .i64 b], .int .i64 args] w fun e w' => e = .returned (.int .i64 (pops o b args)) ∧ w' = w.alloc (insBox o a b) := by
  go_enter Try.func36, Try.ntmps36
  go_wp2
  all_goals go_ret
  all_goals refine ⟨ret_int ?_, rfl⟩
  all_goals first
    | (have hq := eq_of_beq ‹(o == _) = true›; subst hq; first | rfl | (unfold pops; simp only [Int.zero_add]; rfl))
    | (rw [pops_other o b args (by simp only [tkL, List.all_cons, List.all_nil, Bool.not_false, Bool.and_self, *])])
end Go.Proofs.Ytjlmgoaglpkhoaa.oper
