/-
  The program's own greatest of any numbers (typed over the code of 5351f23): of at most a thousand; and what is asked of its two calls, paid.
-/
import Derived.Test.YtjlmgoaglpkhoaaHOf
namespace Go.Proofs.Ytjlmgoaglpkhoaa.pgm.dep
open Go.RowKit Go.ChangeShapes
open Go.Proofs.Ytjlmgoaglpkhoaa.pgm
open Go.Proofs.Ytjlmgoaglpkhoaa.nums (NAt)
set_option linter.unusedVariables false

theorem take_max {l : List Int} {j : Nat} (h : j < l.length) : (l.take (j + 1)).foldl max 0 = max ((l.take j).foldl max 0) (l.getD j 0) := by
  rw [List.take_add_one, List.getElem?_eq_getElem h, List.foldl_append, List.getD_eq_getElem?_getD, List.getElem?_eq_getElem h]
  rfl

set_option maxRecDepth 100000 in
set_option maxHeartbeats 2000000 in
theorem mostP_any (A : Option Addr) (l : List Int) (c : Nat) (w : World) (hA : NAt w A l) (hl : l.length ≤ 1000) : Calls Try.prog 9 #[.slice A l.length c] w fun e w' => e = .returned (.int .i64 (most l)) ∧ Below w.heap.size w w' := by
  have HA := Lib.hid hA
  unfold most
  clear hA
  go_enter Try.func9, Try.ntmps9
  go_wp2
  go_loopw [3, 8] (fun t i wr => ∃ j : Nat, j ≤ l.length ∧ i = .int .i64 (j : Int) ∧ t = .int .i64 ((l.take j).foldl max 0) ∧ Hid (wr = w)) (fun _ i _ => l.length - (intOf i).toNat)
  case atStart => exact ⟨0, Nat.zero_le _, rfl, rfl, Lib.hid rfl⟩
  case round =>
    obtain ⟨j, hj, rfl, rfl, HW⟩ := hrel
    obtain rfl := HW.out
    by_cases hlt : j < l.length
    · have q0 : decide ((j : Int) < (l.length : Int)) = true := decide_eq_true (by omega)
      obtain ⟨b, off, rfl, hb, n1⟩ := HA.out j hlt
      have HT := Lib.hid (take_max hlt)
      generalize (l.take j).foldl max 0 = s at *
      generalize l.getD j 0 = x at *
      have h0 : (0 : Int) ≤ (j : Int) := by omega
      have h1 : (j : Int) < (l.length : Int) := by omega
      have key : ∀ y : Int, y = max s x → (.int .i64 y : Value) = .int .i64 ((l.take (j + 1)).foldl max 0) := fun y hy => by rw [HT.out, hy]
      have HK := Lib.hid key
      clear key
      go_wp2_with fail
      all_goals go_roundw
      all_goals first
        | exact ⟨j + 1, by omega, by go_num, HK.out _ (by split <;> omega), Lib.hid trivial⟩
        | (simp [intOf]; omega)
    · obtain rfl : j = l.length := by omega
      have q0 : decide ((l.length : Int) < (l.length : Int)) = false := decide_eq_false (by omega)
      go_wp2
      go_ret
      exact ⟨rfl, Below.refl _ _⟩
/-- The program's two calls are as they are asked. -/
theorem keeps : Keeps := ⟨fun v p fn w h1 h2 h3 => of_any v p fn w h1 h2 h3, fun A l c w h1 h2 _ => mostP_any A l c w h1 h2⟩
end Go.Proofs.Ytjlmgoaglpkhoaa.pgm.dep
