/-
  Each operation has a name of its own, that is small letters alone, and a form of at most two letters: the walk. The table of names must lie where its initialiser lays it.
-/
import Derived.Test.YthpdokijkjbagaaDoorPLives
import Derived.Test.YthpdokijkjbagaaDoorPRef
namespace Go.Proofs.YthpdokijkjbagaaDoor.oper
open Go.RowKit Go.ChangeShapes
set_option linter.unusedVariables false

theorem small_at {k : Nat} (hk : k < 52) {i : Nat} (hi : i < (nm.getD k ⟨#[]⟩).size) : (97 : Int) ≤ (((nm.getD k ⟨#[]⟩)[i]).toNat : Int) ∧ (((nm.getD k ⟨#[]⟩)[i]).toNat : Int) ≤ 122 := by
  have hl : i < (nm.getD k ⟨#[]⟩).data.toList.length := by rw [Array.length_toList]; exact hi
  obtain ⟨h1, h2⟩ := small k hk i hl
  have e : (nm.getD k ⟨#[]⟩).data.toList.getD i 0 = (nm.getD k ⟨#[]⟩)[i] := by
    rw [List.getD_eq_getElem?_getD, List.getElem?_eq_getElem hl, Option.getD_some, Array.getElem_toList]
    rfl
  rw [e] at h1 h2
  omega
theorem of_name {k : Nat} (hk : k < 52) : ofK (nm.getD k ⟨#[]⟩) = k ∧ ofB (nm.getD k ⟨#[]⟩) = true := by
  unfold ofK ofB
  rw [idx_name k hk, if_pos hk]
  exact ⟨rfl, decide_eq_true hk⟩

set_option maxHeartbeats 1000000 in
theorem names_no (n : Int) (h : n < 0 ∨ 51 < n) (w : World) (hT : Tab w) : Calls Tryd.prog 5 #[.int .i64 n] w fun e w' => e = .returned (.bool true) ∧ Below w.heap.size w w' := by
  have HK := Lib.hid (refKnown_no n h w)
  have HN := Lib.hid (name_no n h w)
  have HL := Lib.hid (lives_any w hT)
  clear hT h
  go_enter Tryd.func5, Tryd.ntmps5
  go_wp2_with fail
  refine HK.out.mono ?_
  rintro e w1 ⟨rfl, rfl⟩
  go_wp2_with fail
  refine HN.out.mono ?_
  rintro e w1 ⟨rfl, rfl⟩
  go_wp2_with fail
  refine HL.out.mono ?_
  rintro e w1 ⟨rfl, hb⟩
  go_wp2
  go_ret
  exact ⟨rfl, hb⟩

set_option maxHeartbeats 1000000 in
theorem names_yes (k : Nat) (hk : k < 52) (w : World) (hT : Tab w) : Calls Tryd.prog 5 #[.int .i64 (k : Int)] w fun e w' => e = .returned (.bool true) ∧ Below w.heap.size w w' := by
  have HK := Lib.hid (refKnown_yes k (by omega) (by omega) w)
  have HN := Lib.hid (name_yes k hk w hT)
  have HL := Lib.hid (lives_any w hT)
  have HF := form_any k w
  rw [txt_at hk] at HF
  have HO := of_any (nm.getD k ⟨#[]⟩) w hT
  unfold OfPost at HO
  rw [(of_name hk).1, (of_name hk).2] at HO
  have HS := fun i hi => Lib.hid (small_at hk (i := i) hi)
  obtain ⟨hx0, hx9⟩ := name_size k hk
  have hf2 := form_size k hk
  replace HF := Lib.hid HF
  replace HO := Lib.hid HO
  clear hT
  generalize nm.getD k ⟨#[]⟩ = x at *
  generalize fm.getD k ⟨#[]⟩ = y at *
  go_enter Tryd.func5, Tryd.ntmps5
  go_wp2_with fail
  refine HK.out.mono ?_
  rintro e w1 ⟨rfl, rfl⟩
  go_wp2_with fail
  refine HN.out.mono ?_
  rintro e w1 ⟨rfl, rfl⟩
  go_wp2_with fail
  refine HO.out.mono ?_
  rintro e w1 ⟨rfl, rfl⟩
  go_wp2_with fail
  go_loop [6] (fun i => ∃ j : Nat, j ≤ x.size ∧ i = .int .i64 (j : Int)) (fun i => x.size - (intOf i).toNat)
  case atStart => exact ⟨0, Nat.zero_le _, rfl⟩
  case round =>
    obtain ⟨j, hj, rfl⟩ := hrel
    by_cases hlt : j < x.size
    · obtain ⟨h1, h2⟩ := (HS j hlt).out
      go_wp2
      go_round
      case rel => exact ⟨j + 1, by omega, by go_num⟩
      case measure => simp [intOf]; omega
    · go_wp2_with fail
      refine HF.out.mono ?_
      rintro e w1 ⟨rfl, rfl⟩
      go_wp2_with fail
      refine HL.out.mono ?_
      rintro e w1 ⟨rfl, hb⟩
      go_wp2
      go_ret
      exact ⟨rfl, hb⟩
end Go.Proofs.YthpdokijkjbagaaDoor.oper
