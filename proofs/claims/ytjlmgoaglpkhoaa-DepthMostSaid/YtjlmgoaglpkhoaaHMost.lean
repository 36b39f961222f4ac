/-
  The greatest of any numbers that is not below 0: the walk over what is asked of the program's call. No condition but that the list came in.
-/
import Derived.Test.YtjlmgoaglpkhoaaHSpec
namespace Go.Proofs.Ytjlmgoaglpkhoaa.pgm.dep
open Go.RowKit Go.ChangeShapes
open Go.Proofs.Ytjlmgoaglpkhoaa.pgm
open Go.Proofs.Ytjlmgoaglpkhoaa.nums (NAt NAt.next NAt.take getD_any OwnI OwnI.empty OwnI.slice OwnI.at wpList_appI)
set_option linter.unusedVariables false

/-- Has the greatest one been met among the first j? -/
def met (l : List Int) (m : Int) (j : Nat) : Bool := (l.take j).any (· == m)
theorem met_next {l : List Int} {m : Int} {j : Nat} (h : j < l.length) : met l m (j + 1) = (met l m j || (l.getD j 0 == m)) := by
  unfold met
  rw [List.take_add_one, List.getElem?_eq_getElem h, List.any_append, List.getD_eq_getElem?_getD, List.getElem?_eq_getElem h]
  simp
theorem met_all {l : List Int} : met l (most l) l.length = true ∨ most l = 0 := by
  rcases most_in l with h | h
  · exact .inr h
  · left
    unfold met
    rw [List.take_length, List.any_eq_true]
    exact ⟨_, h, by simp⟩
theorem own_below {w w2 : World} {v2 : Value} {l : List Int} {r : Option Nat} (h1 : OwnI w2 w.heap.size v2 l) (hg : (w.alloc (.cells #[] 3)).grownBy w2 r) (hr : ∀ k, r = some k → k = w.heap.size) : Below w.heap.size w w2 := by
  exact ((Below.refl _ w).alloc (Nat.le_refl _) _).grown hg (by simp) (fun k e => by rw [hr k e]; exact Nat.le_refl _)

set_option maxRecDepth 100000 in
set_option maxHeartbeats 2000000 in
theorem most_walk (K : Keeps) (A : Option Addr) (n c : Nat) (l : List Int) (w : World) (hA : NAt w A l) (hn : A = none → n = 0 ∧ c = 0) (hc : n ≤ c) (hc2 : c ≤ 9223372036854775807) (hl : l.length = min n 300) (hi : ∀ x ∈ l, I64 x) :
    Calls Try.prog 4 #[.slice A n c] w fun e w' => e = .returned (.bool true) ∧ Below w.heap.size w w' := by
  have HL := fun W => Lib.hid (lives_any K W)
  have HM := fun A c W h => Lib.hid (K.most A l c W h (by omega) hi)
  have hge := Lib.hid (most_ge l)
  have hm0 := most_zero l
  have hma := Lib.hid (met_all (l := l))
  have hmn := Lib.hid (fun j h => met_next (l := l) (m := most l) (j := j) h)
  have hmz : Hid (met l (most l) 0 = false) := Lib.hid rfl
  generalize hM : most l = M at *
  have HNo : Hid (A = none → l = [] ∧ c = 0) := Lib.hid fun h => ⟨List.length_eq_zero_iff.1 (by have := (hn h).1; omega), (hn h).2⟩
  go_enter Try.func4, Try.ntmps4
  by_cases h3 : 300 < n
  · have t1 : decide ((n : Int) > 300) = true := decide_eq_true (by omega)
    have hlm : l.length = 300 := by omega
    clear hl
    go_upto_region 3 with fail
    go_wp2_with (
      at_builtin
      refine wpList_appI (by rfl) (.tmp 11) (.tmp 12) (by rfl) w.heap.size 300 c (.slice (some ⟨w.heap.size, 0, none⟩) 0 0) A [] l (by rfl) (OwnI.empty (heap_alloc_new w _)) (by rfl) hlm.symm HNo.out (hA.next ((Below.refl _ _).alloc (Nat.le_refl _) _)) (by simp; omega) (by simp) ?_)
    intro v2 w2 h2 hg
    have HB2 := Lib.hid (own_below h2 hg (fun k h => by injection h with h; exact h.symm))
    have HA2 := Lib.hid (hA.next HB2.out)
    obtain ⟨A2, c2, rfl⟩ := h2.slice
    have HM2 := HM A2 c2 w2 h2.at
    rw [hlm] at HM2
    clear h2 hg
    go_wp2_with fail
    refine HM2.out.mono ?_
    rintro _ w3 ⟨rfl, hb3⟩
    have HB3 := Lib.hid (HB2.out.trans (hb3.mono HB2.out.size))
    have HA3 := Lib.hid (HA2.out.next hb3)
    clear hb3 HB2 HA2 HM2 HM hA hi HNo hn
    go_wp2_with fail
    go_loop [4, 5] (fun m i => ∃ j : Nat, j ≤ l.length ∧ i = .int .i64 (j : Int) ∧ m = .bool (met l M j)) (fun _ i => l.length - (intOf i).toNat)
    case atStart => exact ⟨0, Nat.zero_le _, rfl, by rw [hmz.out]⟩
    case round =>
      obtain ⟨j, hj, rfl, rfl⟩ := hrel
      by_cases hlt : j < l.length
      · have t2 : decide ((j : Int) < 300) = true := decide_eq_true (by omega)
        obtain ⟨b, off, hAe, hb, n1⟩ := HA3.out j hlt
        subst hAe
        have hle : l.getD j 0 ≤ M := hge.out _ (by rw [List.getD_eq_getElem?_getD, List.getElem?_eq_getElem hlt]; exact List.getElem_mem _)
        have t3 : decide (l.getD j 0 > M) = false := decide_eq_false (by omega)
        have hmj := hmn.out j hlt
        generalize l.getD j 0 = x at *
        have HMJ := Lib.hid hmj
        clear hmj
        cases hb4 : met l M j with
        | true =>
          go_wp2_with fail
          go_round
          case rel => exact ⟨j + 1, by omega, by go_num, by rw [HMJ.out, hb4]; rfl⟩
          case measure => simp [intOf]; omega
        | false =>
          go_wp2_with fail
          go_round
          case rel => exact ⟨j + 1, by omega, by go_num, by rw [HMJ.out, hb4]; rfl⟩
          case measure => simp [intOf]; omega
      · obtain rfl : j = l.length := by omega
        have t2 : decide ((l.length : Int) < 300) = false := decide_eq_false (by omega)
        have t4 : decide (M ≥ 0) = true := decide_eq_true hm0
        cases hb4 : met l M l.length with
        | true =>
          go_wp2_with fail
          refine (HL _).out.mono ?_
          rintro _ w7 ⟨rfl, hb7⟩
          have HB7 := Lib.hid (HB3.out.trans (hb7.mono HB3.out.size))
          clear hb7
          go_wp2
          go_ret
          exact ⟨rfl, HB7.out⟩
        | false =>
          have e0 : M = 0 := by
            rcases hma.out with h | h
            · rw [hb4] at h; cases h
            · exact h
          subst e0
          go_wp2_with fail
          refine (HL _).out.mono ?_
          rintro _ w7 ⟨rfl, hb7⟩
          have HB7 := Lib.hid (HB3.out.trans (hb7.mono HB3.out.size))
          clear hb7
          go_wp2
          go_ret
          exact ⟨rfl, HB7.out⟩
  · have t1 : decide ((n : Int) > 300) = false := decide_eq_false (by omega)
    obtain rfl : n = l.length := by omega
    have hlm : l.length = l.length := rfl
    have hl3 : l.length ≤ 300 := by omega
    clear hl
    go_upto_region 3 with fail
    go_wp2_with (
      at_builtin
      refine wpList_appI (by rfl) (.tmp 11) (.tmp 12) (by rfl) w.heap.size l.length c (.slice (some ⟨w.heap.size, 0, none⟩) 0 0) A [] l (by rfl) (OwnI.empty (heap_alloc_new w _)) (by rfl) hlm.symm HNo.out (hA.next ((Below.refl _ _).alloc (Nat.le_refl _) _)) (by simp; omega) (by simp) ?_)
    intro v2 w2 h2 hg
    have HB2 := Lib.hid (own_below h2 hg (fun k h => by injection h with h; exact h.symm))
    have HA2 := Lib.hid (hA.next HB2.out)
    obtain ⟨A2, c2, rfl⟩ := h2.slice
    have HM2 := HM A2 c2 w2 h2.at
    clear h2 hg
    go_wp2_with fail
    refine HM2.out.mono ?_
    rintro _ w3 ⟨rfl, hb3⟩
    have HB3 := Lib.hid (HB2.out.trans (hb3.mono HB2.out.size))
    have HA3 := Lib.hid (HA2.out.next hb3)
    clear hb3 HB2 HA2 HM2 HM hA hi HNo hn
    go_wp2_with fail
    go_loop [4, 5] (fun m i => ∃ j : Nat, j ≤ l.length ∧ i = .int .i64 (j : Int) ∧ m = .bool (met l M j)) (fun _ i => l.length - (intOf i).toNat)
    case atStart => exact ⟨0, Nat.zero_le _, rfl, by rw [hmz.out]⟩
    case round =>
      obtain ⟨j, hj, rfl, rfl⟩ := hrel
      by_cases hlt : j < l.length
      · have t2 : decide ((j : Int) < (l.length : Int)) = true := decide_eq_true (by omega)
        obtain ⟨b, off, hAe, hb, n1⟩ := HA3.out j hlt
        subst hAe
        have hle : l.getD j 0 ≤ M := hge.out _ (by rw [List.getD_eq_getElem?_getD, List.getElem?_eq_getElem hlt]; exact List.getElem_mem _)
        have t3 : decide (l.getD j 0 > M) = false := decide_eq_false (by omega)
        have hmj := hmn.out j hlt
        generalize l.getD j 0 = x at *
        have HMJ := Lib.hid hmj
        clear hmj
        cases hb4 : met l M j with
        | true =>
          go_wp2_with fail
          go_round
          case rel => exact ⟨j + 1, by omega, by go_num, by rw [HMJ.out, hb4]; rfl⟩
          case measure => simp [intOf]; omega
        | false =>
          go_wp2_with fail
          go_round
          case rel => exact ⟨j + 1, by omega, by go_num, by rw [HMJ.out, hb4]; rfl⟩
          case measure => simp [intOf]; omega
      · obtain rfl : j = l.length := by omega
        have t2 : decide ((l.length : Int) < (l.length : Int)) = false := decide_eq_false (by omega)
        have t4 : decide (M ≥ 0) = true := decide_eq_true hm0
        cases hb4 : met l M l.length with
        | true =>
          go_wp2_with fail
          refine (HL _).out.mono ?_
          rintro _ w7 ⟨rfl, hb7⟩
          have HB7 := Lib.hid (HB3.out.trans (hb7.mono HB3.out.size))
          clear hb7
          go_wp2
          go_ret
          exact ⟨rfl, HB7.out⟩
        | false =>
          have e0 : M = 0 := by
            rcases hma.out with h | h
            · rw [hb4] at h; cases h
            · exact h
          subst e0
          go_wp2_with fail
          refine (HL _).out.mono ?_
          rintro _ w7 ⟨rfl, hb7⟩
          have HB7 := Lib.hid (HB3.out.trans (hb7.mono HB3.out.size))
          clear hb7
          go_wp2
          go_ret
          exact ⟨rfl, HB7.out⟩
end Go.Proofs.Ytjlmgoaglpkhoaa.pgm.dep
