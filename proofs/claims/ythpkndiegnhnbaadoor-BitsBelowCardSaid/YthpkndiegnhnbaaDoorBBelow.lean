/-
  Which numbers are below any number, and how many: for all pairs of numbers, under no condition. The table of math/bits lies where its initialiser lays it: the card ties that to the program's text.
-/
import Derived.Test.YthpkndiegnhnbaaDoorBLives
import Derived.Test.YthpkndiegnhnbaaDoorBClose
import Derived.Test.YthpkndiegnhnbaaDoorCards
import Derived.Test.YthpkndiegnhnbaaDoorTie
import Derived.SevenTiedAt
import Derived.WalkLawsBesides
import Derived.Outline
namespace Go.Proofs.YthpkndiegnhnbaaDoor.bitsBelow
open Go.ChangeShapes Go.WideShapes Go.ChangeAt Go.RowKit Go.Proofs.YthpkndiegnhnbaaDoor.bits
set_option linter.unusedVariables false

theorem range_below : ∀ t, t < 65 → ((List.range 64).filter fun m => decide (m < t)).length = t := by decide +kernel
theorem count_below (n : Int) : (els (allN n)).length = (max 0 (min n 64)).toNat := by
  have e : els (allN n) = (List.range 64).filter fun m => decide (m < (max 0 (min n 64)).toNat) := by
    unfold els
    refine List.filter_congr fun m hm => ?_
    have hm' : m < 64 := by simpa using hm
    rw [testBit_allN n hm', decide_eq_decide]
    omega
  rw [e, range_below _ (by omega)]
theorem has_below (n k : Int) : hasB (allN n) k = decide (0 ≤ k ∧ k < 64 ∧ k < n) := by
  unfold hasB
  by_cases h : may k
  · rw [decide_eq_true h, Bool.true_and]
    unfold may at h
    rw [testBit_allN n (by omega), decide_eq_decide]
    omega
  · rw [decide_eq_false h, Bool.false_and]
    unfold may at h
    symm
    rw [decide_eq_false_iff_not]
    omega

set_option maxHeartbeats 1000000 in
theorem walk (n k : Int) (w : World) (hT : Tab w) (hg : 0 < w.heap.size) :
    Calls Tryd.prog 4 #[.int .i64 n, .int .i64 k] w fun e w' => e = .returned (.bool true) ∧ Below w.heap.size w w' := by
  have hs := allN_lt n
  have HC := Lib.hid (count_any _ hs w)
  rw [count_below] at HC
  have HL := Lib.hid (lives_any w hT hg)
  have HH := Lib.hid (has_any _ hs k w)
  rw [has_below] at HH
  clear hT
  by_cases h0 : 0 ≤ k
  · by_cases h1 : k < 64
    · by_cases h2 : k < n
      · rw [show decide (0 ≤ k ∧ k < 64 ∧ k < n) = true from by rw [decide_eq_true_iff]; omega] at HH
        go_enter Tryd.func4, Tryd.ntmps4
        go_wp2_with fail
        refine (all_any _ _).mono ?_
        rintro e w1 ⟨rfl, rfl⟩
        go_wp2_with fail
        refine HH.out.mono ?_
        rintro e w1 ⟨rfl, rfl⟩
        go_wp2_with fail
        refine HC.out.mono ?_
        rintro e w1 ⟨rfl, rfl⟩
        go_wp2_with fail
        refine HL.out.mono ?_
        rintro e w1 ⟨rfl, hb⟩
        go_wp2
        go_ret
        exact ⟨rfl, hb⟩
      · have hd : decide (k < n) = false := by simpa using h2
        rw [show decide (0 ≤ k ∧ k < 64 ∧ k < n) = false from by rw [decide_eq_false_iff_not]; omega] at HH
        go_enter Tryd.func4, Tryd.ntmps4
        go_wp2_with fail
        refine (all_any _ _).mono ?_
        rintro e w1 ⟨rfl, rfl⟩
        go_wp2_with fail
        refine HH.out.mono ?_
        rintro e w1 ⟨rfl, rfl⟩
        go_wp2_with fail
        refine HC.out.mono ?_
        rintro e w1 ⟨rfl, rfl⟩
        go_wp2_with fail
        refine HL.out.mono ?_
        rintro e w1 ⟨rfl, hb⟩
        go_wp2
        go_ret
        exact ⟨rfl, hb⟩
    · rw [show decide (0 ≤ k ∧ k < 64 ∧ k < n) = false from by rw [decide_eq_false_iff_not]; omega] at HH
      go_enter Tryd.func4, Tryd.ntmps4
      go_wp2_with fail
      refine (all_any _ _).mono ?_
      rintro e w1 ⟨rfl, rfl⟩
      go_wp2_with fail
      refine HH.out.mono ?_
      rintro e w1 ⟨rfl, rfl⟩
      go_wp2_with fail
      refine HC.out.mono ?_
      rintro e w1 ⟨rfl, rfl⟩
      go_wp2_with fail
      refine HL.out.mono ?_
      rintro e w1 ⟨rfl, hb⟩
      go_wp2
      go_ret
      exact ⟨rfl, hb⟩
  · rw [show decide (0 ≤ k ∧ k < 64 ∧ k < n) = false from by rw [decide_eq_false_iff_not]; omega] at HH
    go_enter Tryd.func4, Tryd.ntmps4
    go_wp2_with fail
    refine (all_any _ _).mono ?_
    rintro e w1 ⟨rfl, rfl⟩
    go_wp2_with fail
    refine HH.out.mono ?_
    rintro e w1 ⟨rfl, rfl⟩
    go_wp2_with fail
    refine HC.out.mono ?_
    rintro e w1 ⟨rfl, rfl⟩
    go_wp2_with fail
    refine HL.out.mono ?_
    rintro e w1 ⟨rfl, hb⟩
    go_wp2
    go_ret
    exact ⟨rfl, hb⟩

set_option maxRecDepth 100000 in
theorem lifted (os : Os) (started : os.Started) (H : Type) (enc : TypeId × Value → H) :
    ReturnsInHanded {} Tryd.checked os 4 .any (fun w args => (Rows.bitsBelowSpec.pre enc Tryd.prog Tryd.f4 [] false w args ∧ laidMetH Tryd.prog laid3 w) ∧ sizedMet enc Tryd.prog Tryd.f4 (OpenSpec.ofChange Rows.bitsBelowSpec) false w args)
      (Rows.bitsBelowSpec.post enc Tryd.prog Tryd.f4 false true false false) := by
  refine returnsInHanded_of_change_and (C := Tryd.checked) (X := fun w _ => laidMetH Tryd.prog laid3 w) (fun _ _ _ hh h => h.of_heap hh) own started (by kernel_rfl) Tryd.func4
    (ChangeSpec.witness_shaped (enc := enc) (C := Tryd.checked) (os := os) (X := fun w _ => laidMetH Tryd.prog laid3 w) false (World.doorLaid Tryd.prog 62 os) #[.int .i64 0, .int .i64 0] 8 rfl (World.shaped_of_RefB (by kernel_rfl) (by kernel_rfl)) (by kernel_rfl) (by kernel_rfl) (by kernel_rfl) (door_met os _)) ?_
  intro W base args ds gs before hval0 hW _ _ hL _
  have hval : ∀ (j : Nat) t v, Tryd.f4.params[j]? = some t → args[j]? = some v → Value.okWide Tryd.prog W .any base t v := hval0
  have hW' := hW
  obtain ⟨p, q, hA0, hV, rfl, hfz, hnd⟩ := hW
  have hA : DataW.TrodAll enc Tryd.prog W 0 (fun _ => true) true Tryd.f4.params.toList args.toList ds p := hA0
  rw [Tryd.params4] at hA hval
  obtain ⟨v0, v1, d0, d1, p0, p1, rfl, rfl, rfl, h0, h1⟩ := trodAll_two hA
  obtain ⟨rfl, rfl⟩ := trodVars_none hV
  obtain ⟨a0, rfl, rfl, rfl, w0⟩ := open_int Tryd.underlying3 (hval 0 3 v0 rfl rfl) h0
  obtain ⟨a1, rfl, rfl, rfl, w1⟩ := open_int Tryd.underlying3 (hval 1 3 v1 rfl rfl) h1
  clear hA0 hval0
  obtain ⟨hT, hg⟩ := of_laid hL
  simp only [List.append_nil] at hW'
  refine (walk a0 a1 W hT hg).mono fun e W' ⟨he, hb⟩ => ?_
  subst he
  exact ⟨_, rfl, post_below (pa := []) (pv := []) hW' (fun _ _ _ => (trodAll_cons_mk (shut_bool Tryd.underlying4 _) trodAll_mk0)) (fun sp _ => trodAll_mk2 (shut_int Tryd.underlying3 w0) (shut_int Tryd.underlying3 w1)) (fun _ _ => rfl) rfl
    hb (ok_one (by kernel_rfl) rfl (okWide_bool_mk Tryd.underlying4 _))⟩

theorem said : Rows.BitsBelowSaid :=
  OpenClaim.holds_of_wide 4 Tryd.f4 rfl rfl rfl rfl rfl rfl rfl ⟨rfl, rfl, rfl, rfl, rfl⟩ rfl rfl rfl rfl rfl (by kernel_rfl) Tryd.func4 (by kernel_rfl)
    (of_decide_eq_true (by kernel_rfl)) (by unfold Func.isWrapper; first | (rw [if_pos (by decide +kernel)]; kernel_rfl) | (rw [if_neg (by decide +kernel)]; exact ⟨rfl, rfl⟩))
    (fun os started H enc _ => lifted os started H enc)

theorem proved : Rows.BitsBelowCardSaid :=
  Claim7.holds_tied_plain_at .later [] [.data, .data, .data] true Rows.bitsBelowCard.stood.harness true
    said (fun _ h => by cases h) (by kernel_rfl) (fun _ h => by cases h) bitsBelow_row_tie rfl ⟨rfl, rfl⟩ (by kernel_rfl) rfl
    (fun f fn hf hfn => by
      obtain rfl : f = 4 := Option.some.inj ((show Tryd.prog.funcNamed "logjam/logjamlaw02.BitsBelow" = some 4 by kernel_rfl).symm.trans hf) |>.symm
      obtain rfl : fn = Tryd.f4 := (Option.some.inj (Tryd.func4.symm.trans hfn)).symm
      exact ⟨by kernel_rfl, fun j t ht => by
        rw [Tryd.params4] at ht
        have hm : t ∈ [3] := by simpa using Array.mem_of_getElem? ht
        have hall : ([3].all fun u => !Tryd.prog.wantsStandIn u) = true := by kernel_rfl
        exact (show Tryd.prog.wantsStandIn t = false by simpa using List.all_eq_true.1 hall t hm)⟩)
    (by kernel_rfl)
end Go.Proofs.YthpkndiegnhnbaaDoor.bitsBelow
