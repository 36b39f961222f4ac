/-
  The program's own answer whether two lists of frames are one: of two that are. At most a thousand frames.
-/
import Derived.Test.YtphcffbbdpbkfaaFEq
namespace Go.Proofs.Ytphcffbbdpbkfaa.frames
open Go.RowKit Go.ChangeShapes
set_option linter.unusedVariables false
set_option linter.unusedSimpArgs false

set_option maxRecDepth 100000 in
set_option maxHeartbeats 8000000 in
theorem equal_yes (A B : Option Addr) (c d : Nat) (l : List Fr) (w : World) (hA : FsAt w A l) (hB : FsAt w B l) (hl : l.length ≤ 1000) :
    Calls Try.prog 34 #[.slice A l.length c, .slice B l.length d] w fun e w' => e = .returned (.bool true) ∧ Below w.heap.size w w' := by
  have HA := Lib.hid hA
  have HB := Lib.hid hB
  have q0 : ((l.length : Int) != (l.length : Int)) = false := by simp
  clear hA hB
  go_enter Try.func34, Try.ntmps34
  go_wp2_with fail
  go_loopw [13] (fun i wr => ∃ j : Nat, j ≤ l.length ∧ i = .int .i64 (j : Int) ∧ Hid (Below w.heap.size w wr)) (fun i _ => l.length - (intOf i).toNat)
  case atStart => exact ⟨0, Nat.zero_le _, rfl, Lib.hid (Below.refl _ _)⟩
  case round =>
    obtain ⟨j, hj, rfl, HW⟩ := hrel
    by_cases hlt : j < l.length
    · have q1 : decide ((j : Int) < (l.length : Int)) = true := decide_eq_true (by omega)
      obtain ⟨b1, o1, rfl, hb1, hF1⟩ := HA.out.next HW.out j hlt
      obtain ⟨b2, o2, rfl, hb2, hF2⟩ := HB.out.next HW.out j hlt
      have k0 : (0 : Int) ≤ (j : Int) := by omega
      have k1 : (j : Int) < (l.length : Int) := by omega
      generalize l.getD j zeroF = f at *
      have HF1 := Lib.hid hF1
      have HF2 := Lib.hid hF2
      clear hF1 hF2
      go_upto_region 6 with fail
      obtain ⟨cs, hcs⟩ : ∃ cs, cs = (cellsF f).toArray := ⟨_, rfl⟩
      have HNq := Lib.hid (neq_self f)
      rw [← hcs] at HNq
      refine wp_hold_act (fun a0 HA0 => ?_)
      have z0 : a0.tmps.size = 26 := by rw [HA0.out]; rfl
      have f0_0 : a0.eval (.tmp 0) = .slice (some ⟨b1, o1, none⟩) l.length c := by rw [HA0.out]; rfl
      have f0_1 : a0.eval (.tmp 1) = .slice (some ⟨b2, o2, none⟩) l.length d := by rw [HA0.out]; rfl
      have f0_5 : a0.eval (.tmp 5) = .int .i64 (j : Int) := by rw [HA0.out]; rfl
      refine wp_region_held_drew (S := fun w' => Below wr.heap.size wr w') (by kernel_rfl) (Below.refl _ _).drew (fun hS => ?_)
      refine wpAnyH_take (i := 0) (v := .slice (some ⟨b1, o1, none⟩) l.length c) rfl (by kernel_rfl) (by kernel_rfl) (by kernel_rfl) (fun _ _ _ h => h) (yields_move rfl (.tmp 0) rfl f0_0) hS ?_
      obtain ⟨a1, hA1⟩ : ∃ a', a' = a0.put (some 16) (.slice (some ⟨b1, o1, none⟩) l.length c) := ⟨_, rfl⟩
      change wpAnyH _ _ _ _ _ _ _ (a0.put (some 16) (.slice (some ⟨b1, o1, none⟩) l.length c)) _
      rw [← hA1]
      have f1_16 : a1.eval (.tmp 16) = .slice (some ⟨b1, o1, none⟩) l.length c := by rw [hA1]; exact Act.eval_put_same _ _ _ (by omega)
      have f1_0 : a1.eval (.tmp 0) = .slice (some ⟨b1, o1, none⟩) l.length c := by rw [hA1]; exact (Act.eval_put_ne _ _ _ _ (by decide)).trans f0_0
      have f1_1 : a1.eval (.tmp 1) = .slice (some ⟨b2, o2, none⟩) l.length d := by rw [hA1]; exact (Act.eval_put_ne _ _ _ _ (by decide)).trans f0_1
      have f1_5 : a1.eval (.tmp 5) = .int .i64 (j : Int) := by rw [hA1]; exact (Act.eval_put_ne _ _ _ _ (by decide)).trans f0_5
      have z1 : a1.tmps.size = 26 := by rw [hA1, Act.size_put]; exact z0
      have HA1 := Lib.hid hA1
      clear hA1 z0 f0_0 f0_1 f0_5
      refine wpAnyH_take (i := 1) (v := .int .i64 (j : Int)) rfl (by kernel_rfl) (by kernel_rfl) (by kernel_rfl) (fun _ _ _ h => h) (yields_move rfl (.tmp 5) rfl f1_5) hS ?_
      obtain ⟨a2, hA2⟩ : ∃ a', a' = a1.put (some 17) (.int .i64 (j : Int)) := ⟨_, rfl⟩
      change wpAnyH _ _ _ _ _ _ _ (a1.put (some 17) (.int .i64 (j : Int))) _
      rw [← hA2]
      have f2_17 : a2.eval (.tmp 17) = .int .i64 (j : Int) := by rw [hA2]; exact Act.eval_put_same _ _ _ (by omega)
      have f2_16 : a2.eval (.tmp 16) = .slice (some ⟨b1, o1, none⟩) l.length c := by rw [hA2]; exact (Act.eval_put_ne _ _ _ _ (by decide)).trans f1_16
      have f2_1 : a2.eval (.tmp 1) = .slice (some ⟨b2, o2, none⟩) l.length d := by rw [hA2]; exact (Act.eval_put_ne _ _ _ _ (by decide)).trans f1_1
      have f2_5 : a2.eval (.tmp 5) = .int .i64 (j : Int) := by rw [hA2]; exact (Act.eval_put_ne _ _ _ _ (by decide)).trans f1_5
      have z2 : a2.tmps.size = 26 := by rw [hA2, Act.size_put]; exact z1
      have HA2 := Lib.hid hA2
      clear hA2 z1 f1_16 f1_0 f1_1 f1_5
      refine wpAnyH_take (i := 2) (v := .pointer (some ⟨b1, o1 + j * 27, none⟩)) rfl (by kernel_rfl) (by kernel_rfl) (by kernel_rfl) (fun _ _ _ h => h) (yields_index rfl (.tmp 16) (.tmp 17) rfl _ _ _ _ j f2_16 f2_17 k0 k1) hS ?_
      obtain ⟨a3, hA3⟩ : ∃ a', a' = a2.put (some 18) (.pointer (some ⟨b1, o1 + j * 27, none⟩)) := ⟨_, rfl⟩
      change wpAnyH _ _ _ _ _ _ _ (a2.put (some 18) (.pointer (some ⟨b1, o1 + j * 27, none⟩))) _
      rw [← hA3]
      have f3_18 : a3.eval (.tmp 18) = .pointer (some ⟨b1, o1 + j * 27, none⟩) := by rw [hA3]; exact Act.eval_put_same _ _ _ (by omega)
      have f3_1 : a3.eval (.tmp 1) = .slice (some ⟨b2, o2, none⟩) l.length d := by rw [hA3]; exact (Act.eval_put_ne _ _ _ _ (by decide)).trans f2_1
      have f3_5 : a3.eval (.tmp 5) = .int .i64 (j : Int) := by rw [hA3]; exact (Act.eval_put_ne _ _ _ _ (by decide)).trans f2_5
      have z3 : a3.tmps.size = 26 := by rw [hA3, Act.size_put]; exact z2
      have HA3 := Lib.hid hA3
      clear hA3 z2 f2_17 f2_16 f2_1 f2_5
      refine wpAnyH_take (i := 3) (v := .agg cs) rfl (by kernel_rfl) (by kernel_rfl) (by kernel_rfl) (fun _ _ _ h => h) (by rw [hcs]; exact yieldsIf_load_mid (by rfl) _ (.tmp 18) rfl b1 (o1 + j * 27) f3_18 (cellsF f) _ (fun w' h => range_of (HF1.out.keep (h.block b1 (by assumption)))) Try.underlying45 rfl (sizeF (cellsF_length f))) hS ?_
      obtain ⟨a4, hA4⟩ : ∃ a', a' = a3.put (some 19) (.agg cs) := ⟨_, rfl⟩
      change wpAnyH _ _ _ _ _ _ _ (a3.put (some 19) (.agg cs)) _
      rw [← hA4]
      have f4_19 : a4.eval (.tmp 19) = .agg cs := by rw [hA4]; exact Act.eval_put_same _ _ _ (by omega)
      have f4_1 : a4.eval (.tmp 1) = .slice (some ⟨b2, o2, none⟩) l.length d := by rw [hA4]; exact (Act.eval_put_ne _ _ _ _ (by decide)).trans f3_1
      have f4_5 : a4.eval (.tmp 5) = .int .i64 (j : Int) := by rw [hA4]; exact (Act.eval_put_ne _ _ _ _ (by decide)).trans f3_5
      have z4 : a4.tmps.size = 26 := by rw [hA4, Act.size_put]; exact z3
      have HA4 := Lib.hid hA4
      clear hA4 z3 f3_18 f3_1 f3_5
      refine wpAnyH_take (i := 4) (v := .slice (some ⟨b2, o2, none⟩) l.length d) rfl (by kernel_rfl) (by kernel_rfl) (by kernel_rfl) (fun _ _ _ h => h) (yields_move rfl (.tmp 1) rfl f4_1) hS ?_
      obtain ⟨a5, hA5⟩ : ∃ a', a' = a4.put (some 20) (.slice (some ⟨b2, o2, none⟩) l.length d) := ⟨_, rfl⟩
      change wpAnyH _ _ _ _ _ _ _ (a4.put (some 20) (.slice (some ⟨b2, o2, none⟩) l.length d)) _
      rw [← hA5]
      have f5_20 : a5.eval (.tmp 20) = .slice (some ⟨b2, o2, none⟩) l.length d := by rw [hA5]; exact Act.eval_put_same _ _ _ (by omega)
      have f5_19 : a5.eval (.tmp 19) = .agg cs := by rw [hA5]; exact (Act.eval_put_ne _ _ _ _ (by decide)).trans f4_19
      have f5_5 : a5.eval (.tmp 5) = .int .i64 (j : Int) := by rw [hA5]; exact (Act.eval_put_ne _ _ _ _ (by decide)).trans f4_5
      have z5 : a5.tmps.size = 26 := by rw [hA5, Act.size_put]; exact z4
      have HA5 := Lib.hid hA5
      clear hA5 z4 f4_19 f4_1 f4_5
      refine wpAnyH_take (i := 5) (v := .int .i64 (j : Int)) rfl (by kernel_rfl) (by kernel_rfl) (by kernel_rfl) (fun _ _ _ h => h) (yields_move rfl (.tmp 5) rfl f5_5) hS ?_
      obtain ⟨a6, hA6⟩ : ∃ a', a' = a5.put (some 21) (.int .i64 (j : Int)) := ⟨_, rfl⟩
      change wpAnyH _ _ _ _ _ _ _ (a5.put (some 21) (.int .i64 (j : Int))) _
      rw [← hA6]
      have f6_21 : a6.eval (.tmp 21) = .int .i64 (j : Int) := by rw [hA6]; exact Act.eval_put_same _ _ _ (by omega)
      have f6_20 : a6.eval (.tmp 20) = .slice (some ⟨b2, o2, none⟩) l.length d := by rw [hA6]; exact (Act.eval_put_ne _ _ _ _ (by decide)).trans f5_20
      have f6_19 : a6.eval (.tmp 19) = .agg cs := by rw [hA6]; exact (Act.eval_put_ne _ _ _ _ (by decide)).trans f5_19
      have z6 : a6.tmps.size = 26 := by rw [hA6, Act.size_put]; exact z5
      have HA6 := Lib.hid hA6
      clear hA6 z5 f5_20 f5_19 f5_5
      refine wpAnyH_take (i := 6) (v := .pointer (some ⟨b2, o2 + j * 27, none⟩)) rfl (by kernel_rfl) (by kernel_rfl) (by kernel_rfl) (fun _ _ _ h => h) (yields_index rfl (.tmp 20) (.tmp 21) rfl _ _ _ _ j f6_20 f6_21 k0 k1) hS ?_
      obtain ⟨a7, hA7⟩ : ∃ a', a' = a6.put (some 22) (.pointer (some ⟨b2, o2 + j * 27, none⟩)) := ⟨_, rfl⟩
      change wpAnyH _ _ _ _ _ _ _ (a6.put (some 22) (.pointer (some ⟨b2, o2 + j * 27, none⟩))) _
      rw [← hA7]
      have f7_22 : a7.eval (.tmp 22) = .pointer (some ⟨b2, o2 + j * 27, none⟩) := by rw [hA7]; exact Act.eval_put_same _ _ _ (by omega)
      have f7_19 : a7.eval (.tmp 19) = .agg cs := by rw [hA7]; exact (Act.eval_put_ne _ _ _ _ (by decide)).trans f6_19
      have z7 : a7.tmps.size = 26 := by rw [hA7, Act.size_put]; exact z6
      have HA7 := Lib.hid hA7
      clear hA7 z6 f6_21 f6_20 f6_19
      refine wpAnyH_take (i := 7) (v := .agg cs) rfl (by kernel_rfl) (by kernel_rfl) (by kernel_rfl) (fun _ _ _ h => h) (by rw [hcs]; exact yieldsIf_load_mid (by rfl) _ (.tmp 22) rfl b2 (o2 + j * 27) f7_22 (cellsF f) _ (fun w' h => range_of (HF2.out.keep (h.block b2 (by assumption)))) Try.underlying45 rfl (sizeF (cellsF_length f))) hS ?_
      obtain ⟨a8, hA8⟩ : ∃ a', a' = a7.put (some 23) (.agg cs) := ⟨_, rfl⟩
      change wpAnyH _ _ _ _ _ _ _ (a7.put (some 23) (.agg cs)) _
      rw [← hA8]
      have f8_23 : a8.eval (.tmp 23) = .agg cs := by rw [hA8]; exact Act.eval_put_same _ _ _ (by omega)
      have f8_19 : a8.eval (.tmp 19) = .agg cs := by rw [hA8]; exact (Act.eval_put_ne _ _ _ _ (by decide)).trans f7_19
      have z8 : a8.tmps.size = 26 := by rw [hA8, Act.size_put]; exact z7
      have HA8 := Lib.hid hA8
      clear hA8 z7 f7_22 f7_19
      refine wpAnyH_take (i := 8) (v := .bool false) rfl (by kernel_rfl) (by kernel_rfl) (by kernel_rfl) (fun _ _ _ h => h) (.inl ⟨by rfl, fun w' _ => HNq.out _ _ (.tmp 19) (.tmp 23) _ rfl f8_19 f8_23⟩) hS ?_
      obtain ⟨a9, hA9⟩ : ∃ a', a' = a8.put (some 24) (.bool false) := ⟨_, rfl⟩
      change wpAnyH _ _ _ _ _ _ _ (a8.put (some 24) (.bool false)) _
      rw [← hA9]
      have f9_24 : a9.eval (.tmp 24) = .bool false := by rw [hA9]; exact Act.eval_put_same _ _ _ (by omega)
      have z9 : a9.tmps.size = 26 := by rw [hA9, Act.size_put]; exact z8
      have HA9 := Lib.hid hA9
      clear hA9 z8 f8_23 f8_19
      refine wpAnyH_done (by kernel_rfl) ?_ _
      have HS9 := Lib.hid hS
      clear hS HNq
      rw [HA9.out]
      rw [HA8.out]
      rw [HA7.out]
      rw [HA6.out]
      rw [HA5.out]
      rw [HA4.out]
      rw [HA3.out]
      rw [HA2.out]
      rw [HA1.out]
      rw [HA0.out]
      simp only [Act.put, List.setIfInBounds_toArray, List.set_cons_zero, List.set_cons_succ]
      go_wp2_with fail
      go_roundw
      case rel => exact ⟨j + 1, by omega, by go_num, Lib.hid (HW.out.trans (HS9.out.mono HW.out.size))⟩
      case measure => simp [intOf]; omega
    · obtain rfl : j = l.length := by omega
      have q1 : decide ((l.length : Int) < (l.length : Int)) = false := decide_eq_false (by omega)
      go_wp2
      go_ret
      exact ⟨rfl, HW.out⟩
set_option maxRecDepth 100000 in
theorem same_yes (A B : Option Addr) (c d : Nat) (l : List Fr) (w : World) (hA : FsAt w A l) (hB : FsAt w B l) (hl : l.length ≤ 1000) :
    Calls Try.prog 32 #[.slice A l.length c, .slice B l.length d] w fun e w' => e = .returned (.bool true) ∧ Below w.heap.size w w' := by
  have HE := Lib.hid (equal_yes A B c d l w hA hB hl)
  generalize l.length = n at *
  clear hA hB
  go_enter Try.func32, Try.ntmps32
  go_wp2_with fail
  refine HE.out.mono ?_
  rintro _ w1 ⟨rfl, hb1⟩
  have HB1 := Lib.hid hb1
  clear hb1
  go_wp2
  go_ret
  exact ⟨rfl, HB1.out⟩
end Go.Proofs.Ytphcffbbdpbkfaa.frames
