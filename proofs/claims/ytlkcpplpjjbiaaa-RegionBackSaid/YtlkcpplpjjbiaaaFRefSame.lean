/-
  The document's own answer whether two lists of frames are one: of two that are. At most a thousand frames.
-/
import Derived.Test.YtlkcpplpjjbiaaaFRow
import Derived.Test.YtlkcpplpjjbiaaaFRefWith
import Derived.BigQuiet
import Derived.Great.Frames
import Derived.Deep.QuietTactic
namespace Go.Proofs.Ytlkcpplpjjbiaaa.frames
open Go.RowKit Go.ChangeShapes
set_option linter.unusedVariables false
set_option linter.unusedSimpArgs false

theorem below_drewN2 {B : Nat} {a w : World} (h : Below B a w) (n : Nat) : Below B a (w.drewN n) := ⟨h.os, h.tape, h.output, h.size, h.block⟩

theorem wp_hold_act {P : Program} {Q : Exit → Act → World → Prop} {c : Code} {a : Act} {w : World} (h : ∀ a', Hid (a' = a) → c.wp P Q a' w) : c.wp P Q a w := h a (Lib.hid rfl)
theorem yields_move {P : Program} {ops : Array Oper} {S : World → Prop} {o : Oper} {a : Act} {v : Value} (hg : o.guard = none) (x : Operand) (ho : o.op = .move x) (hx : a.eval x = v) : YieldsIf P ops S o v a :=
  .inl ⟨by simp [Region.wanted, hg], fun w' _ => by
    unfold execOp
    simp only [ho, hx, Sem.run_bind, Sem.run_pure, Result.andThen_ok]⟩
theorem yields_index {ops : Array Oper} {S : World → Prop} {o : Oper} {a : Act} (hg : o.guard = none) (x y : Operand) (ho : o.op = .indexAddr 22 x y) (b i n c j : Nat) (hx : a.eval x = .slice (some ⟨b, i, none⟩) n c) (hy : a.eval y = .int .i64 (j : Int)) (k0 : (0 : Int) ≤ (j : Int)) (k1 : (j : Int) < (n : Int)) : YieldsIf Try.prog ops S o (.pointer (some ⟨b, i + j * 27, none⟩)) a :=
  .inl ⟨by simp [Region.wanted, hg], fun w' _ => by
    unfold execOp
    simp only [ho, hx, hy]
    go_simp⟩

set_option maxRecDepth 100000 in
set_option maxHeartbeats 8000000 in
theorem refSame_yes (A B : Option Addr) (c d : Nat) (l : List Fr) (w : World) (hA : FsAt w A l) (hB : FsAt w B l) (hl : l.length ≤ 1000) :
    Calls Try.prog 27 #[.slice A l.length c, .slice B l.length d] w fun e w' => e = .returned (.bool true) ∧ Below w.heap.size w w' := by
  have HA := Lib.hid hA
  have HB := Lib.hid hB
  have q0 : ((l.length : Int) != (l.length : Int)) = false := by simp
  clear hA hB
  go_enter Try.func27, Try.ntmps27
  go_wp2_with fail
  go_loopw [5] (fun i wr => ∃ j : Nat, j ≤ l.length ∧ i = .int .i64 (j : Int) ∧ Hid (Below w.heap.size w wr)) (fun i _ => l.length - (intOf i).toNat)
  case atStart => exact ⟨0, Nat.zero_le _, rfl, Lib.hid (Below.refl _ _)⟩
  case round =>
    obtain ⟨j, hj, rfl, HW⟩ := hrel
    by_cases hlt : j < l.length
    · have q1 : decide ((j : Int) < (l.length : Int)) = true := decide_eq_true (by omega)
      obtain ⟨b1, o1, rfl, hb1, hF1⟩ := HA.out.next HW.out j hlt
      obtain ⟨b2, o2, rfl, hb2, hF2⟩ := HB.out.next HW.out j hlt
      have k0 : (0 : Int) ≤ (j : Int) := by omega
      have k1 : (j : Int) < (l.length : Int) := by omega
      generalize l.getD j zeroF = f at *
      have HF1 := Lib.hid hF1
      have HF2 := Lib.hid hF2
      clear hF1 hF2
      go_upto_region 6 with fail
      try simp only [Act.put, List.setIfInBounds_toArray, List.set_cons_zero, List.set_cons_succ]
      go_cut [6, 7] (fun x y wx => ∃ g6 g7 : Nat, x = .pointer (some ⟨g6, 0, none⟩) ∧ y = .pointer (some ⟨g7, 0, none⟩) ∧ Hid (wx.heap[g6]? = some (frB f) ∧ wx.heap[g7]? = some (frB f) ∧ Below w.heap.size w wx))
      case first =>
        obtain ⟨cs, hcs⟩ : ∃ cs, cs = (cellsF f).toArray := ⟨_, rfl⟩
        refine wp_hold_act (fun a0 HA0 => ?_)
        have z0 : a0.tmps.size = 75 := by rw [HA0.out]; rfl
        have f0_0 : a0.eval (.tmp 0) = .slice (some ⟨b1, o1, none⟩) l.length c := by rw [HA0.out]; rfl
        have f0_1 : a0.eval (.tmp 1) = .slice (some ⟨b2, o2, none⟩) l.length d := by rw [HA0.out]; rfl
        have f0_5 : a0.eval (.tmp 5) = .int .i64 (j : Int) := by rw [HA0.out]; rfl
        refine wp_region_held_drew (S := fun w' => Below wr.heap.size wr w') (by kernel_rfl) (Below.refl _ _).drew (fun hS => ?_)
        refine wpAnyH_take (i := 0) (v := .slice (some ⟨b1, o1, none⟩) l.length c) rfl (by kernel_rfl) (by kernel_rfl) (by kernel_rfl) (fun _ _ _ h => h) (yields_move rfl (.tmp 0) rfl f0_0) hS ?_
        obtain ⟨a1, hA1⟩ : ∃ a', a' = a0.put (some 20) (.slice (some ⟨b1, o1, none⟩) l.length c) := ⟨_, rfl⟩
        change wpAnyH _ _ _ _ _ _ _ (a0.put (some 20) (.slice (some ⟨b1, o1, none⟩) l.length c)) _
        rw [← hA1]
        have f1_20 : a1.eval (.tmp 20) = .slice (some ⟨b1, o1, none⟩) l.length c := by rw [hA1]; exact Act.eval_put_same _ _ _ (by omega)
        have f1_0 : a1.eval (.tmp 0) = .slice (some ⟨b1, o1, none⟩) l.length c := by rw [hA1]; exact (Act.eval_put_ne _ _ _ _ (by decide)).trans f0_0
        have f1_1 : a1.eval (.tmp 1) = .slice (some ⟨b2, o2, none⟩) l.length d := by rw [hA1]; exact (Act.eval_put_ne _ _ _ _ (by decide)).trans f0_1
        have f1_5 : a1.eval (.tmp 5) = .int .i64 (j : Int) := by rw [hA1]; exact (Act.eval_put_ne _ _ _ _ (by decide)).trans f0_5
        have z1 : a1.tmps.size = 75 := by rw [hA1, Act.size_put]; exact z0
        have HA1 := Lib.hid hA1
        clear hA1 z0 f0_0 f0_1 f0_5
        refine wpAnyH_take (i := 1) (v := .int .i64 (j : Int)) rfl (by kernel_rfl) (by kernel_rfl) (by kernel_rfl) (fun _ _ _ h => h) (yields_move rfl (.tmp 5) rfl f1_5) hS ?_
        obtain ⟨a2, hA2⟩ : ∃ a', a' = a1.put (some 21) (.int .i64 (j : Int)) := ⟨_, rfl⟩
        change wpAnyH _ _ _ _ _ _ _ (a1.put (some 21) (.int .i64 (j : Int))) _
        rw [← hA2]
        have f2_21 : a2.eval (.tmp 21) = .int .i64 (j : Int) := by rw [hA2]; exact Act.eval_put_same _ _ _ (by omega)
        have f2_20 : a2.eval (.tmp 20) = .slice (some ⟨b1, o1, none⟩) l.length c := by rw [hA2]; exact (Act.eval_put_ne _ _ _ _ (by decide)).trans f1_20
        have f2_1 : a2.eval (.tmp 1) = .slice (some ⟨b2, o2, none⟩) l.length d := by rw [hA2]; exact (Act.eval_put_ne _ _ _ _ (by decide)).trans f1_1
        have f2_5 : a2.eval (.tmp 5) = .int .i64 (j : Int) := by rw [hA2]; exact (Act.eval_put_ne _ _ _ _ (by decide)).trans f1_5
        have z2 : a2.tmps.size = 75 := by rw [hA2, Act.size_put]; exact z1
        have HA2 := Lib.hid hA2
        clear hA2 z1 f1_20 f1_0 f1_1 f1_5
        refine wpAnyH_take (i := 2) (v := .pointer (some ⟨b1, o1 + j * 27, none⟩)) rfl (by kernel_rfl) (by kernel_rfl) (by kernel_rfl) (fun _ _ _ h => h) (yields_index rfl (.tmp 20) (.tmp 21) rfl _ _ _ _ j f2_20 f2_21 k0 k1) hS ?_
        obtain ⟨a3, hA3⟩ : ∃ a', a' = a2.put (some 22) (.pointer (some ⟨b1, o1 + j * 27, none⟩)) := ⟨_, rfl⟩
        change wpAnyH _ _ _ _ _ _ _ (a2.put (some 22) (.pointer (some ⟨b1, o1 + j * 27, none⟩))) _
        rw [← hA3]
        have f3_22 : a3.eval (.tmp 22) = .pointer (some ⟨b1, o1 + j * 27, none⟩) := by rw [hA3]; exact Act.eval_put_same _ _ _ (by omega)
        have f3_21 : a3.eval (.tmp 21) = .int .i64 (j : Int) := by rw [hA3]; exact (Act.eval_put_ne _ _ _ _ (by decide)).trans f2_21
        have f3_20 : a3.eval (.tmp 20) = .slice (some ⟨b1, o1, none⟩) l.length c := by rw [hA3]; exact (Act.eval_put_ne _ _ _ _ (by decide)).trans f2_20
        have f3_1 : a3.eval (.tmp 1) = .slice (some ⟨b2, o2, none⟩) l.length d := by rw [hA3]; exact (Act.eval_put_ne _ _ _ _ (by decide)).trans f2_1
        have f3_5 : a3.eval (.tmp 5) = .int .i64 (j : Int) := by rw [hA3]; exact (Act.eval_put_ne _ _ _ _ (by decide)).trans f2_5
        have z3 : a3.tmps.size = 75 := by rw [hA3, Act.size_put]; exact z2
        have HA3 := Lib.hid hA3
        clear hA3 z2 f2_21 f2_20 f2_1 f2_5
        refine wpAnyH_take (i := 3) (v := .agg cs) rfl (by kernel_rfl) (by kernel_rfl) (by kernel_rfl) (fun _ _ _ h => h) (by rw [hcs]; exact yieldsIf_load_mid (by rfl) _ (.tmp 22) rfl b1 (o1 + j * 27) f3_22 (cellsF f) _ (fun w' h => range_of (HF1.out.keep (h.block b1 (by assumption)))) Try.underlying56 rfl (sizeF (cellsF_length f))) hS ?_
        obtain ⟨a4, hA4⟩ : ∃ a', a' = a3.put (some 23) (.agg cs) := ⟨_, rfl⟩
        change wpAnyH _ _ _ _ _ _ _ (a3.put (some 23) (.agg cs)) _
        rw [← hA4]
        have f4_23 : a4.eval (.tmp 23) = .agg cs := by rw [hA4]; exact Act.eval_put_same _ _ _ (by omega)
        have f4_22 : a4.eval (.tmp 22) = .pointer (some ⟨b1, o1 + j * 27, none⟩) := by rw [hA4]; exact (Act.eval_put_ne _ _ _ _ (by decide)).trans f3_22
        have f4_1 : a4.eval (.tmp 1) = .slice (some ⟨b2, o2, none⟩) l.length d := by rw [hA4]; exact (Act.eval_put_ne _ _ _ _ (by decide)).trans f3_1
        have f4_5 : a4.eval (.tmp 5) = .int .i64 (j : Int) := by rw [hA4]; exact (Act.eval_put_ne _ _ _ _ (by decide)).trans f3_5
        have z4 : a4.tmps.size = 75 := by rw [hA4, Act.size_put]; exact z3
        have HA4 := Lib.hid hA4
        clear hA4 z3 f3_22 f3_21 f3_20 f3_1 f3_5
        refine wpAnyH_take (i := 4) (v := .slice (some ⟨b2, o2, none⟩) l.length d) rfl (by kernel_rfl) (by kernel_rfl) (by kernel_rfl) (fun _ _ _ h => h) (yields_move rfl (.tmp 1) rfl f4_1) hS ?_
        obtain ⟨a5, hA5⟩ : ∃ a', a' = a4.put (some 24) (.slice (some ⟨b2, o2, none⟩) l.length d) := ⟨_, rfl⟩
        change wpAnyH _ _ _ _ _ _ _ (a4.put (some 24) (.slice (some ⟨b2, o2, none⟩) l.length d)) _
        rw [← hA5]
        have f5_24 : a5.eval (.tmp 24) = .slice (some ⟨b2, o2, none⟩) l.length d := by rw [hA5]; exact Act.eval_put_same _ _ _ (by omega)
        have f5_23 : a5.eval (.tmp 23) = .agg cs := by rw [hA5]; exact (Act.eval_put_ne _ _ _ _ (by decide)).trans f4_23
        have f5_1 : a5.eval (.tmp 1) = .slice (some ⟨b2, o2, none⟩) l.length d := by rw [hA5]; exact (Act.eval_put_ne _ _ _ _ (by decide)).trans f4_1
        have f5_5 : a5.eval (.tmp 5) = .int .i64 (j : Int) := by rw [hA5]; exact (Act.eval_put_ne _ _ _ _ (by decide)).trans f4_5
        have z5 : a5.tmps.size = 75 := by rw [hA5, Act.size_put]; exact z4
        have HA5 := Lib.hid hA5
        clear hA5 z4 f4_23 f4_22 f4_1 f4_5
        refine wpAnyH_take (i := 5) (v := .int .i64 (j : Int)) rfl (by kernel_rfl) (by kernel_rfl) (by kernel_rfl) (fun _ _ _ h => h) (yields_move rfl (.tmp 5) rfl f5_5) hS ?_
        obtain ⟨a6, hA6⟩ : ∃ a', a' = a5.put (some 25) (.int .i64 (j : Int)) := ⟨_, rfl⟩
        change wpAnyH _ _ _ _ _ _ _ (a5.put (some 25) (.int .i64 (j : Int))) _
        rw [← hA6]
        have f6_25 : a6.eval (.tmp 25) = .int .i64 (j : Int) := by rw [hA6]; exact Act.eval_put_same _ _ _ (by omega)
        have f6_24 : a6.eval (.tmp 24) = .slice (some ⟨b2, o2, none⟩) l.length d := by rw [hA6]; exact (Act.eval_put_ne _ _ _ _ (by decide)).trans f5_24
        have f6_23 : a6.eval (.tmp 23) = .agg cs := by rw [hA6]; exact (Act.eval_put_ne _ _ _ _ (by decide)).trans f5_23
        have f6_5 : a6.eval (.tmp 5) = .int .i64 (j : Int) := by rw [hA6]; exact (Act.eval_put_ne _ _ _ _ (by decide)).trans f5_5
        have z6 : a6.tmps.size = 75 := by rw [hA6, Act.size_put]; exact z5
        have HA6 := Lib.hid hA6
        clear hA6 z5 f5_24 f5_23 f5_1 f5_5
        refine wpAnyH_take (i := 6) (v := .pointer (some ⟨b2, o2 + j * 27, none⟩)) rfl (by kernel_rfl) (by kernel_rfl) (by kernel_rfl) (fun _ _ _ h => h) (yields_index rfl (.tmp 24) (.tmp 25) rfl _ _ _ _ j f6_24 f6_25 k0 k1) hS ?_
        obtain ⟨a7, hA7⟩ : ∃ a', a' = a6.put (some 26) (.pointer (some ⟨b2, o2 + j * 27, none⟩)) := ⟨_, rfl⟩
        change wpAnyH _ _ _ _ _ _ _ (a6.put (some 26) (.pointer (some ⟨b2, o2 + j * 27, none⟩))) _
        rw [← hA7]
        have f7_26 : a7.eval (.tmp 26) = .pointer (some ⟨b2, o2 + j * 27, none⟩) := by rw [hA7]; exact Act.eval_put_same _ _ _ (by omega)
        have f7_25 : a7.eval (.tmp 25) = .int .i64 (j : Int) := by rw [hA7]; exact (Act.eval_put_ne _ _ _ _ (by decide)).trans f6_25
        have f7_24 : a7.eval (.tmp 24) = .slice (some ⟨b2, o2, none⟩) l.length d := by rw [hA7]; exact (Act.eval_put_ne _ _ _ _ (by decide)).trans f6_24
        have f7_23 : a7.eval (.tmp 23) = .agg cs := by rw [hA7]; exact (Act.eval_put_ne _ _ _ _ (by decide)).trans f6_23
        have z7 : a7.tmps.size = 75 := by rw [hA7, Act.size_put]; exact z6
        have HA7 := Lib.hid hA7
        clear hA7 z6 f6_25 f6_24 f6_23 f6_5
        refine wpAnyH_take (i := 7) (v := .agg cs) rfl (by kernel_rfl) (by kernel_rfl) (by kernel_rfl) (fun _ _ _ h => h) (by rw [hcs]; exact yieldsIf_load_mid (by rfl) _ (.tmp 26) rfl b2 (o2 + j * 27) f7_26 (cellsF f) _ (fun w' h => range_of (HF2.out.keep (h.block b2 (by assumption)))) Try.underlying56 rfl (sizeF (cellsF_length f))) hS ?_
        obtain ⟨a8, hA8⟩ : ∃ a', a' = a7.put (some 27) (.agg cs) := ⟨_, rfl⟩
        change wpAnyH _ _ _ _ _ _ _ (a7.put (some 27) (.agg cs)) _
        rw [← hA8]
        have f8_27 : a8.eval (.tmp 27) = .agg cs := by rw [hA8]; exact Act.eval_put_same _ _ _ (by omega)
        have f8_26 : a8.eval (.tmp 26) = .pointer (some ⟨b2, o2 + j * 27, none⟩) := by rw [hA8]; exact (Act.eval_put_ne _ _ _ _ (by decide)).trans f7_26
        have f8_23 : a8.eval (.tmp 23) = .agg cs := by rw [hA8]; exact (Act.eval_put_ne _ _ _ _ (by decide)).trans f7_23
        have z8 : a8.tmps.size = 75 := by rw [hA8, Act.size_put]; exact z7
        have HA8 := Lib.hid hA8
        clear hA8 z7 f7_26 f7_25 f7_24 f7_23
        refine wpAnyH_ready (rs := [8, 9]) (by kernel_rfl) (by simp) (AllReadyH.cons (by simp only [List.getElem?_toArray, List.getElem?_cons_succ, List.getElem?_cons_zero]; rfl) (fun K hK => ?_) (AllReadyH.cons (by simp only [List.getElem?_toArray, List.getElem?_cons_succ, List.getElem?_cons_zero]; rfl) (fun K hK => ?_) AllReadyH.nil))
        · refine step_alloc (by rfl) (by rfl) ?_
          have h6 := heap_alloc_new wr.drew (frB zeroF)
          refine hK.out _ _ (hS.alloc hS.size _) (fun hS => ?_)
          obtain ⟨a9, hA9⟩ : ∃ a', a' = a8.put (some 6) (.pointer (some ⟨wr.drew.heap.size, 0, none⟩)) := ⟨_, rfl⟩
          change wpAnyH _ _ _ _ _ _ _ (a8.put (some 6) (.pointer (some ⟨wr.drew.heap.size, 0, none⟩))) _
          rw [← hA9]
          have f9_6 : a9.eval (.tmp 6) = .pointer (some ⟨wr.drew.heap.size, 0, none⟩) := by rw [hA9]; exact Act.eval_put_same _ _ _ (by omega)
          have f9_27 : a9.eval (.tmp 27) = .agg cs := by rw [hA9]; exact (Act.eval_put_ne _ _ _ _ (by decide)).trans f8_27
          have f9_23 : a9.eval (.tmp 23) = .agg cs := by rw [hA9]; exact (Act.eval_put_ne _ _ _ _ (by decide)).trans f8_23
          have z9 : a9.tmps.size = 75 := by rw [hA9, Act.size_put]; exact z8
          have HA9 := Lib.hid hA9
          clear hA9 z8 f8_27 f8_26 f8_23
          refine wpAnyH_ready (rs := [9]) (by kernel_rfl) (by simp) (AllReadyH.cons (by simp only [List.getElem?_toArray, List.getElem?_cons_succ, List.getElem?_cons_zero]; rfl) (fun K hK => ?_) AllReadyH.nil)
          refine step_alloc (by rfl) (by rfl) ?_
          have h7 := heap_alloc_new (wr.drew.alloc (frB zeroF)) (frB zeroF)
          have hne := Nat.ne_of_lt (lt_of_block h6)
          have h6' := keepA h6 (frB zeroF)
          refine hK.out _ _ (hS.alloc hS.size _) (fun hS => ?_)
          obtain ⟨a10, hA10⟩ : ∃ a', a' = a9.put (some 7) (.pointer (some ⟨(wr.drew.alloc (frB zeroF)).heap.size, 0, none⟩)) := ⟨_, rfl⟩
          change wpAnyH _ _ _ _ _ _ _ (a9.put (some 7) (.pointer (some ⟨(wr.drew.alloc (frB zeroF)).heap.size, 0, none⟩))) _
          rw [← hA10]
          have f10_7 : a10.eval (.tmp 7) = .pointer (some ⟨(wr.drew.alloc (frB zeroF)).heap.size, 0, none⟩) := by rw [hA10]; exact Act.eval_put_same _ _ _ (by omega)
          have f10_6 : a10.eval (.tmp 6) = .pointer (some ⟨wr.drew.heap.size, 0, none⟩) := by rw [hA10]; exact (Act.eval_put_ne _ _ _ _ (by decide)).trans f9_6
          have f10_27 : a10.eval (.tmp 27) = .agg cs := by rw [hA10]; exact (Act.eval_put_ne _ _ _ _ (by decide)).trans f9_27
          have f10_23 : a10.eval (.tmp 23) = .agg cs := by rw [hA10]; exact (Act.eval_put_ne _ _ _ _ (by decide)).trans f9_23
          have z10 : a10.tmps.size = 75 := by rw [hA10, Act.size_put]; exact z9
          have HA10 := Lib.hid hA10
          clear hA10 z9 f9_6 f9_27 f9_23
          have hs6 : wr.heap.size ≤ (wr.drew.alloc (frB zeroF)).heap.size := by rw [World.size_alloc]; exact Nat.le_succ _
          refine wpAnyH_ready (rs := [10]) (by kernel_rfl) (by simp) (AllReadyH.cons (by simp only [List.getElem?_toArray, List.getElem?_cons_succ, List.getElem?_cons_zero]; rfl) (fun K hK => ?_) AllReadyH.nil)
          refine step_store (by rfl) (.tmp 6) (.tmp 23) (by rfl) (wr.drew.heap.size) zeroF f f10_6 (by rw [← hcs]; exact f10_23) h6' ?_
          have i1 := row_same (f := f) h6'
          have i2 := (row_far (cellsF f).toArray (hne.symm)).trans h7
          refine hK.out _ _ (row_below hS (Nat.le_refl _) _) (fun hS => ?_)
          change wpAnyH _ _ _ _ _ _ _ a10 _
          refine wpAnyH_ready (rs := [11]) (by kernel_rfl) (by simp) (AllReadyH.cons (by simp only [List.getElem?_toArray, List.getElem?_cons_succ, List.getElem?_cons_zero]; rfl) (fun K hK => ?_) AllReadyH.nil)
          refine step_store (by rfl) (.tmp 7) (.tmp 27) (by rfl) ((wr.drew.alloc (frB zeroF)).heap.size) zeroF f f10_7 (by rw [← hcs]; exact f10_27) i2 ?_
          have i3 := (row_far (cellsF f).toArray (hne)).trans i1
          have i4 := row_same (f := f) i2
          refine hK.out _ _ (row_below hS (hs6) _) (fun hS => ?_)
          change wpAnyH _ _ _ _ _ _ _ a10 _
          refine wpAnyH_done (by kernel_rfl) ?_ _
          have HS9 := Lib.hid hS
          have HI9 := Lib.hid (And.intro i3 i4)
          clear hS i1 i2 i3 i4 hK h6 h7 h6' hne hs6
          rw [HA10.out]
          rw [HA9.out]
          rw [HA8.out]
          rw [HA7.out]
          rw [HA6.out]
          rw [HA5.out]
          rw [HA4.out]
          rw [HA3.out]
          rw [HA2.out]
          rw [HA1.out]
          rw [HA0.out]
          simp only [Act.put, List.setIfInBounds_toArray, List.set_cons_zero, List.set_cons_succ]
          go_wp2_with fail
          go_meet
          exact ⟨_, _, rfl, rfl, Lib.hid ⟨HI9.out.1, HI9.out.2, HW.out.trans (HS9.out.mono HW.out.size)⟩⟩
        · refine step_alloc (by rfl) (by rfl) ?_
          have h7 := heap_alloc_new wr.drew (frB zeroF)
          refine hK.out _ _ (hS.alloc hS.size _) (fun hS => ?_)
          obtain ⟨a9, hA9⟩ : ∃ a', a' = a8.put (some 7) (.pointer (some ⟨wr.drew.heap.size, 0, none⟩)) := ⟨_, rfl⟩
          change wpAnyH _ _ _ _ _ _ _ (a8.put (some 7) (.pointer (some ⟨wr.drew.heap.size, 0, none⟩))) _
          rw [← hA9]
          have f9_7 : a9.eval (.tmp 7) = .pointer (some ⟨wr.drew.heap.size, 0, none⟩) := by rw [hA9]; exact Act.eval_put_same _ _ _ (by omega)
          have f9_27 : a9.eval (.tmp 27) = .agg cs := by rw [hA9]; exact (Act.eval_put_ne _ _ _ _ (by decide)).trans f8_27
          have f9_23 : a9.eval (.tmp 23) = .agg cs := by rw [hA9]; exact (Act.eval_put_ne _ _ _ _ (by decide)).trans f8_23
          have z9 : a9.tmps.size = 75 := by rw [hA9, Act.size_put]; exact z8
          have HA9 := Lib.hid hA9
          clear hA9 z8 f8_27 f8_26 f8_23
          refine wpAnyH_ready (rs := [8]) (by kernel_rfl) (by simp) (AllReadyH.cons (by simp only [List.getElem?_toArray, List.getElem?_cons_succ, List.getElem?_cons_zero]; rfl) (fun K hK => ?_) AllReadyH.nil)
          refine step_alloc (by rfl) (by rfl) ?_
          have h6 := heap_alloc_new (wr.drew.alloc (frB zeroF)) (frB zeroF)
          have hne := Nat.ne_of_lt (lt_of_block h7)
          have h7' := keepA h7 (frB zeroF)
          refine hK.out _ _ (hS.alloc hS.size _) (fun hS => ?_)
          obtain ⟨a10, hA10⟩ : ∃ a', a' = a9.put (some 6) (.pointer (some ⟨(wr.drew.alloc (frB zeroF)).heap.size, 0, none⟩)) := ⟨_, rfl⟩
          change wpAnyH _ _ _ _ _ _ _ (a9.put (some 6) (.pointer (some ⟨(wr.drew.alloc (frB zeroF)).heap.size, 0, none⟩))) _
          rw [← hA10]
          have f10_6 : a10.eval (.tmp 6) = .pointer (some ⟨(wr.drew.alloc (frB zeroF)).heap.size, 0, none⟩) := by rw [hA10]; exact Act.eval_put_same _ _ _ (by omega)
          have f10_7 : a10.eval (.tmp 7) = .pointer (some ⟨wr.drew.heap.size, 0, none⟩) := by rw [hA10]; exact (Act.eval_put_ne _ _ _ _ (by decide)).trans f9_7
          have f10_27 : a10.eval (.tmp 27) = .agg cs := by rw [hA10]; exact (Act.eval_put_ne _ _ _ _ (by decide)).trans f9_27
          have f10_23 : a10.eval (.tmp 23) = .agg cs := by rw [hA10]; exact (Act.eval_put_ne _ _ _ _ (by decide)).trans f9_23
          have z10 : a10.tmps.size = 75 := by rw [hA10, Act.size_put]; exact z9
          have HA10 := Lib.hid hA10
          clear hA10 z9 f9_7 f9_27 f9_23
          have hs6 : wr.heap.size ≤ (wr.drew.alloc (frB zeroF)).heap.size := by rw [World.size_alloc]; exact Nat.le_succ _
          refine wpAnyH_ready (rs := [10]) (by kernel_rfl) (by simp) (AllReadyH.cons (by simp only [List.getElem?_toArray, List.getElem?_cons_succ, List.getElem?_cons_zero]; rfl) (fun K hK => ?_) AllReadyH.nil)
          refine step_store (by rfl) (.tmp 6) (.tmp 23) (by rfl) ((wr.drew.alloc (frB zeroF)).heap.size) zeroF f f10_6 (by rw [← hcs]; exact f10_23) h6 ?_
          have i1 := row_same (f := f) h6
          have i2 := (row_far (cellsF f).toArray (hne)).trans h7'
          refine hK.out _ _ (row_below hS (hs6) _) (fun hS => ?_)
          change wpAnyH _ _ _ _ _ _ _ a10 _
          refine wpAnyH_ready (rs := [11]) (by kernel_rfl) (by simp) (AllReadyH.cons (by simp only [List.getElem?_toArray, List.getElem?_cons_succ, List.getElem?_cons_zero]; rfl) (fun K hK => ?_) AllReadyH.nil)
          refine step_store (by rfl) (.tmp 7) (.tmp 27) (by rfl) (wr.drew.heap.size) zeroF f f10_7 (by rw [← hcs]; exact f10_27) i2 ?_
          have i3 := (row_far (cellsF f).toArray (hne.symm)).trans i1
          have i4 := row_same (f := f) i2
          refine hK.out _ _ (row_below hS (Nat.le_refl _) _) (fun hS => ?_)
          change wpAnyH _ _ _ _ _ _ _ a10 _
          refine wpAnyH_done (by kernel_rfl) ?_ _
          have HS9 := Lib.hid hS
          have HI9 := Lib.hid (And.intro i3 i4)
          clear hS i1 i2 i3 i4 hK h6 h7 h7' hne hs6
          rw [HA10.out]
          rw [HA9.out]
          rw [HA8.out]
          rw [HA7.out]
          rw [HA6.out]
          rw [HA5.out]
          rw [HA4.out]
          rw [HA3.out]
          rw [HA2.out]
          rw [HA1.out]
          rw [HA0.out]
          simp only [Act.put, List.setIfInBounds_toArray, List.set_cons_zero, List.set_cons_succ]
          go_wp2_with fail
          go_meet
          exact ⟨_, _, rfl, rfl, Lib.hid ⟨HI9.out.1, HI9.out.2, HW.out.trans (HS9.out.mono HW.out.size)⟩⟩
      case rest =>
        obtain ⟨g6, g7, rfl, rfl, HG⟩ := hcut
        have hg := HG.out
        have x0 := cell_block hg.1 (k := 0) (by omega)
        have x1 := cell_block hg.1 (k := 1) (by omega)
        have x2 := cell_block hg.1 (k := 2) (by omega)
        have y0 := cell_block hg.2.1 (k := 0) (by omega)
        have y1 := cell_block hg.2.1 (k := 1) (by omega)
        have y2 := cell_block hg.2.1 (k := 2) (by omega)
        have p0 : (num f 0 != num f 0) = false := by simp
        have p1 : (num f 1 != num f 1) = false := by simp
        have p2 : (num f 2 != num f 2) = false := by simp
        clear hg hb1 hb2 HF1 HF2
        go_upto_region 9 with fail
        clear x0 x1 x2 y0 y1 y2 p0 p1 p2
        go_wp2_with fail
        go_loopw [8] (fun i wq => ∃ k : Nat, k ≤ 16 ∧ i = .int .i64 (k : Int) ∧ Hid (wq.heap[g6]? = some (frB f) ∧ wq.heap[g7]? = some (frB f) ∧ Below w.heap.size w wq)) (fun i _ => 16 - (intOf i).toNat)
        case atStart => exact ⟨0, by omega, rfl, HG⟩
        case round =>
          clear HG
          obtain ⟨k, hk, rfl, HG⟩ := hrel
          have hg := HG.out
          by_cases h16 : k < 16
          · have t0 : decide ((k : Int) < 16) = true := decide_eq_true (by omega)
            have s1 := cell_block hg.1 (k := 11 + k) (by omega)
            have s2 := cell_block hg.2.1 (k := 11 + k) (by omega)
            have p0 : (num f (11 + k) != num f (11 + k)) = false := by simp
            have n0 : (0 : Int) ≤ (k : Int) := by omega
            have n1 : (k : Int) < 16 := by omega
            by_cases h8 : k < 8
            · have t1 : decide ((k : Int) < 8) = true := decide_eq_true (by omega)
              have l1 := cell_block hg.1 (k := 3 + k) (by omega)
              have l2 := cell_block hg.2.1 (k := 3 + k) (by omega)
              have p1 : (num f (3 + k) != num f (3 + k)) = false := by simp
              have n2 : (k : Int) < 8 := by omega
              clear hg
              go_upto_region 12 with fail
              go_quiet (fail)
              go_wp2
              go_roundw
              case rel => exact ⟨k + 1, by omega, by go_num, Lib.hid ⟨HG.out.1, HG.out.2.1, below_drewN2 HG.out.2.2 _⟩⟩
              case measure => simp [intOf]; omega
            · have t1 : decide ((k : Int) < 8) = false := decide_eq_false (by omega)
              clear hg
              go_upto_region 12 with fail
              go_quiet (fail)
              go_wp2
              go_roundw
              case rel => exact ⟨k + 1, by omega, by go_num, Lib.hid ⟨HG.out.1, HG.out.2.1, below_drewN2 HG.out.2.2 _⟩⟩
              case measure => simp [intOf]; omega
          · obtain rfl : k = 16 := by omega
            have t0 : decide (((16 : Nat) : Int) < 16) = false := decide_eq_false (by omega)
            clear hg
            go_wp2
            go_roundw
            case rel => exact ⟨j + 1, by omega, by go_num, Lib.hid HG.out.2.2⟩
            case measure => simp [intOf]; omega
    · obtain rfl : j = l.length := by omega
      have q1 : decide ((l.length : Int) < (l.length : Int)) = false := decide_eq_false (by omega)
      go_wp2
      go_ret
      exact ⟨rfl, HW.out⟩
end Go.Proofs.Ytlkcpplpjjbiaaa.frames
