/-
  What is not there, and that zero rights are like new ones. No condition. Printed by tools/mkriplays.py.
-/
import Derived.Test.YtjedinodopcdaaaDoorRiTwo
import Derived.LoopTactic
import Derived.Deep.DeepCutAuto
namespace Go.Proofs.YtjedinodopcdaaaDoor.rig
open Go.RowKit Go.ChangeShapes
open Go.Proofs.YtjedinodopcdaaaDoor.obj
open Go.Proofs.YtjedinodopcdaaaDoor.bits (Is64 hasB minus)
open Go.Proofs.YtjedinodopcdaaaDoor.bits.one (Okt okt_mono)
set_option linter.unusedVariables false
set_option linter.unusedSimpArgs false

section
variable {ops : Array Oper} {S : World → Prop} {o : Oper} {a : Act}
theorem yields_eqnil (hg : o.guard = none) (x y : Operand) (ho : o.op = .binOp .eql 23 x y 23) (hx : a.eval x = .pointer none) (hy : a.eval y = .pointer none) : YieldsIf Tryd.prog ops S o (.bool true) a :=
  .inl ⟨by simp [Region.wanted, hg], fun w' _ => by
    unfold execOp
    simp only [ho, hx, hy]
    go_simp⟩
theorem yields_rbuild (hg : o.guard = none) (ho : o.op = .build 28 #[]) : YieldsIf Tryd.prog ops S o (rV zerosR) a :=
  .inl ⟨by simp [Region.wanted, hg], fun w' _ => by
    have e : ((#[] : Array (Nat × Operand)).map fun (i, x) => (i, a.eval x)).toList = [] := by simp
    have hr : (Instr.build 28 #[]).run Tryd.prog w' = .ok (.agg (rC zerosR).toArray) w' := run_build w' _ _ _ r_built
    unfold execOp
    simp only [ho]
    simp [hr, Sem.run_bind, Sem.run_pure, Result.andThen, rV]⟩
end
/-- While all is told: the call's box, and zero rights behind it. -/
structure Nz (w : World) (l : List Nat) (k f t : Int) (m : Nat) (W : World) : Prop where
  hs : Ls w (w.heap.size + 1) l W
  b1 : W.heap[w.heap.size]? = some (.cells #[.int .i64 k, .int .i64 f, .int .i64 t, .int .u64 (m : Int)] 31 (0, 0))
section
variable {w W W' : World} {l l' : List Nat} {k f t : Int} {m : Nat}
theorem Nz.next (h : Nz w l k f t m W) (hb : Below W.heap.size W W') : Nz w l k f t m W' := ⟨h.hs.next hb, (hb.block _ (lt_of_block h.b1)).trans h.b1⟩
theorem Nz.drew (h : Nz w l k f t m W) : Nz w l k f t m W.drew := h.next ((Below.refl _ W).drew)
theorem Nz.cells (h : Nz w l k f t m W) : W.cell? ⟨w.heap.size, 0, none⟩ = some (.int .i64 k) ∧ W.cell? ⟨w.heap.size, 1, none⟩ = some (.int .i64 f) ∧ W.cell? ⟨w.heap.size, 2, none⟩ = some (.int .i64 t) ∧ W.cell? ⟨w.heap.size, 3, none⟩ = some (.int .u64 (m : Int)) := cells4 h.b1
theorem nz_new (w : World) (k f t : Int) (m : Nat) : Nz w zerosR k f t m ((w.alloc (.cells #[.int .i64 k, .int .i64 f, .int .i64 t, .int .u64 (m : Int)] 31)).alloc (riO none)) := by
  have z1 : (w.alloc (.cells #[.int .i64 k, .int .i64 f, .int .i64 t, .int .u64 (m : Int)] 31)).heap.size = w.heap.size + 1 := World.size_alloc _ _
  have h := ls_new ((Below.refl w.heap.size w).alloc (Nat.le_refl _) (.cells #[.int .i64 k, .int .i64 f, .int .i64 t, .int .u64 (m : Int)] 31))
  rw [z1] at h
  exact ⟨h, (Below.heap_alloc _ _ _ (by omega)).trans (heap_alloc_new w _)⟩
theorem Nz.move (h : Nz w l k f t m W) (hs : Ls w (w.heap.size + 1) l' W') (hk : Kept (w.heap.size + 1) W W') : Nz w l' k f t m W' :=
  ⟨hs, hk.2 _ _ (by omega) h.b1 (by intro es c e; cases e)⟩
end
theorem ret_nil {W : World} {act : Act} {Q : Ending → World → Prop} {b : Bool} (h4 : act.tmps[4]?.getD undef = .bool b) (hd : act.defers = []) (hQ : Q (.returned (.bool b)) W) : bodyPost Tryd.prog Tryd.f6 Q .ret act W := by
  refine bodyPost_ret (v := .bool b) ?_ hd hQ
  simp [results, Tryd.results6, asAddr, h4, Sem.run_bind, Sem.run_pure, Result.andThen]
set_option maxRecDepth 100000 in
set_option maxHeartbeats 8000000 in
theorem nil_walk (k f t : Int) (m : Nat) (o : Int) (w : World) (hf : I64 f) (ht : I64 t) (hm : Is64 m) (ho : I64 o) (hOk : Okt w) :
    Calls Tryd.prog 6 #[opV k f t m, .int .i64 o] w fun e w' => e = .returned (.bool true) ∧ Below w.heap.size w w' := by
  have HOk := Lib.hid hOk
  have HIk := Lib.hid (And.intro hf (And.intro ht hm))
  have HL : ∀ W, Below w.heap.size w W → Hid (Calls Tryd.prog 12 #[] W fun e w' => e = .returned (.bool true) ∧ Below W.heap.size W w') := fun W h => Lib.hid (lives_any W (okt_mono _ _ HOk.out h))
  have HZ := Lib.hid (nz_new w k f t m)
  have z1 : (w.alloc (.cells #[.int .i64 k, .int .i64 f, .int .i64 t, .int .u64 (m : Int)] 31)).heap.size = w.heap.size + 1 := World.size_alloc _ _
  have HRd := fun W => Lib.hid (refDo21_any zerosR k f t m W zero_fine hm)
  obtain ⟨l2, hl2⟩ : ∃ l2, l2 = doR zerosR k f t m := ⟨_, rfl⟩
  rw [← hl2] at HRd
  have HL2 := Lib.hid hl2
  have HRo := fun W => Lib.hid (refOf21_any l2 t W)
  clear hf ht hm hl2 ho
  unfold opV
  go_enter Tryd.func6, Tryd.ntmps6
  go_upto_region 3 with fail
  try rw [z1]
  unfold riO at HZ
  generalize (w.alloc (.cells #[.int .i64 k, .int .i64 f, .int .i64 t, .int .u64 (m : Int)] 31)).alloc (.cells #[.map none] 40) = W1 at *
  have HDn := Lib.hid (do_nil W1 k f t m HIk.out.2.2)
  unfold opV at HDn
  go_wp2_with (first | refine wop_load rfl _ rfl w.heap.size 0 k f t m rfl HZ.out.cells ?_)
  refine HDn.out.mono ?_
  rintro _ w2 ⟨rfl, hb⟩
  have HZ2 := Lib.hid (HZ.out.next hb)
  clear hb HDn HZ z1
  have HDo := Lib.hid (HZ2.out.hs.c_do k f t m HIk.out.1 HIk.out.2.1 HIk.out.2.2 HOk.out)
  rw [← HL2.out] at HDo
  unfold opV at HDo
  go_wp2_with (first | refine wop_load rfl _ rfl w.heap.size 0 k f t m rfl HZ2.out.cells ?_)
  refine HDo.out.mono ?_
  rintro _ w3 ⟨rfl, h1, h2⟩
  have HZ3 := Lib.hid (HZ2.out.move h1 h2)
  clear h1 h2 HDo HZ2
  go_upto_region 5 with fail
  refine wp_hold_act (fun a0 HA0 => ?_)
  have z0 : a0.tmps.size = 55 := by rw [HA0.out]; rfl
  have dd0 : a0.defers = [] := by rw [HA0.out]
  have f0_1 : a0.eval (.tmp 1) = .int .i64 o := by rw [HA0.out]; rfl
  have f0_2 : a0.eval (.tmp 2) = .pointer (some ⟨w.heap.size, 0, none⟩) := by rw [HA0.out]; rfl
  have f0_5 : a0.eval (.tmp 5) = .pointer none := by rw [HA0.out]; rfl
  have f0_6 : a0.eval (.tmp 6) = .pointer (some ⟨w.heap.size + 1, 0, none⟩) := by rw [HA0.out]; rfl
  clear HA0
  refine wp_region_held_drew (S := fun w' => Nz w l2 k f t m w') (by kernel_rfl) (HZ3.out.drew) (fun hS => ?_)
  refine wpAnyH_take (i := 0) (v := .pointer none) rfl (by kernel_rfl) (by kernel_rfl) (by kernel_rfl) (fun _ _ _ h => h) (yields_move rfl (.tmp 5) rfl f0_5) hS ?_
  obtain ⟨a1, hA1⟩ : ∃ a', a' = a0.put (some 15) (.pointer none) := ⟨_, rfl⟩
  change wpAnyH _ _ _ _ _ _ _ (a0.put (some 15) (.pointer none)) _
  rw [← hA1]
  have f1_15 : a1.eval (.tmp 15) = .pointer none := by rw [hA1]; exact Act.eval_put_same _ _ _ (by omega)
  have f1_1 : a1.eval (.tmp 1) = .int .i64 o := by rw [hA1]; exact (Act.eval_put_ne _ _ _ _ (by decide)).trans f0_1
  have f1_2 : a1.eval (.tmp 2) = .pointer (some ⟨w.heap.size, 0, none⟩) := by rw [hA1]; exact (Act.eval_put_ne _ _ _ _ (by decide)).trans f0_2
  have f1_5 : a1.eval (.tmp 5) = .pointer none := by rw [hA1]; exact (Act.eval_put_ne _ _ _ _ (by decide)).trans f0_5
  have f1_6 : a1.eval (.tmp 6) = .pointer (some ⟨w.heap.size + 1, 0, none⟩) := by rw [hA1]; exact (Act.eval_put_ne _ _ _ _ (by decide)).trans f0_6
  have z1 : a1.tmps.size = 55 := by rw [hA1, Act.size_put]; exact z0
  have dd1 : a1.defers = [] := by rw [hA1, Act.defers_put']; exact dd0
  clear hA1 z0 dd0 f0_1 f0_2 f0_5 f0_6
  refine wpAnyH_take (i := 1) (v := .pointer (some ⟨w.heap.size, 2, none⟩)) rfl (by kernel_rfl) (by kernel_rfl) (by kernel_rfl) (fun _ _ _ h => h) (yields_fop rfl (.tmp 2) 2 (by omega) rfl _ _ f1_2 _ rfl) hS ?_
  obtain ⟨a2, hA2⟩ : ∃ a', a' = a1.put (some 16) (.pointer (some ⟨w.heap.size, 2, none⟩)) := ⟨_, rfl⟩
  change wpAnyH _ _ _ _ _ _ _ (a1.put (some 16) (.pointer (some ⟨w.heap.size, 2, none⟩))) _
  rw [← hA2]
  have f2_16 : a2.eval (.tmp 16) = .pointer (some ⟨w.heap.size, 2, none⟩) := by rw [hA2]; exact Act.eval_put_same _ _ _ (by omega)
  have f2_15 : a2.eval (.tmp 15) = .pointer none := by rw [hA2]; exact (Act.eval_put_ne _ _ _ _ (by decide)).trans f1_15
  have f2_1 : a2.eval (.tmp 1) = .int .i64 o := by rw [hA2]; exact (Act.eval_put_ne _ _ _ _ (by decide)).trans f1_1
  have f2_2 : a2.eval (.tmp 2) = .pointer (some ⟨w.heap.size, 0, none⟩) := by rw [hA2]; exact (Act.eval_put_ne _ _ _ _ (by decide)).trans f1_2
  have f2_5 : a2.eval (.tmp 5) = .pointer none := by rw [hA2]; exact (Act.eval_put_ne _ _ _ _ (by decide)).trans f1_5
  have f2_6 : a2.eval (.tmp 6) = .pointer (some ⟨w.heap.size + 1, 0, none⟩) := by rw [hA2]; exact (Act.eval_put_ne _ _ _ _ (by decide)).trans f1_6
  have z2 : a2.tmps.size = 55 := by rw [hA2, Act.size_put]; exact z1
  have dd2 : a2.defers = [] := by rw [hA2, Act.defers_put']; exact dd1
  clear hA2 z1 dd1 f1_15 f1_1 f1_2 f1_5 f1_6
  refine wpAnyH_take (i := 2) (v := .int .i64 t) rfl (by kernel_rfl) (by kernel_rfl) (by kernel_rfl) (fun _ _ _ h => h) (yields_int rfl (.tmp 16) rfl _ f2_16 t (fun _ h => h.cells.2.2.1)) hS ?_
  obtain ⟨a3, hA3⟩ : ∃ a', a' = a2.put (some 17) (.int .i64 t) := ⟨_, rfl⟩
  change wpAnyH _ _ _ _ _ _ _ (a2.put (some 17) (.int .i64 t)) _
  rw [← hA3]
  have f3_17 : a3.eval (.tmp 17) = .int .i64 t := by rw [hA3]; exact Act.eval_put_same _ _ _ (by omega)
  have f3_15 : a3.eval (.tmp 15) = .pointer none := by rw [hA3]; exact (Act.eval_put_ne _ _ _ _ (by decide)).trans f2_15
  have f3_1 : a3.eval (.tmp 1) = .int .i64 o := by rw [hA3]; exact (Act.eval_put_ne _ _ _ _ (by decide)).trans f2_1
  have f3_2 : a3.eval (.tmp 2) = .pointer (some ⟨w.heap.size, 0, none⟩) := by rw [hA3]; exact (Act.eval_put_ne _ _ _ _ (by decide)).trans f2_2
  have f3_5 : a3.eval (.tmp 5) = .pointer none := by rw [hA3]; exact (Act.eval_put_ne _ _ _ _ (by decide)).trans f2_5
  have f3_6 : a3.eval (.tmp 6) = .pointer (some ⟨w.heap.size + 1, 0, none⟩) := by rw [hA3]; exact (Act.eval_put_ne _ _ _ _ (by decide)).trans f2_6
  have z3 : a3.tmps.size = 55 := by rw [hA3, Act.size_put]; exact z2
  have dd3 : a3.defers = [] := by rw [hA3, Act.defers_put']; exact dd2
  clear hA3 z2 dd2 f2_16 f2_15 f2_1 f2_2 f2_5 f2_6
  refine wpAnyH_ready (rs := [3]) (by kernel_rfl) (by simp) (AllReadyH.cons (by simp only [List.getElem?_toArray, List.getElem?_cons_succ, List.getElem?_cons_zero]; rfl) (fun K hK => ?_) AllReadyH.nil)
  refine step_call (by rfl) 11 #[.tmp 15, .tmp 17] #[23, 3] (by rfl) #[.pointer none, .int .i64 t] (by simp only [List.map_toArray, List.map_cons, List.map_nil, f3_15, f3_17]) Tryd.func11 (by kernel_rfl) rfl (of_nil _ t) (fun e w' hR => ?_)
  obtain ⟨rfl, rfl⟩ := hR
  refine ⟨_, rfl, hK.out _ _ (hS) (fun hS => ?_)⟩
  obtain ⟨a4, hA4⟩ : ∃ a', a' = a3.put (some 18) (.int .u64 0) := ⟨_, rfl⟩
  change wpAnyH _ _ _ _ _ _ _ (a3.put (some 18) (.int .u64 0)) _
  rw [← hA4]
  have f4_18 : a4.eval (.tmp 18) = .int .u64 0 := by rw [hA4]; exact Act.eval_put_same _ _ _ (by omega)
  have f4_1 : a4.eval (.tmp 1) = .int .i64 o := by rw [hA4]; exact (Act.eval_put_ne _ _ _ _ (by decide)).trans f3_1
  have f4_2 : a4.eval (.tmp 2) = .pointer (some ⟨w.heap.size, 0, none⟩) := by rw [hA4]; exact (Act.eval_put_ne _ _ _ _ (by decide)).trans f3_2
  have f4_5 : a4.eval (.tmp 5) = .pointer none := by rw [hA4]; exact (Act.eval_put_ne _ _ _ _ (by decide)).trans f3_5
  have f4_6 : a4.eval (.tmp 6) = .pointer (some ⟨w.heap.size + 1, 0, none⟩) := by rw [hA4]; exact (Act.eval_put_ne _ _ _ _ (by decide)).trans f3_6
  have z4 : a4.tmps.size = 55 := by rw [hA4, Act.size_put]; exact z3
  have dd4 : a4.defers = [] := by rw [hA4, Act.defers_put']; exact dd3
  clear hA4 z3 dd3 f3_17 f3_15 f3_1 f3_2 f3_5 f3_6
  refine wpAnyH_take (i := 4) (v := .bool true) rfl (by kernel_rfl) (by kernel_rfl) (by kernel_rfl) (fun _ _ _ h => h) (yields_equ rfl (.tmp 18) (.const (.int .u64 0)) rfl _ _ f4_18 rfl true (beq_self_eq_true _)) hS ?_
  obtain ⟨a5, hA5⟩ : ∃ a', a' = a4.put (some 19) (.bool true) := ⟨_, rfl⟩
  change wpAnyH _ _ _ _ _ _ _ (a4.put (some 19) (.bool true)) _
  rw [← hA5]
  have f5_19 : a5.eval (.tmp 19) = .bool true := by rw [hA5]; exact Act.eval_put_same _ _ _ (by omega)
  have f5_1 : a5.eval (.tmp 1) = .int .i64 o := by rw [hA5]; exact (Act.eval_put_ne _ _ _ _ (by decide)).trans f4_1
  have f5_2 : a5.eval (.tmp 2) = .pointer (some ⟨w.heap.size, 0, none⟩) := by rw [hA5]; exact (Act.eval_put_ne _ _ _ _ (by decide)).trans f4_2
  have f5_5 : a5.eval (.tmp 5) = .pointer none := by rw [hA5]; exact (Act.eval_put_ne _ _ _ _ (by decide)).trans f4_5
  have f5_6 : a5.eval (.tmp 6) = .pointer (some ⟨w.heap.size + 1, 0, none⟩) := by rw [hA5]; exact (Act.eval_put_ne _ _ _ _ (by decide)).trans f4_6
  have z5 : a5.tmps.size = 55 := by rw [hA5, Act.size_put]; exact z4
  have dd5 : a5.defers = [] := by rw [hA5, Act.defers_put']; exact dd4
  clear hA5 z4 dd4 f4_18 f4_1 f4_2 f4_5 f4_6
  refine wpAnyH_take (i := 5) (v := .bool true) rfl (by kernel_rfl) (by kernel_rfl) (by kernel_rfl) (fun _ _ _ h => h) (yields_move rfl (.tmp 19) rfl f5_19) hS ?_
  obtain ⟨a6, hA6⟩ : ∃ a', a' = a5.put (some 20) (.bool true) := ⟨_, rfl⟩
  change wpAnyH _ _ _ _ _ _ _ (a5.put (some 20) (.bool true)) _
  rw [← hA6]
  have f6_20 : a6.eval (.tmp 20) = .bool true := by rw [hA6]; exact Act.eval_put_same _ _ _ (by omega)
  have f6_1 : a6.eval (.tmp 1) = .int .i64 o := by rw [hA6]; exact (Act.eval_put_ne _ _ _ _ (by decide)).trans f5_1
  have f6_2 : a6.eval (.tmp 2) = .pointer (some ⟨w.heap.size, 0, none⟩) := by rw [hA6]; exact (Act.eval_put_ne _ _ _ _ (by decide)).trans f5_2
  have f6_5 : a6.eval (.tmp 5) = .pointer none := by rw [hA6]; exact (Act.eval_put_ne _ _ _ _ (by decide)).trans f5_5
  have f6_6 : a6.eval (.tmp 6) = .pointer (some ⟨w.heap.size + 1, 0, none⟩) := by rw [hA6]; exact (Act.eval_put_ne _ _ _ _ (by decide)).trans f5_6
  have z6 : a6.tmps.size = 55 := by rw [hA6, Act.size_put]; exact z5
  have dd6 : a6.defers = [] := by rw [hA6, Act.defers_put']; exact dd5
  clear hA6 z5 dd5 f5_19 f5_1 f5_2 f5_5 f5_6
  refine wpAnyH_take (i := 6) (v := .pointer none) rfl (by kernel_rfl) (by kernel_rfl) (by kernel_rfl) (fun _ _ _ h => h) (yields_guarded 5 20 true rfl rfl f6_20 (yields_move rfl (.tmp 5) rfl f6_5)) hS ?_
  obtain ⟨a7, hA7⟩ : ∃ a', a' = a6.put (some 21) (.pointer none) := ⟨_, rfl⟩
  change wpAnyH _ _ _ _ _ _ _ (a6.put (some 21) (.pointer none)) _
  rw [← hA7]
  have f7_21 : a7.eval (.tmp 21) = .pointer none := by rw [hA7]; exact Act.eval_put_same _ _ _ (by omega)
  have f7_20 : a7.eval (.tmp 20) = .bool true := by rw [hA7]; exact (Act.eval_put_ne _ _ _ _ (by decide)).trans f6_20
  have f7_1 : a7.eval (.tmp 1) = .int .i64 o := by rw [hA7]; exact (Act.eval_put_ne _ _ _ _ (by decide)).trans f6_1
  have f7_2 : a7.eval (.tmp 2) = .pointer (some ⟨w.heap.size, 0, none⟩) := by rw [hA7]; exact (Act.eval_put_ne _ _ _ _ (by decide)).trans f6_2
  have f7_5 : a7.eval (.tmp 5) = .pointer none := by rw [hA7]; exact (Act.eval_put_ne _ _ _ _ (by decide)).trans f6_5
  have f7_6 : a7.eval (.tmp 6) = .pointer (some ⟨w.heap.size + 1, 0, none⟩) := by rw [hA7]; exact (Act.eval_put_ne _ _ _ _ (by decide)).trans f6_6
  have z7 : a7.tmps.size = 55 := by rw [hA7, Act.size_put]; exact z6
  have dd7 : a7.defers = [] := by rw [hA7, Act.defers_put']; exact dd6
  clear hA7 z6 dd6 f6_20 f6_1 f6_2 f6_5 f6_6
  refine wpAnyH_take (i := 7) (v := .int .i64 o) rfl (by kernel_rfl) (by kernel_rfl) (by kernel_rfl) (fun _ _ _ h => h) (yields_guarded 5 20 true rfl rfl f7_20 (yields_move rfl (.tmp 1) rfl f7_1)) hS ?_
  obtain ⟨a8, hA8⟩ : ∃ a', a' = a7.put (some 22) (.int .i64 o) := ⟨_, rfl⟩
  change wpAnyH _ _ _ _ _ _ _ (a7.put (some 22) (.int .i64 o)) _
  rw [← hA8]
  have f8_22 : a8.eval (.tmp 22) = .int .i64 o := by rw [hA8]; exact Act.eval_put_same _ _ _ (by omega)
  have f8_21 : a8.eval (.tmp 21) = .pointer none := by rw [hA8]; exact (Act.eval_put_ne _ _ _ _ (by decide)).trans f7_21
  have f8_20 : a8.eval (.tmp 20) = .bool true := by rw [hA8]; exact (Act.eval_put_ne _ _ _ _ (by decide)).trans f7_20
  have f8_1 : a8.eval (.tmp 1) = .int .i64 o := by rw [hA8]; exact (Act.eval_put_ne _ _ _ _ (by decide)).trans f7_1
  have f8_2 : a8.eval (.tmp 2) = .pointer (some ⟨w.heap.size, 0, none⟩) := by rw [hA8]; exact (Act.eval_put_ne _ _ _ _ (by decide)).trans f7_2
  have f8_5 : a8.eval (.tmp 5) = .pointer none := by rw [hA8]; exact (Act.eval_put_ne _ _ _ _ (by decide)).trans f7_5
  have f8_6 : a8.eval (.tmp 6) = .pointer (some ⟨w.heap.size + 1, 0, none⟩) := by rw [hA8]; exact (Act.eval_put_ne _ _ _ _ (by decide)).trans f7_6
  have z8 : a8.tmps.size = 55 := by rw [hA8, Act.size_put]; exact z7
  have dd8 : a8.defers = [] := by rw [hA8, Act.defers_put']; exact dd7
  clear hA8 z7 dd7 f7_21 f7_20 f7_1 f7_2 f7_5 f7_6
  refine wpAnyH_ready (rs := [8]) (by kernel_rfl) (by simp) (AllReadyH.cons (by simp only [List.getElem?_toArray, List.getElem?_cons_succ, List.getElem?_cons_zero]; rfl) (fun K hK => ?_) AllReadyH.nil)
  refine step_callg 5 20 true (by rfl) (by rfl) f8_20 13 #[.tmp 21, .tmp 22] #[23, 3] (by rfl) #[.pointer none, .int .i64 o] (by simp only [List.map_toArray, List.map_cons, List.map_nil, f8_21, f8_22]) Tryd.func13 (by kernel_rfl) rfl (who_nil _ o) (fun e w' hR => ?_)
  obtain ⟨rfl, rfl⟩ := hR
  refine ⟨_, rfl, hK.out _ _ (hS) (fun hS => ?_)⟩
  obtain ⟨a9, hA9⟩ : ∃ a', a' = a8.put (some 23) (.int .u64 0) := ⟨_, rfl⟩
  change wpAnyH _ _ _ _ _ _ _ (a8.put (some 23) (.int .u64 0)) _
  rw [← hA9]
  have f9_23 : a9.eval (.tmp 23) = .int .u64 0 := by rw [hA9]; exact Act.eval_put_same _ _ _ (by omega)
  have f9_20 : a9.eval (.tmp 20) = .bool true := by rw [hA9]; exact (Act.eval_put_ne _ _ _ _ (by decide)).trans f8_20
  have f9_1 : a9.eval (.tmp 1) = .int .i64 o := by rw [hA9]; exact (Act.eval_put_ne _ _ _ _ (by decide)).trans f8_1
  have f9_2 : a9.eval (.tmp 2) = .pointer (some ⟨w.heap.size, 0, none⟩) := by rw [hA9]; exact (Act.eval_put_ne _ _ _ _ (by decide)).trans f8_2
  have f9_5 : a9.eval (.tmp 5) = .pointer none := by rw [hA9]; exact (Act.eval_put_ne _ _ _ _ (by decide)).trans f8_5
  have f9_6 : a9.eval (.tmp 6) = .pointer (some ⟨w.heap.size + 1, 0, none⟩) := by rw [hA9]; exact (Act.eval_put_ne _ _ _ _ (by decide)).trans f8_6
  have z9 : a9.tmps.size = 55 := by rw [hA9, Act.size_put]; exact z8
  have dd9 : a9.defers = [] := by rw [hA9, Act.defers_put']; exact dd8
  clear hA9 z8 dd8 f8_22 f8_21 f8_20 f8_1 f8_2 f8_5 f8_6
  refine wpAnyH_take (i := 9) (v := .bool true) rfl (by kernel_rfl) (by kernel_rfl) (by kernel_rfl) (fun _ _ _ h => h) (yields_guarded 5 20 true rfl rfl f9_20 (yields_equ rfl (.tmp 23) (.const (.int .u64 0)) rfl _ _ f9_23 rfl true (beq_self_eq_true _))) hS ?_
  obtain ⟨a10, hA10⟩ : ∃ a', a' = a9.put (some 24) (.bool true) := ⟨_, rfl⟩
  change wpAnyH _ _ _ _ _ _ _ (a9.put (some 24) (.bool true)) _
  rw [← hA10]
  have f10_24 : a10.eval (.tmp 24) = .bool true := by rw [hA10]; exact Act.eval_put_same _ _ _ (by omega)
  have f10_20 : a10.eval (.tmp 20) = .bool true := by rw [hA10]; exact (Act.eval_put_ne _ _ _ _ (by decide)).trans f9_20
  have f10_1 : a10.eval (.tmp 1) = .int .i64 o := by rw [hA10]; exact (Act.eval_put_ne _ _ _ _ (by decide)).trans f9_1
  have f10_2 : a10.eval (.tmp 2) = .pointer (some ⟨w.heap.size, 0, none⟩) := by rw [hA10]; exact (Act.eval_put_ne _ _ _ _ (by decide)).trans f9_2
  have f10_5 : a10.eval (.tmp 5) = .pointer none := by rw [hA10]; exact (Act.eval_put_ne _ _ _ _ (by decide)).trans f9_5
  have f10_6 : a10.eval (.tmp 6) = .pointer (some ⟨w.heap.size + 1, 0, none⟩) := by rw [hA10]; exact (Act.eval_put_ne _ _ _ _ (by decide)).trans f9_6
  have z10 : a10.tmps.size = 55 := by rw [hA10, Act.size_put]; exact z9
  have dd10 : a10.defers = [] := by rw [hA10, Act.defers_put']; exact dd9
  clear hA10 z9 dd9 f9_23 f9_20 f9_1 f9_2 f9_5 f9_6
  refine wpAnyH_take (i := 10) (v := .bool true) rfl (by kernel_rfl) (by kernel_rfl) (by kernel_rfl) (fun _ _ _ h => h) (yields_pick rfl (.tmp 20) (.tmp 24) (.const (.bool false)) rfl true f10_20 f10_24) hS ?_
  obtain ⟨a11, hA11⟩ : ∃ a', a' = a10.put (some 25) (.bool true) := ⟨_, rfl⟩
  change wpAnyH _ _ _ _ _ _ _ (a10.put (some 25) (.bool true)) _
  rw [← hA11]
  have f11_25 : a11.eval (.tmp 25) = .bool true := by rw [hA11]; exact Act.eval_put_same _ _ _ (by omega)
  have f11_1 : a11.eval (.tmp 1) = .int .i64 o := by rw [hA11]; exact (Act.eval_put_ne _ _ _ _ (by decide)).trans f10_1
  have f11_2 : a11.eval (.tmp 2) = .pointer (some ⟨w.heap.size, 0, none⟩) := by rw [hA11]; exact (Act.eval_put_ne _ _ _ _ (by decide)).trans f10_2
  have f11_5 : a11.eval (.tmp 5) = .pointer none := by rw [hA11]; exact (Act.eval_put_ne _ _ _ _ (by decide)).trans f10_5
  have f11_6 : a11.eval (.tmp 6) = .pointer (some ⟨w.heap.size + 1, 0, none⟩) := by rw [hA11]; exact (Act.eval_put_ne _ _ _ _ (by decide)).trans f10_6
  have z11 : a11.tmps.size = 55 := by rw [hA11, Act.size_put]; exact z10
  have dd11 : a11.defers = [] := by rw [hA11, Act.defers_put']; exact dd10
  clear hA11 z10 dd10 f10_24 f10_20 f10_1 f10_2 f10_5 f10_6
  refine wpAnyH_take (i := 11) (v := .bool true) rfl (by kernel_rfl) (by kernel_rfl) (by kernel_rfl) (fun _ _ _ h => h) (yields_move rfl (.tmp 25) rfl f11_25) hS ?_
  obtain ⟨a12, hA12⟩ : ∃ a', a' = a11.put (some 26) (.bool true) := ⟨_, rfl⟩
  change wpAnyH _ _ _ _ _ _ _ (a11.put (some 26) (.bool true)) _
  rw [← hA12]
  have f12_26 : a12.eval (.tmp 26) = .bool true := by rw [hA12]; exact Act.eval_put_same _ _ _ (by omega)
  have f12_1 : a12.eval (.tmp 1) = .int .i64 o := by rw [hA12]; exact (Act.eval_put_ne _ _ _ _ (by decide)).trans f11_1
  have f12_2 : a12.eval (.tmp 2) = .pointer (some ⟨w.heap.size, 0, none⟩) := by rw [hA12]; exact (Act.eval_put_ne _ _ _ _ (by decide)).trans f11_2
  have f12_5 : a12.eval (.tmp 5) = .pointer none := by rw [hA12]; exact (Act.eval_put_ne _ _ _ _ (by decide)).trans f11_5
  have f12_6 : a12.eval (.tmp 6) = .pointer (some ⟨w.heap.size + 1, 0, none⟩) := by rw [hA12]; exact (Act.eval_put_ne _ _ _ _ (by decide)).trans f11_6
  have z12 : a12.tmps.size = 55 := by rw [hA12, Act.size_put]; exact z11
  have dd12 : a12.defers = [] := by rw [hA12, Act.defers_put']; exact dd11
  clear hA12 z11 dd11 f11_25 f11_1 f11_2 f11_5 f11_6
  refine wpAnyH_take (i := 12) (v := .pointer none) rfl (by kernel_rfl) (by kernel_rfl) (by kernel_rfl) (fun _ _ _ h => h) (yields_guarded 11 26 true rfl rfl f12_26 (yields_move rfl (.tmp 5) rfl f12_5)) hS ?_
  obtain ⟨a13, hA13⟩ : ∃ a', a' = a12.put (some 27) (.pointer none) := ⟨_, rfl⟩
  change wpAnyH _ _ _ _ _ _ _ (a12.put (some 27) (.pointer none)) _
  rw [← hA13]
  have f13_27 : a13.eval (.tmp 27) = .pointer none := by rw [hA13]; exact Act.eval_put_same _ _ _ (by omega)
  have f13_26 : a13.eval (.tmp 26) = .bool true := by rw [hA13]; exact (Act.eval_put_ne _ _ _ _ (by decide)).trans f12_26
  have f13_1 : a13.eval (.tmp 1) = .int .i64 o := by rw [hA13]; exact (Act.eval_put_ne _ _ _ _ (by decide)).trans f12_1
  have f13_2 : a13.eval (.tmp 2) = .pointer (some ⟨w.heap.size, 0, none⟩) := by rw [hA13]; exact (Act.eval_put_ne _ _ _ _ (by decide)).trans f12_2
  have f13_5 : a13.eval (.tmp 5) = .pointer none := by rw [hA13]; exact (Act.eval_put_ne _ _ _ _ (by decide)).trans f12_5
  have f13_6 : a13.eval (.tmp 6) = .pointer (some ⟨w.heap.size + 1, 0, none⟩) := by rw [hA13]; exact (Act.eval_put_ne _ _ _ _ (by decide)).trans f12_6
  have z13 : a13.tmps.size = 55 := by rw [hA13, Act.size_put]; exact z12
  have dd13 : a13.defers = [] := by rw [hA13, Act.defers_put']; exact dd12
  clear hA13 z12 dd12 f12_26 f12_1 f12_2 f12_5 f12_6
  refine wpAnyH_take (i := 13) (v := .pointer (some ⟨w.heap.size, 2, none⟩)) rfl (by kernel_rfl) (by kernel_rfl) (by kernel_rfl) (fun _ _ _ h => h) (yields_guarded 11 26 true rfl rfl f13_26 (yields_fop rfl (.tmp 2) 2 (by omega) rfl _ _ f13_2 _ rfl)) hS ?_
  obtain ⟨a14, hA14⟩ : ∃ a', a' = a13.put (some 28) (.pointer (some ⟨w.heap.size, 2, none⟩)) := ⟨_, rfl⟩
  change wpAnyH _ _ _ _ _ _ _ (a13.put (some 28) (.pointer (some ⟨w.heap.size, 2, none⟩))) _
  rw [← hA14]
  have f14_28 : a14.eval (.tmp 28) = .pointer (some ⟨w.heap.size, 2, none⟩) := by rw [hA14]; exact Act.eval_put_same _ _ _ (by omega)
  have f14_27 : a14.eval (.tmp 27) = .pointer none := by rw [hA14]; exact (Act.eval_put_ne _ _ _ _ (by decide)).trans f13_27
  have f14_26 : a14.eval (.tmp 26) = .bool true := by rw [hA14]; exact (Act.eval_put_ne _ _ _ _ (by decide)).trans f13_26
  have f14_1 : a14.eval (.tmp 1) = .int .i64 o := by rw [hA14]; exact (Act.eval_put_ne _ _ _ _ (by decide)).trans f13_1
  have f14_2 : a14.eval (.tmp 2) = .pointer (some ⟨w.heap.size, 0, none⟩) := by rw [hA14]; exact (Act.eval_put_ne _ _ _ _ (by decide)).trans f13_2
  have f14_5 : a14.eval (.tmp 5) = .pointer none := by rw [hA14]; exact (Act.eval_put_ne _ _ _ _ (by decide)).trans f13_5
  have f14_6 : a14.eval (.tmp 6) = .pointer (some ⟨w.heap.size + 1, 0, none⟩) := by rw [hA14]; exact (Act.eval_put_ne _ _ _ _ (by decide)).trans f13_6
  have z14 : a14.tmps.size = 55 := by rw [hA14, Act.size_put]; exact z13
  have dd14 : a14.defers = [] := by rw [hA14, Act.defers_put']; exact dd13
  clear hA14 z13 dd13 f13_27 f13_26 f13_1 f13_2 f13_5 f13_6
  refine wpAnyH_take (i := 14) (v := .int .i64 t) rfl (by kernel_rfl) (by kernel_rfl) (by kernel_rfl) (fun _ _ _ h => h) (yields_guarded 11 26 true rfl rfl f14_26 (yields_int rfl (.tmp 28) rfl _ f14_28 t (fun _ h => h.cells.2.2.1))) hS ?_
  obtain ⟨a15, hA15⟩ : ∃ a', a' = a14.put (some 29) (.int .i64 t) := ⟨_, rfl⟩
  change wpAnyH _ _ _ _ _ _ _ (a14.put (some 29) (.int .i64 t)) _
  rw [← hA15]
  have f15_29 : a15.eval (.tmp 29) = .int .i64 t := by rw [hA15]; exact Act.eval_put_same _ _ _ (by omega)
  have f15_27 : a15.eval (.tmp 27) = .pointer none := by rw [hA15]; exact (Act.eval_put_ne _ _ _ _ (by decide)).trans f14_27
  have f15_26 : a15.eval (.tmp 26) = .bool true := by rw [hA15]; exact (Act.eval_put_ne _ _ _ _ (by decide)).trans f14_26
  have f15_1 : a15.eval (.tmp 1) = .int .i64 o := by rw [hA15]; exact (Act.eval_put_ne _ _ _ _ (by decide)).trans f14_1
  have f15_2 : a15.eval (.tmp 2) = .pointer (some ⟨w.heap.size, 0, none⟩) := by rw [hA15]; exact (Act.eval_put_ne _ _ _ _ (by decide)).trans f14_2
  have f15_5 : a15.eval (.tmp 5) = .pointer none := by rw [hA15]; exact (Act.eval_put_ne _ _ _ _ (by decide)).trans f14_5
  have f15_6 : a15.eval (.tmp 6) = .pointer (some ⟨w.heap.size + 1, 0, none⟩) := by rw [hA15]; exact (Act.eval_put_ne _ _ _ _ (by decide)).trans f14_6
  have z15 : a15.tmps.size = 55 := by rw [hA15, Act.size_put]; exact z14
  have dd15 : a15.defers = [] := by rw [hA15, Act.defers_put']; exact dd14
  clear hA15 z14 dd14 f14_28 f14_27 f14_26 f14_1 f14_2 f14_5 f14_6
  refine wpAnyH_take (i := 15) (v := .int .i64 o) rfl (by kernel_rfl) (by kernel_rfl) (by kernel_rfl) (fun _ _ _ h => h) (yields_guarded 11 26 true rfl rfl f15_26 (yields_move rfl (.tmp 1) rfl f15_1)) hS ?_
  obtain ⟨a16, hA16⟩ : ∃ a', a' = a15.put (some 30) (.int .i64 o) := ⟨_, rfl⟩
  change wpAnyH _ _ _ _ _ _ _ (a15.put (some 30) (.int .i64 o)) _
  rw [← hA16]
  have f16_30 : a16.eval (.tmp 30) = .int .i64 o := by rw [hA16]; exact Act.eval_put_same _ _ _ (by omega)
  have f16_29 : a16.eval (.tmp 29) = .int .i64 t := by rw [hA16]; exact (Act.eval_put_ne _ _ _ _ (by decide)).trans f15_29
  have f16_27 : a16.eval (.tmp 27) = .pointer none := by rw [hA16]; exact (Act.eval_put_ne _ _ _ _ (by decide)).trans f15_27
  have f16_26 : a16.eval (.tmp 26) = .bool true := by rw [hA16]; exact (Act.eval_put_ne _ _ _ _ (by decide)).trans f15_26
  have f16_2 : a16.eval (.tmp 2) = .pointer (some ⟨w.heap.size, 0, none⟩) := by rw [hA16]; exact (Act.eval_put_ne _ _ _ _ (by decide)).trans f15_2
  have f16_5 : a16.eval (.tmp 5) = .pointer none := by rw [hA16]; exact (Act.eval_put_ne _ _ _ _ (by decide)).trans f15_5
  have f16_6 : a16.eval (.tmp 6) = .pointer (some ⟨w.heap.size + 1, 0, none⟩) := by rw [hA16]; exact (Act.eval_put_ne _ _ _ _ (by decide)).trans f15_6
  have z16 : a16.tmps.size = 55 := by rw [hA16, Act.size_put]; exact z15
  have dd16 : a16.defers = [] := by rw [hA16, Act.defers_put']; exact dd15
  clear hA16 z15 dd15 f15_29 f15_27 f15_26 f15_1 f15_2 f15_5 f15_6
  refine wpAnyH_ready (rs := [16]) (by kernel_rfl) (by simp) (AllReadyH.cons (by simp only [List.getElem?_toArray, List.getElem?_cons_succ, List.getElem?_cons_zero]; rfl) (fun K hK => ?_) AllReadyH.nil)
  refine step_callg 11 26 true (by rfl) (by rfl) f16_26 15 #[.tmp 27, .tmp 29, .tmp 30] #[23, 3, 3] (by rfl) #[.pointer none, .int .i64 t, .int .i64 o] (by simp only [List.map_toArray, List.map_cons, List.map_nil, f16_27, f16_29, f16_30]) Tryd.func15 (by kernel_rfl) rfl (has_nil _ t o) (fun e w' hR => ?_)
  obtain ⟨rfl, rfl⟩ := hR
  refine ⟨_, rfl, hK.out _ _ (hS) (fun hS => ?_)⟩
  obtain ⟨a17, hA17⟩ : ∃ a', a' = a16.put (some 31) (.bool false) := ⟨_, rfl⟩
  change wpAnyH _ _ _ _ _ _ _ (a16.put (some 31) (.bool false)) _
  rw [← hA17]
  have f17_31 : a17.eval (.tmp 31) = .bool false := by rw [hA17]; exact Act.eval_put_same _ _ _ (by omega)
  have f17_26 : a17.eval (.tmp 26) = .bool true := by rw [hA17]; exact (Act.eval_put_ne _ _ _ _ (by decide)).trans f16_26
  have f17_2 : a17.eval (.tmp 2) = .pointer (some ⟨w.heap.size, 0, none⟩) := by rw [hA17]; exact (Act.eval_put_ne _ _ _ _ (by decide)).trans f16_2
  have f17_5 : a17.eval (.tmp 5) = .pointer none := by rw [hA17]; exact (Act.eval_put_ne _ _ _ _ (by decide)).trans f16_5
  have f17_6 : a17.eval (.tmp 6) = .pointer (some ⟨w.heap.size + 1, 0, none⟩) := by rw [hA17]; exact (Act.eval_put_ne _ _ _ _ (by decide)).trans f16_6
  have z17 : a17.tmps.size = 55 := by rw [hA17, Act.size_put]; exact z16
  have dd17 : a17.defers = [] := by rw [hA17, Act.defers_put']; exact dd16
  clear hA17 z16 dd16 f16_30 f16_29 f16_27 f16_26 f16_2 f16_5 f16_6
  refine wpAnyH_take (i := 17) (v := .bool true) rfl (by kernel_rfl) (by kernel_rfl) (by kernel_rfl) (fun _ _ _ h => h) (yields_guarded 11 26 true rfl rfl f17_26 (yields_not rfl (.tmp 31) rfl false true f17_31 rfl)) hS ?_
  obtain ⟨a18, hA18⟩ : ∃ a', a' = a17.put (some 32) (.bool true) := ⟨_, rfl⟩
  change wpAnyH _ _ _ _ _ _ _ (a17.put (some 32) (.bool true)) _
  rw [← hA18]
  have f18_32 : a18.eval (.tmp 32) = .bool true := by rw [hA18]; exact Act.eval_put_same _ _ _ (by omega)
  have f18_26 : a18.eval (.tmp 26) = .bool true := by rw [hA18]; exact (Act.eval_put_ne _ _ _ _ (by decide)).trans f17_26
  have f18_2 : a18.eval (.tmp 2) = .pointer (some ⟨w.heap.size, 0, none⟩) := by rw [hA18]; exact (Act.eval_put_ne _ _ _ _ (by decide)).trans f17_2
  have f18_5 : a18.eval (.tmp 5) = .pointer none := by rw [hA18]; exact (Act.eval_put_ne _ _ _ _ (by decide)).trans f17_5
  have f18_6 : a18.eval (.tmp 6) = .pointer (some ⟨w.heap.size + 1, 0, none⟩) := by rw [hA18]; exact (Act.eval_put_ne _ _ _ _ (by decide)).trans f17_6
  have z18 : a18.tmps.size = 55 := by rw [hA18, Act.size_put]; exact z17
  have dd18 : a18.defers = [] := by rw [hA18, Act.defers_put']; exact dd17
  clear hA18 z17 dd17 f17_31 f17_26 f17_2 f17_5 f17_6
  refine wpAnyH_take (i := 18) (v := .bool true) rfl (by kernel_rfl) (by kernel_rfl) (by kernel_rfl) (fun _ _ _ h => h) (yields_pick rfl (.tmp 26) (.tmp 32) (.const (.bool false)) rfl true f18_26 f18_32) hS ?_
  obtain ⟨a19, hA19⟩ : ∃ a', a' = a18.put (some 33) (.bool true) := ⟨_, rfl⟩
  change wpAnyH _ _ _ _ _ _ _ (a18.put (some 33) (.bool true)) _
  rw [← hA19]
  have f19_33 : a19.eval (.tmp 33) = .bool true := by rw [hA19]; exact Act.eval_put_same _ _ _ (by omega)
  have f19_2 : a19.eval (.tmp 2) = .pointer (some ⟨w.heap.size, 0, none⟩) := by rw [hA19]; exact (Act.eval_put_ne _ _ _ _ (by decide)).trans f18_2
  have f19_5 : a19.eval (.tmp 5) = .pointer none := by rw [hA19]; exact (Act.eval_put_ne _ _ _ _ (by decide)).trans f18_5
  have f19_6 : a19.eval (.tmp 6) = .pointer (some ⟨w.heap.size + 1, 0, none⟩) := by rw [hA19]; exact (Act.eval_put_ne _ _ _ _ (by decide)).trans f18_6
  have z19 : a19.tmps.size = 55 := by rw [hA19, Act.size_put]; exact z18
  have dd19 : a19.defers = [] := by rw [hA19, Act.defers_put']; exact dd18
  clear hA19 z18 dd18 f18_32 f18_26 f18_2 f18_5 f18_6
  refine wpAnyH_take (i := 19) (v := .bool true) rfl (by kernel_rfl) (by kernel_rfl) (by kernel_rfl) (fun _ _ _ h => h) (yields_move rfl (.tmp 33) rfl f19_33) hS ?_
  obtain ⟨a20, hA20⟩ : ∃ a', a' = a19.put (some 34) (.bool true) := ⟨_, rfl⟩
  change wpAnyH _ _ _ _ _ _ _ (a19.put (some 34) (.bool true)) _
  rw [← hA20]
  have f20_34 : a20.eval (.tmp 34) = .bool true := by rw [hA20]; exact Act.eval_put_same _ _ _ (by omega)
  have f20_2 : a20.eval (.tmp 2) = .pointer (some ⟨w.heap.size, 0, none⟩) := by rw [hA20]; exact (Act.eval_put_ne _ _ _ _ (by decide)).trans f19_2
  have f20_5 : a20.eval (.tmp 5) = .pointer none := by rw [hA20]; exact (Act.eval_put_ne _ _ _ _ (by decide)).trans f19_5
  have f20_6 : a20.eval (.tmp 6) = .pointer (some ⟨w.heap.size + 1, 0, none⟩) := by rw [hA20]; exact (Act.eval_put_ne _ _ _ _ (by decide)).trans f19_6
  have z20 : a20.tmps.size = 55 := by rw [hA20, Act.size_put]; exact z19
  have dd20 : a20.defers = [] := by rw [hA20, Act.defers_put']; exact dd19
  clear hA20 z19 dd19 f19_33 f19_2 f19_5 f19_6
  refine wpAnyH_take (i := 20) (v := .pointer none) rfl (by kernel_rfl) (by kernel_rfl) (by kernel_rfl) (fun _ _ _ h => h) (yields_guarded 19 34 true rfl rfl f20_34 (yields_move rfl (.tmp 5) rfl f20_5)) hS ?_
  obtain ⟨a21, hA21⟩ : ∃ a', a' = a20.put (some 35) (.pointer none) := ⟨_, rfl⟩
  change wpAnyH _ _ _ _ _ _ _ (a20.put (some 35) (.pointer none)) _
  rw [← hA21]
  have f21_35 : a21.eval (.tmp 35) = .pointer none := by rw [hA21]; exact Act.eval_put_same _ _ _ (by omega)
  have f21_34 : a21.eval (.tmp 34) = .bool true := by rw [hA21]; exact (Act.eval_put_ne _ _ _ _ (by decide)).trans f20_34
  have f21_2 : a21.eval (.tmp 2) = .pointer (some ⟨w.heap.size, 0, none⟩) := by rw [hA21]; exact (Act.eval_put_ne _ _ _ _ (by decide)).trans f20_2
  have f21_6 : a21.eval (.tmp 6) = .pointer (some ⟨w.heap.size + 1, 0, none⟩) := by rw [hA21]; exact (Act.eval_put_ne _ _ _ _ (by decide)).trans f20_6
  have z21 : a21.tmps.size = 55 := by rw [hA21, Act.size_put]; exact z20
  have dd21 : a21.defers = [] := by rw [hA21, Act.defers_put']; exact dd20
  clear hA21 z20 dd20 f20_34 f20_2 f20_5 f20_6
  refine wpAnyH_ready (rs := [21]) (by kernel_rfl) (by simp) (AllReadyH.cons (by simp only [List.getElem?_toArray, List.getElem?_cons_succ, List.getElem?_cons_zero]; rfl) (fun K hK => ?_) AllReadyH.nil)
  refine step_callg 19 34 true (by rfl) (by rfl) f21_34 14 #[.tmp 35] #[23] (by rfl) #[.pointer none] (by simp only [List.map_toArray, List.map_cons, List.map_nil, f21_35]) Tryd.func14 (by kernel_rfl) rfl (clone_nil _) (fun e w' hR => ?_)
  obtain ⟨rfl, rfl⟩ := hR
  refine ⟨_, rfl, hK.out _ _ (hS) (fun hS => ?_)⟩
  obtain ⟨a22, hA22⟩ : ∃ a', a' = a21.put (some 36) (.pointer none) := ⟨_, rfl⟩
  change wpAnyH _ _ _ _ _ _ _ (a21.put (some 36) (.pointer none)) _
  rw [← hA22]
  have f22_36 : a22.eval (.tmp 36) = .pointer none := by rw [hA22]; exact Act.eval_put_same _ _ _ (by omega)
  have f22_34 : a22.eval (.tmp 34) = .bool true := by rw [hA22]; exact (Act.eval_put_ne _ _ _ _ (by decide)).trans f21_34
  have f22_2 : a22.eval (.tmp 2) = .pointer (some ⟨w.heap.size, 0, none⟩) := by rw [hA22]; exact (Act.eval_put_ne _ _ _ _ (by decide)).trans f21_2
  have f22_6 : a22.eval (.tmp 6) = .pointer (some ⟨w.heap.size + 1, 0, none⟩) := by rw [hA22]; exact (Act.eval_put_ne _ _ _ _ (by decide)).trans f21_6
  have z22 : a22.tmps.size = 55 := by rw [hA22, Act.size_put]; exact z21
  have dd22 : a22.defers = [] := by rw [hA22, Act.defers_put']; exact dd21
  clear hA22 z21 dd21 f21_35 f21_34 f21_2 f21_6
  refine wpAnyH_take (i := 22) (v := .bool true) rfl (by kernel_rfl) (by kernel_rfl) (by kernel_rfl) (fun _ _ _ h => h) (yields_guarded 19 34 true rfl rfl f22_34 (yields_eqnil rfl (.tmp 36) (.const (.pointer none)) rfl f22_36 rfl)) hS ?_
  obtain ⟨a23, hA23⟩ : ∃ a', a' = a22.put (some 37) (.bool true) := ⟨_, rfl⟩
  change wpAnyH _ _ _ _ _ _ _ (a22.put (some 37) (.bool true)) _
  rw [← hA23]
  have f23_37 : a23.eval (.tmp 37) = .bool true := by rw [hA23]; exact Act.eval_put_same _ _ _ (by omega)
  have f23_34 : a23.eval (.tmp 34) = .bool true := by rw [hA23]; exact (Act.eval_put_ne _ _ _ _ (by decide)).trans f22_34
  have f23_2 : a23.eval (.tmp 2) = .pointer (some ⟨w.heap.size, 0, none⟩) := by rw [hA23]; exact (Act.eval_put_ne _ _ _ _ (by decide)).trans f22_2
  have f23_6 : a23.eval (.tmp 6) = .pointer (some ⟨w.heap.size + 1, 0, none⟩) := by rw [hA23]; exact (Act.eval_put_ne _ _ _ _ (by decide)).trans f22_6
  have z23 : a23.tmps.size = 55 := by rw [hA23, Act.size_put]; exact z22
  have dd23 : a23.defers = [] := by rw [hA23, Act.defers_put']; exact dd22
  clear hA23 z22 dd22 f22_36 f22_34 f22_2 f22_6
  refine wpAnyH_take (i := 23) (v := .bool true) rfl (by kernel_rfl) (by kernel_rfl) (by kernel_rfl) (fun _ _ _ h => h) (yields_pick rfl (.tmp 34) (.tmp 37) (.const (.bool false)) rfl true f23_34 f23_37) hS ?_
  obtain ⟨a24, hA24⟩ : ∃ a', a' = a23.put (some 38) (.bool true) := ⟨_, rfl⟩
  change wpAnyH _ _ _ _ _ _ _ (a23.put (some 38) (.bool true)) _
  rw [← hA24]
  have f24_38 : a24.eval (.tmp 38) = .bool true := by rw [hA24]; exact Act.eval_put_same _ _ _ (by omega)
  have f24_2 : a24.eval (.tmp 2) = .pointer (some ⟨w.heap.size, 0, none⟩) := by rw [hA24]; exact (Act.eval_put_ne _ _ _ _ (by decide)).trans f23_2
  have f24_6 : a24.eval (.tmp 6) = .pointer (some ⟨w.heap.size + 1, 0, none⟩) := by rw [hA24]; exact (Act.eval_put_ne _ _ _ _ (by decide)).trans f23_6
  have z24 : a24.tmps.size = 55 := by rw [hA24, Act.size_put]; exact z23
  have dd24 : a24.defers = [] := by rw [hA24, Act.defers_put']; exact dd23
  clear hA24 z23 dd23 f23_37 f23_34 f23_2 f23_6
  refine wpAnyH_take (i := 24) (v := .bool true) rfl (by kernel_rfl) (by kernel_rfl) (by kernel_rfl) (fun _ _ _ h => h) (yields_move rfl (.tmp 38) rfl f24_38) hS ?_
  obtain ⟨a25, hA25⟩ : ∃ a', a' = a24.put (some 39) (.bool true) := ⟨_, rfl⟩
  change wpAnyH _ _ _ _ _ _ _ (a24.put (some 39) (.bool true)) _
  rw [← hA25]
  have f25_39 : a25.eval (.tmp 39) = .bool true := by rw [hA25]; exact Act.eval_put_same _ _ _ (by omega)
  have f25_2 : a25.eval (.tmp 2) = .pointer (some ⟨w.heap.size, 0, none⟩) := by rw [hA25]; exact (Act.eval_put_ne _ _ _ _ (by decide)).trans f24_2
  have f25_6 : a25.eval (.tmp 6) = .pointer (some ⟨w.heap.size + 1, 0, none⟩) := by rw [hA25]; exact (Act.eval_put_ne _ _ _ _ (by decide)).trans f24_6
  have z25 : a25.tmps.size = 55 := by rw [hA25, Act.size_put]; exact z24
  have dd25 : a25.defers = [] := by rw [hA25, Act.defers_put']; exact dd24
  clear hA25 z24 dd24 f24_38 f24_2 f24_6
  refine wpAnyH_take (i := 25) (v := .pointer (some ⟨w.heap.size + 1, 0, none⟩)) rfl (by kernel_rfl) (by kernel_rfl) (by kernel_rfl) (fun _ _ _ h => h) (yields_guarded 24 39 true rfl rfl f25_39 (yields_move rfl (.tmp 6) rfl f25_6)) hS ?_
  obtain ⟨a26, hA26⟩ : ∃ a', a' = a25.put (some 40) (.pointer (some ⟨w.heap.size + 1, 0, none⟩)) := ⟨_, rfl⟩
  change wpAnyH _ _ _ _ _ _ _ (a25.put (some 40) (.pointer (some ⟨w.heap.size + 1, 0, none⟩))) _
  rw [← hA26]
  have f26_40 : a26.eval (.tmp 40) = .pointer (some ⟨w.heap.size + 1, 0, none⟩) := by rw [hA26]; exact Act.eval_put_same _ _ _ (by omega)
  have f26_39 : a26.eval (.tmp 39) = .bool true := by rw [hA26]; exact (Act.eval_put_ne _ _ _ _ (by decide)).trans f25_39
  have f26_2 : a26.eval (.tmp 2) = .pointer (some ⟨w.heap.size, 0, none⟩) := by rw [hA26]; exact (Act.eval_put_ne _ _ _ _ (by decide)).trans f25_2
  have z26 : a26.tmps.size = 55 := by rw [hA26, Act.size_put]; exact z25
  have dd26 : a26.defers = [] := by rw [hA26, Act.defers_put']; exact dd25
  clear hA26 z25 dd25 f25_39 f25_2 f25_6
  refine wpAnyH_take (i := 26) (v := .pointer (some ⟨w.heap.size, 2, none⟩)) rfl (by kernel_rfl) (by kernel_rfl) (by kernel_rfl) (fun _ _ _ h => h) (yields_guarded 24 39 true rfl rfl f26_39 (yields_fop rfl (.tmp 2) 2 (by omega) rfl _ _ f26_2 _ rfl)) hS ?_
  obtain ⟨a27, hA27⟩ : ∃ a', a' = a26.put (some 41) (.pointer (some ⟨w.heap.size, 2, none⟩)) := ⟨_, rfl⟩
  change wpAnyH _ _ _ _ _ _ _ (a26.put (some 41) (.pointer (some ⟨w.heap.size, 2, none⟩))) _
  rw [← hA27]
  have f27_41 : a27.eval (.tmp 41) = .pointer (some ⟨w.heap.size, 2, none⟩) := by rw [hA27]; exact Act.eval_put_same _ _ _ (by omega)
  have f27_40 : a27.eval (.tmp 40) = .pointer (some ⟨w.heap.size + 1, 0, none⟩) := by rw [hA27]; exact (Act.eval_put_ne _ _ _ _ (by decide)).trans f26_40
  have f27_39 : a27.eval (.tmp 39) = .bool true := by rw [hA27]; exact (Act.eval_put_ne _ _ _ _ (by decide)).trans f26_39
  have f27_2 : a27.eval (.tmp 2) = .pointer (some ⟨w.heap.size, 0, none⟩) := by rw [hA27]; exact (Act.eval_put_ne _ _ _ _ (by decide)).trans f26_2
  have z27 : a27.tmps.size = 55 := by rw [hA27, Act.size_put]; exact z26
  have dd27 : a27.defers = [] := by rw [hA27, Act.defers_put']; exact dd26
  clear hA27 z26 dd26 f26_40 f26_39 f26_2
  refine wpAnyH_take (i := 27) (v := .int .i64 t) rfl (by kernel_rfl) (by kernel_rfl) (by kernel_rfl) (fun _ _ _ h => h) (yields_guarded 24 39 true rfl rfl f27_39 (yields_int rfl (.tmp 41) rfl _ f27_41 t (fun _ h => h.cells.2.2.1))) hS ?_
  obtain ⟨a28, hA28⟩ : ∃ a', a' = a27.put (some 42) (.int .i64 t) := ⟨_, rfl⟩
  change wpAnyH _ _ _ _ _ _ _ (a27.put (some 42) (.int .i64 t)) _
  rw [← hA28]
  have f28_42 : a28.eval (.tmp 42) = .int .i64 t := by rw [hA28]; exact Act.eval_put_same _ _ _ (by omega)
  have f28_40 : a28.eval (.tmp 40) = .pointer (some ⟨w.heap.size + 1, 0, none⟩) := by rw [hA28]; exact (Act.eval_put_ne _ _ _ _ (by decide)).trans f27_40
  have f28_39 : a28.eval (.tmp 39) = .bool true := by rw [hA28]; exact (Act.eval_put_ne _ _ _ _ (by decide)).trans f27_39
  have f28_2 : a28.eval (.tmp 2) = .pointer (some ⟨w.heap.size, 0, none⟩) := by rw [hA28]; exact (Act.eval_put_ne _ _ _ _ (by decide)).trans f27_2
  have z28 : a28.tmps.size = 55 := by rw [hA28, Act.size_put]; exact z27
  have dd28 : a28.defers = [] := by rw [hA28, Act.defers_put']; exact dd27
  clear hA28 z27 dd27 f27_41 f27_40 f27_39 f27_2
  refine wpAnyH_take (i := 29) (v := rV zerosR) rfl (by kernel_rfl) (by kernel_rfl) (by kernel_rfl) (fun _ _ _ h => h) (yields_guarded 24 39 true rfl rfl f28_39 (yields_rbuild rfl rfl)) hS ?_
  obtain ⟨a29, hA29⟩ : ∃ a', a' = a28.put (some 44) (rV zerosR) := ⟨_, rfl⟩
  change wpAnyH _ _ _ _ _ _ _ (a28.put (some 44) (rV zerosR)) _
  rw [← hA29]
  have f29_44 : a29.eval (.tmp 44) = rV zerosR := by rw [hA29]; exact Act.eval_put_same _ _ _ (by omega)
  have f29_42 : a29.eval (.tmp 42) = .int .i64 t := by rw [hA29]; exact (Act.eval_put_ne _ _ _ _ (by decide)).trans f28_42
  have f29_40 : a29.eval (.tmp 40) = .pointer (some ⟨w.heap.size + 1, 0, none⟩) := by rw [hA29]; exact (Act.eval_put_ne _ _ _ _ (by decide)).trans f28_40
  have f29_39 : a29.eval (.tmp 39) = .bool true := by rw [hA29]; exact (Act.eval_put_ne _ _ _ _ (by decide)).trans f28_39
  have f29_2 : a29.eval (.tmp 2) = .pointer (some ⟨w.heap.size, 0, none⟩) := by rw [hA29]; exact (Act.eval_put_ne _ _ _ _ (by decide)).trans f28_2
  have z29 : a29.tmps.size = 55 := by rw [hA29, Act.size_put]; exact z28
  have dd29 : a29.defers = [] := by rw [hA29, Act.defers_put']; exact dd28
  clear hA29 z28 dd28 f28_42 f28_40 f28_39 f28_2
  refine wpAnyH_take (i := 30) (v := .agg #[.int .i64 k, .int .i64 f, .int .i64 t, .int .u64 (m : Int)]) rfl (by kernel_rfl) (by kernel_rfl) (by kernel_rfl) (fun _ _ _ h => h) (yields_guarded 24 39 true rfl rfl f29_39 (yields_op rfl (.tmp 2) rfl _ _ f29_2 k f t m (fun _ h => h.cells))) hS ?_
  obtain ⟨a30, hA30⟩ : ∃ a', a' = a29.put (some 45) (.agg #[.int .i64 k, .int .i64 f, .int .i64 t, .int .u64 (m : Int)]) := ⟨_, rfl⟩
  change wpAnyH _ _ _ _ _ _ _ (a29.put (some 45) (.agg #[.int .i64 k, .int .i64 f, .int .i64 t, .int .u64 (m : Int)])) _
  rw [← hA30]
  have f30_45 : a30.eval (.tmp 45) = .agg #[.int .i64 k, .int .i64 f, .int .i64 t, .int .u64 (m : Int)] := by rw [hA30]; exact Act.eval_put_same _ _ _ (by omega)
  have f30_44 : a30.eval (.tmp 44) = rV zerosR := by rw [hA30]; exact (Act.eval_put_ne _ _ _ _ (by decide)).trans f29_44
  have f30_42 : a30.eval (.tmp 42) = .int .i64 t := by rw [hA30]; exact (Act.eval_put_ne _ _ _ _ (by decide)).trans f29_42
  have f30_40 : a30.eval (.tmp 40) = .pointer (some ⟨w.heap.size + 1, 0, none⟩) := by rw [hA30]; exact (Act.eval_put_ne _ _ _ _ (by decide)).trans f29_40
  have f30_39 : a30.eval (.tmp 39) = .bool true := by rw [hA30]; exact (Act.eval_put_ne _ _ _ _ (by decide)).trans f29_39
  have f30_2 : a30.eval (.tmp 2) = .pointer (some ⟨w.heap.size, 0, none⟩) := by rw [hA30]; exact (Act.eval_put_ne _ _ _ _ (by decide)).trans f29_2
  have z30 : a30.tmps.size = 55 := by rw [hA30, Act.size_put]; exact z29
  have dd30 : a30.defers = [] := by rw [hA30, Act.defers_put']; exact dd29
  clear hA30 z29 dd29 f29_44 f29_42 f29_40 f29_39 f29_2
  refine wpAnyH_take (i := 32) (v := .pointer (some ⟨w.heap.size, 2, none⟩)) rfl (by kernel_rfl) (by kernel_rfl) (by kernel_rfl) (fun _ _ _ h => h) (yields_guarded 24 39 true rfl rfl f30_39 (yields_fop rfl (.tmp 2) 2 (by omega) rfl _ _ f30_2 _ rfl)) hS ?_
  obtain ⟨a31, hA31⟩ : ∃ a', a' = a30.put (some 47) (.pointer (some ⟨w.heap.size, 2, none⟩)) := ⟨_, rfl⟩
  change wpAnyH _ _ _ _ _ _ _ (a30.put (some 47) (.pointer (some ⟨w.heap.size, 2, none⟩))) _
  rw [← hA31]
  have f31_47 : a31.eval (.tmp 47) = .pointer (some ⟨w.heap.size, 2, none⟩) := by rw [hA31]; exact Act.eval_put_same _ _ _ (by omega)
  have f31_45 : a31.eval (.tmp 45) = .agg #[.int .i64 k, .int .i64 f, .int .i64 t, .int .u64 (m : Int)] := by rw [hA31]; exact (Act.eval_put_ne _ _ _ _ (by decide)).trans f30_45
  have f31_44 : a31.eval (.tmp 44) = rV zerosR := by rw [hA31]; exact (Act.eval_put_ne _ _ _ _ (by decide)).trans f30_44
  have f31_42 : a31.eval (.tmp 42) = .int .i64 t := by rw [hA31]; exact (Act.eval_put_ne _ _ _ _ (by decide)).trans f30_42
  have f31_40 : a31.eval (.tmp 40) = .pointer (some ⟨w.heap.size + 1, 0, none⟩) := by rw [hA31]; exact (Act.eval_put_ne _ _ _ _ (by decide)).trans f30_40
  have f31_39 : a31.eval (.tmp 39) = .bool true := by rw [hA31]; exact (Act.eval_put_ne _ _ _ _ (by decide)).trans f30_39
  have z31 : a31.tmps.size = 55 := by rw [hA31, Act.size_put]; exact z30
  have dd31 : a31.defers = [] := by rw [hA31, Act.defers_put']; exact dd30
  clear hA31 z30 dd30 f30_45 f30_44 f30_42 f30_40 f30_39 f30_2
  refine wpAnyH_take (i := 33) (v := .int .i64 t) rfl (by kernel_rfl) (by kernel_rfl) (by kernel_rfl) (fun _ _ _ h => h) (yields_guarded 24 39 true rfl rfl f31_39 (yields_int rfl (.tmp 47) rfl _ f31_47 t (fun _ h => h.cells.2.2.1))) hS ?_
  obtain ⟨a32, hA32⟩ : ∃ a', a' = a31.put (some 48) (.int .i64 t) := ⟨_, rfl⟩
  change wpAnyH _ _ _ _ _ _ _ (a31.put (some 48) (.int .i64 t)) _
  rw [← hA32]
  have f32_48 : a32.eval (.tmp 48) = .int .i64 t := by rw [hA32]; exact Act.eval_put_same _ _ _ (by omega)
  have f32_45 : a32.eval (.tmp 45) = .agg #[.int .i64 k, .int .i64 f, .int .i64 t, .int .u64 (m : Int)] := by rw [hA32]; exact (Act.eval_put_ne _ _ _ _ (by decide)).trans f31_45
  have f32_44 : a32.eval (.tmp 44) = rV zerosR := by rw [hA32]; exact (Act.eval_put_ne _ _ _ _ (by decide)).trans f31_44
  have f32_42 : a32.eval (.tmp 42) = .int .i64 t := by rw [hA32]; exact (Act.eval_put_ne _ _ _ _ (by decide)).trans f31_42
  have f32_40 : a32.eval (.tmp 40) = .pointer (some ⟨w.heap.size + 1, 0, none⟩) := by rw [hA32]; exact (Act.eval_put_ne _ _ _ _ (by decide)).trans f31_40
  have f32_39 : a32.eval (.tmp 39) = .bool true := by rw [hA32]; exact (Act.eval_put_ne _ _ _ _ (by decide)).trans f31_39
  have z32 : a32.tmps.size = 55 := by rw [hA32, Act.size_put]; exact z31
  have dd32 : a32.defers = [] := by rw [hA32, Act.defers_put']; exact dd31
  clear hA32 z31 dd31 f31_47 f31_45 f31_44 f31_42 f31_40 f31_39
  refine wpAnyH_ready (rs := [28]) (by kernel_rfl) (by simp) (AllReadyH.cons (by simp only [List.getElem?_toArray, List.getElem?_cons_succ, List.getElem?_cons_zero]; rfl) (fun K hK => ?_) AllReadyH.nil)
  refine step_callg 24 39 true (by rfl) (by rfl) f32_39 11 #[.tmp 40, .tmp 42] #[23, 3] (by rfl) #[.pointer (some ⟨w.heap.size + 1, 0, none⟩), .int .i64 t] (by simp only [List.map_toArray, List.map_cons, List.map_nil, f32_40, f32_42]) Tryd.func11 (by kernel_rfl) rfl (hS.hs.c_of t HIk.out.2.1) (fun e w' hR => ?_)
  obtain ⟨rfl, hb2⟩ := hR
  refine ⟨_, rfl, hK.out _ _ (hS.next hb2) (fun hS => ?_)⟩
  obtain ⟨a33, hA33⟩ : ∃ a', a' = a32.put (some 43) (.int .u64 ((rv l2 t : Nat) : Int)) := ⟨_, rfl⟩
  change wpAnyH _ _ _ _ _ _ _ (a32.put (some 43) (.int .u64 ((rv l2 t : Nat) : Int))) _
  rw [← hA33]
  have f33_43 : a33.eval (.tmp 43) = .int .u64 ((rv l2 t : Nat) : Int) := by rw [hA33]; exact Act.eval_put_same _ _ _ (by omega)
  have f33_48 : a33.eval (.tmp 48) = .int .i64 t := by rw [hA33]; exact (Act.eval_put_ne _ _ _ _ (by decide)).trans f32_48
  have f33_45 : a33.eval (.tmp 45) = .agg #[.int .i64 k, .int .i64 f, .int .i64 t, .int .u64 (m : Int)] := by rw [hA33]; exact (Act.eval_put_ne _ _ _ _ (by decide)).trans f32_45
  have f33_44 : a33.eval (.tmp 44) = rV zerosR := by rw [hA33]; exact (Act.eval_put_ne _ _ _ _ (by decide)).trans f32_44
  have f33_39 : a33.eval (.tmp 39) = .bool true := by rw [hA33]; exact (Act.eval_put_ne _ _ _ _ (by decide)).trans f32_39
  have z33 : a33.tmps.size = 55 := by rw [hA33, Act.size_put]; exact z32
  have dd33 : a33.defers = [] := by rw [hA33, Act.defers_put']; exact dd32
  clear hA33 z32 dd32 f32_48 f32_45 f32_44 f32_42 f32_40 f32_39
  refine wpAnyH_ready (rs := [31]) (by kernel_rfl) (by simp) (AllReadyH.cons (by simp only [List.getElem?_toArray, List.getElem?_cons_succ, List.getElem?_cons_zero]; rfl) (fun K hK => ?_) AllReadyH.nil)
  refine step_callg 24 39 true (by rfl) (by rfl) f33_39 9 #[.tmp 44, .tmp 45] #[28, 31] (by rfl) #[rV zerosR, .agg #[.int .i64 k, .int .i64 f, .int .i64 t, .int .u64 (m : Int)]] (by simp only [List.map_toArray, List.map_cons, List.map_nil, f33_44, f33_45]) Tryd.func9 (by kernel_rfl) rfl ((HRd _).out) (fun e w' hR => ?_)
  obtain ⟨rfl, hb2⟩ := hR
  refine ⟨_, rfl, hK.out _ _ (hS.next hb2) (fun hS => ?_)⟩
  obtain ⟨a34, hA34⟩ : ∃ a', a' = a33.put (some 46) (rV l2) := ⟨_, rfl⟩
  change wpAnyH _ _ _ _ _ _ _ (a33.put (some 46) (rV l2)) _
  rw [← hA34]
  have f34_46 : a34.eval (.tmp 46) = rV l2 := by rw [hA34]; exact Act.eval_put_same _ _ _ (by omega)
  have f34_43 : a34.eval (.tmp 43) = .int .u64 ((rv l2 t : Nat) : Int) := by rw [hA34]; exact (Act.eval_put_ne _ _ _ _ (by decide)).trans f33_43
  have f34_48 : a34.eval (.tmp 48) = .int .i64 t := by rw [hA34]; exact (Act.eval_put_ne _ _ _ _ (by decide)).trans f33_48
  have f34_39 : a34.eval (.tmp 39) = .bool true := by rw [hA34]; exact (Act.eval_put_ne _ _ _ _ (by decide)).trans f33_39
  have z34 : a34.tmps.size = 55 := by rw [hA34, Act.size_put]; exact z33
  have dd34 : a34.defers = [] := by rw [hA34, Act.defers_put']; exact dd33
  clear hA34 z33 dd33 f33_43 f33_48 f33_45 f33_44 f33_39
  refine wpAnyH_ready (rs := [34]) (by kernel_rfl) (by simp) (AllReadyH.cons (by simp only [List.getElem?_toArray, List.getElem?_cons_succ, List.getElem?_cons_zero]; rfl) (fun K hK => ?_) AllReadyH.nil)
  refine step_callg 24 39 true (by rfl) (by rfl) f34_39 16 #[.tmp 46, .tmp 48] #[28, 3] (by rfl) #[rV l2, .int .i64 t] (by simp only [List.map_toArray, List.map_cons, List.map_nil, f34_46, f34_48]) Tryd.func16 (by kernel_rfl) rfl ((HRo _).out) (fun e w' hR => ?_)
  obtain ⟨rfl, hb2⟩ := hR
  refine ⟨_, rfl, hK.out _ _ (hS.next hb2) (fun hS => ?_)⟩
  obtain ⟨a35, hA35⟩ : ∃ a', a' = a34.put (some 49) (.int .u64 ((rv l2 t : Nat) : Int)) := ⟨_, rfl⟩
  change wpAnyH _ _ _ _ _ _ _ (a34.put (some 49) (.int .u64 ((rv l2 t : Nat) : Int))) _
  rw [← hA35]
  have f35_49 : a35.eval (.tmp 49) = .int .u64 ((rv l2 t : Nat) : Int) := by rw [hA35]; exact Act.eval_put_same _ _ _ (by omega)
  have f35_43 : a35.eval (.tmp 43) = .int .u64 ((rv l2 t : Nat) : Int) := by rw [hA35]; exact (Act.eval_put_ne _ _ _ _ (by decide)).trans f34_43
  have f35_39 : a35.eval (.tmp 39) = .bool true := by rw [hA35]; exact (Act.eval_put_ne _ _ _ _ (by decide)).trans f34_39
  have z35 : a35.tmps.size = 55 := by rw [hA35, Act.size_put]; exact z34
  have dd35 : a35.defers = [] := by rw [hA35, Act.defers_put']; exact dd34
  clear hA35 z34 dd34 f34_46 f34_43 f34_48 f34_39
  refine wpAnyH_take (i := 35) (v := .bool true) rfl (by kernel_rfl) (by kernel_rfl) (by kernel_rfl) (fun _ _ _ h => h) (yields_guarded 24 39 true rfl rfl f35_39 (yields_equ rfl (.tmp 43) (.tmp 49) rfl _ _ f35_43 f35_49 true (beq_self_eq_true _))) hS ?_
  obtain ⟨a36, hA36⟩ : ∃ a', a' = a35.put (some 50) (.bool true) := ⟨_, rfl⟩
  change wpAnyH _ _ _ _ _ _ _ (a35.put (some 50) (.bool true)) _
  rw [← hA36]
  have f36_50 : a36.eval (.tmp 50) = .bool true := by rw [hA36]; exact Act.eval_put_same _ _ _ (by omega)
  have f36_39 : a36.eval (.tmp 39) = .bool true := by rw [hA36]; exact (Act.eval_put_ne _ _ _ _ (by decide)).trans f35_39
  have z36 : a36.tmps.size = 55 := by rw [hA36, Act.size_put]; exact z35
  have dd36 : a36.defers = [] := by rw [hA36, Act.defers_put']; exact dd35
  clear hA36 z35 dd35 f35_49 f35_43 f35_39
  refine wpAnyH_take (i := 36) (v := .bool true) rfl (by kernel_rfl) (by kernel_rfl) (by kernel_rfl) (fun _ _ _ h => h) (yields_pick rfl (.tmp 39) (.tmp 50) (.const (.bool false)) rfl true f36_39 f36_50) hS ?_
  obtain ⟨a37, hA37⟩ : ∃ a', a' = a36.put (some 51) (.bool true) := ⟨_, rfl⟩
  change wpAnyH _ _ _ _ _ _ _ (a36.put (some 51) (.bool true)) _
  rw [← hA37]
  have f37_51 : a37.eval (.tmp 51) = .bool true := by rw [hA37]; exact Act.eval_put_same _ _ _ (by omega)
  have z37 : a37.tmps.size = 55 := by rw [hA37, Act.size_put]; exact z36
  have dd37 : a37.defers = [] := by rw [hA37, Act.defers_put']; exact dd36
  clear hA37 z36 dd36 f36_50 f36_39
  refine wpAnyH_take (i := 37) (v := .bool true) rfl (by kernel_rfl) (by kernel_rfl) (by kernel_rfl) (fun _ _ _ h => h) (yields_move rfl (.tmp 51) rfl f37_51) hS ?_
  obtain ⟨a38, hA38⟩ : ∃ a', a' = a37.put (some 52) (.bool true) := ⟨_, rfl⟩
  change wpAnyH _ _ _ _ _ _ _ (a37.put (some 52) (.bool true)) _
  rw [← hA38]
  have f38_52 : a38.eval (.tmp 52) = .bool true := by rw [hA38]; exact Act.eval_put_same _ _ _ (by omega)
  have z38 : a38.tmps.size = 55 := by rw [hA38, Act.size_put]; exact z37
  have dd38 : a38.defers = [] := by rw [hA38, Act.defers_put']; exact dd37
  clear hA38 z37 dd37 f37_51
  refine wpAnyH_ready (rs := [38]) (by kernel_rfl) (by simp) (AllReadyH.cons (by simp only [List.getElem?_toArray, List.getElem?_cons_succ, List.getElem?_cons_zero]; rfl) (fun K hK => ?_) AllReadyH.nil)
  refine step_callg 37 52 true (by rfl) (by rfl) f38_52 12 #[] #[] (by rfl) #[] (by simp) Tryd.func12 (by kernel_rfl) rfl ((HL _ hS.hs.1).out) (fun e w' hR => ?_)
  obtain ⟨rfl, hb2⟩ := hR
  refine ⟨_, rfl, hK.out _ _ (hS.next hb2) (fun hS => ?_)⟩
  obtain ⟨a39, hA39⟩ : ∃ a', a' = a38.put (some 53) (.bool true) := ⟨_, rfl⟩
  change wpAnyH _ _ _ _ _ _ _ (a38.put (some 53) (.bool true)) _
  rw [← hA39]
  have f39_53 : a39.eval (.tmp 53) = .bool true := by rw [hA39]; exact Act.eval_put_same _ _ _ (by omega)
  have f39_52 : a39.eval (.tmp 52) = .bool true := by rw [hA39]; exact (Act.eval_put_ne _ _ _ _ (by decide)).trans f38_52
  have z39 : a39.tmps.size = 55 := by rw [hA39, Act.size_put]; exact z38
  have dd39 : a39.defers = [] := by rw [hA39, Act.defers_put']; exact dd38
  clear hA39 z38 dd38 f38_52
  refine wpAnyH_take (i := 39) (v := .bool true) rfl (by kernel_rfl) (by kernel_rfl) (by kernel_rfl) (fun _ _ _ h => h) (yields_pick rfl (.tmp 52) (.tmp 53) (.const (.bool false)) rfl true f39_52 f39_53) hS ?_
  obtain ⟨a40, hA40⟩ : ∃ a', a' = a39.put (some 54) (.bool true) := ⟨_, rfl⟩
  change wpAnyH _ _ _ _ _ _ _ (a39.put (some 54) (.bool true)) _
  rw [← hA40]
  have f40_54 : a40.eval (.tmp 54) = .bool true := by rw [hA40]; exact Act.eval_put_same _ _ _ (by omega)
  have z40 : a40.tmps.size = 55 := by rw [hA40, Act.size_put]; exact z39
  have dd40 : a40.defers = [] := by rw [hA40, Act.defers_put']; exact dd39
  clear hA40 z39 dd39 f39_53 f39_52
  refine wpAnyH_take (i := 40) (v := .bool true) rfl (by kernel_rfl) (by kernel_rfl) (by kernel_rfl) (fun _ _ _ h => h) (yields_assign rfl (.tmp 54) rfl f40_54) hS ?_
  obtain ⟨a41, hA41⟩ : ∃ a', a' = a40.put (some 4) (.bool true) := ⟨_, rfl⟩
  change wpAnyH _ _ _ _ _ _ _ (a40.put (some 4) (.bool true)) _
  rw [← hA41]
  have f41_4 : a41.eval (.tmp 4) = .bool true := by rw [hA41]; exact Act.eval_put_same _ _ _ (by omega)
  have z41 : a41.tmps.size = 55 := by rw [hA41, Act.size_put]; exact z40
  have dd41 : a41.defers = [] := by rw [hA41, Act.defers_put']; exact dd40
  clear hA41 z40 dd40 f40_54
  refine wpAnyH_done (by kernel_rfl) ?_ _
  go_wp2_with fail
  exact ret_nil (by rw [← Array.getD_eq_getD_getElem?]; exact f41_4) dd41 ⟨rfl, hS.hs.1⟩
end Go.Proofs.YtjedinodopcdaaaDoor.rig
