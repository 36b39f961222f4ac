/-
  The document's own barrier: who is missing, one without a member, one with a member more. No condition. Printed by tools/mkbar.py.
-/
import Derived.Test.YtiekbbknmneikaaObjKit
import Derived.Test.YtiekbbknmneikaaBarPlain
import Derived.Test.YtiekbbknmneikaaBRefList
namespace Go.Proofs.Ytiekbbknmneikaa.bar
open Go.RowKit Go.ChangeShapes
open Go.Proofs.Ytiekbbknmneikaa.obj
open Go.Proofs.Ytiekbbknmneikaa.bits (Is64 hasB wth wout minus els ListAt refHas_any refWith_any refWithout_any refList_any)
set_option linter.unusedVariables false
set_option linter.unusedSimpArgs false

/-- Its cells, its block, its value. -/
def bxC (m : Bx) : List Value := [.int .u64 ((m.m : Nat) : Int), .int .u64 ((m.a : Nat) : Int)]
def bxO (m : Bx) : Obj := .cells (bxC m).toArray 29
def bxV (m : Bx) : Value := .agg (bxC m).toArray
theorem bx_size {n : Nat} (h : n = 2) : (Try.prog.info? 29).map (·.size) = some n := by
  subst h
  kernel_rfl
theorem bx_all (m : Bx) : (bxC m).toArray.all (·.oneCell') = true := by
  rw [Array.all_eq_true_iff_forall_mem]
  intro u hu
  unfold bxC at hu
  simp only [List.mem_toArray, List.mem_cons, List.not_mem_nil, or_false] at hu
  rcases hu with rfl | rfl <;> rfl
theorem bx_cell {w : World} {g : Nat} {m : Bx} (h : w.heap[g]? = some (bxO m)) {j : Nat} {v : Value} (hv : (bxC m)[j]? = some v) : w.cell? ⟨g, j, none⟩ = some v := by
  unfold World.cell?
  rw [h]
  unfold bxO
  simp only [List.getElem?_toArray]
  exact hv
theorem bx_cells {w : World} {g : Nat} {m : Bx} (h : w.heap[g]? = some (bxO m)) : w.cell? ⟨g, 0, none⟩ = some (.int .u64 ((m.m : Nat) : Int)) ∧ w.cell? ⟨g, 1, none⟩ = some (.int .u64 ((m.a : Nat) : Int)) :=
  ⟨bx_cell h rfl, bx_cell h rfl⟩
theorem bx_range {w : World} {g : Nat} {m : Bx} (h : w.heap[g]? = some (bxO m)) : w.rangeAt g 0 (bxC m) := fun j v hv => by
  rw [Nat.zero_add]
  exact bx_cell h hv
theorem bx_turned {w : World} {g : Nat} {m0 : Bx} (h : w.heap[g]? = some (bxO m0)) (m : Bx) : (w.setRow g (bxC m).toArray).heap[g]? = some (bxO m) := row_turned h _
def bxZ : Bx := ⟨0, 0⟩
theorem bxZ_run (w : World) : (zeroValue 29).run Try.prog w = .ok (.agg (bxC bxZ).toArray) w :=
  (zero_of_info (P := Try.prog) (t := 29) (v := .agg (bxC bxZ).toArray) (n := 2) (by kernel_rfl)).1 w
section
variable {ops : Array Oper} {rest : List Oper} {o : Oper} {a : Act} {w : World} {Q : Exit → Act → World → Prop} {K : Act → World → Prop} {S : World → Prop} {E : Prop}
theorem wbx_alloc (hgd : o.guard = none) (ho : o.op = .alloc 29)
    (h : wpList Try.prog ops Q rest (a.put o.dst (.pointer (some ⟨w.heap.size, 0, none⟩))) (w.alloc (bxO bxZ))) : wpList Try.prog ops Q (o :: rest) a w := by
  refine Go.Great.wpList_runTo hgd o.dst rfl _ _ ?_ h
  unfold execOp
  simp only [ho, Instr.alloc, Sem.run_bind, bxZ_run, Result.andThen_ok, newVar, newRow, Sem.run_pure, Value.cells]
  rfl
theorem wbx_box (hgd : o.guard = none) (x : Operand) (ho : o.op = .box 29 x) (m : Bx) (hx : a.eval x = bxV m)
    (h : wpList Try.prog ops Q rest (a.put o.dst (.pointer (some ⟨w.heap.size, 0, none⟩))) (w.alloc (bxO m))) : wpList Try.prog ops Q (o :: rest) a w :=
  Go.Great.wpList_boxTo hgd _ x ho o.dst rfl w.heap.size rfl (bxC m).toArray (by rw [hx]; rfl) h
theorem wbx_load (hgd : o.guard = none) (x : Operand) (ho : o.op = .load 29 x) (g : Nat) (hx : a.eval x = .pointer (some ⟨g, 0, none⟩)) (m : Bx) (hf : w.heap[g]? = some (bxO m))
    (h : wpList Try.prog ops Q rest (a.put o.dst (bxV m)) w) : wpList Try.prog ops Q (o :: rest) a w :=
  wpList_load_mid hgd _ x ho g 0 hx (bxC m) _ (bx_range hf) Try.underlying29 rfl (bx_size rfl) h
theorem wbx_store (hgd : o.guard = none) (x y : Operand) (ho : o.op = .store 29 x y) (g : Nat) (m0 m : Bx) (hx : a.eval x = .pointer (some ⟨g, 0, none⟩)) (hy : a.eval y = bxV m) (hg : w.heap[g]? = some (bxO m0))
    (h : wpList Try.prog ops Q rest (a.put o.dst undef) (w.setRow g (bxC m).toArray)) : wpList Try.prog ops Q (o :: rest) a w :=
  wpList_store_row hgd _ x y ho g (bxC m).toArray hx hy 29 (bxC m0).toArray hg (bx_size rfl) rfl (bx_all m) h
theorem sbx_alloc (hgd : o.guard = none) (ho : o.op = .alloc 29)
    (h : K (a.put o.dst (.pointer (some ⟨w.heap.size, 0, none⟩))) (w.alloc (bxO bxZ))) : if Region.wanted o (yielded ops a.tmps) = true then Oper.wp Try.prog o a w K Q else E := by
  have hw : Region.wanted o (yielded ops a.tmps) = true := by simp [Region.wanted, hgd]
  rw [if_pos hw]
  have hr : (execOp a.eval o).run Try.prog w = .ok (.value (.pointer (some ⟨w.heap.size, 0, none⟩))) (w.alloc (bxO bxZ)) := by
    unfold execOp
    simp only [ho, Instr.alloc, Sem.run_bind, bxZ_run, Result.andThen_ok, newVar, newRow, Sem.run_pure, Value.cells]
    rfl
  unfold Oper.wp
  rw [hr, Oper.upon_value]
  exact h
theorem sbx_store (hgd : o.guard = none) (x y : Operand) (ho : o.op = .store 29 x y) (g : Nat) (m0 m : Bx) (hx : a.eval x = .pointer (some ⟨g, 0, none⟩)) (hy : a.eval y = bxV m) (hg : w.heap[g]? = some (bxO m0))
    (h : K (a.put o.dst undef) (w.setRow g (bxC m).toArray)) : if Region.wanted o (yielded ops a.tmps) = true then Oper.wp Try.prog o a w K Q else E := by
  have hw : Region.wanted o (yielded ops a.tmps) = true := by simp [Region.wanted, hgd]
  rw [if_pos hw]
  exact wp_store_row _ x y ho g (bxC m).toArray hx hy 29 (bxC m0).toArray hg (bx_size rfl) rfl (bx_all m) h
theorem yields_bx (hw : o.guard = none) (x : Operand) (ho : o.op = .load 29 x) (g : Nat) (hx : a.eval x = .pointer (some ⟨g, 0, none⟩)) (m : Bx) (hS : ∀ w, S w → w.heap[g]? = some (bxO m)) : YieldsIf Try.prog ops S o (bxV m) a :=
  yieldsIf_load_mid (by simp [Region.wanted, hw]) _ x ho g 0 hx (bxC m) _ (fun w h => bx_range (hS w h)) Try.underlying29 rfl (bx_size rfl)
end
theorem bx_built (x y : Nat) : Try.prog.built 29 [(0, .int .u64 (x : Int)), (1, .int .u64 (y : Int))] = some (bxC ⟨x, y⟩).toArray := by kernel_rfl
theorem bx_built1 (x : Nat) : Try.prog.built 29 [(0, .int .u64 (x : Int))] = some (bxC ⟨x, 0⟩).toArray := by kernel_rfl
theorem bx_setm {w : World} {g : Nat} {m : Bx} (h : w.heap[g]? = some (bxO m)) (r : Nat) : (w.setCell ⟨g, 0, none⟩ (.int .u64 (r : Int))).heap[g]? = some (bxO ⟨r, m.a⟩) := by
  simp [World.setCell, Array.getElem?_modify, h, bxO, bxC]
theorem set_far {w : World} {g k i : Nat} (v : Value) (h : k ≠ g) : (w.setCell ⟨g, i, none⟩ v).heap[k]? = w.heap[k]? := by
  simp [World.setCell, Array.getElem?_modify, Ne.symm h]
theorem set_below {B g i : Nat} {a w : World} (h : Below B a w) (hg : B ≤ g) (v : Value) : Below B a (w.setCell ⟨g, i, none⟩ v) :=
  ⟨h.os, h.tape, h.output, Nat.le_trans h.size (by show w.heap.size ≤ (w.heap.modify _ _).size; rw [Array.size_modify]; exact Nat.le_refl _), fun k hk => (set_far v (by omega)).trans (h.block k hk)⟩
theorem bx_soft {w : World} {g : Nat} {m : Bx} (h : w.heap[g]? = some (bxO m)) (i : Nat) : w.frozen? ⟨g, i, none⟩ = false := by
  simp [World.frozen?, h, bxO]
section
variable {ops : Array Oper} {S : World → Prop} {o : Oper} {a : Act}
theorem yields_bfld (hg : o.guard = none) (y : Operand) (k : Nat) (hk : k < 2) (ho : o.op = .fieldAddr 29 y k) (g : Nat) (hx : a.eval y = .pointer (some ⟨g, 0, none⟩)) : YieldsIf Try.prog ops S o (.pointer (some ⟨g, k, none⟩)) a :=
  .inl ⟨by simp [Region.wanted, hg], fun w' _ => by
    unfold execOp
    simp only [ho, hx]
    match k, hk with
    | 0, _ => go_simp
    | 1, _ => go_simp⟩
theorem yields_u64 (hg : o.guard = none) (y : Operand) (ho : o.op = .load 24 y) (p : Addr) (hx : a.eval y = .pointer (some p)) (n : Int) (hS : ∀ w, S w → w.cell? p = some (.int .u64 n)) : YieldsIf Try.prog ops S o (.int .u64 n) a :=
  .inl ⟨by simp [Region.wanted, hg], fun w' h => by
    have hc := hS w' h
    unfold execOp
    simp only [ho, hx]
    go_simp⟩
theorem yields_bbuild (hg : o.guard = none) (x y : Operand) (ho : o.op = .build 29 #[(0, x), (1, y)]) (n m : Nat) (hx : a.eval x = .int .u64 (n : Int)) (hy : a.eval y = .int .u64 (m : Int)) : YieldsIf Try.prog ops S o (bxV ⟨n, m⟩) a :=
  .inl ⟨by simp [Region.wanted, hg], fun w' _ => by
    have e : (#[(0, x), (1, y)].map fun (i, x) => (i, a.eval x)).toList = [((0 : Nat), Value.int .u64 (n : Int)), (1, .int .u64 (m : Int))] := by simp [hx, hy]
    have hb := run_build (P := Try.prog) w' 29 (#[(0, x), (1, y)].map fun (i, x) => (i, a.eval x)) _ (by rw [e]; exact bx_built n m)
    unfold execOp
    simp only [ho, Sem.run_bind, hb, Sem.run_pure, Result.andThen_ok]
    rfl⟩
theorem yields_bbuild1 (hg : o.guard = none) (x : Operand) (ho : o.op = .build 29 #[(0, x)]) (n : Nat) (hx : a.eval x = .int .u64 (n : Int)) : YieldsIf Try.prog ops S o (bxV ⟨n, 0⟩) a :=
  .inl ⟨by simp [Region.wanted, hg], fun w' _ => by
    have e : (#[(0, x)].map fun (i, x) => (i, a.eval x)).toList = [((0 : Nat), Value.int .u64 (n : Int))] := by simp [hx]
    have hb := run_build (P := Try.prog) w' 29 (#[(0, x)].map fun (i, x) => (i, a.eval x)) _ (by rw [e]; exact bx_built1 n)
    unfold execOp
    simp only [ho, Sem.run_bind, hb, Sem.run_pure, Result.andThen_ok]
    rfl⟩
end
set_option maxRecDepth 100000 in
set_option maxHeartbeats 2000000 in
theorem refMissing_any (s : Bx) (w : World) (hm : Is64 s.m) (ha : Is64 s.a) : Calls Try.prog 12 #[bxV s] w fun e w' => e = .returned (.int .u64 ((missB s : Nat) : Int)) ∧ Below w.heap.size w w' := by
  have HB := Lib.hid ((Below.refl w.heap.size w).alloc (Nat.le_refl _) (bxO s))
  have HX := Lib.hid (heap_alloc_new w (bxO s))
  have HL := fun W => Lib.hid (refList_any s.a ha W)
  have HM := Lib.hid hm
  have HA := Lib.hid (lessJ_all hm ha)
  have h64 : (els s.a).length ≤ 64 := by
    unfold els
    have := List.length_filter_le (fun n => s.a.testBit n) (List.range 64)
    simpa using this
  have HI := Lib.hid h64
  clear hm ha h64
  go_enter Try.func12, Try.ntmps12
  go_upto_region 1 with (first | refine wbx_box rfl _ rfl s rfl ?_)
  try simp only [Act.put, List.setIfInBounds_toArray, List.set_cons_zero, List.set_cons_succ]
  generalize w.alloc (bxO s) = W1 at *
  refine wp_hold_act (fun a0 HA0 => ?_)
  have z0 : a0.tmps.size = 24 := by rw [HA0.out]; rfl
  have dd0 : a0.defers = [] := by rw [HA0.out]
  have f0_1 : a0.eval (.tmp 1) = .pointer (some ⟨w.heap.size, 0, none⟩) := by rw [HA0.out]; rfl
  refine wp_region_held_drew (S := fun w' => Below w.heap.size w w' ∧ w'.heap[w.heap.size]? = some (bxO s)) (by kernel_rfl) (⟨HB.out.drew, HX.out⟩) (fun hS => ?_)
  refine wpAnyH_take (i := 0) (v := .pointer (some ⟨w.heap.size, 0, none⟩)) rfl (by kernel_rfl) (by kernel_rfl) (by kernel_rfl) (fun _ _ _ h => h) (yields_bfld rfl (.tmp 1) 0 (by omega) rfl _ f0_1) hS ?_
  obtain ⟨a1, hA1⟩ : ∃ a', a' = a0.put (some 6) (.pointer (some ⟨w.heap.size, 0, none⟩)) := ⟨_, rfl⟩
  change wpAnyH _ _ _ _ _ _ _ (a0.put (some 6) (.pointer (some ⟨w.heap.size, 0, none⟩))) _
  rw [← hA1]
  have f1_6 : a1.eval (.tmp 6) = .pointer (some ⟨w.heap.size, 0, none⟩) := by rw [hA1]; exact Act.eval_put_same _ _ _ (by omega)
  have f1_1 : a1.eval (.tmp 1) = .pointer (some ⟨w.heap.size, 0, none⟩) := by rw [hA1]; exact (Act.eval_put_ne _ _ _ _ (by decide)).trans f0_1
  have z1 : a1.tmps.size = 24 := by rw [hA1, Act.size_put]; exact z0
  have dd1 : a1.defers = [] := by rw [hA1, Act.defers_put']; exact dd0
  have HA1 := Lib.hid hA1
  clear hA1 z0 dd0 f0_1
  refine wpAnyH_take (i := 1) (v := .int .u64 (s.m : Int)) rfl (by kernel_rfl) (by kernel_rfl) (by kernel_rfl) (fun _ _ _ h => h) (yields_u64 rfl (.tmp 6) rfl _ f1_6 _ (fun _ h => (bx_cells h.2).1)) hS ?_
  obtain ⟨a2, hA2⟩ : ∃ a', a' = a1.put (some 7) (.int .u64 (s.m : Int)) := ⟨_, rfl⟩
  change wpAnyH _ _ _ _ _ _ _ (a1.put (some 7) (.int .u64 (s.m : Int))) _
  rw [← hA2]
  have f2_7 : a2.eval (.tmp 7) = .int .u64 (s.m : Int) := by rw [hA2]; exact Act.eval_put_same _ _ _ (by omega)
  have f2_1 : a2.eval (.tmp 1) = .pointer (some ⟨w.heap.size, 0, none⟩) := by rw [hA2]; exact (Act.eval_put_ne _ _ _ _ (by decide)).trans f1_1
  have z2 : a2.tmps.size = 24 := by rw [hA2, Act.size_put]; exact z1
  have dd2 : a2.defers = [] := by rw [hA2, Act.defers_put']; exact dd1
  have HA2 := Lib.hid hA2
  clear hA2 z1 dd1 f1_6 f1_1
  refine wpAnyH_take (i := 2) (v := .pointer (some ⟨w.heap.size, 1, none⟩)) rfl (by kernel_rfl) (by kernel_rfl) (by kernel_rfl) (fun _ _ _ h => h) (yields_bfld rfl (.tmp 1) 1 (by omega) rfl _ f2_1) hS ?_
  obtain ⟨a3, hA3⟩ : ∃ a', a' = a2.put (some 8) (.pointer (some ⟨w.heap.size, 1, none⟩)) := ⟨_, rfl⟩
  change wpAnyH _ _ _ _ _ _ _ (a2.put (some 8) (.pointer (some ⟨w.heap.size, 1, none⟩))) _
  rw [← hA3]
  have f3_8 : a3.eval (.tmp 8) = .pointer (some ⟨w.heap.size, 1, none⟩) := by rw [hA3]; exact Act.eval_put_same _ _ _ (by omega)
  have f3_7 : a3.eval (.tmp 7) = .int .u64 (s.m : Int) := by rw [hA3]; exact (Act.eval_put_ne _ _ _ _ (by decide)).trans f2_7
  have z3 : a3.tmps.size = 24 := by rw [hA3, Act.size_put]; exact z2
  have dd3 : a3.defers = [] := by rw [hA3, Act.defers_put']; exact dd2
  have HA3 := Lib.hid hA3
  clear hA3 z2 dd2 f2_7 f2_1
  refine wpAnyH_take (i := 3) (v := .int .u64 (s.a : Int)) rfl (by kernel_rfl) (by kernel_rfl) (by kernel_rfl) (fun _ _ _ h => h) (yields_u64 rfl (.tmp 8) rfl _ f3_8 _ (fun _ h => (bx_cells h.2).2)) hS ?_
  obtain ⟨a4, hA4⟩ : ∃ a', a' = a3.put (some 9) (.int .u64 (s.a : Int)) := ⟨_, rfl⟩
  change wpAnyH _ _ _ _ _ _ _ (a3.put (some 9) (.int .u64 (s.a : Int))) _
  rw [← hA4]
  have f4_9 : a4.eval (.tmp 9) = .int .u64 (s.a : Int) := by rw [hA4]; exact Act.eval_put_same _ _ _ (by omega)
  have f4_7 : a4.eval (.tmp 7) = .int .u64 (s.m : Int) := by rw [hA4]; exact (Act.eval_put_ne _ _ _ _ (by decide)).trans f3_7
  have z4 : a4.tmps.size = 24 := by rw [hA4, Act.size_put]; exact z3
  have dd4 : a4.defers = [] := by rw [hA4, Act.defers_put']; exact dd3
  have HA4 := Lib.hid hA4
  clear hA4 z3 dd3 f3_8 f3_7
  refine wpAnyH_ready (rs := [4]) (by kernel_rfl) (by simp) (AllReadyH.cons (by simp only [List.getElem?_toArray, List.getElem?_cons_succ, List.getElem?_cons_zero]; rfl) (fun K hK => ?_) AllReadyH.nil)
  refine step_call (by rfl) 24 #[.tmp 9] #[24] (by rfl) #[.int .u64 (s.a : Int)] (by simp only [List.map_toArray, List.map_cons, List.map_nil, f4_9]) Try.func24 (by kernel_rfl) rfl ((HL W1.drew).out) (fun e w' hR => ?_)
  obtain ⟨g, cap, rfl, hl, hb2, hg⟩ := hR
  refine ⟨_, rfl, hK.out _ _ (⟨hS.1.trans (hb2.mono hS.1.size), (hb2.block _ (lt_of_block hS.2)).trans hS.2⟩) (fun hS => ?_)⟩
  obtain ⟨a5, hA5⟩ : ∃ a', a' = a4.put (some 10) (.slice (some ⟨g, 0, none⟩) (els s.a).length cap) := ⟨_, rfl⟩
  change wpAnyH _ _ _ _ _ _ _ (a4.put (some 10) (.slice (some ⟨g, 0, none⟩) (els s.a).length cap)) _
  rw [← hA5]
  have f5_10 : a5.eval (.tmp 10) = .slice (some ⟨g, 0, none⟩) (els s.a).length cap := by rw [hA5]; exact Act.eval_put_same _ _ _ (by omega)
  have f5_7 : a5.eval (.tmp 7) = .int .u64 (s.m : Int) := by rw [hA5]; exact (Act.eval_put_ne _ _ _ _ (by decide)).trans f4_7
  have z5 : a5.tmps.size = 24 := by rw [hA5, Act.size_put]; exact z4
  have dd5 : a5.defers = [] := by rw [hA5, Act.defers_put']; exact dd4
  have HA5 := Lib.hid hA5
  clear hA5 z4 dd4 f4_9 f4_7
  refine wpAnyH_take (i := 5) (v := .int .u64 (s.m : Int)) rfl (by kernel_rfl) (by kernel_rfl) (by kernel_rfl) (fun _ _ _ h => h) (yields_assign rfl (.tmp 7) rfl f5_7) hS ?_
  obtain ⟨a6, hA6⟩ : ∃ a', a' = a5.put (some 3) (.int .u64 (s.m : Int)) := ⟨_, rfl⟩
  change wpAnyH _ _ _ _ _ _ _ (a5.put (some 3) (.int .u64 (s.m : Int))) _
  rw [← hA6]
  have f6_3 : a6.eval (.tmp 3) = .int .u64 (s.m : Int) := by rw [hA6]; exact Act.eval_put_same _ _ _ (by omega)
  have f6_10 : a6.eval (.tmp 10) = .slice (some ⟨g, 0, none⟩) (els s.a).length cap := by rw [hA6]; exact (Act.eval_put_ne _ _ _ _ (by decide)).trans f5_10
  have z6 : a6.tmps.size = 24 := by rw [hA6, Act.size_put]; exact z5
  have dd6 : a6.defers = [] := by rw [hA6, Act.defers_put']; exact dd5
  have HA6 := Lib.hid hA6
  clear hA6 z5 dd5 f5_10 f5_7
  refine wpAnyH_take (i := 6) (v := .slice (some ⟨g, 0, none⟩) (els s.a).length cap) rfl (by kernel_rfl) (by kernel_rfl) (by kernel_rfl) (fun _ _ _ h => h) (yields_assign rfl (.tmp 10) rfl f6_10) hS ?_
  obtain ⟨a7, hA7⟩ : ∃ a', a' = a6.put (some 4) (.slice (some ⟨g, 0, none⟩) (els s.a).length cap) := ⟨_, rfl⟩
  change wpAnyH _ _ _ _ _ _ _ (a6.put (some 4) (.slice (some ⟨g, 0, none⟩) (els s.a).length cap)) _
  rw [← hA7]
  have f7_4 : a7.eval (.tmp 4) = .slice (some ⟨g, 0, none⟩) (els s.a).length cap := by rw [hA7]; exact Act.eval_put_same _ _ _ (by omega)
  have f7_3 : a7.eval (.tmp 3) = .int .u64 (s.m : Int) := by rw [hA7]; exact (Act.eval_put_ne _ _ _ _ (by decide)).trans f6_3
  have z7 : a7.tmps.size = 24 := by rw [hA7, Act.size_put]; exact z6
  have dd7 : a7.defers = [] := by rw [hA7, Act.defers_put']; exact dd6
  have HA7 := Lib.hid hA7
  clear hA7 z6 dd6 f6_3 f6_10
  refine wpAnyH_done (by kernel_rfl) ?_ _
  have HE := Lib.hid hS.1
  have HC := fun (j x : Nat) (h : (els s.a)[j]? = some x) => hl.cell h
  clear hS hb2 hg hl HL HX HB hK
  rw [HA7.out]
  rw [HA6.out]
  rw [HA5.out]
  rw [HA4.out]
  rw [HA3.out]
  rw [HA2.out]
  rw [HA1.out]
  rw [HA0.out]
  simp only [Act.put, List.setIfInBounds_toArray, List.set_cons_zero, List.set_cons_succ]
  go_wp2_with fail
  generalize hN : (els s.a).length = N at *
  have HN := Lib.hid hN
  clear hN
  go_loop [3, 5] (fun t i => ∃ j : Nat, j ≤ N ∧ i = .int .i64 (j : Int) ∧ t = .int .u64 ((lessJ s.m ((els s.a).take j) : Nat) : Int)) (fun _ i => N - (intOf i).toNat)
  case atStart => exact ⟨0, Nat.zero_le _, rfl, rfl⟩
  case round =>
    obtain ⟨j, hj, rfl, rfl⟩ := hrel
    have hs := lessJ_lt ((els s.a).take j) s.m HM.out
    have hN64 := HI.out
    by_cases hlt : j < N
    · have hjl : j < (els s.a).length := by have := HN.out; omega
      have hc := HC j _ (List.getElem?_eq_getElem hjl)
      have HT := Lib.hid (lessJ_take s.m (els s.a) hjl)
      generalize lessJ s.m ((els s.a).take j) = y at *
      generalize (els s.a)[j] = x at *
      clear hjl HC
      go_wp2_with fail
      refine (refWithout_any y hs x _).mono ?_
      rintro e w1 ⟨rfl, rfl⟩
      go_wp2
      go_round
      case rel => exact ⟨j + 1, by omega, by go_num, by rw [HT.out]⟩
      case measure => simp [intOf]; omega
    · obtain rfl : j = N := by omega
      have HT : Hid ((els s.a).take j = els s.a) := Lib.hid (List.take_of_length_le (by have := HN.out; omega))
      clear HC
      go_wp2
      go_ret
      exact ⟨by rw [HT.out, HA.out]; rfl, HE.out⟩
end Go.Proofs.Ytiekbbknmneikaa.bar
