/-
  A region that draws its order, operation by operation: laws that the walks on a mutex take. No condition.
-/
import Derived.Test.YtelpkfldmgeaiaaMuWalk
import Derived.Deep.RegionHeld3
import Derived.StillTailTactics
import Derived.Great.Walk
import Derived.BigCall
import Derived.Deep.WholeRow
namespace Go.Proofs.Ytelpkfldmgeaiaa.mut
open Go.RowKit Go.ChangeShapes
set_option linter.unusedVariables false
set_option linter.unusedSimpArgs false

theorem wp_hold_act {P : Program} {Q : Exit → Act → World → Prop} {c : Code} {a : Act} {w : World} (h : ∀ a', Hid (a' = a) → c.wp P Q a' w) : c.wp P Q a w := h a (Lib.hid rfl)
section
variable {P : Program} {ops : Array Oper} {S : World → Prop} {o : Oper} {a : Act} {v : Value}
theorem yields_move (hg : o.guard = none) (x : Operand) (ho : o.op = .move x) (hx : a.eval x = v) : YieldsIf P ops S o v a :=
  .inl ⟨by simp [Region.wanted, hg], fun w' _ => by
    unfold execOp
    simp only [ho, hx, Sem.run_bind, Sem.run_pure, Result.andThen_ok]⟩
theorem yields_assign (hg : o.guard = none) (x : Operand) (ho : o.op = .assign x) (hx : a.eval x = v) : YieldsIf P ops S o v a :=
  .inl ⟨by simp [Region.wanted, hg], fun w' _ => by
    unfold execOp
    simp only [ho, hx, Sem.run_bind, Sem.run_pure, Result.andThen_ok]⟩
theorem yields_part (hg : o.guard = none) (y : Operand) (k : Nat) (ho : o.op = .extract y k) (vs : Array Value) (v : Value) (hx : a.eval y = .tuple vs) (hv : vs[k]? = some v) : YieldsIf P ops S o v a :=
  .inl ⟨by simp [Region.wanted, hg], fun w' _ => by
    unfold execOp
    simp only [ho, hx]
    simp [hv, go_sem]⟩
end
section
variable {ops : Array Oper} {S : World → Prop} {o : Oper} {a : Act}
theorem yields_mx (hw : o.guard = none) (x : Operand) (ho : o.op = .load 28 x) (g : Nat) (hx : a.eval x = .pointer (some ⟨g, 0, none⟩)) (m : Mx) (hS : ∀ w, S w → w.heap[g]? = some (mxO m)) : YieldsIf Try.prog ops S o (mxV m) a :=
  yieldsIf_load_mid (by simp [Region.wanted, hw]) _ x ho g 0 hx (mxC m) _ (fun w h => mx_range (hS w h)) Try.underlying28 rfl (sizeM rfl)
theorem yields_idx (hg : o.guard = none) (y z : Operand) (ho : o.op = .indexAddr 22 y z) (b i n c j : Nat) (hx : a.eval y = .slice (some ⟨b, i, none⟩) n c) (hz : a.eval z = .int .i64 (j : Int)) (k0 : (0 : Int) ≤ (j : Int)) (k1 : (j : Int) < (n : Int)) : YieldsIf Try.prog ops S o (.pointer (some ⟨b, i + j * 2, none⟩)) a :=
  .inl ⟨by simp [Region.wanted, hg], fun w' _ => by
    unfold execOp
    simp only [ho, hx, hz]
    go_simp⟩
theorem sizeO {n : Nat} (h : n = 2) : (Try.prog.info? 33).map (·.size) = some n := by
  subst h
  kernel_rfl
theorem yields_op (hw : o.guard = none) (x : Operand) (ho : o.op = .load 33 x) (b i : Nat) (hx : a.eval x = .pointer (some ⟨b, i, none⟩)) (k t : Int) (hS : ∀ w, S w → w.cell? ⟨b, i, none⟩ = some (.int .i64 k) ∧ w.cell? ⟨b, i + 1, none⟩ = some (.int .i64 t)) : YieldsIf Try.prog ops S o (.agg #[.int .i64 k, .int .i64 t]) a :=
  yieldsIf_load_mid (by simp [Region.wanted, hw]) _ x ho b i hx [.int .i64 k, .int .i64 t] _ (fun w h j v hv => by
    obtain ⟨h0, h1⟩ := hS w h
    match j, hv with
    | 0, hv => obtain rfl := Option.some.inj hv; exact h0
    | 1, hv => obtain rfl := Option.some.inj hv; exact h1) Try.underlying33 rfl (sizeO rfl)
variable {w : World} {Q : Exit → Act → World → Prop} {K : Act → World → Prop} {E : Prop}
theorem step_call (hgd : o.guard = none) (F : Nat) (args : Array Operand) (ats : Array TypeId) (ho : o.op = .call { callee := .value (.func F), args := args, argTypes := ats }) (vals : Array Value) (hv : args.map a.eval = vals)
    {fn : Func} {c : Code} (hf : Try.prog.funcs[F]? = some fn) (hname : (fn.name == "runtime.NumGoroutine") = false) (hb : fn.body = some c) {R : Ending → World → Prop} (hc : Calls Try.prog F vals w R) (h : ∀ e w', R e w' → ∃ v, e = .returned v ∧ K (a.put o.dst v) w') :
    if Region.wanted o (yielded ops a.tmps) = true then Oper.wp Try.prog o a w K Q else E := by
  have hw : Region.wanted o (yielded ops a.tmps) = true := by simp [Region.wanted, hgd]
  rw [if_pos hw]
  have h1 : fn.name ≠ "runtime.NumGoroutine" := by simpa using hname
  have hr : (execOp a.eval o).run Try.prog w = .ok (.enter F vals) w := by
    obtain ⟨dst, op, ty, pos, after, guard⟩ := o
    dsimp only at ho
    subst ho
    rw [execOp_call_go, hv]
    simp [callFunc, hf, h1, hb]
  unfold Oper.wp
  rw [hr, Oper.upon_enter]
  refine hc.mono fun e w' hh => ?_
  obtain ⟨v, rfl, hk⟩ := h e w' hh
  exact hk
theorem zM_run (w : World) : (zeroValue 28).run Try.prog w = .ok (.agg (mxC zM).toArray) w :=
  (zero_of_info (P := Try.prog) (t := 28) (v := .agg (mxC zM).toArray) (n := 3) (by kernel_rfl)).1 w
theorem step_malloc (hgd : o.guard = none) (ho : o.op = .alloc 28)
    (h : K (a.put o.dst (.pointer (some ⟨w.heap.size, 0, none⟩))) (w.alloc (mxO zM))) : if Region.wanted o (yielded ops a.tmps) = true then Oper.wp Try.prog o a w K Q else E := by
  have hw : Region.wanted o (yielded ops a.tmps) = true := by simp [Region.wanted, hgd]
  rw [if_pos hw]
  have hr : (execOp a.eval o).run Try.prog w = .ok (.value (.pointer (some ⟨w.heap.size, 0, none⟩))) (w.alloc (mxO zM)) := by
    unfold execOp
    simp only [ho, Instr.alloc, Sem.run_bind, zM_run, Result.andThen_ok, newVar, newRow, Sem.run_pure, Value.cells]
    rfl
  unfold Oper.wp
  rw [hr]
  exact h
theorem step_mstore (hgd : o.guard = none) (x y : Operand) (ho : o.op = .store 28 x y) (g : Nat) (m0 m : Mx) (hx : a.eval x = .pointer (some ⟨g, 0, none⟩)) (hy : a.eval y = mxV m) (hg : w.heap[g]? = some (mxO m0))
    (h : K (a.put o.dst undef) (w.setRow g (mxC m).toArray)) : if Region.wanted o (yielded ops a.tmps) = true then Oper.wp Try.prog o a w K Q else E := by
  have hw : Region.wanted o (yielded ops a.tmps) = true := by simp [Region.wanted, hgd]
  rw [if_pos hw]
  exact wp_store_row _ x y ho g (mxC m).toArray hx hy 28 (mxC m0).toArray hg (sizeM rfl) rfl (mxC_all m) h
end
theorem ret_new16 {W w : World} {act : Act} {m : Mx} (h2 : act.tmps[0]?.getD undef = .pointer (some ⟨w.heap.size, 0, none⟩)) (hd : act.defers = []) (hE : W.heap[w.heap.size]? = some (mxO m)) (hb : Below w.heap.size w W) :
    bodyPost Try.prog Try.f6 (MxPost m w) .ret act W := by
  obtain ⟨x0, x1, x2⟩ := mx_cells hE
  refine bodyPost_ret (v := mxV m) ?_ hd ⟨rfl, hb⟩
  simp [results, Try.results6, go_sem, h2, x0, x1, x2, mxV]
theorem refNew16_any (w : World) : Calls Try.prog 6 #[] w (MxPost newM w) := by
  go_enter Try.func6, Try.ntmps6
  go_wp2
  exact ret_new16 (m := newM) rfl rfl (heap_alloc_new w (mxO newM)) ((Below.refl _ w).alloc (Nat.le_refl _) _)
/-- What holds while calls are made: the program's mutex, the document's in its box. -/
structure Pz (At : World → Nat → Mx → Prop) (w : World) (gx : Nat) (m : Mx) (W : World) : Prop where
  below : Below w.heap.size w W
  at' : At W w.heap.size m
  x : W.heap[gx]? = some (mxO m)
  far : w.heap.size < gx
theorem Pz.next {At : World → Nat → Mx → Prop} (K : Keeps At) {w W W' : World} {gx : Nat} {m : Mx} (h : Pz At w gx m W) (hb : Below W.heap.size W W') : Pz At w gx m W' :=
  ⟨h.below.trans (hb.mono h.below.size), K.loc _ _ _ _ h.at' (hb.block _ (K.lt _ _ _ h.at')) hb.size, (hb.block _ (lt_of_block h.x)).trans h.x, h.far⟩
theorem row_belowM {B g : Nat} {a w : World} (h : Below B a w) (hg : B ≤ g) (rs : Array Value) : Below B a (w.setRow g rs) := by
  refine ⟨h.os, h.tape, h.output, ?_, fun i hi => (row_far rs (by omega)).trans (h.block i hi)⟩
  show a.heap.size ≤ (w.heap.modify _ _).size
  rw [Array.size_modify]
  exact h.size
theorem Pz.row {At : World → Nat → Mx → Prop} (K : Keeps At) {w W : World} {gx : Nat} {m : Mx} (h : Pz At w gx m W) {k : Nat} (hk : w.heap.size < k) (hx : k ≠ gx) (rs : Array Value) : Pz At w gx m (W.setRow k rs) :=
  ⟨row_belowM h.below (Nat.le_of_lt hk) rs, K.loc _ _ _ _ h.at' (row_far rs (by omega)) (by show W.heap.size ≤ (W.heap.modify _ _).size; rw [Array.size_modify]; exact Nat.le_refl _), (row_far rs (Ne.symm hx)).trans h.x, h.far⟩
end Go.Proofs.Ytelpkfldmgeaiaa.mut
