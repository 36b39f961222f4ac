/-
  The document's region as a value and in a box of its own. No condition. Its laws printed by tools/mkreg.py (kitgen).
-/
import Derived.Test.YtlkcpplpjjbiaaaPoMem
import Derived.Test.YtlkcpplpjjbiaaaRePlain
import Derived.Laws.OwnMore
namespace Go.Proofs.Ytlkcpplpjjbiaaa.reg
open Go.RowKit Go.ChangeShapes
open Go.Proofs.Ytlkcpplpjjbiaaa.obj
set_option linter.unusedVariables false
set_option linter.unusedSimpArgs false

/-- The document's region: its frames' slice, its number, its aborts, the slices of what was written and got. -/
structure Rg where
  A : Option Addr
  n : Nat
  c : Nat
  num : Int
  ab : Int
  U : Option Addr
  nu : Nat
  cu : Nat
  G : Option Addr
  ng : Nat
  cg : Nat
/-- Its cells, its block, its value. -/
def rgC (m : Rg) : List Value := [.slice m.A m.n m.c, .int .i64 m.num, .int .i64 m.ab, .slice m.U m.nu m.cu, .slice m.G m.ng m.cg]
def rgO (m : Rg) : Obj := .cells (rgC m).toArray 31
def rgV (m : Rg) : Value := .agg (rgC m).toArray
theorem rg_size {n : Nat} (h : n = 5) : (Try.prog.info? 31).map (·.size) = some n := by
  subst h
  kernel_rfl
theorem rg_all (m : Rg) : (rgC m).toArray.all (·.oneCell') = true := by
  rw [Array.all_eq_true_iff_forall_mem]
  intro u hu
  unfold rgC at hu
  simp only [List.mem_toArray, List.mem_cons, List.not_mem_nil, or_false] at hu
  rcases hu with rfl | rfl | rfl | rfl | rfl <;> rfl
theorem rg_cell {w : World} {g : Nat} {m : Rg} (h : w.heap[g]? = some (rgO m)) {j : Nat} {v : Value} (hv : (rgC m)[j]? = some v) : w.cell? ⟨g, j, none⟩ = some v := by
  unfold World.cell?
  rw [h]
  unfold rgO
  simp only [List.getElem?_toArray]
  exact hv
theorem rg_cells {w : World} {g : Nat} {m : Rg} (h : w.heap[g]? = some (rgO m)) : w.cell? ⟨g, 0, none⟩ = some (.slice m.A m.n m.c) ∧ w.cell? ⟨g, 1, none⟩ = some (.int .i64 m.num) ∧ w.cell? ⟨g, 2, none⟩ = some (.int .i64 m.ab) ∧ w.cell? ⟨g, 3, none⟩ = some (.slice m.U m.nu m.cu) ∧ w.cell? ⟨g, 4, none⟩ = some (.slice m.G m.ng m.cg) :=
  ⟨rg_cell h rfl, rg_cell h rfl, rg_cell h rfl, rg_cell h rfl, rg_cell h rfl⟩
theorem rg_range {w : World} {g : Nat} {m : Rg} (h : w.heap[g]? = some (rgO m)) : w.rangeAt g 0 (rgC m) := fun j v hv => by
  rw [Nat.zero_add]
  exact rg_cell h hv
theorem rg_turned {w : World} {g : Nat} {m0 : Rg} (h : w.heap[g]? = some (rgO m0)) (m : Rg) : (w.setRow g (rgC m).toArray).heap[g]? = some (rgO m) := row_turned h _
def rgZ : Rg := ⟨none, 0, 0, 0, 0, none, 0, 0, none, 0, 0⟩
theorem rgZ_run (w : World) : (zeroValue 31).run Try.prog w = .ok (.agg (rgC rgZ).toArray) w :=
  (zero_of_info (P := Try.prog) (t := 31) (v := .agg (rgC rgZ).toArray) (n := 5) (by kernel_rfl)).1 w
section
variable {ops : Array Oper} {rest : List Oper} {o : Oper} {a : Act} {w : World} {Q : Exit → Act → World → Prop} {K : Act → World → Prop} {S : World → Prop} {E : Prop}
theorem wrg_alloc (hgd : o.guard = none) (ho : o.op = .alloc 31)
    (h : wpList Try.prog ops Q rest (a.put o.dst (.pointer (some ⟨w.heap.size, 0, none⟩))) (w.alloc (rgO rgZ))) : wpList Try.prog ops Q (o :: rest) a w := by
  refine Go.Great.wpList_runTo hgd o.dst rfl _ _ ?_ h
  unfold execOp
  simp only [ho, Instr.alloc, Sem.run_bind, rgZ_run, Result.andThen_ok, newVar, newRow, Sem.run_pure, Value.cells]
  rfl
theorem wrg_box (hgd : o.guard = none) (x : Operand) (ho : o.op = .box 31 x) (m : Rg) (hx : a.eval x = rgV m)
    (h : wpList Try.prog ops Q rest (a.put o.dst (.pointer (some ⟨w.heap.size, 0, none⟩))) (w.alloc (rgO m))) : wpList Try.prog ops Q (o :: rest) a w :=
  Go.Great.wpList_boxTo hgd _ x ho o.dst rfl w.heap.size rfl (rgC m).toArray (by rw [hx]; rfl) h
theorem wrg_load (hgd : o.guard = none) (x : Operand) (ho : o.op = .load 31 x) (g : Nat) (hx : a.eval x = .pointer (some ⟨g, 0, none⟩)) (m : Rg) (hf : w.heap[g]? = some (rgO m))
    (h : wpList Try.prog ops Q rest (a.put o.dst (rgV m)) w) : wpList Try.prog ops Q (o :: rest) a w :=
  wpList_load_mid hgd _ x ho g 0 hx (rgC m) _ (rg_range hf) Try.underlying31 rfl (rg_size rfl) h
theorem wrg_store (hgd : o.guard = none) (x y : Operand) (ho : o.op = .store 31 x y) (g : Nat) (m0 m : Rg) (hx : a.eval x = .pointer (some ⟨g, 0, none⟩)) (hy : a.eval y = rgV m) (hg : w.heap[g]? = some (rgO m0))
    (h : wpList Try.prog ops Q rest (a.put o.dst undef) (w.setRow g (rgC m).toArray)) : wpList Try.prog ops Q (o :: rest) a w :=
  wpList_store_row hgd _ x y ho g (rgC m).toArray hx hy 31 (rgC m0).toArray hg (rg_size rfl) rfl (rg_all m) h
theorem srg_alloc (hgd : o.guard = none) (ho : o.op = .alloc 31)
    (h : K (a.put o.dst (.pointer (some ⟨w.heap.size, 0, none⟩))) (w.alloc (rgO rgZ))) : if Region.wanted o (yielded ops a.tmps) = true then Oper.wp Try.prog o a w K Q else E := by
  have hw : Region.wanted o (yielded ops a.tmps) = true := by simp [Region.wanted, hgd]
  rw [if_pos hw]
  have hr : (execOp a.eval o).run Try.prog w = .ok (.value (.pointer (some ⟨w.heap.size, 0, none⟩))) (w.alloc (rgO rgZ)) := by
    unfold execOp
    simp only [ho, Instr.alloc, Sem.run_bind, rgZ_run, Result.andThen_ok, newVar, newRow, Sem.run_pure, Value.cells]
    rfl
  unfold Oper.wp
  rw [hr, Oper.upon_value]
  exact h
theorem srg_store (hgd : o.guard = none) (x y : Operand) (ho : o.op = .store 31 x y) (g : Nat) (m0 m : Rg) (hx : a.eval x = .pointer (some ⟨g, 0, none⟩)) (hy : a.eval y = rgV m) (hg : w.heap[g]? = some (rgO m0))
    (h : K (a.put o.dst undef) (w.setRow g (rgC m).toArray)) : if Region.wanted o (yielded ops a.tmps) = true then Oper.wp Try.prog o a w K Q else E := by
  have hw : Region.wanted o (yielded ops a.tmps) = true := by simp [Region.wanted, hgd]
  rw [if_pos hw]
  exact wp_store_row _ x y ho g (rgC m).toArray hx hy 31 (rgC m0).toArray hg (rg_size rfl) rfl (rg_all m) h
theorem yields_rg (hw : o.guard = none) (x : Operand) (ho : o.op = .load 31 x) (g : Nat) (hx : a.eval x = .pointer (some ⟨g, 0, none⟩)) (m : Rg) (hS : ∀ w, S w → w.heap[g]? = some (rgO m)) : YieldsIf Try.prog ops S o (rgV m) a :=
  yieldsIf_load_mid (by simp [Region.wanted, hw]) _ x ho g 0 hx (rgC m) _ (fun w h => rg_range (hS w h)) Try.underlying31 rfl (rg_size rfl)
end
theorem rg_built2 (A : Option Addr) (n c : Nat) (x : Int) : Try.prog.built 31 [(0, .slice A n c), (1, .int .i64 x)] = some (rgC ⟨A, n, c, x, 0, none, 0, 0, none, 0, 0⟩).toArray := by kernel_rfl
theorem rg_built3 (A : Option Addr) (n c : Nat) (x y : Int) : Try.prog.built 31 [(0, .slice A n c), (1, .int .i64 x), (2, .int .i64 y)] = some (rgC ⟨A, n, c, x, y, none, 0, 0, none, 0, 0⟩).toArray := by kernel_rfl
section
variable {ops : Array Oper} {rest : List Oper} {o : Oper} {a : Act} {w : World} {Q : Exit → Act → World → Prop}
theorem wrg_build2 (hgd : o.guard = none) (x y : Operand) (ho : o.op = .build 31 #[(0, x), (1, y)]) (A : Option Addr) (n c : Nat) (k : Int) (hx : a.eval x = .slice A n c) (hy : a.eval y = .int .i64 k)
    (h : wpList Try.prog ops Q rest (a.put o.dst (rgV ⟨A, n, c, k, 0, none, 0, 0, none, 0, 0⟩)) w) : wpList Try.prog ops Q (o :: rest) a w := by
  have e : (#[(0, x), (1, y)].map fun (i, x) => (i, a.eval x)).toList = [((0 : Nat), Value.slice A n c), (1, .int .i64 k)] := by simp [hx, hy]
  refine wpList_build hgd _ _ ho (by rw [e, rg_built2]; rfl) ?_
  rw [e, rg_built2]
  exact h
theorem wrg_build3 (hgd : o.guard = none) (x y z : Operand) (ho : o.op = .build 31 #[(0, x), (1, y), (2, z)]) (A : Option Addr) (n c : Nat) (k j : Int) (hx : a.eval x = .slice A n c) (hy : a.eval y = .int .i64 k) (hz : a.eval z = .int .i64 j)
    (h : wpList Try.prog ops Q rest (a.put o.dst (rgV ⟨A, n, c, k, j, none, 0, 0, none, 0, 0⟩)) w) : wpList Try.prog ops Q (o :: rest) a w := by
  have e : (#[(0, x), (1, y), (2, z)].map fun (i, x) => (i, a.eval x)).toList = [((0 : Nat), Value.slice A n c), (1, .int .i64 k), (2, .int .i64 j)] := by simp [hx, hy, hz]
  refine wpList_build hgd _ _ ho (by rw [e, rg_built3]; rfl) ?_
  rw [e, rg_built3]
  exact h
end
theorem rg_setU {w : World} {g : Nat} {m : Rg} (h : w.heap[g]? = some (rgO m)) (A : Option Addr) (n c : Nat) : (w.setCell ⟨g, 3, none⟩ (.slice A n c)).heap[g]? = some (rgO { m with U := A, nu := n, cu := c }) := heap_setCell_same w g 3 _ _ _ h
theorem rg_setG {w : World} {g : Nat} {m : Rg} (h : w.heap[g]? = some (rgO m)) (A : Option Addr) (n c : Nat) : (w.setCell ⟨g, 4, none⟩ (.slice A n c)).heap[g]? = some (rgO { m with G := A, ng := n, cg := c }) := heap_setCell_same w g 4 _ _ _ h
theorem rg_free {w : World} {g : Nat} {m : Rg} (h : w.heap[g]? = some (rgO m)) (j : Nat) : w.frozen? ⟨g, j, none⟩ = false := frozen_of_row w g j _ _ h
theorem row_below {B g : Nat} {a w : World} (h : Below B a w) (hg : B ≤ g) (cs : Array Value) : Below B a (w.setRow g cs) :=
  ⟨h.os, h.tape, h.output, by simpa using h.size, fun k hk => (setRow_other w g k cs (by omega)).trans (h.block k hk)⟩
theorem ret_begin {W w : World} {act : Act} {m : Rg} {R : Ending → World → Prop} (h4 : act.tmps[4]?.getD undef = .pointer (some ⟨w.heap.size, 0, none⟩)) (hd : act.defers = []) (hE : W.heap[w.heap.size]? = some (rgO m)) (hR : R (.returned (rgV m)) W) :
    bodyPost Try.prog Try.f10 R .ret act W := by
  have hL := run_loadVar_mid (P := Try.prog) W (w.heap.size) 0 31 (rgC m) _ (rg_range hE) Try.underlying31 rfl (rg_size rfl)
  refine bodyPost_ret (v := rgV m) ?_ hd hR
  simp [results, Try.results10, asAddr, h4, hL, Sem.run_bind, Sem.run_pure, Result.andThen, rgV]
theorem ret_again {W w : World} {act : Act} {m : Rg} {R : Ending → World → Prop} (h4 : act.tmps[4]?.getD undef = .pointer (some ⟨w.heap.size + 1, 0, none⟩)) (hd : act.defers = []) (hE : W.heap[w.heap.size + 1]? = some (rgO m)) (hR : R (.returned (rgV m)) W) :
    bodyPost Try.prog Try.f31 R .ret act W := by
  have hL := run_loadVar_mid (P := Try.prog) W (w.heap.size + 1) 0 31 (rgC m) _ (rg_range hE) Try.underlying31 rfl (rg_size rfl)
  refine bodyPost_ret (v := rgV m) ?_ hd hR
  simp [results, Try.results31, asAddr, h4, hL, Sem.run_bind, Sem.run_pure, Result.andThen, rgV]
theorem ret_wrote {W w : World} {act : Act} {m : Rg} {R : Ending → World → Prop} (h6 : act.tmps[6]?.getD undef = .pointer (some ⟨w.heap.size + 1, 0, none⟩)) (hd : act.defers = []) (hE : W.heap[w.heap.size + 1]? = some (rgO m)) (hR : R (.returned (rgV m)) W) :
    bodyPost Try.prog Try.f29 R .ret act W := by
  have hL := run_loadVar_mid (P := Try.prog) W (w.heap.size + 1) 0 31 (rgC m) _ (rg_range hE) Try.underlying31 rfl (rg_size rfl)
  refine bodyPost_ret (v := rgV m) ?_ hd hR
  simp [results, Try.results29, asAddr, h6, hL, Sem.run_bind, Sem.run_pure, Result.andThen, rgV]
theorem ret_do {W w : World} {act : Act} {m : Rg} {R : Ending → World → Prop} (h4 : act.tmps[4]?.getD undef = .pointer (some ⟨w.heap.size + 2, 0, none⟩)) (hd : act.defers = []) (hE : W.heap[w.heap.size + 2]? = some (rgO m)) (hR : R (.returned (rgV m)) W) :
    bodyPost Try.prog Try.f13 R .ret act W := by
  have hL := run_loadVar_mid (P := Try.prog) W (w.heap.size + 2) 0 31 (rgC m) _ (rg_range hE) Try.underlying31 rfl (rg_size rfl)
  refine bodyPost_ret (v := rgV m) ?_ hd hR
  simp [results, Try.results13, asAddr, h4, hL, Sem.run_bind, Sem.run_pure, Result.andThen, rgV]
end Go.Proofs.Ytlkcpplpjjbiaaa.reg
