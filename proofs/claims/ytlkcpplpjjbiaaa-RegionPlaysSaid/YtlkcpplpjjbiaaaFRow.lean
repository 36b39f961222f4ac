/-
  A frame that is made, and stored, in a region that draws its order; what a row's store leaves. No condition.
-/
import Derived.Test.YtlkcpplpjjbiaaaFStep
namespace Go.Proofs.Ytlkcpplpjjbiaaa.frames
open Go.RowKit Go.ChangeShapes
set_option linter.unusedVariables false

section
variable {ops : Array Oper} {o : Oper} {a : Act} {w : World} {Q : Exit → Act → World → Prop} {K : Act → World → Prop} {E : Prop}
theorem step_alloc (hgd : o.guard = none) (ho : o.op = .alloc 56)
    (h : K (a.put o.dst (.pointer (some ⟨w.heap.size, 0, none⟩))) (w.alloc (frB zeroF))) : if Region.wanted o (yielded ops a.tmps) = true then Oper.wp Try.prog o a w K Q else E := by
  have hw : Region.wanted o (yielded ops a.tmps) = true := by simp [Region.wanted, hgd]
  rw [if_pos hw]
  have hr : (execOp a.eval o).run Try.prog w = .ok (.value (.pointer (some ⟨w.heap.size, 0, none⟩))) (w.alloc (frB zeroF)) := by
    unfold execOp
    simp only [ho, Instr.alloc, Sem.run_bind, zeroF_run, Result.andThen_ok, newVar, newRow, Sem.run_pure, Value.cells]
    rfl
  unfold Oper.wp
  rw [hr, Oper.upon_value]
  exact h
theorem step_store (hgd : o.guard = none) (x y : Operand) (ho : o.op = .store 56 x y) (g : Nat) (f0 f : Fr) (hx : a.eval x = .pointer (some ⟨g, 0, none⟩)) (hy : a.eval y = .agg (cellsF f).toArray) (hg : w.heap[g]? = some (frB f0))
    (h : K (a.put o.dst undef) (w.setRow g (cellsF f).toArray)) : if Region.wanted o (yielded ops a.tmps) = true then Oper.wp Try.prog o a w K Q else E := by
  have hw : Region.wanted o (yielded ops a.tmps) = true := by simp [Region.wanted, hgd]
  rw [if_pos hw]
  exact wp_store_row _ x y ho g (cellsF f).toArray hx hy 56 (cellsF f0).toArray hg (sizeF (cellsF_size f)) (by rw [cellsF_size, cellsF_size]) (cellsF_all f) h
end
theorem row_same {w : World} {g : Nat} {f0 f : Fr} (h : w.heap[g]? = some (frB f0)) : (w.setRow g (cellsF f).toArray).heap[g]? = some (frB f) := by
  unfold frB at h ⊢
  simp [World.setRow, Array.getElem?_modify, h]
theorem row_far {w : World} {g b : Nat} (cs : Array Value) (h : b ≠ g) : (w.setRow g cs).heap[b]? = w.heap[b]? := by
  simp [World.setRow, Array.getElem?_modify, Ne.symm h]
theorem row_below {B : Nat} {a w : World} {g : Nat} (h : Below B a w) (hg : B ≤ g) (cs : Array Value) : Below B a (w.setRow g cs) :=
  ⟨h.os, h.tape, h.output, by simp only [World.setRow, Array.size_modify]; exact h.size, fun k hk => (row_far cs (by omega)).trans (h.block k hk)⟩
end Go.Proofs.Ytlkcpplpjjbiaaa.frames
