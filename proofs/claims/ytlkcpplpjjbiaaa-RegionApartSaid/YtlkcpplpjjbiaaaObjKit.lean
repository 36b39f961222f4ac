/-
  What the walks on objects take again and again: of the blocks that were there one alone has turned; a row that is stored; a region that draws its order, operation by operation. No condition.
-/
import Derived.Test.YtlkcpplpjjbiaaaProg
import Derived.WalkKit
import Derived.ProofKit
import Derived.WalkSpells
import Derived.Below
import Derived.Lib.Hide
import Derived.Deep.MidRow
import Derived.Deep.Cut
import Derived.Deep.CutBlock
import Derived.Deep.RegionHeld3
import Derived.StillTailTactics
import Derived.Great.Walk
import Derived.Great.Ranges
import Derived.BigCall
import Derived.Deep.WholeRow
import Derived.Outline
namespace Go.Proofs.Ytlkcpplpjjbiaaa.obj
open Go.RowKit Go.ChangeShapes
set_option linter.unusedVariables false
set_option linter.unusedSimpArgs false

def I64 (n : Int) : Prop := -9223372036854775808 ≤ n ∧ n ≤ 9223372036854775807
def U64 (n : Nat) : Prop := n < 18446744073709551616
theorem i64_of {z : Int} (h : (Lit.int .i64 z).wf = true) : I64 z := by
  have hx : -9223372036854775808 ≤ z ∧ z ≤ 9223372036854775807 := by simpa [Lit.wf, IntKind.min, IntKind.max, IntKind.signed, IntKind.bits] using h
  exact hx
/-- Of the blocks that were there only one has turned. -/
structure Only (g : Nat) (w w' : World) : Prop where
  os : w'.os = w.os
  tape : w'.tape = w.tape
  output : w'.output = w.output
  size : w.heap.size ≤ w'.heap.size
  block : ∀ k, k < w.heap.size → k ≠ g → w'.heap[k]? = w.heap[k]?
theorem Only.below {B g : Nat} {a w w' : World} (h : Below B a w) (ho : Only g w w') (hg : B ≤ g) (hB : B ≤ w.heap.size) : Below B a w' :=
  ⟨ho.os.trans h.os, ho.tape.trans h.tape, ho.output.trans h.output, Nat.le_trans h.size ho.size, fun k hk => (ho.block k (by omega) (by omega)).trans (h.block k hk)⟩
theorem Only.of_below {g : Nat} {w w' : World} (h : Below w.heap.size w w') : Only g w w' := ⟨h.os, h.tape, h.output, h.size, fun k hk _ => h.block k hk⟩
theorem Only.trans {g : Nat} {w w' w'' : World} (h : Only g w w') (h2 : Only g w' w'') : Only g w w'' :=
  ⟨h2.os.trans h.os, h2.tape.trans h.tape, h2.output.trans h.output, Nat.le_trans h.size h2.size, fun k hk hg => (h2.block k (Nat.lt_of_lt_of_le hk h.size) hg).trans (h.block k hk hg)⟩
theorem row_far {w : World} {g k : Nat} (rs : Array Value) (h : k ≠ g) : (w.setRow g rs).heap[k]? = w.heap[k]? := by
  simp [World.setRow, Array.getElem?_modify, Ne.symm h]
theorem row_size (w : World) (g : Nat) (rs : Array Value) : w.heap.size ≤ (w.setRow g rs).heap.size := by
  show w.heap.size ≤ (w.heap.modify _ _).size
  rw [Array.size_modify]
  exact Nat.le_refl _
theorem row_below {B g : Nat} {a w : World} (h : Below B a w) (hg : B ≤ g) (rs : Array Value) : Below B a (w.setRow g rs) :=
  ⟨h.os, h.tape, h.output, Nat.le_trans h.size (row_size w g rs), fun i hi => (row_far rs (by omega)).trans (h.block i hi)⟩
theorem row_turned {w : World} {g : Nat} {c : Array Value} {T : TypeId} {fr : Nat × Nat} (h : w.heap[g]? = some (.cells c T fr)) (cs : Array Value) : (w.setRow g cs).heap[g]? = some (.cells cs T fr) := by
  simp [World.setRow, Array.getElem?_modify, h]
theorem cells2 {w : World} {g : Nat} {a b : Value} {T : TypeId} (h : w.heap[g]? = some (.cells #[a, b] T (0, 0))) : w.cell? ⟨g, 0, none⟩ = some a ∧ w.cell? ⟨g, 1, none⟩ = some b := by
  simp [World.cell?, h]
theorem wp_hold_act {P : Program} {Q : Exit → Act → World → Prop} {c : Code} {a : Act} {w : World} (h : ∀ a', Hid (a' = a) → c.wp P Q a' w) : c.wp P Q a w := h a (Lib.hid rfl)
theorem wp_hold_world {P : Program} {Q : Exit → Act → World → Prop} {c : Code} {a : Act} {w : World} (h : ∀ w', Hid (w' = w) → c.wp P Q a w') : c.wp P Q a w := h w (Lib.hid rfl)
section
variable {P : Program} {ops : Array Oper} {S : World → Prop} {o : Oper} {a : Act} {v : Value}
theorem yields_move (hg : o.guard = none) (x : Operand) (ho : o.op = .move x) (hx : a.eval x = v) : YieldsIf P ops S o v a :=
  .inl ⟨by simp [Region.wanted, hg], fun w' _ => by
    unfold execOp
    simp only [ho, hx, Sem.run_bind, Sem.run_pure, Result.andThen_ok]⟩
theorem yields_assign (hg : o.guard = none) (x : Operand) (ho : o.op = .assign x) (hx : a.eval x = v) : YieldsIf P ops S o v a :=
  .inl ⟨by simp [Region.wanted, hg], fun w' _ => by
    unfold execOp
    simp only [ho, hx, Sem.run_bind, Sem.run_pure, Result.andThen_ok]⟩
theorem yields_part (hg : o.guard = none) (y : Operand) (k : Nat) (ho : o.op = .extract y k) (vs : Array Value) (v : Value) (hx : a.eval y = .tuple vs) (hv : vs[k]? = some v) : YieldsIf P ops S o v a :=
  .inl ⟨by simp [Region.wanted, hg], fun w' _ => by
    unfold execOp
    simp only [ho, hx]
    simp [hv, go_sem]⟩
end
section
variable {ops : Array Oper} {S : World → Prop} {o : Oper} {a : Act}
theorem yields_int (hg : o.guard = none) (y : Operand) (ho : o.op = .load 3 y) (p : Addr) (hx : a.eval y = .pointer (some p)) (n : Int) (hS : ∀ w, S w → w.cell? p = some (.int .i64 n)) : YieldsIf Try.prog ops S o (.int .i64 n) a :=
  .inl ⟨by simp [Region.wanted, hg], fun w' h => by
    have hc := hS w' h
    unfold execOp
    simp only [ho, hx]
    go_simp⟩
variable {w : World} {Q : Exit → Act → World → Prop} {K : Act → World → Prop} {E : Prop}
theorem step_call (hgd : o.guard = none) (F : Nat) (args : Array Operand) (ats : Array TypeId) (ho : o.op = .call { callee := .value (.func F), args := args, argTypes := ats }) (vals : Array Value) (hv : args.map a.eval = vals)
    {fn : Func} {c : Code} (hf : Try.prog.funcs[F]? = some fn) (hname : (fn.name == "runtime.NumGoroutine") = false) (hb : fn.body = some c) {R : Ending → World → Prop} (hc : Calls Try.prog F vals w R) (h : ∀ e w', R e w' → ∃ v, e = .returned v ∧ K (a.put o.dst v) w') :
    if Region.wanted o (yielded ops a.tmps) = true then Oper.wp Try.prog o a w K Q else E := by
  have hw : Region.wanted o (yielded ops a.tmps) = true := by simp [Region.wanted, hgd]
  rw [if_pos hw]
  have h1 : fn.name ≠ "runtime.NumGoroutine" := by simpa using hname
  have hr : (execOp a.eval o).run Try.prog w = .ok (.enter F vals) w := by
    obtain ⟨dst, op, ty, pos, after, guard⟩ := o
    dsimp only at ho
    subst ho
    rw [execOp_call_go, hv]
    simp [callFunc, hf, h1, hb]
  unfold Oper.wp
  rw [hr, Oper.upon_enter]
  refine hc.mono fun e w' hh => ?_
  obtain ⟨v, rfl, hk⟩ := h e w' hh
  exact hk
end
end Go.Proofs.Ytlkcpplpjjbiaaa.obj
