/-
  More operations of a region that draws its order: a call that is guarded, comparisons, a not, a field's and an element's address. No condition.
-/
import Derived.Test.YtjedinodopcdaaaDoorObjSkip
namespace Go.Proofs.YtjedinodopcdaaaDoor.obj
open Go.RowKit Go.ChangeShapes
set_option linter.unusedVariables false
set_option linter.unusedSimpArgs false

section
variable {P : Program} {ops : Array Oper} {o : Oper} {a : Act}
theorem wanted_of (i d : Nat) (b : Bool) (hg : o.guard = some (i, b)) (hd : (ops[i]?).bind (·.dst) = some d) (hx : a.eval (.tmp d) = .bool b) : Region.wanted o (yielded ops a.tmps) = true := by
  have hc := tmp_bool hx
  unfold Region.wanted yielded
  rw [hg]
  dsimp only
  rw [hd, Option.bind_some, hc]
  dsimp only
  cases b <;> rfl
end
section
variable {ops : Array Oper} {S : World → Prop} {o : Oper} {a : Act} {w : World} {Q : Exit → Act → World → Prop} {K : Act → World → Prop} {E : Prop}
theorem step_callg (i d : Nat) (b : Bool) (hg : o.guard = some (i, b)) (hd : (ops[i]?).bind (·.dst) = some d) (hb : a.eval (.tmp d) = .bool b) (F : Nat) (args : Array Operand) (ats : Array TypeId) (ho : o.op = .call { callee := .value (.func F), args := args, argTypes := ats }) (vals : Array Value) (hv : args.map a.eval = vals)
    {fn : Func} {c : Code} (hf : Tryd.prog.funcs[F]? = some fn) (hname : (fn.name == "runtime.NumGoroutine") = false) (hbody : fn.body = some c) {R : Ending → World → Prop} (hc : Calls Tryd.prog F vals w R) (h : ∀ e w', R e w' → ∃ v, e = .returned v ∧ K (a.put o.dst v) w') :
    if Region.wanted o (yielded ops a.tmps) = true then Oper.wp Tryd.prog o a w K Q else E := by
  rw [if_pos (wanted_of i d b hg hd hb)]
  have h1 : fn.name ≠ "runtime.NumGoroutine" := by simpa using hname
  have hr : (execOp a.eval o).run Tryd.prog w = .ok (.enter F vals) w := by
    obtain ⟨dst, op, ty, pos, after, guard⟩ := o
    dsimp only at ho
    subst ho
    rw [execOp_call_go, hv]
    simp [callFunc, hf, h1, hbody]
  unfold Oper.wp
  rw [hr, Oper.upon_enter]
  refine hc.mono fun e w' hh => ?_
  obtain ⟨v, rfl, hk⟩ := h e w' hh
  exact hk
theorem yields_equ (hg : o.guard = none) (x y : Operand) (ho : o.op = .binOp .eql 25 x y 25) (n m : Int) (hx : a.eval x = .int .u64 n) (hy : a.eval y = .int .u64 m) (b : Bool) (hb : (n == m) = b) : YieldsIf Tryd.prog ops S o (.bool b) a :=
  .inl ⟨by simp [Region.wanted, hg], fun w' _ => by
    unfold execOp
    simp only [ho, hx, hy]
    subst hb
    go_simp⟩
theorem yields_nequ (hg : o.guard = none) (x y : Operand) (ho : o.op = .binOp .neq 25 x y 25) (n m : Int) (hx : a.eval x = .int .u64 n) (hy : a.eval y = .int .u64 m) (b : Bool) (hb : (n != m) = b) : YieldsIf Tryd.prog ops S o (.bool b) a :=
  .inl ⟨by simp [Region.wanted, hg], fun w' _ => by
    unfold execOp
    simp only [ho, hx, hy]
    subst hb
    go_simp⟩
theorem yields_eqb (hg : o.guard = none) (x y : Operand) (ho : o.op = .binOp .eql 4 x y 4) (n : Bool) (hx : a.eval x = .bool n) (hy : a.eval y = .bool n) : YieldsIf Tryd.prog ops S o (.bool true) a :=
  .inl ⟨by simp [Region.wanted, hg], fun w' _ => by
    unfold execOp
    simp only [ho, hx, hy]
    cases n <;> go_simp⟩
theorem yields_not (hg : o.guard = none) (x : Operand) (ho : o.op = .unOp .not 4 x) (n m : Bool) (hx : a.eval x = .bool n) (hm : (!n) = m) : YieldsIf Tryd.prog ops S o (.bool m) a :=
  .inl ⟨by simp [Region.wanted, hg], fun w' _ => by
    unfold execOp
    simp only [ho, hx]
    subst hm
    cases n <;> go_simp⟩
theorem yields_u64 (hg : o.guard = none) (y : Operand) (ho : o.op = .load 25 y) (p : Addr) (hx : a.eval y = .pointer (some p)) (n : Int) (hS : ∀ w, S w → w.cell? p = some (.int .u64 n)) : YieldsIf Tryd.prog ops S o (.int .u64 n) a :=
  .inl ⟨by simp [Region.wanted, hg], fun w' h => by
    have hc := hS w' h
    unfold execOp
    simp only [ho, hx]
    go_simp⟩
end
end Go.Proofs.YtjedinodopcdaaaDoor.obj
