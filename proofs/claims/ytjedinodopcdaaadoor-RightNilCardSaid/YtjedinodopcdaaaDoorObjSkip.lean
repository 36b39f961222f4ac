/-
  Operations of a region that draws its order and are guarded: one that is not wanted, one that is; a comparison, a pick. No condition.
-/
import Derived.Test.YtjedinodopcdaaaDoorObjKit
namespace Go.Proofs.YtjedinodopcdaaaDoor.obj
open Go.RowKit Go.ChangeShapes
set_option linter.unusedVariables false
set_option linter.unusedSimpArgs false

section
variable {P : Program} {ops : Array Oper} {S : World → Prop} {o : Oper} {a : Act} {v : Value}
theorem tmp_bool {d : Nat} {c : Bool} (hx : a.eval (.tmp d) = .bool c) : a.tmps[d]? = some (.bool c) := by
  have h : a.tmps.getD d undef = .bool c := hx
  rw [Array.getD_eq_getD_getElem?] at h
  cases hq : a.tmps[d]? with
  | none => rw [hq] at h; cases h
  | some u => rw [hq] at h; exact congrArg some h
theorem yields_skip (i d : Nat) (b c : Bool) (hg : o.guard = some (i, b)) (hd : (ops[i]?).bind (·.dst) = some d) (hx : a.eval (.tmp d) = .bool c) (hne : (c == b) = false) : YieldsIf P ops S o undef a :=
  .inr ⟨by
    have hc := tmp_bool hx
    unfold Region.wanted yielded
    rw [hg]
    dsimp only
    rw [hd, Option.bind_some, hc]
    dsimp only
    cases b <;> cases c <;> first | rfl | (cases hne)
   , rfl⟩
theorem yields_guarded (i d : Nat) (b : Bool) (hg : o.guard = some (i, b)) (hd : (ops[i]?).bind (·.dst) = some d) (hx : a.eval (.tmp d) = .bool b) (h : YieldsIf P ops S { o with guard := none } v a) : YieldsIf P ops S o v a := by
  rcases h with ⟨_, hv⟩ | ⟨hw, _⟩
  · refine .inl ⟨?_, hv⟩
    have hc := tmp_bool hx
    unfold Region.wanted yielded
    rw [hg]
    dsimp only
    rw [hd, Option.bind_some, hc]
    dsimp only
    cases b <;> rfl
  · cases hw
theorem yields_pick (hg : o.guard = none) (x y z : Operand) (ho : o.op = .pick x y z) (c : Bool) (hx : a.eval x = .bool c) (hv : (if c = true then a.eval y else a.eval z) = v) : YieldsIf P ops S o v a :=
  .inl ⟨by simp [Region.wanted, hg], fun w' _ => by
    unfold execOp
    simp only [ho, hx]
    cases c <;> simp_all [go_sem]⟩
end
section
variable {ops : Array Oper} {S : World → Prop} {o : Oper} {a : Act}
theorem yields_lss (hg : o.guard = none) (x y : Operand) (ho : o.op = .binOp .lss 3 x y 3) (n m : Int) (hx : a.eval x = .int .i64 n) (hy : a.eval y = .int .i64 m) (b : Bool) (hb : decide (n < m) = b) : YieldsIf Tryd.prog ops S o (.bool b) a :=
  .inl ⟨by simp [Region.wanted, hg], fun w' _ => by
    unfold execOp
    simp only [ho, hx, hy]
    subst hb
    go_simp⟩
end
end Go.Proofs.YtjedinodopcdaaaDoor.obj
