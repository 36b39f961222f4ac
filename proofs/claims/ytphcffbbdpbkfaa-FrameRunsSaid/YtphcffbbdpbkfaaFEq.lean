/-
  A frame is the same as itself, number by number, as the model holds it against itself. No condition.
-/
import Derived.Test.YtphcffbbdpbkfaaFPop
import Derived.Test.YtphcffbbdpbkfaaFRefSame
import Derived.ChangeKeysEq
namespace Go.Proofs.Ytphcffbbdpbkfaa.frames
open Go.RowKit Go.ChangeShapes
set_option linter.unusedVariables false
set_option linter.unusedSimpArgs false

section
variable {w : World}
theorem run_part_int (f : Fr) {k : Nat} (hk : k < 27) (w : World) : (part 3 (cellsF f).toArray k).run Try.prog w = .ok (.int .i64 (num f k)) w :=
  run_part_plain (w := w) (P := Try.prog) (by kernel_rfl) (by rw [List.getElem?_toArray]; exact cellsF_at f hk)
theorem run_part_row {t : TypeId} {n : Nat} {e : TypeId} (f : Fr) (k : Nat) (hu : Try.prog.underlying t = some (.array n e)) (hs : (Try.prog.info? t).map (·.size) = some n) (hc : Try.prog.cellsOf t = n) (w : World) : (part t (cellsF f).toArray k).run Try.prog w = .ok (.agg ((cellsF f).toArray.extract k (k + n))) w := by
  cases hq : Try.prog.info? t with
  | none => rw [hq] at hs; cases hs
  | some i =>
    rw [hq] at hs
    have : i.size = n := by simpa using hs
    simp [part, isAgg, run_underlying hu, run_sizeOf w hq, hc, Sem.run_bind, Sem.run_pure, Result.andThen]
theorem run_item (f : Fr) {k n i : Nat} (hi : i < n) (hk : k + n ≤ 27) (w : World) : (part 3 ((cellsF f).toArray.extract k (k + n)) i).run Try.prog w = .ok (.int .i64 (num f (k + i))) w :=
  run_part_plain (w := w) (P := Try.prog) (by kernel_rfl) (by
    rw [Array.getElem?_extract, if_pos (by rw [List.size_toArray, cellsF_length]; omega), List.getElem?_toArray]
    exact cellsF_at f (by omega))
theorem eqInt (d : Nat) (n : Int) (w : World) : (Op.equalIn (d + 1) 3 (.int .i64 n) (.int .i64 n)).run Try.prog w = .ok true w := by
  rw [run_equalIn_int w d 3 .i64 .i64 n n Try.underlying3, beq_self_eq_true]
theorem eqItems_self (d : Nat) (f : Fr) {k n : Nat} (hk : k + n ≤ 27) (w : World) : ∀ is : List Nat, (∀ i ∈ is, i < n) →
    (Op.eqItems (d + 1) 3 1 ((cellsF f).toArray.extract k (k + n)) ((cellsF f).toArray.extract k (k + n)) is).run Try.prog w = .ok true w := by
  intro is
  induction is with
  | nil => intro _; rfl
  | cons i is ih =>
    intro h
    have h1 := run_item f (h i (List.mem_cons_self ..)) hk w
    simp only [Op.eqItems, Sem.run_bind, Nat.mul_one, h1, eqInt, Result.andThen_ok, Bool.not_true, Bool.false_eq_true, if_false]
    exact ih fun j hj => h j (List.mem_cons_of_mem _ hj)
theorem eqRow (d : Nat) {t : TypeId} {n : Nat} (f : Fr) {k : Nat} (hu : Try.prog.underlying t = some (.array n 3)) (hk : k + n ≤ 27) (w : World) : (Op.equalIn (d + 2) t (.agg ((cellsF f).toArray.extract k (k + n))) (.agg ((cellsF f).toArray.extract k (k + n)))).run Try.prog w = .ok true w := by
  obtain ⟨i, hi⟩ : ∃ i, Try.prog.info? 3 = some i := by
    cases h : Try.prog.info? 3 with
    | none => have := Try.prog.info? 3; exact absurd h (by decide +kernel)
    | some i => exact ⟨i, rfl⟩
  have hc : Try.prog.cellsOf 3 = 1 := by kernel_rfl
  rw [run_equalIn_array w (d + 1) _ _ hu hi, hc]
  exact eqItems_self d f hk w _ fun j hj => List.mem_range.1 hj
theorem eqFrame (f : Fr) (w : World) : (Op.equalIn 10000 45 (.agg (cellsF f).toArray) (.agg (cellsF f).toArray)).run Try.prog w = .ok true w := by
  have p0 := fun w => run_part_int f (k := 0) (by omega) w
  have p1 := fun w => run_part_int f (k := 1) (by omega) w
  have p2 := fun w => run_part_int f (k := 2) (by omega) w
  have p3 : ∀ w, (part 42 (cellsF f).toArray 3).run Try.prog w = .ok (.agg ((cellsF f).toArray.extract 3 11)) w := fun w => run_part_row (n := 8) f 3 Try.underlying42 (by kernel_rfl) (by kernel_rfl) w
  have p4 : ∀ w, (part 43 (cellsF f).toArray 11).run Try.prog w = .ok (.agg ((cellsF f).toArray.extract 11 27)) w := fun w => run_part_row (n := 16) f 11 Try.underlying43 (by kernel_rfl) (by kernel_rfl) w
  have e1 : ∀ n w, (Op.equalIn 9999 3 (.int .i64 n) (.int .i64 n)).run Try.prog w = .ok true w := eqInt 9998
  have e3 : ∀ w, (Op.equalIn 9999 42 (.agg ((cellsF f).toArray.extract 3 11)) (.agg ((cellsF f).toArray.extract 3 11))).run Try.prog w = .ok true w := fun w => eqRow 9997 (n := 8) f (k := 3) Try.underlying42 (by omega) w
  have e4 : ∀ w, (Op.equalIn 9999 43 (.agg ((cellsF f).toArray.extract 11 27)) (.agg ((cellsF f).toArray.extract 11 27))).run Try.prog w = .ok true w := fun w => eqRow 9997 (n := 16) f (k := 11) Try.underlying43 (by omega) w
  rw [show (10000 : Nat) = 9999 + 1 from rfl, run_equalIn_struct w 9999 45 _ _ (by kernel_rfl) (by kernel_rfl)]
  generalize (cellsF f).toArray = xs at *
  simp only [Program.fieldsOf, Try.underlying45, Op.eqFields]
  simp [Sem.run_bind, Sem.run_pure, p0, p1, p2, p3, p4, e1, e3, e4, Result.andThen_ok]
theorem neq_self (f : Fr) (ev : Operand → Value) (o : Oper) (x y : Operand) (w : World) (ho : o.op = .binOp .neq 45 x y 45) (hx : ev x = .agg (cellsF f).toArray) (hy : ev y = .agg (cellsF f).toArray) :
    (execOp ev o).run Try.prog w = .ok (.value (.bool false)) w := by
  have hg := run_eqGuard_agg (P := Try.prog) w .neq 45 x y (cellsF f).toArray (cellsF f).toArray (by kernel_rfl)
  have hn := run_neq_struct (P := Try.prog) w 45 (cellsF f).toArray (cellsF f).toArray
  rw [eqFrame] at hn
  unfold execOp
  simp only [ho, hx, hy, Sem.run_bind, hg, hn, Sem.run_pure, Result.andThen_ok, Bool.not_true]
end
end Go.Proofs.Ytphcffbbdpbkfaa.frames
