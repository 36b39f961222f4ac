/-
  What the statements on a mutex ask of the program's calls; and a call by its number. No condition.
-/
import Derived.Test.YtelpkfldmgeaiaaMuRefDo
import Derived.Test.YtelpkfldmgeaiaaMuOps
import Derived.Great.Ranges
import Derived.Outline
namespace Go.Proofs.Ytelpkfldmgeaiaa.mut
open Go.RowKit Go.ChangeShapes
set_option linter.unusedVariables false
set_option linter.unusedSimpArgs false

/-- Of the blocks that were there only one has turned. -/
structure Only (g : Nat) (w w' : World) : Prop where
  os : w'.os = w.os
  tape : w'.tape = w.tape
  output : w'.output = w.output
  size : w.heap.size ≤ w'.heap.size
  block : ∀ k, k < w.heap.size → k ≠ g → w'.heap[k]? = w.heap[k]?
theorem Only.below {B g : Nat} {a w w' : World} (h : Below B a w) (ho : Only g w w') (hg : B ≤ g) (hB : B ≤ w.heap.size) : Below B a w' :=
  ⟨ho.os.trans h.os, ho.tape.trans h.tape, ho.output.trans h.output, Nat.le_trans h.size ho.size, fun k hk => (ho.block k (by omega) (by omega)).trans (h.block k hk)⟩
theorem Only.of_below {g : Nat} {w w' : World} (h : Below w.heap.size w w') : Only g w w' := ⟨h.os, h.tape, h.output, h.size, fun k hk _ => h.block k hk⟩
/-- A zero mutex. -/
noncomputable def mzC : Array Value := (Try.prog.built 26 []).getD #[]
noncomputable def mzB : Obj := .cells mzC 26
theorem mz_built : Try.prog.built 26 [] = some mzC := by kernel_rfl
section
variable {ops : Array Oper} {rest : List Oper} {o : Oper} {a : Act} {w : World} {Q : Exit → Act → World → Prop}
theorem wq_build (hgd : o.guard = none) (ho : o.op = .build 26 #[])
    (h : wpList Try.prog ops Q rest (a.put o.dst (.agg mzC)) w) : wpList Try.prog ops Q (o :: rest) a w := by
  have e : ((#[] : Array (Nat × Operand)).map fun (i, x) => (i, a.eval x)).toList = [] := by simp
  refine wpList_build hgd _ _ ho (by rw [e, mz_built]; rfl) ?_
  rw [e, mz_built]
  exact h
theorem wq_box (hgd : o.guard = none) (x : Operand) (ho : o.op = .box 26 x) (hx : a.eval x = .agg mzC)
    (h : wpList Try.prog ops Q rest (a.put o.dst (.pointer (some ⟨w.heap.size, 0, none⟩))) (w.alloc mzB)) : wpList Try.prog ops Q (o :: rest) a w :=
  Go.Great.wpList_boxTo hgd _ x ho o.dst rfl w.heap.size rfl mzC (by rw [hx]; rfl) h
end
/-- What is asked of the program's calls; At says how a mutex lies in its block. -/
structure Keeps (At : World → Nat → Mx → Prop) : Prop where
  loc : ∀ (w w' : World) g m, At w g m → w'.heap[g]? = w.heap[g]? → w.heap.size ≤ w'.heap.size → At w' g m
  lt : ∀ (w : World) g m, At w g m → g < w.heap.size
  new : ∀ w : World, At (w.alloc mzB) w.heap.size newM
  lock : ∀ w g m t, At w g m → Fine m → I64 t → Calls Try.prog 13 #[.pointer (some ⟨g, 0, none⟩), .int .i64 t] w fun e w' => e = .returned (.int .i64 (lockM m t).2) ∧ At w' g (lockM m t).1 ∧ Only g w w'
  unlock : ∀ w g m t, At w g m → Fine m → I64 t → Calls Try.prog 14 #[.pointer (some ⟨g, 0, none⟩), .int .i64 t] w fun e w' => e = .returned (.int .i64 (doM m 1 t).2) ∧ At w' g (doM m 1 t).1 ∧ Only g w w'
  free : ∀ w g m t, At w g m → Fine m → I64 t → Calls Try.prog 16 #[.pointer (some ⟨g, 0, none⟩), .int .i64 t] w fun e w' => e = .returned (.bool (decide (ownM m t))) ∧ At w' g (doM m 2 t).1 ∧ Only g w w'
  die : ∀ w g m t, At w g m → Fine m → I64 t → Calls Try.prog 17 #[.pointer (some ⟨g, 0, none⟩), .int .i64 t] w fun e w' => e = .returned (.bool (decide (ownM m t))) ∧ At w' g (doM m 3 t).1 ∧ Only g w w'
  mend : ∀ w g m t, At w g m → Fine m → I64 t → Calls Try.prog 15 #[.pointer (some ⟨g, 0, none⟩), .int .i64 t] w fun e w' => e = .returned (.int .i64 (doM m 4 t).2) ∧ At w' g (doM m 4 t).1 ∧ Only g w w'
  owner : ∀ w g m, At w g m → Fine m → Calls Try.prog 9 #[.pointer (some ⟨g, 0, none⟩)] w fun e w' => e = .returned (.int .i64 m.o) ∧ Below w.heap.size w w'
  bad : ∀ w g m, At w g m → Fine m → Calls Try.prog 10 #[.pointer (some ⟨g, 0, none⟩)] w fun e w' => e = .returned (.bool m.bad) ∧ Below w.heap.size w w'
  lost : ∀ w g m, At w g m → Fine m → Calls Try.prog 11 #[.pointer (some ⟨g, 0, none⟩)] w fun e w' => e = .returned (.bool m.lost) ∧ Below w.heap.size w w'
  nlock : ∀ w t, I64 t → Calls Try.prog 13 #[.pointer none, .int .i64 t] w fun e w' => e = .returned (.int .i64 1) ∧ Below w.heap.size w w'
  nunlock : ∀ w t, I64 t → Calls Try.prog 14 #[.pointer none, .int .i64 t] w fun e w' => e = .returned (.int .i64 1) ∧ Below w.heap.size w w'
  nmend : ∀ w t, I64 t → Calls Try.prog 15 #[.pointer none, .int .i64 t] w fun e w' => e = .returned (.int .i64 1) ∧ Below w.heap.size w w'
  nfree : ∀ w t, I64 t → Calls Try.prog 16 #[.pointer none, .int .i64 t] w fun e w' => e = .returned (.bool false) ∧ Below w.heap.size w w'
  ndie : ∀ w t, I64 t → Calls Try.prog 17 #[.pointer none, .int .i64 t] w fun e w' => e = .returned (.bool false) ∧ Below w.heap.size w w'
  nowner : ∀ w, Calls Try.prog 9 #[.pointer none] w fun e w' => e = .returned (.int .i64 (-1)) ∧ Below w.heap.size w w'
  nbad : ∀ w, Calls Try.prog 10 #[.pointer none] w fun e w' => e = .returned (.bool false) ∧ Below w.heap.size w w'
  nlost : ∀ w, Calls Try.prog 11 #[.pointer none] w fun e w' => e = .returned (.bool false) ∧ Below w.heap.size w w'

set_option maxRecDepth 100000 in
set_option maxHeartbeats 4000000 in
theorem lives_any {At : World → Nat → Mx → Prop} (K : Keeps At) (w : World) : Calls Try.prog 12 #[] w fun e w' => e = .returned (.bool true) ∧ Below w.heap.size w w' := by
  have HK := Lib.hid K
  have H0 : Hid (Below w.heap.size w (w.alloc mzB) ∧ At (w.alloc mzB) w.heap.size newM) := Lib.hid ⟨(Below.refl _ w).alloc (Nat.le_refl _) _, K.new w⟩
  have HGl : Hid (w.heap.size ≤ w.heap.size) := Lib.hid (Nat.le_refl _)
  have k1 : lockM newM 1 = (⟨1, false, false⟩, 0) := by rfl
  have k2 : decide (ownM ⟨1, false, false⟩ 1) = true := by decide
  have k3 : (doM ⟨1, false, false⟩ 3 1).1 = ⟨-1, true, false⟩ := by rfl
  have k4 : lockM ⟨-1, true, false⟩ 2 = (⟨2, true, false⟩, 0) := by rfl
  have k5 : doM ⟨2, true, false⟩ 1 2 = (⟨-1, false, true⟩, 0) := by rfl
  have k6 : lockM ⟨-1, false, true⟩ 3 = (⟨-1, false, true⟩, 15) := by rfl
  have F0 : Fine newM := new_fine
  have F1 : Fine ⟨1, false, false⟩ := ⟨by decide, fun h => by cases h⟩
  have F2 : Fine ⟨-1, true, false⟩ := ⟨by decide, fun h => by cases h⟩
  have F3 : Fine ⟨2, true, false⟩ := ⟨by decide, fun h => by cases h⟩
  have F4 : Fine ⟨-1, false, true⟩ := ⟨by decide, fun _ => ⟨rfl, rfl⟩⟩
  have i1 : I64 1 := by unfold I64; omega
  have i2 : I64 2 := by unfold I64; omega
  have i3 : I64 3 := by unfold I64; omega
  have C1 := fun W h => Lib.hid (HK.out.lock W w.heap.size newM 1 h F0 i1)
  have C2 := fun W h => Lib.hid (HK.out.die W w.heap.size ⟨1, false, false⟩ 1 h F1 i1)
  have C3 := fun W h => Lib.hid (HK.out.lock W w.heap.size ⟨-1, true, false⟩ 2 h F2 i2)
  have C4 := fun W h => Lib.hid (HK.out.unlock W w.heap.size ⟨2, true, false⟩ 2 h F3 i2)
  have C5 := fun W h => Lib.hid (HK.out.lost W w.heap.size ⟨-1, false, true⟩ h F4)
  have C6 := fun W h => Lib.hid (HK.out.owner W w.heap.size ⟨-1, false, true⟩ h F4)
  have C7 := fun W h => Lib.hid (HK.out.lock W w.heap.size ⟨-1, false, true⟩ 3 h F4 i3)
  rw [k1] at C1
  rw [k2, k3] at C2
  rw [k4] at C3
  rw [k5] at C4
  rw [k6] at C7
  dsimp only at C1 C3 C4 C5 C6 C7
  clear K k1 k2 k3 k4 k5 k6 F0 F1 F2 F3 F4 i1 i2 i3
  go_enter Try.func12, Try.ntmps12
  go_upto_region 2 with (first | refine wq_build rfl rfl ?_ | refine wq_box rfl _ rfl rfl ?_)
  try simp only [Go.Act.put, List.setIfInBounds_toArray, List.set_cons_zero, List.set_cons_succ]
  generalize hg : w.heap.size = g at *
  generalize w.alloc mzB = W0 at *
  have D1 := C1 W0 H0.out.2
  go_wp2_with fail
  refine D1.out.mono ?_
  rintro _ w1 ⟨rfl, ha1, ho1⟩
  have H1 := Lib.hid (And.intro (ho1.below H0.out.1 (Nat.le_refl _) (by rw [← hg]; exact H0.out.1.size)) ha1)
  clear ha1 ho1 D1 C1 H0
  have D2 := C2 w1 H1.out.2
  go_wp2_with fail
  refine D2.out.mono ?_
  rintro _ w2 ⟨rfl, ha2, ho2⟩
  have H2 := Lib.hid (And.intro (ho2.below H1.out.1 (Nat.le_refl _) (by rw [← hg]; exact H1.out.1.size)) ha2)
  clear ha2 ho2 D2 C2 H1
  have D3 := C3 w2 H2.out.2
  go_wp2_with fail
  refine D3.out.mono ?_
  rintro _ w3 ⟨rfl, ha3, ho3⟩
  have H3 := Lib.hid (And.intro (ho3.below H2.out.1 (Nat.le_refl _) (by rw [← hg]; exact H2.out.1.size)) ha3)
  clear ha3 ho3 D3 C3 H2
  have D4 := C4 w3 H3.out.2
  go_wp2_with fail
  refine D4.out.mono ?_
  rintro _ w4 ⟨rfl, ha4, ho4⟩
  have H4 := Lib.hid (And.intro (ho4.below H3.out.1 (Nat.le_refl _) (by rw [← hg]; exact H3.out.1.size)) ha4)
  clear ha4 ho4 D4 C4 H3
  have D5 := C5 w4 H4.out.2
  go_wp2_with fail
  refine D5.out.mono ?_
  rintro _ w5 ⟨rfl, hb5⟩
  have H5 := Lib.hid (And.intro (H4.out.1.trans (hb5.mono (by rw [← hg]; exact H4.out.1.size))) (HK.out.loc _ _ _ _ H4.out.2 (hb5.block _ (HK.out.lt _ _ _ H4.out.2)) hb5.size))
  clear hb5 D5 C5 H4
  have D6 := C6 w5 H5.out.2
  go_wp2_with fail
  refine D6.out.mono ?_
  rintro _ w6 ⟨rfl, hb6⟩
  have H6 := Lib.hid (And.intro (H5.out.1.trans (hb6.mono (by rw [← hg]; exact H5.out.1.size))) (HK.out.loc _ _ _ _ H5.out.2 (hb6.block _ (HK.out.lt _ _ _ H5.out.2)) hb6.size))
  clear hb6 D6 C6 H5
  have D7 := C7 w6 H6.out.2
  go_wp2_with fail
  refine D7.out.mono ?_
  rintro _ w7 ⟨rfl, ha7, ho7⟩
  have H7 := Lib.hid (ho7.below H6.out.1 (Nat.le_refl _) (by rw [← hg]; exact H6.out.1.size))
  clear ha7 ho7 D7 C7 H6
  go_wp2
  go_ret
  exact ⟨rfl, by rw [hg]; exact H7.out⟩
end Go.Proofs.Ytelpkfldmgeaiaa.mut
