/-
  What the statements on a barrier ask of the program's calls; and what is not there. No condition. Printed by tools/mkbarspec.py.
-/
import Derived.Test.YtiekbbknmneikaaBarRefDo
import Derived.Test.YtiekbbknmneikaaBarOps
import Derived.Outline
namespace Go.Proofs.Ytiekbbknmneikaa.bar
open Go.RowKit Go.ChangeShapes
open Go.Proofs.Ytiekbbknmneikaa.obj
open Go.Proofs.Ytiekbbknmneikaa.bits (Is64 hasB wth wout minus)
set_option linter.unusedVariables false
set_option linter.unusedSimpArgs false

/-- A zero barrier. -/
noncomputable def zbC : Array Value := (Try.prog.built 27 []).getD #[]
noncomputable def zbB : Obj := .cells zbC 27
theorem zb_built : Try.prog.built 27 [] = some zbC := by kernel_rfl
section
variable {ops : Array Oper} {rest : List Oper} {o : Oper} {a : Act} {w : World} {Q : Exit → Act → World → Prop}
theorem wq_build (hgd : o.guard = none) (ho : o.op = .build 27 #[])
    (h : wpList Try.prog ops Q rest (a.put o.dst (.agg zbC)) w) : wpList Try.prog ops Q (o :: rest) a w := by
  have e : ((#[] : Array (Nat × Operand)).map fun (i, x) => (i, a.eval x)).toList = [] := by simp
  refine wpList_build hgd _ _ ho (by rw [e, zb_built]; rfl) ?_
  rw [e, zb_built]
  exact h
theorem wq_box (hgd : o.guard = none) (x : Operand) (ho : o.op = .box 27 x) (hx : a.eval x = .agg zbC)
    (h : wpList Try.prog ops Q rest (a.put o.dst (.pointer (some ⟨w.heap.size, 0, none⟩))) (w.alloc zbB)) : wpList Try.prog ops Q (o :: rest) a w :=
  Go.Great.wpList_boxTo hgd _ x ho o.dst rfl w.heap.size rfl zbC (by rw [hx]; rfl) h
end
/-- What is asked of the program's calls; At says how a barrier lies in its block. -/
structure Keeps (At : World → Nat → Bx → Prop) : Prop where
  loc : ∀ (w w' : World) g m, At w g m → w'.heap[g]? = w.heap[g]? → w.heap.size ≤ w'.heap.size → At w' g m
  lt : ∀ (w : World) g m, At w g m → g < w.heap.size
  new : ∀ w : World, At (w.alloc zbB) w.heap.size ⟨0, 0⟩
  enrol : ∀ w g s t, At w g s → Fine s → I64 t → Calls Try.prog 14 #[.pointer (some ⟨g, 0, none⟩), .int .i64 t] w fun e w' => e = .returned (.int .i64 (enrolB s t).2) ∧ At w' g (enrolB s t).1 ∧ Only g w w'
  leave : ∀ w g s t, At w g s → Fine s → I64 t → Calls Try.prog 16 #[.pointer (some ⟨g, 0, none⟩), .int .i64 t] w fun e w' => e = .returned (.tuple #[.int .u64 ((leaveB s t).2.1 : Int), .int .i64 (leaveB s t).2.2]) ∧ At w' g (leaveB s t).1 ∧ Only g w w'
  arrive : ∀ w g s t, At w g s → Fine s → I64 t → Calls Try.prog 15 #[.pointer (some ⟨g, 0, none⟩), .int .i64 t] w fun e w' => e = .returned (.tuple #[.int .u64 ((arriveB s t).2.1 : Int), .bool (arriveB s t).2.2.1, .int .i64 (arriveB s t).2.2.2]) ∧ At w' g (arriveB s t).1 ∧ Only g w w'
  draw : ∀ w g s t, At w g s → Fine s → I64 t → Calls Try.prog 18 #[.pointer (some ⟨g, 0, none⟩), .int .i64 t] w fun e w' => e = .returned (.bool (drawB s t).2) ∧ At w' g (drawB s t).1 ∧ Only g w w'
  brk : ∀ w g s t, At w g s → Fine s → I64 t → Calls Try.prog 17 #[.pointer (some ⟨g, 0, none⟩), .int .i64 t] w fun e w' => e = .returned (.tuple #[.int .u64 ((breakB s t).2.1 : Int), .bool (breakB s t).2.2]) ∧ At w' g (breakB s t).1 ∧ Only g w w'
  members : ∀ w g s, At w g s → Fine s → Calls Try.prog 9 #[.pointer (some ⟨g, 0, none⟩)] w fun e w' => e = .returned (.int .u64 (s.m : Int)) ∧ Below w.heap.size w w'
  arrived : ∀ w g s, At w g s → Fine s → Calls Try.prog 10 #[.pointer (some ⟨g, 0, none⟩)] w fun e w' => e = .returned (.int .u64 (s.a : Int)) ∧ Below w.heap.size w w'
  missing : ∀ w g s, At w g s → Fine s → Calls Try.prog 11 #[.pointer (some ⟨g, 0, none⟩)] w fun e w' => e = .returned (.int .u64 ((missB s : Nat) : Int)) ∧ Below w.heap.size w w'
  nenrol : ∀ w t, I64 t → Calls Try.prog 14 #[.pointer none, .int .i64 t] w fun e w' => e = .returned (.int .i64 1) ∧ Below w.heap.size w w'
  nleave : ∀ w t, I64 t → Calls Try.prog 16 #[.pointer none, .int .i64 t] w fun e w' => e = .returned (.tuple #[.int .u64 0, .int .i64 1]) ∧ Below w.heap.size w w'
  narrive : ∀ w t, I64 t → Calls Try.prog 15 #[.pointer none, .int .i64 t] w fun e w' => e = .returned (.tuple #[.int .u64 0, .bool false, .int .i64 1]) ∧ Below w.heap.size w w'
  ndraw : ∀ w t, I64 t → Calls Try.prog 18 #[.pointer none, .int .i64 t] w fun e w' => e = .returned (.bool false) ∧ Below w.heap.size w w'
  nbrk : ∀ w t, I64 t → Calls Try.prog 17 #[.pointer none, .int .i64 t] w fun e w' => e = .returned (.tuple #[.int .u64 0, .bool false]) ∧ Below w.heap.size w w'
  nmembers : ∀ w, Calls Try.prog 9 #[.pointer none] w fun e w' => e = .returned (.int .u64 0) ∧ Below w.heap.size w w'
  narrived : ∀ w, Calls Try.prog 10 #[.pointer none] w fun e w' => e = .returned (.int .u64 0) ∧ Below w.heap.size w w'
  nmissing : ∀ w, Calls Try.prog 11 #[.pointer none] w fun e w' => e = .returned (.int .u64 0) ∧ Below w.heap.size w w'
/-- What holds while calls are made: below w nothing has turned, and the barrier lies there. -/
def Hs (At : World → Nat → Bx → Prop) (w : World) (g : Nat) (s : Bx) (W : World) : Prop := Below w.heap.size w W ∧ w.heap.size ≤ g ∧ At W g s
theorem hs_next {At : World → Nat → Bx → Prop} (K : Keeps At) {w W W' : World} {g : Nat} {s : Bx} (h : Hs At w g s W) (hb : Below W.heap.size W W') : Hs At w g s W' :=
  ⟨h.1.trans (hb.mono h.1.size), h.2.1, K.loc _ _ _ _ h.2.2 (hb.block _ (K.lt _ _ _ h.2.2)) hb.size⟩
theorem hs_only {At : World → Nat → Bx → Prop} {w W W' : World} {g : Nat} {s s' : Bx} (h : Hs At w g s W) (ho : Only g W W') (ha : At W' g s') : Hs At w g s' W' :=
  ⟨ho.below h.1 h.2.1 h.1.size, h.2.1, ha⟩

set_option maxRecDepth 100000 in
set_option maxHeartbeats 4000000 in
theorem lives_any {At : World → Nat → Bx → Prop} (K : Keeps At) (w : World) : Calls Try.prog 13 #[] w fun e w' => e = .returned (.bool true) ∧ Below w.heap.size w w' := by
  have HK := Lib.hid K
  have H0 : Hid (Hs At w w.heap.size ⟨0, 0⟩ (w.alloc zbB)) := Lib.hid ⟨(Below.refl _ w).alloc (Nat.le_refl _) _, Nat.le_refl _, K.new w⟩
  have i1 : I64 1 := by unfold I64; omega
  have i2 : I64 2 := by unfold I64; omega
  have F1 : Fine ⟨2, 0⟩ := zero_fine (by unfold Is64; omega)
  have F2 : Fine ⟨6, 0⟩ := zero_fine (by unfold Is64; omega)
  have F3 : Fine ⟨6, 2⟩ := by have h := do_fine F2 2 1; rw [show (doB ⟨6, 0⟩ 2 1).1 = ⟨6, 2⟩ by kernel_rfl] at h; exact h
  have C1 := fun W g h => Lib.hid (HK.out.enrol W g ⟨0, 0⟩ 1 h new_fine i1)
  have C2 := fun W g h => Lib.hid (HK.out.enrol W g ⟨2, 0⟩ 2 h F1 i2)
  have C3 := fun W g h => Lib.hid (HK.out.arrive W g ⟨6, 0⟩ 1 h F2 i1)
  have C4 := fun W g h => Lib.hid (HK.out.leave W g ⟨6, 2⟩ 2 h F3 i2)
  have C5 := fun W g h => Lib.hid (HK.out.members W g ⟨2, 0⟩ h F1)
  have C6 := fun W g h => Lib.hid (HK.out.arrived W g ⟨2, 0⟩ h F1)
  rw [show enrolB ⟨0, 0⟩ 1 = (⟨2, 0⟩, 0) by kernel_rfl] at C1
  rw [show enrolB ⟨2, 0⟩ 2 = (⟨6, 0⟩, 0) by kernel_rfl] at C2
  rw [show arriveB ⟨6, 0⟩ 1 = (⟨6, 2⟩, 0, false, 0) by kernel_rfl] at C3
  rw [show leaveB ⟨6, 2⟩ 2 = (⟨2, 0⟩, 2, 0) by kernel_rfl] at C4
  dsimp only at C1 C2 C3 C4 C5 C6
  clear K i1 i2 F1 F2 F3
  go_enter Try.func13, Try.ntmps13
  go_upto_region 2 with (first | refine wq_build rfl rfl ?_ | refine wq_box rfl _ rfl rfl ?_)
  try simp only [Act.put, List.setIfInBounds_toArray, List.set_cons_zero, List.set_cons_succ]
  generalize w.alloc zbB = w0 at *
  have D := C1 w0 _ H0.out.2.2
  go_wp2_with fail
  refine D.out.mono ?_
  rintro _ w1 ⟨rfl, ha, ho⟩
  have H1 := Lib.hid (hs_only H0.out ho ha)
  clear ha ho D C1 H0
  have D := C2 w1 _ H1.out.2.2
  go_wp2_with fail
  refine D.out.mono ?_
  rintro _ w2 ⟨rfl, ha, ho⟩
  have H2 := Lib.hid (hs_only H1.out ho ha)
  clear ha ho D C2 H1
  have D := C3 w2 _ H2.out.2.2
  go_wp2_with fail
  refine D.out.mono ?_
  rintro _ w3 ⟨rfl, ha, ho⟩
  have H3 := Lib.hid (hs_only H2.out ho ha)
  clear ha ho D C3 H2
  have D := C4 w3 _ H3.out.2.2
  go_wp2_with fail
  refine D.out.mono ?_
  rintro _ w4 ⟨rfl, ha, ho⟩
  have H4 := Lib.hid (hs_only H3.out ho ha)
  clear ha ho D C4 H3
  have D := C5 w4 _ H4.out.2.2
  go_wp2_with fail
  refine D.out.mono ?_
  rintro _ w5 ⟨rfl, hb⟩
  have H5 := Lib.hid (hs_next HK.out H4.out hb)
  clear hb D C5 H4
  have D := C6 w5 _ H5.out.2.2
  go_wp2_with fail
  refine D.out.mono ?_
  rintro _ w6 ⟨rfl, hb⟩
  have H6 := Lib.hid (hs_next HK.out H5.out hb)
  clear hb D C6 H5
  go_wp2
  go_ret
  exact ⟨rfl, H6.out.1⟩

set_option maxRecDepth 100000 in
set_option maxHeartbeats 4000000 in
theorem nil_walk {At : World → Nat → Bx → Prop} (K : Keeps At) (t : Int) (w : World) (ht : I64 t) : Calls Try.prog 6 #[.int .i64 t] w fun e w' => e = .returned (.bool true) ∧ Below w.heap.size w w' := by
  have H0 := Lib.hid (Below.refl w.heap.size w)
  have C0 := fun W => Lib.hid (K.nleave W t ht)
  have C1 := fun W => Lib.hid (K.narrive W t ht)
  have C2 := fun W => Lib.hid (K.nbrk W t ht)
  have C3 := fun W => Lib.hid (K.nenrol W t ht)
  have C4 := fun W => Lib.hid (K.ndraw W t ht)
  have C5 := fun W => Lib.hid (K.nmembers W)
  have C6 := fun W => Lib.hid (K.narrived W)
  have C7 := fun W => Lib.hid (K.nmissing W)
  have C8 := fun W => Lib.hid (lives_any K W)
  clear K ht
  go_enter Try.func6, Try.ntmps6
  go_wp2_with fail
  refine (C0 _).out.mono ?_
  rintro _ w1 ⟨rfl, hb⟩
  have H1 := Lib.hid (H0.out.trans (hb.mono H0.out.size))
  clear hb C0 H0
  go_wp2_with fail
  refine (C1 _).out.mono ?_
  rintro _ w2 ⟨rfl, hb⟩
  have H2 := Lib.hid (H1.out.trans (hb.mono H1.out.size))
  clear hb C1 H1
  go_wp2_with fail
  refine (C2 _).out.mono ?_
  rintro _ w3 ⟨rfl, hb⟩
  have H3 := Lib.hid (H2.out.trans (hb.mono H2.out.size))
  clear hb C2 H2
  go_wp2_with fail
  refine (C3 _).out.mono ?_
  rintro _ w4 ⟨rfl, hb⟩
  have H4 := Lib.hid (H3.out.trans (hb.mono H3.out.size))
  clear hb C3 H3
  go_wp2_with fail
  refine (C4 _).out.mono ?_
  rintro _ w5 ⟨rfl, hb⟩
  have H5 := Lib.hid (H4.out.trans (hb.mono H4.out.size))
  clear hb C4 H4
  go_wp2_with fail
  refine (C5 _).out.mono ?_
  rintro _ w6 ⟨rfl, hb⟩
  have H6 := Lib.hid (H5.out.trans (hb.mono H5.out.size))
  clear hb C5 H5
  go_wp2_with fail
  refine (C6 _).out.mono ?_
  rintro _ w7 ⟨rfl, hb⟩
  have H7 := Lib.hid (H6.out.trans (hb.mono H6.out.size))
  clear hb C6 H6
  go_wp2_with fail
  refine (C7 _).out.mono ?_
  rintro _ w8 ⟨rfl, hb⟩
  have H8 := Lib.hid (H7.out.trans (hb.mono H7.out.size))
  clear hb C7 H7
  go_wp2_with fail
  refine (C8 _).out.mono ?_
  rintro _ w9 ⟨rfl, hb⟩
  have H9 := Lib.hid (H8.out.trans (hb.mono H8.out.size))
  clear hb C8 H8
  go_wp2
  go_ret
  exact ⟨rfl, H9.out⟩

end Go.Proofs.Ytiekbbknmneikaa.bar
