/-
  What the statements on a lock that many read or one writes ask of the program's calls; what is not there; and a call by its number. No condition.
-/
import Derived.Test.YthfgaflfnnlhnaaDoorRwRefDo
import Derived.Test.YthfgaflfnnlhnaaDoorRwOps
namespace Go.Proofs.YthfgaflfnnlhnaaDoor.rwl
open Go.RowKit Go.ChangeShapes
open Go.Proofs.YthfgaflfnnlhnaaDoor.obj
open Go.Proofs.YthfgaflfnnlhnaaDoor.bits (Is64 hasB wth wout)
set_option linter.unusedVariables false
set_option linter.unusedSimpArgs false

/-- A zero lock. -/
noncomputable def rzC : Array Value := (Tryd.prog.built 27 []).getD #[]
noncomputable def rzB : Obj := .cells rzC 27
theorem rz_built : Tryd.prog.built 27 [] = some rzC := by kernel_rfl
section
variable {ops : Array Oper} {rest : List Oper} {o : Oper} {a : Act} {w : World} {Q : Exit → Act → World → Prop}
theorem wq_build (hgd : o.guard = none) (ho : o.op = .build 27 #[])
    (h : wpList Tryd.prog ops Q rest (a.put o.dst (.agg rzC)) w) : wpList Tryd.prog ops Q (o :: rest) a w := by
  have e : ((#[] : Array (Nat × Operand)).map fun (i, x) => (i, a.eval x)).toList = [] := by simp
  refine wpList_build hgd _ _ ho (by rw [e, rz_built]; rfl) ?_
  rw [e, rz_built]
  exact h
theorem wq_box (hgd : o.guard = none) (x : Operand) (ho : o.op = .box 27 x) (hx : a.eval x = .agg rzC)
    (h : wpList Tryd.prog ops Q rest (a.put o.dst (.pointer (some ⟨w.heap.size, 0, none⟩))) (w.alloc rzB)) : wpList Tryd.prog ops Q (o :: rest) a w :=
  Go.Great.wpList_boxTo hgd _ x ho o.dst rfl w.heap.size rfl rzC (by rw [hx]; rfl) h
end
/-- What is asked of the program's calls; At says how a lock lies in its block, Ok what the world must hold beside it (the table by which the least of a set is found). -/
structure Keeps (Ok : World → Prop) (At : World → Nat → Rx → Prop) : Prop where
  mono : ∀ w w' : World, Ok w → Below w.heap.size w w' → Ok w'
  loc : ∀ (w w' : World) g m, At w g m → w'.heap[g]? = w.heap[g]? → w.heap.size ≤ w'.heap.size → At w' g m
  lt : ∀ (w : World) g m, At w g m → g < w.heap.size
  new : ∀ w : World, At (w.alloc rzB) w.heap.size newR
  read : ∀ w g s t, At w g s → Fine s → I64 t → Calls Tryd.prog 16 #[.pointer (some ⟨g, 0, none⟩), .int .i64 t] w fun e w' => e = .returned (.int .i64 (doR s 0 t).2) ∧ At w' g (doR s 0 t).1 ∧ Only g w w'
  write : ∀ w g s t, At w g s → Fine s → I64 t → Calls Tryd.prog 17 #[.pointer (some ⟨g, 0, none⟩), .int .i64 t] w fun e w' => e = .returned (.int .i64 (doR s 1 t).2) ∧ At w' g (doR s 1 t).1 ∧ Only g w w'
  leave : ∀ w g s t, At w g s → Fine s → I64 t → Calls Tryd.prog 18 #[.pointer (some ⟨g, 0, none⟩), .int .i64 t] w fun e w' => e = .returned (.int .i64 (doR s 2 t).2) ∧ At w' g (doR s 2 t).1 ∧ Only g w w'
  mode : ∀ w g s t, At w g s → Fine s → I64 t → Calls Tryd.prog 13 #[.pointer (some ⟨g, 0, none⟩), .int .i64 t] w fun e w' => e = .returned (.int .i64 (modeR s t)) ∧ Below w.heap.size w w'
  writer : ∀ w g s, At w g s → Fine s → Ok w → Calls Tryd.prog 9 #[.pointer (some ⟨g, 0, none⟩)] w fun e w' => e = .returned (.int .i64 s.p) ∧ Below w.heap.size w w'
  readers : ∀ w g s, At w g s → Fine s → Calls Tryd.prog 10 #[.pointer (some ⟨g, 0, none⟩)] w fun e w' => e = .returned (.int .u64 (s.r : Int)) ∧ Below w.heap.size w w'
  holders : ∀ w g s, At w g s → Fine s → Calls Tryd.prog 11 #[.pointer (some ⟨g, 0, none⟩)] w fun e w' => e = .returned (.int .u64 ((holdR s : Nat) : Int)) ∧ Below w.heap.size w w'
  nread : ∀ w t, I64 t → Calls Tryd.prog 16 #[.pointer none, .int .i64 t] w fun e w' => e = .returned (.int .i64 1) ∧ Below w.heap.size w w'
  nwrite : ∀ w t, I64 t → Calls Tryd.prog 17 #[.pointer none, .int .i64 t] w fun e w' => e = .returned (.int .i64 1) ∧ Below w.heap.size w w'
  nleave : ∀ w t, I64 t → Calls Tryd.prog 18 #[.pointer none, .int .i64 t] w fun e w' => e = .returned (.int .i64 1) ∧ Below w.heap.size w w'
  nmode : ∀ w t, I64 t → Calls Tryd.prog 13 #[.pointer none, .int .i64 t] w fun e w' => e = .returned (.int .i64 0) ∧ Below w.heap.size w w'
  nwriter : ∀ w, Calls Tryd.prog 9 #[.pointer none] w fun e w' => e = .returned (.int .i64 (-1)) ∧ Below w.heap.size w w'
  nreaders : ∀ w, Calls Tryd.prog 10 #[.pointer none] w fun e w' => e = .returned (.int .u64 0) ∧ Below w.heap.size w w'
  nholders : ∀ w, Calls Tryd.prog 11 #[.pointer none] w fun e w' => e = .returned (.int .u64 0) ∧ Below w.heap.size w w'
/-- What holds while calls are made: below w nothing has turned, and the lock lies there. -/
def Hs (At : World → Nat → Rx → Prop) (w : World) (g : Nat) (s : Rx) (W : World) : Prop := Below w.heap.size w W ∧ w.heap.size ≤ g ∧ At W g s
theorem hs_next {Ok : World → Prop} {At : World → Nat → Rx → Prop} (K : Keeps Ok At) {w W W' : World} {g : Nat} {s : Rx} (h : Hs At w g s W) (hb : Below W.heap.size W W') : Hs At w g s W' :=
  ⟨h.1.trans (hb.mono h.1.size), h.2.1, K.loc _ _ _ _ h.2.2 (hb.block _ (K.lt _ _ _ h.2.2)) hb.size⟩
theorem hs_only {At : World → Nat → Rx → Prop} {w W W' : World} {g : Nat} {s s' : Rx} (h : Hs At w g s W) (ho : Only g W W') (ha : At W' g s') : Hs At w g s' W' :=
  ⟨ho.below h.1 h.2.1 h.1.size, h.2.1, ha⟩

set_option maxRecDepth 100000 in
set_option maxHeartbeats 4000000 in
theorem lives_any {Ok : World → Prop} {At : World → Nat → Rx → Prop} (K : Keeps Ok At) (w : World) (hok : Ok w) : Calls Tryd.prog 15 #[] w fun e w' => e = .returned (.bool true) ∧ Below w.heap.size w w' := by
  have HK := Lib.hid K
  have HOk := Lib.hid hok
  have H0 : Hid (Hs At w w.heap.size newR (w.alloc rzB)) := Lib.hid ⟨(Below.refl _ w).alloc (Nat.le_refl _) _, Nat.le_refl _, K.new w⟩
  have i1 : I64 1 := by unfold I64; omega
  have i2 : I64 2 := by unfold I64; omega
  have i3 : I64 3 := by unfold I64; omega
  have F1 : Fine ⟨2, -1⟩ := by unfold Fine Is64; dsimp only; omega
  have F2 : Fine ⟨6, -1⟩ := by unfold Fine Is64; dsimp only; omega
  have C1 := fun W g h => Lib.hid (HK.out.read W g newR 1 h new_fine i1)
  have C2 := fun W g h => Lib.hid (HK.out.read W g ⟨2, -1⟩ 2 h F1 i2)
  have C3 := fun W g h => Lib.hid (HK.out.write W g ⟨6, -1⟩ 3 h F2 i3)
  have C4 := fun W g h => Lib.hid (HK.out.readers W g ⟨6, -1⟩ h F2)
  have C5 := fun W (h : Hs At w w.heap.size ⟨6, -1⟩ W) => Lib.hid (HK.out.writer W _ ⟨6, -1⟩ h.2.2 F2 (HK.out.mono _ _ HOk.out h.1))
  have C6 := fun W g h => Lib.hid (HK.out.mode W g ⟨6, -1⟩ 2 h F2 i2)
  rw [show doR newR 0 1 = (⟨2, -1⟩, 0) by kernel_rfl] at C1
  rw [show doR ⟨2, -1⟩ 0 2 = (⟨6, -1⟩, 0) by kernel_rfl] at C2
  rw [show doR ⟨6, -1⟩ 1 3 = (⟨6, -1⟩, 7) by kernel_rfl] at C3
  rw [show modeR ⟨6, -1⟩ 2 = 1 by kernel_rfl] at C6
  dsimp only at C1 C2 C3 C4 C5 C6
  clear K i1 i2 i3 F1 F2 hok
  go_enter Tryd.func15, Tryd.ntmps15
  go_upto_region 2 with (first | refine wq_build rfl rfl ?_ | refine wq_box rfl _ rfl rfl ?_)
  try simp only [Act.put, List.setIfInBounds_toArray, List.set_cons_zero, List.set_cons_succ]
  generalize w.alloc rzB = w0 at *
  skip
  have D := C1 w0 _ H0.out.2.2
  go_wp2_with fail
  refine D.out.mono ?_
  rintro _ w1 ⟨rfl, ha, ho⟩
  have H1 := Lib.hid (hs_only H0.out ho ha)
  clear ha ho D C1 H0
  have D := C2 w1 _ H1.out.2.2
  go_wp2_with fail
  refine D.out.mono ?_
  rintro _ w2 ⟨rfl, ha, ho⟩
  have H2 := Lib.hid (hs_only H1.out ho ha)
  clear ha ho D C2 H1
  have D := C3 w2 _ H2.out.2.2
  go_wp2_with fail
  refine D.out.mono ?_
  rintro _ w3 ⟨rfl, ha, ho⟩
  have H3 := Lib.hid (hs_only H2.out ho ha)
  clear ha ho D C3 H2
  have D := C4 w3 _ H3.out.2.2
  go_wp2_with fail
  refine D.out.mono ?_
  rintro _ w4 ⟨rfl, hb⟩
  have H4 := Lib.hid (hs_next HK.out H3.out hb)
  clear hb D C4 H3
  have D := C5 w4 H4.out
  go_wp2_with fail
  refine D.out.mono ?_
  rintro _ w5 ⟨rfl, hb⟩
  have H5 := Lib.hid (hs_next HK.out H4.out hb)
  clear hb D C5 H4
  have D := C6 w5 _ H5.out.2.2
  go_wp2_with fail
  refine D.out.mono ?_
  rintro _ w6 ⟨rfl, hb⟩
  have H6 := Lib.hid (hs_next HK.out H5.out hb)
  clear hb D C6 H5
  go_wp2
  go_ret
  exact ⟨rfl, H6.out.1⟩

set_option maxRecDepth 100000 in
set_option maxHeartbeats 4000000 in
theorem nil_walk {Ok : World → Prop} {At : World → Nat → Rx → Prop} (K : Keeps Ok At) (t : Int) (w : World) (ht : I64 t) (hok : Ok w) : Calls Tryd.prog 5 #[.int .i64 t] w fun e w' => e = .returned (.bool true) ∧ Below w.heap.size w w' := by
  have H0 := Lib.hid (Below.refl w.heap.size w)
  have C0 := fun W => Lib.hid (K.nread W t ht)
  have C1 := fun W => Lib.hid (K.nwrite W t ht)
  have C2 := fun W => Lib.hid (K.nleave W t ht)
  have C3 := fun W => Lib.hid (K.nmode W t ht)
  have C4 := fun W => Lib.hid (K.nwriter W)
  have C5 := fun W => Lib.hid (K.nreaders W)
  have C6 := fun W => Lib.hid (K.nholders W)
  have C7 := fun W h => Lib.hid (lives_any K W (K.mono _ _ hok h))
  clear K ht hok
  go_enter Tryd.func5, Tryd.ntmps5
  go_wp2_with fail
  refine (C0 _).out.mono ?_
  rintro _ w1 ⟨rfl, hb⟩
  have H1 := Lib.hid (H0.out.trans (hb.mono H0.out.size))
  clear hb C0 H0
  go_wp2_with fail
  refine (C1 _).out.mono ?_
  rintro _ w2 ⟨rfl, hb⟩
  have H2 := Lib.hid (H1.out.trans (hb.mono H1.out.size))
  clear hb C1 H1
  go_wp2_with fail
  refine (C2 _).out.mono ?_
  rintro _ w3 ⟨rfl, hb⟩
  have H3 := Lib.hid (H2.out.trans (hb.mono H2.out.size))
  clear hb C2 H2
  go_wp2_with fail
  refine (C3 _).out.mono ?_
  rintro _ w4 ⟨rfl, hb⟩
  have H4 := Lib.hid (H3.out.trans (hb.mono H3.out.size))
  clear hb C3 H3
  go_wp2_with fail
  refine (C4 _).out.mono ?_
  rintro _ w5 ⟨rfl, hb⟩
  have H5 := Lib.hid (H4.out.trans (hb.mono H4.out.size))
  clear hb C4 H4
  go_wp2_with fail
  refine (C5 _).out.mono ?_
  rintro _ w6 ⟨rfl, hb⟩
  have H6 := Lib.hid (H5.out.trans (hb.mono H5.out.size))
  clear hb C5 H5
  go_wp2_with fail
  refine (C6 _).out.mono ?_
  rintro _ w7 ⟨rfl, hb⟩
  have H7 := Lib.hid (H6.out.trans (hb.mono H6.out.size))
  clear hb C6 H6
  go_wp2_with fail
  refine (C7 _ H7.out).out.mono ?_
  rintro _ w8 ⟨rfl, hb⟩
  have H8 := Lib.hid (H7.out.trans (hb.mono H7.out.size))
  clear hb C7 H7
  go_wp2
  go_ret
  exact ⟨rfl, H8.out⟩

/-- Behind a call: what is answered, and what the lock is like. -/
def DoPost (At : World → Nat → Rx → Prop) (q : Rx × Int) (g : Nat) (w : World) (e : Ending) (w' : World) : Prop := e = .returned (.int .i64 q.2) ∧ At w' g q.1 ∧ Only g w w'
theorem doR_else {s : Rx} {k t : Int} (k0 : k ≠ 0) (k1 : k ≠ 1) : doR s k t = doR s 2 t := by
  unfold doR
  by_cases ht : t < 0 ∨ 63 < t
  · rw [if_pos ht, if_pos ht]
  · rw [if_neg ht, if_neg ht, if_pos (show k ≠ 0 ∧ k ≠ 1 from ⟨k0, k1⟩), if_pos (show (2 : Int) ≠ 0 ∧ (2 : Int) ≠ 1 by decide)]
set_option maxRecDepth 100000 in
set_option maxHeartbeats 4000000 in
theorem do_any {Ok : World → Prop} {At : World → Nat → Rx → Prop} (K : Keeps Ok At) (s : Rx) (g : Nat) (k n : Int) (w : World) (ha : At w g s) (hf : Fine s) (hn : I64 n) :
    Calls Tryd.prog 8 #[.pointer (some ⟨g, 0, none⟩), .agg #[.int .i64 k, .int .i64 n]] w (DoPost At (doR s k n) g w) := by
  have HK := Lib.hid K
  have HF := Lib.hid hf
  have HN := Lib.hid hn
  have hlt := K.lt _ _ _ ha
  have hb0 : Below w.heap.size w (w.alloc (.cells #[.int .i64 k, .int .i64 n] 34)) := (Below.refl _ w).alloc (Nat.le_refl _) _
  have HA := Lib.hid (K.loc _ _ _ _ ha (hb0.block _ hlt) hb0.size)
  have HX := Lib.hid (heap_alloc_new w (.cells #[.int .i64 k, .int .i64 n] 34))
  have HO : Hid (∀ w', Only g (w.alloc (.cells #[.int .i64 k, .int .i64 n] 34)) w' → Only g w w') := Lib.hid (fun w' h => (Only.of_below hb0).trans h)
  obtain ⟨q, hq⟩ : ∃ q, q = doR s k n := ⟨_, rfl⟩
  rw [← hq]
  unfold DoPost
  clear K ha hf hn hlt hb0
  by_cases k0 : k = 0
  · subst k0
    have C := Lib.hid (HK.out.read _ g s n HA.out HF.out HN.out)
    rw [← hq] at C
    clear HK HF HN HA hq
    obtain ⟨q1, q2⟩ := q
    dsimp only at C ⊢
    go_enter Tryd.func8, Tryd.ntmps8
    go_upto_region 1 with fail
    generalize w.alloc (.cells #[.int .i64 0, .int .i64 n] 34) = W1 at *
    obtain ⟨y0, y1⟩ := cells2 HX.out
    go_wp2_with fail
    refine C.out.mono ?_
    rintro _ w2 ⟨rfl, ha, ho⟩
    have HE := Lib.hid (And.intro ha (HO.out _ ho))
    clear ha ho C y0 y1 HX
    go_wp2
    go_ret
    exact ⟨rfl, HE.out.1, HE.out.2⟩
  by_cases k1 : k = 1
  · subst k1
    have C := Lib.hid (HK.out.write _ g s n HA.out HF.out HN.out)
    rw [← hq] at C
    clear HK HF HN HA hq
    obtain ⟨q1, q2⟩ := q
    dsimp only at C ⊢
    go_enter Tryd.func8, Tryd.ntmps8
    go_upto_region 1 with fail
    generalize w.alloc (.cells #[.int .i64 1, .int .i64 n] 34) = W1 at *
    obtain ⟨y0, y1⟩ := cells2 HX.out
    go_wp2_with fail
    refine C.out.mono ?_
    rintro _ w2 ⟨rfl, ha, ho⟩
    have HE := Lib.hid (And.intro ha (HO.out _ ho))
    clear ha ho C y0 y1 HX
    go_wp2
    go_ret
    exact ⟨rfl, HE.out.1, HE.out.2⟩
  rw [doR_else k0 k1] at hq
  have e0 : (k == 0) = false := by rw [beq_eq_false_iff_ne]; exact k0
  have e1 : (k == 1) = false := by rw [beq_eq_false_iff_ne]; exact k1
  clear k0 k1
  have C := Lib.hid (HK.out.leave _ g s n HA.out HF.out HN.out)
  rw [← hq] at C
  clear HK HF HN HA hq
  obtain ⟨q1, q2⟩ := q
  dsimp only at C ⊢
  go_enter Tryd.func8, Tryd.ntmps8
  go_upto_region 1 with fail
  generalize w.alloc (.cells #[.int .i64 k, .int .i64 n] 34) = W1 at *
  obtain ⟨y0, y1⟩ := cells2 HX.out
  go_wp2_with fail
  refine C.out.mono ?_
  rintro _ w2 ⟨rfl, ha, ho⟩
  have HE := Lib.hid (And.intro ha (HO.out _ ho))
  clear ha ho C y0 y1 HX
  go_wp2
  go_ret
  exact ⟨rfl, HE.out.1, HE.out.2⟩
end Go.Proofs.YthfgaflfnnlhnaaDoor.rwl
