/-
  The document's own rights, as one value of 64 cells: all of a thread, those of one being others, all who have one. No condition. Printed by tools/mkriref.py.
-/
import Derived.Test.YtjedinodopcdaaaDoorObjKit
import Derived.Test.YtjedinodopcdaaaDoorRiPlain
import Derived.Test.YtjedinodopcdaaaDoorBRef
import Derived.IntWalk
import Derived.LoopTactic
import Derived.Deep.RegionLaw
import Derived.Deep.QuietTactic
import Derived.BigQuiet
import Derived.KernelRfl
namespace Go.Proofs.YtjedinodopcdaaaDoor.rig
open Go.RowKit Go.ChangeShapes
open Go.Proofs.YtjedinodopcdaaaDoor.obj
open Go.Proofs.YtjedinodopcdaaaDoor.bits (Is64 hasB wth refHas_any refWith_any)
set_option linter.unusedVariables false
set_option linter.unusedSimpArgs false

/-- Its cells, its block, its value. -/
def rC (l : List Nat) : List Value := (List.range 64).map (fun k => .int .u64 ((l.getD k 0 : Nat) : Int))
def rO (l : List Nat) : Obj := .cells (rC l).toArray 28
def rV (l : List Nat) : Value := .agg (rC l).toArray
theorem rC_at (l : List Nat) {k : Nat} (hk : k < 64) : (rC l)[k]? = some (.int .u64 ((l.getD k 0 : Nat) : Int)) := by
  unfold rC
  rw [List.getElem?_map, List.getElem?_range hk]
  rfl
theorem rC_length (l : List Nat) : (rC l).length = 64 := by
  unfold rC
  rw [List.length_map, List.length_range]
theorem r_size {n : Nat} (h : n = 64) : (Tryd.prog.info? 28).map (·.size) = some n := by
  subst h
  kernel_rfl
theorem r_all (l : List Nat) : (rC l).toArray.all (·.oneCell') = true := by
  rw [Array.all_eq_true_iff_forall_mem]
  intro u hu
  unfold rC at hu
  simp only [List.mem_toArray, List.mem_map] at hu
  obtain ⟨k, _, rfl⟩ := hu
  rfl
theorem r_cell {w : World} {g : Nat} {l : List Nat} (h : w.heap[g]? = some (rO l)) {k : Nat} (hk : k < 64) : w.cell? ⟨g, k, none⟩ = some (.int .u64 ((l.getD k 0 : Nat) : Int)) := by
  unfold World.cell?
  rw [h]
  unfold rO
  simp only [List.getElem?_toArray]
  exact rC_at l hk
theorem r_free {w : World} {g : Nat} {l : List Nat} (h : w.heap[g]? = some (rO l)) (k : Nat) : w.frozen? ⟨g, k, none⟩ = false := frozen_of_row w _ k _ _ h
theorem r_range {w : World} {g : Nat} {l : List Nat} (h : w.heap[g]? = some (rO l)) : w.rangeAt g 0 (rC l) := fun j v hv => by
  have hj : j < 64 := by
    have := (List.getElem?_eq_some_iff.1 hv).1
    rwa [rC_length] at this
  rw [rC_at l hj] at hv
  rw [Nat.zero_add, ← hv]
  exact r_cell h hj
theorem r_turned {w : World} {g : Nat} {l0 : List Nat} (h : w.heap[g]? = some (rO l0)) (l : List Nat) : (w.setRow g (rC l).toArray).heap[g]? = some (rO l) := row_turned h _
theorem rC_set (l : List Nat) (hl : l.length = 64) (k s : Nat) : (rC l).set k (.int .u64 (s : Int)) = rC (l.set k s) := by
  apply List.ext_getElem?
  intro j
  rcases Nat.lt_or_ge j 64 with hj | hj
  · rw [rC_at _ hj]
    by_cases e : k = j
    · subst e
      rw [List.getElem?_set_self (by rw [rC_length]; exact hj), List.getD_eq_getElem?_getD, List.getElem?_set_self (by omega)]
      rfl
    · rw [List.getElem?_set_ne e, rC_at _ hj, List.getD_eq_getElem?_getD, List.getD_eq_getElem?_getD, List.getElem?_set_ne e]
  · rw [List.getElem?_eq_none (by rw [List.length_set, rC_length]; exact hj), List.getElem?_eq_none (by rw [rC_length]; exact hj)]
/-- One number of it is turned. -/
theorem r_set {w : World} {g : Nat} {l : List Nat} (h : w.heap[g]? = some (rO l)) (hl : l.length = 64) (k s : Nat) : (w.setCell ⟨g, k, none⟩ (.int .u64 (s : Int))).heap[g]? = some (rO (l.set k s)) := by
  unfold rO at h ⊢
  rw [← rC_set l hl]
  simp [World.setCell, Array.getElem?_modify, h]
theorem rZ_run (w : World) : (zeroValue 28).run Tryd.prog w = .ok (.agg (rC zerosR).toArray) w :=
  (zero_of_info (P := Tryd.prog) (t := 28) (v := .agg (rC zerosR).toArray) (n := 64) (by kernel_rfl)).1 w
section
variable {ops : Array Oper} {rest : List Oper} {o : Oper} {a : Act} {w : World} {Q : Exit → Act → World → Prop} {K : Act → World → Prop} {S : World → Prop} {E : Prop}
theorem wr_alloc (hgd : o.guard = none) (ho : o.op = .alloc 28)
    (h : wpList Tryd.prog ops Q rest (a.put o.dst (.pointer (some ⟨w.heap.size, 0, none⟩))) (w.alloc (rO zerosR))) : wpList Tryd.prog ops Q (o :: rest) a w := by
  refine Go.Great.wpList_runTo hgd o.dst rfl _ _ ?_ h
  unfold execOp
  simp only [ho, Instr.alloc, Sem.run_bind, rZ_run, Result.andThen_ok, newVar, newRow, Sem.run_pure, Value.cells]
  rfl
theorem wr_box (hgd : o.guard = none) (x : Operand) (ho : o.op = .box 28 x) (l : List Nat) (hx : a.eval x = rV l)
    (h : wpList Tryd.prog ops Q rest (a.put o.dst (.pointer (some ⟨w.heap.size, 0, none⟩))) (w.alloc (rO l))) : wpList Tryd.prog ops Q (o :: rest) a w :=
  Go.Great.wpList_boxTo hgd _ x ho o.dst rfl w.heap.size rfl (rC l).toArray (by rw [hx]; rfl) h
theorem wr_load (hgd : o.guard = none) (x : Operand) (ho : o.op = .load 28 x) (g : Nat) (hx : a.eval x = .pointer (some ⟨g, 0, none⟩)) (l : List Nat) (hf : w.heap[g]? = some (rO l))
    (h : wpList Tryd.prog ops Q rest (a.put o.dst (rV l)) w) : wpList Tryd.prog ops Q (o :: rest) a w :=
  wpList_load_mid hgd _ x ho g 0 hx (rC l) _ (r_range hf) Tryd.underlying28 rfl (r_size (rC_length l)) h
theorem wr_store (hgd : o.guard = none) (x y : Operand) (ho : o.op = .store 28 x y) (g : Nat) (l0 l : List Nat) (hx : a.eval x = .pointer (some ⟨g, 0, none⟩)) (hy : a.eval y = rV l) (hg : w.heap[g]? = some (rO l0))
    (h : wpList Tryd.prog ops Q rest (a.put o.dst undef) (w.setRow g (rC l).toArray)) : wpList Tryd.prog ops Q (o :: rest) a w :=
  wpList_store_row hgd _ x y ho g (rC l).toArray hx hy 28 (rC l0).toArray hg (r_size (by rw [List.size_toArray]; exact rC_length l)) (by rw [List.size_toArray, List.size_toArray, rC_length, rC_length]) (r_all l) h
theorem sr_store (hgd : o.guard = none) (x y : Operand) (ho : o.op = .store 28 x y) (g : Nat) (l0 l : List Nat) (hx : a.eval x = .pointer (some ⟨g, 0, none⟩)) (hy : a.eval y = rV l) (hg : w.heap[g]? = some (rO l0))
    (h : K (a.put o.dst undef) (w.setRow g (rC l).toArray)) : if Region.wanted o (yielded ops a.tmps) = true then Oper.wp Tryd.prog o a w K Q else E := by
  have hw : Region.wanted o (yielded ops a.tmps) = true := by simp [Region.wanted, hgd]
  rw [if_pos hw]
  exact wp_store_row _ x y ho g (rC l).toArray hx hy 28 (rC l0).toArray hg (r_size (by rw [List.size_toArray]; exact rC_length l)) (by rw [List.size_toArray, List.size_toArray, rC_length, rC_length]) (r_all l) h
theorem yields_r (hw : o.guard = none) (x : Operand) (ho : o.op = .load 28 x) (g : Nat) (hx : a.eval x = .pointer (some ⟨g, 0, none⟩)) (l : List Nat) (hS : ∀ w, S w → w.heap[g]? = some (rO l)) : YieldsIf Tryd.prog ops S o (rV l) a :=
  yieldsIf_load_mid (by simp [Region.wanted, hw]) _ x ho g 0 hx (rC l) _ (fun w h => r_range (hS w h)) Tryd.underlying28 rfl (r_size (rC_length l))
end

set_option maxHeartbeats 1000000 in
theorem refAll21_any (w : World) : Calls Tryd.prog 23 #[] w fun e w' => e = .returned (.int .u64 4294967295) ∧ w' = w := by
  go_enter Tryd.func23, Tryd.ntmps23
  go_wp2
  go_ret
  exact ⟨rfl, rfl⟩
set_option maxHeartbeats 1000000 in
theorem refOf21_any (l : List Nat) (t : Int) (w : World) :
    Calls Tryd.prog 16 #[rV l, .int .i64 t] w fun e w' => e = .returned (.int .u64 ((rv l t : Nat) : Int)) ∧ Below w.heap.size w w' := by
  have HB := Lib.hid ((Below.refl w.heap.size w).alloc (Nat.le_refl _) (rO l))
  have HX := Lib.hid (heap_alloc_new w (rO l))
  by_cases ht : 0 ≤ t ∧ t < 64
  · obtain ⟨k, rfl⟩ : ∃ k : Nat, t = (k : Int) := ⟨t.toNat, by omega⟩
    have hk : k < 64 := by omega
    rw [rv_nat l hk]
    have c := r_cell HX.out hk
    have k1 : (0 : Int) ≤ (k : Int) := by omega
    have k2 : (k : Int) < 64 := by omega
    have d0 : decide ((k : Int) < 0) = false := decide_eq_false (by omega)
    have d1 : decide ((k : Int) > 63) = false := decide_eq_false (by omega)
    have d2 : decide (63 < (k : Int)) = false := decide_eq_false (by omega)
    clear ht hk
    go_enter Tryd.func16, Tryd.ntmps16
    go_upto_region 1 with (first | refine wr_box rfl _ rfl l rfl ?_)
    try simp only [Act.put, List.setIfInBounds_toArray, List.set_cons_zero, List.set_cons_succ]
    generalize w.alloc (rO l) = W1 at *
    go_wp2
    go_ret
    exact ⟨rfl, HB.out⟩
  · rw [rv_out (by omega)]
    by_cases h0 : t < 0
    · have d0 : decide (t < 0) = true := decide_eq_true h0
      clear ht h0
      go_enter Tryd.func16, Tryd.ntmps16
      go_upto_region 1 with (first | refine wr_box rfl _ rfl l rfl ?_)
      try simp only [Act.put, List.setIfInBounds_toArray, List.set_cons_zero, List.set_cons_succ]
      generalize w.alloc (rO l) = W1 at *
      go_wp2
      go_ret
      exact ⟨rfl, HB.out⟩
    · have d0 : decide (t < 0) = false := decide_eq_false h0
      have d1 : decide (t > 63) = true := decide_eq_true (by omega)
      have d2 : decide (63 < t) = true := decide_eq_true (by omega)
      clear ht h0
      go_enter Tryd.func16, Tryd.ntmps16
      go_upto_region 1 with (first | refine wr_box rfl _ rfl l rfl ?_)
      try simp only [Act.put, List.setIfInBounds_toArray, List.set_cons_zero, List.set_cons_succ]
      generalize w.alloc (rO l) = W1 at *
      go_wp2
      go_ret
      exact ⟨rfl, HB.out⟩
theorem ret_set21 {W : World} {act : Act} {g : Nat} {l : List Nat} {Q : Ending → World → Prop} (h6 : act.tmps[6]?.getD undef = .pointer (some ⟨g, 0, none⟩)) (hd : act.defers = []) (hE : W.heap[g]? = some (rO l)) (hQ : Q (.returned (rV l)) W) :
    bodyPost Tryd.prog Tryd.f22 Q .ret act W := by
  have hL := run_loadVar_mid (P := Tryd.prog) W g 0 28 (rC l) _ (r_range hE) Tryd.underlying28 rfl (r_size (rC_length l))
  refine bodyPost_ret (v := rV l) ?_ hd hQ
  simp [results, Tryd.results22, asAddr, h6, hL, Sem.run_bind, Sem.run_pure, Result.andThen, rV]
theorem set_far {w : World} {g k : Nat} {p : Addr} {v : Value} (hp : p.block = k) (h : g ≠ k) : (w.setCell p v).heap[g]? = w.heap[g]? := by
  subst hp
  simp [World.setCell, Array.getElem?_modify, Ne.symm h]
theorem set_below {B : Nat} {a w : World} (h : Below B a w) {p : Addr} (hp : B ≤ p.block) (v : Value) : Below B a (w.setCell p v) :=
  ⟨h.os, h.tape, h.output, by show a.heap.size ≤ (w.heap.modify _ _).size; rw [Array.size_modify]; exact h.size, fun k hk => (set_far (g := k) rfl (by omega)).trans (h.block k hk)⟩
set_option maxHeartbeats 2000000 in
theorem refSet21_any (l : List Nat) (t : Int) (s : Nat) (w : World) (hl : l.length = 64) :
    Calls Tryd.prog 22 #[rV l, .int .i64 t, .int .u64 (s : Int)] w fun e w' => e = .returned (rV (setR l t s)) ∧ Below w.heap.size w w' := by
  have z1 : (w.alloc (rO l)).heap.size = w.heap.size + 1 := World.size_alloc _ _
  have HB := Lib.hid (((Below.refl w.heap.size w).alloc (Nat.le_refl _) (rO l)).alloc (by omega) (rO zerosR))
  have HX : Hid (((w.alloc (rO l)).alloc (rO zerosR)).heap[w.heap.size]? = some (rO l)) := Lib.hid ((Below.heap_alloc _ _ _ (by omega)).trans (heap_alloc_new w (rO l)))
  have HY : Hid (((w.alloc (rO l)).alloc (rO zerosR)).heap[w.heap.size + 1]? = some (rO zerosR)) := Lib.hid (by rw [← z1]; exact heap_alloc_new _ _)
  have HL := Lib.hid hl
  clear hl
  by_cases ht : 0 ≤ t ∧ t < 64
  · obtain ⟨k, rfl⟩ : ∃ k : Nat, t = (k : Int) := ⟨t.toNat, by omega⟩
    have hk : k < 64 := by omega
    rw [set_in ht.1 ht.2, Int.toNat_natCast]
    have k1 : (0 : Int) ≤ (k : Int) := by omega
    have k2 : (k : Int) < 64 := by omega
    have d0 : decide ((k : Int) ≥ 0) = true := decide_eq_true (by omega)
    have d1 : decide ((k : Int) ≤ 63) = true := decide_eq_true (by omega)
    have d2 : decide (0 ≤ (k : Int)) = true := decide_eq_true (by omega)
    clear ht
    go_enter Tryd.func22, Tryd.ntmps22
    go_upto_region 1 with (first | refine wr_box rfl _ rfl l rfl ?_ | refine wr_alloc rfl rfl ?_)
    try simp only [Act.put, List.setIfInBounds_toArray, List.set_cons_zero, List.set_cons_succ]
    rw [z1]
    generalize (w.alloc (rO l)).alloc (rO zerosR) = W1 at *
    have c := r_cell HX.out hk
    have f1 := r_free HX.out k
    clear z1 hk
    go_upto_region 3 with fail
    have HX2 := Lib.hid (r_set HX.out HL.out k s)
    have HY2 := Lib.hid ((set_far (w := W1) (g := w.heap.size + 1) (k := w.heap.size) (p := ⟨w.heap.size, k, none⟩) (v := .int .u64 (s : Int)) rfl (by omega)).trans HY.out)
    have HB2 := Lib.hid (set_below HB.out (p := ⟨w.heap.size, k, none⟩) (Nat.le_refl _) (.int .u64 (s : Int)))
    generalize W1.setCell ⟨w.heap.size, k, none⟩ (.int .u64 (s : Int)) = W2 at *
    clear HX HY HB c f1
    go_wp2_with (first | refine wr_load rfl _ rfl w.heap.size rfl (l.set k s) HX2.out ?_ | refine wr_store rfl _ _ rfl (w.heap.size + 1) zerosR (l.set k s) rfl rfl HY2.out ?_)
    exact ret_set21 rfl rfl (r_turned HY2.out _) ⟨rfl, row_below HB2.out (by omega) _⟩
  · rw [set_out (by omega)]
    by_cases h0 : t < 0
    · have d0 : decide (t ≥ 0) = false := decide_eq_false (by omega)
      have d2 : decide (0 ≤ t) = false := decide_eq_false (by omega)
      clear ht h0
      go_enter Tryd.func22, Tryd.ntmps22
      go_upto_region 1 with (first | refine wr_box rfl _ rfl l rfl ?_ | refine wr_alloc rfl rfl ?_)
      try simp only [Act.put, List.setIfInBounds_toArray, List.set_cons_zero, List.set_cons_succ]
      rw [z1]
      generalize (w.alloc (rO l)).alloc (rO zerosR) = W1 at *
      clear z1
      go_wp2_with (first | refine wr_load rfl _ rfl w.heap.size rfl l HX.out ?_ | refine wr_store rfl _ _ rfl (w.heap.size + 1) zerosR l rfl rfl HY.out ?_)
      exact ret_set21 rfl rfl (r_turned HY.out _) ⟨rfl, row_below HB.out (by omega) _⟩
    · have d0 : decide (t ≥ 0) = true := decide_eq_true (by omega)
      have d2 : decide (0 ≤ t) = true := decide_eq_true (by omega)
      have d1 : decide (t ≤ 63) = false := decide_eq_false (by omega)
      clear ht h0
      go_enter Tryd.func22, Tryd.ntmps22
      go_upto_region 1 with (first | refine wr_box rfl _ rfl l rfl ?_ | refine wr_alloc rfl rfl ?_)
      try simp only [Act.put, List.setIfInBounds_toArray, List.set_cons_zero, List.set_cons_succ]
      rw [z1]
      generalize (w.alloc (rO l)).alloc (rO zerosR) = W1 at *
      clear z1
      go_wp2_with (first | refine wr_load rfl _ rfl w.heap.size rfl l HX.out ?_ | refine wr_store rfl _ _ rfl (w.heap.size + 1) zerosR l rfl rfl HY.out ?_)
      exact ret_set21 rfl rfl (r_turned HY.out _) ⟨rfl, row_below HB.out (by omega) _⟩
theorem upto_yes' {p : Nat → Bool} {k : Nat} (h : p k = true) : upto p (k + 1) = wth (upto p k) (k : Int) := by
  show (if p k then _ else _) = _
  rw [if_pos h]
theorem upto_no' {p : Nat → Bool} {k : Nat} (h : p k = false) : upto p (k + 1) = upto p k := by
  show (if p k then _ else _) = _
  rw [h]
  rfl
set_option maxHeartbeats 2000000 in
theorem refWho21_any (l : List Nat) (o : Int) (w : World) (hf : Fine l) :
    Calls Tryd.prog 24 #[rV l, .int .i64 o] w fun e w' => e = .returned (.int .u64 ((whoR l o : Nat) : Int)) ∧ Below w.heap.size w w' := by
  have HB := Lib.hid ((Below.refl w.heap.size w).alloc (Nat.le_refl _) (rO l))
  have HX := Lib.hid (heap_alloc_new w (rO l))
  unfold whoR
  obtain ⟨p, hp⟩ : ∃ p : Nat → Bool, p = fun t => hasB (l.getD t 0) o := ⟨_, rfl⟩
  have HP : Hid (∀ k : Nat, hasB (l.getD k 0) o = p k) := Lib.hid (fun k => by rw [hp])
  have HF := Lib.hid hf
  rw [← hp]
  clear hp hf
  by_cases ho : o < 32
  · have e0 : decide (o < 32) = true := decide_eq_true ho
    clear ho
    go_enter Tryd.func24, Tryd.ntmps24
    go_upto_region 1 with (first | refine wr_box rfl _ rfl l rfl ?_)
    try simp only [Act.put, List.setIfInBounds_toArray, List.set_cons_zero, List.set_cons_succ]
    generalize w.alloc (rO l) = W1 at *
    go_wp2
    go_loop [5, 6] (fun s i => ∃ k : Nat, k ≤ 64 ∧ s = .int .u64 ((upto p k : Nat) : Int) ∧ i = .int .i64 (k : Int)) (fun _ i => 64 - (intOf i).toNat)
    case atStart => exact ⟨0, by omega, rfl, rfl⟩
    case round =>
      obtain ⟨k, hk, rfl, rfl⟩ := hrel
      have HU := Lib.hid (upto_lt p k (by omega))
      by_cases hlk : k < 64
      · have d0 : decide ((k : Int) < 64) = true := decide_eq_true (by omega)
        have c := r_cell HX.out hlk
        have k1 : (0 : Int) ≤ (k : Int) := by omega
        have k2 : (k : Int) < 64 := by omega
        have C := Lib.hid (refHas_any (l.getD k 0) (is64_of (HF.out.lt k)) o W1)
        rw [HP.out k] at C
        have HK := Lib.hid hlk
        clear hk hlk
        generalize l.getD k 0 = x at *
        cases hb : p k with
        | true =>
          rw [hb] at C
          have HE := Lib.hid (upto_yes' hb)
          have C2 := Lib.hid (refWith_any (upto p k) HU.out (k : Int) W1)
          clear hb
          go_wp2_with fail
          refine C.out.mono ?_
          rintro _ w1 ⟨rfl, rfl⟩
          clear C c
          go_wp2_with fail
          refine C2.out.mono ?_
          rintro _ w1 ⟨rfl, rfl⟩
          clear C2
          go_wp2
          have hk := HK.out
          have hw : wrap64 ((k : Int) + 1) = ((k + 1 : Nat) : Int) := by unfold wrap64; omega
          go_roundw
          case rel => exact ⟨k + 1, by omega, by rw [HE.out], by first | rw [hw] | rfl⟩
          case measure => (try rw [hw]); simp only [intOf]; omega
        | false =>
          rw [hb] at C
          have HE := Lib.hid (upto_no' hb)
          clear hb
          go_wp2_with fail
          refine C.out.mono ?_
          rintro _ w1 ⟨rfl, rfl⟩
          clear C c
          go_wp2
          have hk := HK.out
          have hw : wrap64 ((k : Int) + 1) = ((k + 1 : Nat) : Int) := by unfold wrap64; omega
          go_roundw
          case rel => exact ⟨k + 1, by omega, by rw [HE.out], by first | rw [hw] | rfl⟩
          case measure => (try rw [hw]); simp only [intOf]; omega
      · obtain rfl : k = 64 := by omega
        clear hk hlk
        go_wp2
        go_ret
        exact ⟨rfl, HB.out⟩
  · have e0 : decide (o < 32) = false := decide_eq_false ho
    have HN : Hid (∀ k, p k = false) := Lib.hid (fun k => by rw [← HP.out, hasB_high (HF.out.lt k) (by omega)])
    clear ho
    go_enter Tryd.func24, Tryd.ntmps24
    go_upto_region 1 with (first | refine wr_box rfl _ rfl l rfl ?_)
    try simp only [Act.put, List.setIfInBounds_toArray, List.set_cons_zero, List.set_cons_succ]
    generalize w.alloc (rO l) = W1 at *
    go_wp2
    go_loop [5, 6] (fun s i => ∃ k : Nat, k ≤ 64 ∧ s = .int .u64 ((upto p k : Nat) : Int) ∧ i = .int .i64 (k : Int)) (fun _ i => 64 - (intOf i).toNat)
    case atStart => exact ⟨0, by omega, rfl, rfl⟩
    case round =>
      obtain ⟨k, hk, rfl, rfl⟩ := hrel
      by_cases hlk : k < 64
      · have d0 : decide ((k : Int) < 64) = true := decide_eq_true (by omega)
        have HK := Lib.hid hlk
        have HE := Lib.hid (upto_no' (HN.out k))
        clear hk hlk
        go_wp2
        have hk := HK.out
        have hw : wrap64 ((k : Int) + 1) = ((k + 1 : Nat) : Int) := by unfold wrap64; omega
        go_roundw
        case rel => exact ⟨k + 1, by omega, by rw [HE.out], by first | rw [hw] | rfl⟩
        case measure => (try rw [hw]); simp only [intOf]; omega
      · obtain rfl : k = 64 := by omega
        clear hk hlk
        go_wp2
        go_ret
        exact ⟨rfl, HB.out⟩
end Go.Proofs.YtjedinodopcdaaaDoor.rig
