/-
  The document's own lock that many read or one writes. No condition. Printed by tools/mkrw.py.
-/
import Derived.Test.YthfgaflfnnlhnaaDoorObjKit
import Derived.Test.YthfgaflfnnlhnaaDoorRwPlain
import Derived.Test.YthfgaflfnnlhnaaDoorBRef
namespace Go.Proofs.YthfgaflfnnlhnaaDoor.rwl
open Go.RowKit Go.ChangeShapes
open Go.Proofs.YthfgaflfnnlhnaaDoor.obj
open Go.Proofs.YthfgaflfnnlhnaaDoor.bits (Is64 hasB wth wout refHas_any refWith_any refWithout_any)
set_option linter.unusedVariables false
set_option linter.unusedSimpArgs false

/-- Its cells, its block, its value. -/
def rxC (m : Rx) : List Value := [.int .u64 ((m.r : Nat) : Int), .int .i64 m.p]
def rxO (m : Rx) : Obj := .cells (rxC m).toArray 29
def rxV (m : Rx) : Value := .agg (rxC m).toArray
theorem rx_size {n : Nat} (h : n = 2) : (Tryd.prog.info? 29).map (·.size) = some n := by
  subst h
  kernel_rfl
theorem rx_all (m : Rx) : (rxC m).toArray.all (·.oneCell') = true := by
  rw [Array.all_eq_true_iff_forall_mem]
  intro u hu
  unfold rxC at hu
  simp only [List.mem_toArray, List.mem_cons, List.not_mem_nil, or_false] at hu
  rcases hu with rfl | rfl <;> rfl
theorem rx_cell {w : World} {g : Nat} {m : Rx} (h : w.heap[g]? = some (rxO m)) {j : Nat} {v : Value} (hv : (rxC m)[j]? = some v) : w.cell? ⟨g, j, none⟩ = some v := by
  unfold World.cell?
  rw [h]
  unfold rxO
  simp only [List.getElem?_toArray]
  exact hv
theorem rx_cells {w : World} {g : Nat} {m : Rx} (h : w.heap[g]? = some (rxO m)) : w.cell? ⟨g, 0, none⟩ = some (.int .u64 ((m.r : Nat) : Int)) ∧ w.cell? ⟨g, 1, none⟩ = some (.int .i64 m.p) :=
  ⟨rx_cell h rfl, rx_cell h rfl⟩
theorem rx_range {w : World} {g : Nat} {m : Rx} (h : w.heap[g]? = some (rxO m)) : w.rangeAt g 0 (rxC m) := fun j v hv => by
  rw [Nat.zero_add]
  exact rx_cell h hv
theorem rx_turned {w : World} {g : Nat} {m0 : Rx} (h : w.heap[g]? = some (rxO m0)) (m : Rx) : (w.setRow g (rxC m).toArray).heap[g]? = some (rxO m) := row_turned h _
def rxZ : Rx := ⟨0, 0⟩
theorem rxZ_run (w : World) : (zeroValue 29).run Tryd.prog w = .ok (.agg (rxC rxZ).toArray) w :=
  (zero_of_info (P := Tryd.prog) (t := 29) (v := .agg (rxC rxZ).toArray) (n := 2) (by kernel_rfl)).1 w
section
variable {ops : Array Oper} {rest : List Oper} {o : Oper} {a : Act} {w : World} {Q : Exit → Act → World → Prop} {K : Act → World → Prop} {S : World → Prop} {E : Prop}
theorem wrx_alloc (hgd : o.guard = none) (ho : o.op = .alloc 29)
    (h : wpList Tryd.prog ops Q rest (a.put o.dst (.pointer (some ⟨w.heap.size, 0, none⟩))) (w.alloc (rxO rxZ))) : wpList Tryd.prog ops Q (o :: rest) a w := by
  refine Go.Great.wpList_runTo hgd o.dst rfl _ _ ?_ h
  unfold execOp
  simp only [ho, Instr.alloc, Sem.run_bind, rxZ_run, Result.andThen_ok, newVar, newRow, Sem.run_pure, Value.cells]
  rfl
theorem wrx_box (hgd : o.guard = none) (x : Operand) (ho : o.op = .box 29 x) (m : Rx) (hx : a.eval x = rxV m)
    (h : wpList Tryd.prog ops Q rest (a.put o.dst (.pointer (some ⟨w.heap.size, 0, none⟩))) (w.alloc (rxO m))) : wpList Tryd.prog ops Q (o :: rest) a w :=
  Go.Great.wpList_boxTo hgd _ x ho o.dst rfl w.heap.size rfl (rxC m).toArray (by rw [hx]; rfl) h
theorem wrx_load (hgd : o.guard = none) (x : Operand) (ho : o.op = .load 29 x) (g : Nat) (hx : a.eval x = .pointer (some ⟨g, 0, none⟩)) (m : Rx) (hf : w.heap[g]? = some (rxO m))
    (h : wpList Tryd.prog ops Q rest (a.put o.dst (rxV m)) w) : wpList Tryd.prog ops Q (o :: rest) a w :=
  wpList_load_mid hgd _ x ho g 0 hx (rxC m) _ (rx_range hf) Tryd.underlying29 rfl (rx_size rfl) h
theorem wrx_store (hgd : o.guard = none) (x y : Operand) (ho : o.op = .store 29 x y) (g : Nat) (m0 m : Rx) (hx : a.eval x = .pointer (some ⟨g, 0, none⟩)) (hy : a.eval y = rxV m) (hg : w.heap[g]? = some (rxO m0))
    (h : wpList Tryd.prog ops Q rest (a.put o.dst undef) (w.setRow g (rxC m).toArray)) : wpList Tryd.prog ops Q (o :: rest) a w :=
  wpList_store_row hgd _ x y ho g (rxC m).toArray hx hy 29 (rxC m0).toArray hg (rx_size rfl) rfl (rx_all m) h
theorem srx_alloc (hgd : o.guard = none) (ho : o.op = .alloc 29)
    (h : K (a.put o.dst (.pointer (some ⟨w.heap.size, 0, none⟩))) (w.alloc (rxO rxZ))) : if Region.wanted o (yielded ops a.tmps) = true then Oper.wp Tryd.prog o a w K Q else E := by
  have hw : Region.wanted o (yielded ops a.tmps) = true := by simp [Region.wanted, hgd]
  rw [if_pos hw]
  have hr : (execOp a.eval o).run Tryd.prog w = .ok (.value (.pointer (some ⟨w.heap.size, 0, none⟩))) (w.alloc (rxO rxZ)) := by
    unfold execOp
    simp only [ho, Instr.alloc, Sem.run_bind, rxZ_run, Result.andThen_ok, newVar, newRow, Sem.run_pure, Value.cells]
    rfl
  unfold Oper.wp
  rw [hr, Oper.upon_value]
  exact h
theorem srx_store (hgd : o.guard = none) (x y : Operand) (ho : o.op = .store 29 x y) (g : Nat) (m0 m : Rx) (hx : a.eval x = .pointer (some ⟨g, 0, none⟩)) (hy : a.eval y = rxV m) (hg : w.heap[g]? = some (rxO m0))
    (h : K (a.put o.dst undef) (w.setRow g (rxC m).toArray)) : if Region.wanted o (yielded ops a.tmps) = true then Oper.wp Tryd.prog o a w K Q else E := by
  have hw : Region.wanted o (yielded ops a.tmps) = true := by simp [Region.wanted, hgd]
  rw [if_pos hw]
  exact wp_store_row _ x y ho g (rxC m).toArray hx hy 29 (rxC m0).toArray hg (rx_size rfl) rfl (rx_all m) h
theorem yields_rx (hw : o.guard = none) (x : Operand) (ho : o.op = .load 29 x) (g : Nat) (hx : a.eval x = .pointer (some ⟨g, 0, none⟩)) (m : Rx) (hS : ∀ w, S w → w.heap[g]? = some (rxO m)) : YieldsIf Tryd.prog ops S o (rxV m) a :=
  yieldsIf_load_mid (by simp [Region.wanted, hw]) _ x ho g 0 hx (rxC m) _ (fun w h => rx_range (hS w h)) Tryd.underlying29 rfl (rx_size rfl)
end
section
variable {ops : Array Oper} {S : World → Prop} {o : Oper} {a : Act}
theorem yields_idx (hg : o.guard = none) (y z : Operand) (ho : o.op = .indexAddr 22 y z) (b i n c j : Nat) (hx : a.eval y = .slice (some ⟨b, i, none⟩) n c) (hz : a.eval z = .int .i64 (j : Int)) (k0 : (0 : Int) ≤ (j : Int)) (k1 : (j : Int) < (n : Int)) : YieldsIf Tryd.prog ops S o (.pointer (some ⟨b, i + j * 2, none⟩)) a :=
  .inl ⟨by simp [Region.wanted, hg], fun w' _ => by
    unfold execOp
    simp only [ho, hx, hz]
    go_simp⟩
theorem sizeOp {n : Nat} (h : n = 2) : (Tryd.prog.info? 34).map (·.size) = some n := by
  subst h
  kernel_rfl
theorem yields_op (hw : o.guard = none) (x : Operand) (ho : o.op = .load 34 x) (b i : Nat) (hx : a.eval x = .pointer (some ⟨b, i, none⟩)) (k t : Int) (hS : ∀ w, S w → w.cell? ⟨b, i, none⟩ = some (.int .i64 k) ∧ w.cell? ⟨b, i + 1, none⟩ = some (.int .i64 t)) : YieldsIf Tryd.prog ops S o (.agg #[.int .i64 k, .int .i64 t]) a :=
  yieldsIf_load_mid (by simp [Region.wanted, hw]) _ x ho b i hx [.int .i64 k, .int .i64 t] _ (fun w h j v hv => by
    obtain ⟨h0, h1⟩ := hS w h
    match j, hv with
    | 0, hv => obtain rfl := Option.some.inj hv; exact h0
    | 1, hv => obtain rfl := Option.some.inj hv; exact h1) Tryd.underlying34 rfl (sizeOp rfl)
end
theorem rx_built : Tryd.prog.built 29 [(1, .int .i64 (-1))] = some (rxC newR).toArray := by kernel_rfl
theorem wrx_build {ops : Array Oper} {rest : List Oper} {o : Oper} {a : Act} {w : World} {Q : Exit → Act → World → Prop} (hgd : o.guard = none) (ho : o.op = .build 29 #[(1, .const (.int .i64 (-1)))])
    (h : wpList Tryd.prog ops Q rest (a.put o.dst (rxV newR)) w) : wpList Tryd.prog ops Q (o :: rest) a w := by
  have e : (#[((1 : Nat), Operand.const (.int .i64 (-1)))].map fun (i, x) => (i, a.eval x)).toList = [((1 : Nat), Value.int .i64 (-1))] := by simp; rfl
  refine wpList_build hgd _ _ ho (by rw [e, rx_built]; rfl) ?_
  rw [e, rx_built]
  exact h
theorem rx_setr {w : World} {g : Nat} {m : Rx} (h : w.heap[g]? = some (rxO m)) (r : Nat) : (w.setCell ⟨g, 0, none⟩ (.int .u64 (r : Int))).heap[g]? = some (rxO ⟨r, m.p⟩) := by
  simp [World.setCell, Array.getElem?_modify, h, rxO, rxC]
theorem rx_setp {w : World} {g : Nat} {m : Rx} (h : w.heap[g]? = some (rxO m)) (p : Int) : (w.setCell ⟨g, 1, none⟩ (.int .i64 p)).heap[g]? = some (rxO ⟨m.r, p⟩) := by
  simp [World.setCell, Array.getElem?_modify, h, rxO, rxC]
theorem set_far {w : World} {g k i : Nat} (v : Value) (h : k ≠ g) : (w.setCell ⟨g, i, none⟩ v).heap[k]? = w.heap[k]? := by
  simp [World.setCell, Array.getElem?_modify, Ne.symm h]
theorem set_below {B g i : Nat} {a w : World} (h : Below B a w) (hg : B ≤ g) (v : Value) : Below B a (w.setCell ⟨g, i, none⟩ v) :=
  ⟨h.os, h.tape, h.output, Nat.le_trans h.size (by show w.heap.size ≤ (w.heap.modify _ _).size; rw [Array.size_modify]; exact Nat.le_refl _), fun k hk => (set_far v (by omega)).trans (h.block k hk)⟩
/-- What a call answers that makes a lock. -/
def RxPost (m : Rx) (w : World) (e : Ending) (w' : World) : Prop := e = .returned (rxV m) ∧ Below w.heap.size w w'
def RxPost2 (q : Rx × Int) (w : World) (e : Ending) (w' : World) : Prop := e = .returned (.tuple #[rxV q.1, .int .i64 q.2]) ∧ Below w.heap.size w w'
theorem ret_new17 {W w : World} {act : Act} {q : Rx} (h2 : act.tmps[0]?.getD undef = .pointer (some ⟨w.heap.size, 0, none⟩)) (hd : act.defers = []) (hE : W.heap[w.heap.size]? = some (rxO q)) (hb : Below w.heap.size w W) :
    bodyPost Tryd.prog Tryd.f6 (RxPost q w) .ret act W := by
  have hL := run_loadVar_mid (P := Tryd.prog) W w.heap.size 0 29 (rxC q) _ (rx_range hE) Tryd.underlying29 rfl (rx_size rfl)
  refine bodyPost_ret (v := rxV q) ?_ hd ⟨rfl, hb⟩
  simp [results, Tryd.results6, asAddr, h2, hL, Sem.run_bind, Sem.run_pure, Result.andThen, rxV]
set_option maxRecDepth 100000 in
set_option maxHeartbeats 2000000 in
theorem refNew17_any (w : World) : Calls Tryd.prog 6 #[] w (RxPost newR w) := by
  have HB := Lib.hid ((Below.refl w.heap.size w).alloc (Nat.le_refl _) (rxO rxZ))
  have HX := Lib.hid (heap_alloc_new w (rxO rxZ))
  go_enter Tryd.func6, Tryd.ntmps6
  go_upto_region 1 with (first | refine wrx_alloc rfl rfl ?_)
  try simp only [Act.put, List.setIfInBounds_toArray, List.set_cons_zero, List.set_cons_succ]
  generalize w.alloc (rxO rxZ) = W1 at *
  go_wp2_with (first | refine wrx_build rfl rfl ?_ | refine wrx_store rfl _ _ rfl w.heap.size rxZ newR rfl rfl HX.out ?_)
  exact ret_new17 rfl rfl (rx_turned HX.out _) (row_below HB.out (Nat.le_refl _) _)
set_option maxRecDepth 100000 in
set_option maxHeartbeats 2000000 in
theorem refMode_any (s : Rx) (t : Int) (w : World) (h64 : Is64 s.r) : Calls Tryd.prog 14 #[rxV s, .int .i64 t] w fun e w' => e = .returned (.int .i64 (modeR s t)) ∧ Below w.heap.size w w' := by
  have HB := Lib.hid ((Below.refl w.heap.size w).alloc (Nat.le_refl _) (rxO s))
  have HX := Lib.hid (heap_alloc_new w (rxO s))
  have HH := fun W => Lib.hid (refHas_any s.r h64 t W)
  obtain ⟨y, hy⟩ : ∃ y, y = modeR s t := ⟨_, rfl⟩
  rw [← hy]
  unfold modeR at hy
  clear h64
  go_enter Tryd.func14, Tryd.ntmps14
  go_upto_region 1 with (first | refine wrx_box rfl _ rfl s rfl ?_)
  try simp only [Act.put, List.setIfInBounds_toArray, List.set_cons_zero, List.set_cons_succ]
  generalize w.alloc (rxO s) = W1 at *
  obtain ⟨x0, x1⟩ := rx_cells HX.out
  obtain ⟨r, p⟩ := s
  dsimp only at x0 x1 hy HH
  by_cases h1 : 0 ≤ t ∧ p = t
  · rw [if_pos h1] at hy
    obtain ⟨h1, rfl⟩ := h1
    subst hy
    clear HH
    go_wp2
    go_ret
    exact ⟨rfl, HB.out⟩
  rw [if_neg h1] at hy
  by_cases h0 : 0 ≤ t
  · have h2 : (p == t) = false := by rw [beq_eq_false_iff_ne]; exact fun e => h1 ⟨h0, e⟩
    clear h1
    by_cases hb : hasB r t = true
    · rw [if_pos hb] at hy
      rw [hb] at HH
      subst hy
      clear hb
      go_wp2_with fail
      refine (HH _).out.mono ?_
      rintro _ w2 ⟨rfl, rfl⟩
      go_wp2
      go_ret
      exact ⟨rfl, HB.out⟩
    · rw [if_neg hb] at hy
      have hb' : hasB r t = false := by simpa using hb
      rw [hb'] at HH
      subst hy
      clear hb hb'
      go_wp2_with fail
      refine (HH _).out.mono ?_
      rintro _ w2 ⟨rfl, rfl⟩
      go_wp2
      go_ret
      exact ⟨rfl, HB.out⟩
  · clear h1
    have h0' : t < 0 := by omega
    by_cases hb : hasB r t = true
    · rw [if_pos hb] at hy
      rw [hb] at HH
      subst hy
      clear hb
      go_wp2_with fail
      refine (HH _).out.mono ?_
      rintro _ w2 ⟨rfl, rfl⟩
      go_wp2
      go_ret
      exact ⟨rfl, HB.out⟩
    · rw [if_neg hb] at hy
      have hb' : hasB r t = false := by simpa using hb
      rw [hb'] at HH
      subst hy
      clear hb hb'
      go_wp2_with fail
      refine (HH _).out.mono ?_
      rintro _ w2 ⟨rfl, rfl⟩
      go_wp2
      go_ret
      exact ⟨rfl, HB.out⟩
set_option maxRecDepth 100000 in
set_option maxHeartbeats 2000000 in
theorem refHolders_any (s : Rx) (w : World) (h64 : Is64 s.r) : Calls Tryd.prog 12 #[rxV s] w fun e w' => e = .returned (.int .u64 ((holdR s : Nat) : Int)) ∧ Below w.heap.size w w' := by
  have HB := Lib.hid ((Below.refl w.heap.size w).alloc (Nat.le_refl _) (rxO s))
  have HX := Lib.hid (heap_alloc_new w (rxO s))
  have HH := fun W => Lib.hid (refWith_any s.r h64 s.p W)
  change ∀ W, Hid (Calls _ _ _ _ fun e w' => e = .returned (.int .u64 ((holdR s : Nat) : Int)) ∧ W = w') at HH
  generalize holdR s = y at *
  clear h64
  go_enter Tryd.func12, Tryd.ntmps12
  go_upto_region 1 with (first | refine wrx_box rfl _ rfl s rfl ?_)
  try simp only [Act.put, List.setIfInBounds_toArray, List.set_cons_zero, List.set_cons_succ]
  generalize w.alloc (rxO s) = W1 at *
  obtain ⟨x0, x1⟩ := rx_cells HX.out
  go_wp2_with fail
  refine (HH _).out.mono ?_
  rintro _ w2 ⟨rfl, rfl⟩
  go_wp2
  go_ret
  exact ⟨rfl, HB.out⟩
theorem rx_soft {w : World} {g : Nat} {m : Rx} (h : w.heap[g]? = some (rxO m)) (i : Nat) : w.frozen? ⟨g, i, none⟩ = false := by
  simp [World.frozen?, h, rxO]
/-- While Leave goes: the boxes of the lock and of what is answered. -/
structure Lz (w : World) (s q : Rx) (W : World) : Prop where
  below : Below w.heap.size w W
  b0 : W.heap[w.heap.size]? = some (rxO s)
  b1 : W.heap[w.heap.size + 1]? = some (rxO q)
theorem lz_new (w : World) (s : Rx) : Lz w s rxZ ((w.alloc (rxO s)).alloc (rxO rxZ)) := by
  have z1 : (w.alloc (rxO s)).heap.size = w.heap.size + 1 := World.size_alloc _ _
  refine ⟨((Below.refl _ w).alloc (Nat.le_refl _) _).alloc (by omega) _, (Below.heap_alloc _ _ _ (by omega)).trans (heap_alloc_new w _), ?_⟩
  rw [← z1]
  exact heap_alloc_new _ _
theorem Lz.setr {w W : World} {s q : Rx} (h : Lz w s q W) (r : Nat) : Lz w ⟨r, s.p⟩ q (W.setCell ⟨w.heap.size, 0, none⟩ (.int .u64 (r : Int))) :=
  ⟨set_below h.below (Nat.le_refl _) _, rx_setr h.b0 r, (set_far _ (by omega)).trans h.b1⟩
theorem Lz.setp {w W : World} {s q : Rx} (h : Lz w s q W) (p : Int) : Lz w ⟨s.r, p⟩ q (W.setCell ⟨w.heap.size, 1, none⟩ (.int .i64 p)) :=
  ⟨set_below h.below (Nat.le_refl _) _, rx_setp h.b0 p, (set_far _ (by omega)).trans h.b1⟩
theorem Lz.store {w W : World} {s q0 : Rx} (h : Lz w s q0 W) (q : Rx) : Lz w s q (W.setRow (w.heap.size + 1) (rxC q).toArray) :=
  ⟨row_below h.below (by omega) _, (row_far _ (by omega)).trans h.b0, rx_turned h.b1 q⟩
theorem ret_leave17 {W w : World} {act : Act} {q : Rx} (h2 : act.tmps[4]?.getD undef = .pointer (some ⟨w.heap.size + 1, 0, none⟩)) (hd : act.defers = []) (hE : W.heap[w.heap.size + 1]? = some (rxO q)) (hb : Below w.heap.size w W) :
    bodyPost Tryd.prog Tryd.f19 (RxPost q w) .ret act W := by
  have hL := run_loadVar_mid (P := Tryd.prog) W (w.heap.size + 1) 0 29 (rxC q) _ (rx_range hE) Tryd.underlying29 rfl (rx_size rfl)
  refine bodyPost_ret (v := rxV q) ?_ hd ⟨rfl, hb⟩
  simp [results, Tryd.results19, asAddr, h2, hL, Sem.run_bind, Sem.run_pure, Result.andThen, rxV]
set_option maxRecDepth 100000 in
set_option maxHeartbeats 2000000 in
theorem refLeave_any (s : Rx) (t : Int) (w : World) (h64 : Is64 s.r) : Calls Tryd.prog 19 #[rxV s, .int .i64 t] w (RxPost (leaveR s t) w) := by
  have HZ := Lib.hid (lz_new w s)
  have HH := fun W => Lib.hid (refWithout_any s.r h64 t W)
  obtain ⟨q, hq⟩ : ∃ q, q = leaveR s t := ⟨_, rfl⟩
  rw [← hq]
  unfold leaveR at hq
  clear h64
  go_enter Tryd.func19, Tryd.ntmps19
  go_upto_region 1 with (first | refine wrx_box rfl _ rfl s rfl ?_ | refine wrx_alloc rfl rfl ?_)
  try simp only [Act.put, List.setIfInBounds_toArray, List.set_cons_zero, List.set_cons_succ, World.size_alloc]
  generalize (w.alloc (rxO s)).alloc (rxO rxZ) = W1 at *
  obtain ⟨x0, x1⟩ := rx_cells HZ.out.b0
  obtain ⟨r, p⟩ := s
  dsimp only at x0 x1 hq HH
  generalize wout r t = r2 at *
  have f1 := rx_soft HZ.out.b0 1
  by_cases h1 : p = t
  · rw [if_pos h1] at hq
    subst h1
    go_upto_region 3 with fail
    have HZ2 := Lib.hid (HZ.out.setp (-1))
    dsimp only at HZ2
    generalize W1.setCell ⟨w.heap.size, 1, none⟩ (.int .i64 (-1)) = W2 at *
    clear HZ x0 x1 f1
    obtain ⟨x0, x1⟩ := rx_cells HZ2.out.b0
    have f0 := rx_soft HZ2.out.b0 0
    go_wp2_with fail
    refine (HH _).out.mono ?_
    rintro _ w2 ⟨rfl, rfl⟩
    go_upto_region 4 with fail
    have HZ3 := Lib.hid (HZ2.out.setr r2)
    dsimp only at HZ3
    generalize W2.setCell ⟨w.heap.size, 0, none⟩ (.int .u64 (r2 : Int)) = W3 at *
    clear HZ2 x0 x1 f0 HH
    subst hq
    go_wp2_with (first | refine wrx_load rfl _ rfl w.heap.size rfl ⟨r2, -1⟩ HZ3.out.b0 ?_ | refine wrx_store rfl _ _ rfl (w.heap.size + 1) rxZ ⟨r2, -1⟩ rfl rfl HZ3.out.b1 ?_)
    exact ret_leave17 rfl rfl (HZ3.out.store _).b1 (HZ3.out.store _).below
  · rw [if_neg h1] at hq
    have h2 : (p == t) = false := by rw [beq_eq_false_iff_ne]; exact h1
    clear h1 f1
    have f0 := rx_soft HZ.out.b0 0
    go_wp2_with fail
    refine (HH _).out.mono ?_
    rintro _ w2 ⟨rfl, rfl⟩
    go_upto_region 4 with fail
    have HZ3 := Lib.hid (HZ.out.setr r2)
    dsimp only at HZ3
    generalize W1.setCell ⟨w.heap.size, 0, none⟩ (.int .u64 (r2 : Int)) = W3 at *
    clear HZ x0 x1 f0 HH h2
    subst hq
    go_wp2_with (first | refine wrx_load rfl _ rfl w.heap.size rfl ⟨r2, p⟩ HZ3.out.b0 ?_ | refine wrx_store rfl _ _ rfl (w.heap.size + 1) rxZ ⟨r2, p⟩ rfl rfl HZ3.out.b1 ?_)
    exact ret_leave17 rfl rfl (HZ3.out.store _).b1 (HZ3.out.store _).below
end Go.Proofs.YthfgaflfnnlhnaaDoor.rwl
