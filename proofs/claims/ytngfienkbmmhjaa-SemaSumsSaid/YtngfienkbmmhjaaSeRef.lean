/-
  The document's own counter. No condition. Its laws printed by tools/kitgen.py.
-/
import Derived.Test.YtngfienkbmmhjaaObjKit
import Derived.Test.YtngfienkbmmhjaaSePlain
namespace Go.Proofs.Ytngfienkbmmhjaa.sem
open Go.RowKit Go.ChangeShapes
open Go.Proofs.Ytngfienkbmmhjaa.obj
set_option linter.unusedVariables false
set_option linter.unusedSimpArgs false

/-- Its cells, its block, its value. -/
def sxC (m : Sx) : List Value := [.int .i64 m.v, .int .i64 m.m]
def sxO (m : Sx) : Obj := .cells (sxC m).toArray 26
def sxV (m : Sx) : Value := .agg (sxC m).toArray
theorem sx_size {n : Nat} (h : n = 2) : (Try.prog.info? 26).map (·.size) = some n := by
  subst h
  kernel_rfl
theorem sx_all (m : Sx) : (sxC m).toArray.all (·.oneCell') = true := by
  rw [Array.all_eq_true_iff_forall_mem]
  intro u hu
  unfold sxC at hu
  simp only [List.mem_toArray, List.mem_cons, List.not_mem_nil, or_false] at hu
  rcases hu with rfl | rfl <;> rfl
theorem sx_cell {w : World} {g : Nat} {m : Sx} (h : w.heap[g]? = some (sxO m)) {j : Nat} {v : Value} (hv : (sxC m)[j]? = some v) : w.cell? ⟨g, j, none⟩ = some v := by
  unfold World.cell?
  rw [h]
  unfold sxO
  simp only [List.getElem?_toArray]
  exact hv
theorem sx_cells {w : World} {g : Nat} {m : Sx} (h : w.heap[g]? = some (sxO m)) : w.cell? ⟨g, 0, none⟩ = some (.int .i64 m.v) ∧ w.cell? ⟨g, 1, none⟩ = some (.int .i64 m.m) :=
  ⟨sx_cell h rfl, sx_cell h rfl⟩
theorem sx_range {w : World} {g : Nat} {m : Sx} (h : w.heap[g]? = some (sxO m)) : w.rangeAt g 0 (sxC m) := fun j v hv => by
  rw [Nat.zero_add]
  exact sx_cell h hv
theorem sx_turned {w : World} {g : Nat} {m0 : Sx} (h : w.heap[g]? = some (sxO m0)) (m : Sx) : (w.setRow g (sxC m).toArray).heap[g]? = some (sxO m) := row_turned h _
def sxZ : Sx := ⟨0, 0⟩
theorem sxZ_run (w : World) : (zeroValue 26).run Try.prog w = .ok (.agg (sxC sxZ).toArray) w :=
  (zero_of_info (P := Try.prog) (t := 26) (v := .agg (sxC sxZ).toArray) (n := 2) (by kernel_rfl)).1 w
section
variable {ops : Array Oper} {rest : List Oper} {o : Oper} {a : Act} {w : World} {Q : Exit → Act → World → Prop} {K : Act → World → Prop} {S : World → Prop} {E : Prop}
theorem wsx_alloc (hgd : o.guard = none) (ho : o.op = .alloc 26)
    (h : wpList Try.prog ops Q rest (a.put o.dst (.pointer (some ⟨w.heap.size, 0, none⟩))) (w.alloc (sxO sxZ))) : wpList Try.prog ops Q (o :: rest) a w := by
  refine Go.Great.wpList_runTo hgd o.dst rfl _ _ ?_ h
  unfold execOp
  simp only [ho, Instr.alloc, Sem.run_bind, sxZ_run, Result.andThen_ok, newVar, newRow, Sem.run_pure, Value.cells]
  rfl
theorem wsx_box (hgd : o.guard = none) (x : Operand) (ho : o.op = .box 26 x) (m : Sx) (hx : a.eval x = sxV m)
    (h : wpList Try.prog ops Q rest (a.put o.dst (.pointer (some ⟨w.heap.size, 0, none⟩))) (w.alloc (sxO m))) : wpList Try.prog ops Q (o :: rest) a w :=
  Go.Great.wpList_boxTo hgd _ x ho o.dst rfl w.heap.size rfl (sxC m).toArray (by rw [hx]; rfl) h
theorem wsx_load (hgd : o.guard = none) (x : Operand) (ho : o.op = .load 26 x) (g : Nat) (hx : a.eval x = .pointer (some ⟨g, 0, none⟩)) (m : Sx) (hf : w.heap[g]? = some (sxO m))
    (h : wpList Try.prog ops Q rest (a.put o.dst (sxV m)) w) : wpList Try.prog ops Q (o :: rest) a w :=
  wpList_load_mid hgd _ x ho g 0 hx (sxC m) _ (sx_range hf) Try.underlying26 rfl (sx_size rfl) h
theorem wsx_store (hgd : o.guard = none) (x y : Operand) (ho : o.op = .store 26 x y) (g : Nat) (m0 m : Sx) (hx : a.eval x = .pointer (some ⟨g, 0, none⟩)) (hy : a.eval y = sxV m) (hg : w.heap[g]? = some (sxO m0))
    (h : wpList Try.prog ops Q rest (a.put o.dst undef) (w.setRow g (sxC m).toArray)) : wpList Try.prog ops Q (o :: rest) a w :=
  wpList_store_row hgd _ x y ho g (sxC m).toArray hx hy 26 (sxC m0).toArray hg (sx_size rfl) rfl (sx_all m) h
theorem ssx_alloc (hgd : o.guard = none) (ho : o.op = .alloc 26)
    (h : K (a.put o.dst (.pointer (some ⟨w.heap.size, 0, none⟩))) (w.alloc (sxO sxZ))) : if Region.wanted o (yielded ops a.tmps) = true then Oper.wp Try.prog o a w K Q else E := by
  have hw : Region.wanted o (yielded ops a.tmps) = true := by simp [Region.wanted, hgd]
  rw [if_pos hw]
  have hr : (execOp a.eval o).run Try.prog w = .ok (.value (.pointer (some ⟨w.heap.size, 0, none⟩))) (w.alloc (sxO sxZ)) := by
    unfold execOp
    simp only [ho, Instr.alloc, Sem.run_bind, sxZ_run, Result.andThen_ok, newVar, newRow, Sem.run_pure, Value.cells]
    rfl
  unfold Oper.wp
  rw [hr, Oper.upon_value]
  exact h
theorem ssx_store (hgd : o.guard = none) (x y : Operand) (ho : o.op = .store 26 x y) (g : Nat) (m0 m : Sx) (hx : a.eval x = .pointer (some ⟨g, 0, none⟩)) (hy : a.eval y = sxV m) (hg : w.heap[g]? = some (sxO m0))
    (h : K (a.put o.dst undef) (w.setRow g (sxC m).toArray)) : if Region.wanted o (yielded ops a.tmps) = true then Oper.wp Try.prog o a w K Q else E := by
  have hw : Region.wanted o (yielded ops a.tmps) = true := by simp [Region.wanted, hgd]
  rw [if_pos hw]
  exact wp_store_row _ x y ho g (sxC m).toArray hx hy 26 (sxC m0).toArray hg (sx_size rfl) rfl (sx_all m) h
theorem yields_sx (hw : o.guard = none) (x : Operand) (ho : o.op = .load 26 x) (g : Nat) (hx : a.eval x = .pointer (some ⟨g, 0, none⟩)) (m : Sx) (hS : ∀ w, S w → w.heap[g]? = some (sxO m)) : YieldsIf Try.prog ops S o (sxV m) a :=
  yieldsIf_load_mid (by simp [Region.wanted, hw]) _ x ho g 0 hx (sxC m) _ (fun w h => sx_range (hS w h)) Try.underlying26 rfl (sx_size rfl)
end
section
variable {ops : Array Oper} {S : World → Prop} {o : Oper} {a : Act}
theorem yields_idx (hg : o.guard = none) (y z : Operand) (ho : o.op = .indexAddr 22 y z) (b i n c j : Nat) (hx : a.eval y = .slice (some ⟨b, i, none⟩) n c) (hz : a.eval z = .int .i64 (j : Int)) (k0 : (0 : Int) ≤ (j : Int)) (k1 : (j : Int) < (n : Int)) : YieldsIf Try.prog ops S o (.pointer (some ⟨b, i + j * 2, none⟩)) a :=
  .inl ⟨by simp [Region.wanted, hg], fun w' _ => by
    unfold execOp
    simp only [ho, hx, hz]
    go_simp⟩
theorem sizeOp {n : Nat} (h : n = 2) : (Try.prog.info? 32).map (·.size) = some n := by
  subst h
  kernel_rfl
theorem yields_op (hw : o.guard = none) (x : Operand) (ho : o.op = .load 32 x) (b i : Nat) (hx : a.eval x = .pointer (some ⟨b, i, none⟩)) (k t : Int) (hS : ∀ w, S w → w.cell? ⟨b, i, none⟩ = some (.int .i64 k) ∧ w.cell? ⟨b, i + 1, none⟩ = some (.int .i64 t)) : YieldsIf Try.prog ops S o (.agg #[.int .i64 k, .int .i64 t]) a :=
  yieldsIf_load_mid (by simp [Region.wanted, hw]) _ x ho b i hx [.int .i64 k, .int .i64 t] _ (fun w h j v hv => by
    obtain ⟨h0, h1⟩ := hS w h
    match j, hv with
    | 0, hv => obtain rfl := Option.some.inj hv; exact h0
    | 1, hv => obtain rfl := Option.some.inj hv; exact h1) Try.underlying32 rfl (sizeOp rfl)
end
theorem sx_built (x y : Int) : Try.prog.built 26 [(0, .int .i64 x), (1, .int .i64 y)] = some (sxC ⟨x, y⟩).toArray := by kernel_rfl
theorem wsx_build {ops : Array Oper} {rest : List Oper} {o : Oper} {a : Act} {w : World} {Q : Exit → Act → World → Prop} (hgd : o.guard = none) (x y : Operand) (ho : o.op = .build 26 #[(0, x), (1, y)]) (n m : Int) (hx : a.eval x = .int .i64 n) (hy : a.eval y = .int .i64 m)
    (h : wpList Try.prog ops Q rest (a.put o.dst (sxV ⟨n, m⟩)) w) : wpList Try.prog ops Q (o :: rest) a w := by
  have e : (#[(0, x), (1, y)].map fun (i, x) => (i, a.eval x)).toList = [((0 : Nat), Value.int .i64 n), (1, .int .i64 m)] := by simp [hx, hy]
  refine wpList_build hgd _ _ ho (by rw [e, sx_built]; rfl) ?_
  rw [e, sx_built]
  exact h
/-- What a call answers that makes a counter. -/
def SxPost (m : Sx) (w : World) (e : Ending) (w' : World) : Prop := e = .returned (sxV m) ∧ Below w.heap.size w w'
def SxPost2 (q : Sx × Int) (w : World) (e : Ending) (w' : World) : Prop := e = .returned (.tuple #[sxV q.1, .int .i64 q.2]) ∧ Below w.heap.size w w'
theorem ret_new18 {W w : World} {act : Act} {q m : Sx} (h2 : act.tmps[4]?.getD undef = .pointer (some ⟨w.heap.size, 0, none⟩)) (hd : act.defers = []) (hE : W.heap[w.heap.size]? = some (sxO m)) (hb : Below w.heap.size w W) (hq : q = m) :
    bodyPost Try.prog Try.f7 (SxPost q w) .ret act W := by
  subst hq
  have hL := run_loadVar_mid (P := Try.prog) W w.heap.size 0 26 (sxC q) _ (sx_range hE) Try.underlying26 rfl (sx_size rfl)
  refine bodyPost_ret (v := sxV q) ?_ hd ⟨rfl, hb⟩
  simp [results, Try.results7, asAddr, h2, hL, Sem.run_bind, Sem.run_pure, Result.andThen, sxV]
set_option maxRecDepth 100000 in
set_option maxHeartbeats 2000000 in
theorem refNew18_any (first most : Int) (w : World) : Calls Try.prog 7 #[.int .i64 first, .int .i64 most] w (SxPost (newS first most) w) := by
  have HB := Lib.hid ((Below.refl w.heap.size w).alloc (Nat.le_refl _) (sxO sxZ))
  have HX := Lib.hid (heap_alloc_new w (sxO sxZ))
  obtain ⟨q, hq⟩ : ∃ q, q = newS first most := ⟨_, rfl⟩
  rw [← hq]
  have HQ := Lib.hid hq
  clear hq
  go_enter Try.func7, Try.ntmps7
  go_upto_region 1 with (first | refine wsx_alloc rfl rfl ?_)
  try simp only [Act.put, List.setIfInBounds_toArray, List.set_cons_zero, List.set_cons_succ]
  generalize w.alloc (sxO sxZ) = W1 at *
  go_wp2_with (first | refine wsx_build rfl _ _ rfl _ _ rfl rfl ?_ | refine wsx_store rfl _ _ rfl w.heap.size sxZ _ rfl rfl HX.out ?_)
  all_goals
    refine ret_new18 rfl rfl (sx_turned HX.out _) (row_below HB.out (Nat.le_refl _) _) ?_
    rw [HQ.out]
    unfold newS
    congr 1 <;> omega
section
variable {ops : Array Oper} {S : World → Prop} {o : Oper} {a : Act}
theorem yields_sfld (hg : o.guard = none) (y : Operand) (k : Nat) (hk : k < 2) (ho : o.op = .fieldAddr 26 y k) (g : Nat) (hx : a.eval y = .pointer (some ⟨g, 0, none⟩)) : YieldsIf Try.prog ops S o (.pointer (some ⟨g, k, none⟩)) a :=
  .inl ⟨by simp [Region.wanted, hg], fun w' _ => by
    unfold execOp
    simp only [ho, hx]
    match k, hk with
    | 0, _ => go_simp
    | 1, _ => go_simp⟩
theorem yields_sbuild (hg : o.guard = none) (x y : Operand) (ho : o.op = .build 26 #[(0, x), (1, y)]) (n m : Int) (hx : a.eval x = .int .i64 n) (hy : a.eval y = .int .i64 m) : YieldsIf Try.prog ops S o (sxV ⟨n, m⟩) a :=
  .inl ⟨by simp [Region.wanted, hg], fun w' _ => by
    have e : (#[(0, x), (1, y)].map fun (i, x) => (i, a.eval x)).toList = [((0 : Nat), Value.int .i64 n), (1, .int .i64 m)] := by simp [hx, hy]
    have hb := run_build (P := Try.prog) w' 26 (#[(0, x), (1, y)].map fun (i, x) => (i, a.eval x)) _ (by rw [e]; exact sx_built n m)
    unfold execOp
    simp only [ho, Sem.run_bind, hb, Sem.run_pure, Result.andThen_ok]
    rfl⟩
theorem yields_sub (hg : o.guard = none) (x y : Operand) (ho : o.op = .binOp .sub 3 x y 3) (n m : Int) (hx : a.eval x = .int .i64 n) (hy : a.eval y = .int .i64 m) (hw : IntKind.i64.wrap (n - m) = n - m) (hw2 : wrap64 (n - m) = n - m) : YieldsIf Try.prog ops S o (.int .i64 (n - m)) a :=
  .inl ⟨by simp [Region.wanted, hg], fun w' _ => by
    unfold execOp
    simp only [ho, hx, hy]
    go_simp⟩
end
/-- While Do goes: the boxes of the counter and of the call, and what is answered. -/
structure Dz (w : World) (s : Sx) (k n : Int) (q : Sx) (W : World) : Prop where
  below : Below w.heap.size w W
  b0 : W.heap[w.heap.size]? = some (sxO s)
  b1 : W.heap[w.heap.size + 1]? = some (.cells #[.int .i64 k, .int .i64 n] 32 (0, 0))
  b2 : W.heap[w.heap.size + 2]? = some (sxO q)
theorem dz_new (w : World) (s : Sx) (k n : Int) : Dz w s k n sxZ (((w.alloc (sxO s)).alloc (.cells #[.int .i64 k, .int .i64 n] 32)).alloc (sxO sxZ)) := by
  have z1 : (w.alloc (sxO s)).heap.size = w.heap.size + 1 := World.size_alloc _ _
  have z2 : ((w.alloc (sxO s)).alloc (.cells #[.int .i64 k, .int .i64 n] 32)).heap.size = w.heap.size + 2 := by rw [World.size_alloc, z1]
  refine ⟨(((Below.refl _ w).alloc (Nat.le_refl _) _).alloc (by omega) _).alloc (by omega) _, ?_, ?_, ?_⟩
  · exact (Below.heap_alloc _ _ _ (by omega)).trans ((Below.heap_alloc _ _ _ (by omega)).trans (heap_alloc_new w _))
  · refine (Below.heap_alloc _ _ _ (by omega)).trans ?_
    rw [← z1]
    exact heap_alloc_new _ _
  · rw [← z2]
    exact heap_alloc_new _ _
theorem Dz.store {w W : World} {s q0 : Sx} {k n : Int} (h : Dz w s k n q0 W) (q : Sx) : Dz w s k n q (W.setRow (w.heap.size + 2) (sxC q).toArray) :=
  ⟨row_below h.below (by omega) _, (row_far _ (by omega)).trans h.b0, (row_far _ (by omega)).trans h.b1, sx_turned h.b2 q⟩
theorem Dz.drew {w W : World} {s q : Sx} {k n : Int} (h : Dz w s k n q W) : Dz w s k n q W.drew := ⟨h.below.drew, h.b0, h.b1, h.b2⟩
theorem ret_do18 {W w : World} {act : Act} {q : Sx × Int} {s m : Sx} {k n y : Int} (h4 : act.tmps[4]?.getD undef = .pointer (some ⟨w.heap.size + 2, 0, none⟩)) (h5 : act.tmps[5]?.getD undef = .int .i64 y) (hd : act.defers = []) (hE : Dz w s k n m W) (hq : q = (m, y)) :
    bodyPost Try.prog Try.f10 (SxPost2 q w) .ret act W := by
  subst hq
  have hL := run_loadVar_mid (P := Try.prog) W (w.heap.size + 2) 0 26 (sxC m) _ (sx_range hE.b2) Try.underlying26 rfl (sx_size rfl)
  refine bodyPost_ret (v := .tuple #[sxV m, .int .i64 y]) ?_ hd ⟨rfl, hE.below⟩
  simp [results, Try.results10, asAddr, h4, h5, hL, Sem.run_bind, Sem.run_pure, Result.andThen, sxV]
set_option maxRecDepth 100000 in
set_option maxHeartbeats 4000000 in
theorem refDo18_any (s : Sx) (k n : Int) (w : World) (hf : Fine s) : Calls Try.prog 10 #[sxV s, .agg #[.int .i64 k, .int .i64 n]] w (SxPost2 (doS s k n) w) := by
  have HZ := Lib.hid (dz_new w s k n)
  obtain ⟨q, hq⟩ : ∃ q, q = doS s k n := ⟨_, rfl⟩
  rw [← hq]
  have HQ := Lib.hid hq
  have HF := Lib.hid hf
  unfold Fine at hf
  have z1 : (w.alloc (sxO s)).heap.size = w.heap.size + 1 := World.size_alloc _ _
  clear hq
  go_enter Try.func10, Try.ntmps10
  go_upto_region 1 with (first | refine wsx_box rfl _ rfl s rfl ?_ | refine wsx_alloc rfl rfl ?_)
  try simp only [Act.put, List.setIfInBounds_toArray, List.set_cons_zero, List.set_cons_succ, World.size_alloc, Nat.add_assoc, Nat.reduceAdd]
  generalize ((w.alloc (sxO s)).alloc (.cells #[.int .i64 k, .int .i64 n] 32)).alloc (sxO sxZ) = W1 at *
  obtain ⟨x0, x1⟩ := sx_cells HZ.out.b0
  obtain ⟨y0, y1⟩ := cells2 HZ.out.b1
  obtain ⟨v, m⟩ := s
  dsimp only at x0 x1 hf
  -- CASES
  by_cases k0 : k = 0
  · subst k0
    by_cases h1 : n < 1
    · have d1 : decide (n < 1) = true := decide_eq_true h1
      have HR : Hid (q = (⟨v, m⟩, 0)) := Lib.hid (by rw [HQ.out]; unfold doS; rw [if_pos rfl, if_pos (.inl h1)])
      clear h1
      go_upto_region 4 with fail
      go_wp2_with (first | refine wsx_load rfl _ rfl w.heap.size rfl ⟨v, m⟩ HZ.out.b0 ?_ | refine wsx_build rfl _ _ rfl _ _ rfl rfl ?_ | refine wsx_store rfl _ _ rfl (w.heap.size + 2) sxZ _ rfl rfl HZ.out.b2 ?_)
      exact ret_do18 rfl rfl rfl (HZ.out.store _) HR.out
    have d1 : decide (n < 1) = false := decide_eq_false h1
    by_cases h2 : v < n
    · have d2 : decide (n > v) = true := decide_eq_true h2
      have d3 : decide (v < n) = true := decide_eq_true h2
      have HR : Hid (q = (⟨v, m⟩, 0)) := Lib.hid (by rw [HQ.out]; unfold doS; rw [if_pos rfl, if_pos (.inr h2)])
      clear h1 h2
      go_upto_region 4 with fail
      go_wp2_with (first | refine wsx_load rfl _ rfl w.heap.size rfl ⟨v, m⟩ HZ.out.b0 ?_ | refine wsx_build rfl _ _ rfl _ _ rfl rfl ?_ | refine wsx_store rfl _ _ rfl (w.heap.size + 2) sxZ _ rfl rfl HZ.out.b2 ?_)
      exact ret_do18 rfl rfl rfl (HZ.out.store _) HR.out
    have d2 : decide (n > v) = false := decide_eq_false h2
    have d3 : decide (v < n) = false := decide_eq_false h2
    have hv : IntKind.i64.wrap (v - n) = v - n := by rw [IntKind.wrap_i64]; omega
    have hv2 : wrap64 (v - n) = v - n := by unfold wrap64; omega
    have HR : Hid (q = (⟨v - n, m⟩, 1)) := Lib.hid (by rw [HQ.out]; unfold doS; rw [if_pos rfl, if_neg (by rintro (h | h); exact h1 h; exact h2 h)])
    clear h1 h2
    go_upto_region 5 with fail
    go_wp2_with (first | refine wsx_load rfl _ rfl w.heap.size rfl ⟨v, m⟩ HZ.out.b0 ?_ | refine wsx_build rfl _ _ rfl _ _ rfl rfl ?_ | refine wsx_store rfl _ _ rfl (w.heap.size + 2) sxZ _ rfl rfl HZ.out.b2 ?_)
    exact ret_do18 rfl rfl rfl (HZ.out.store _) HR.out
  by_cases k1 : k = 1
  · subst k1
    by_cases h1 : n < 1
    · have d1 : decide (n < 1) = true := decide_eq_true h1
      have HR : Hid (q = (⟨v, m⟩, 1)) := Lib.hid (by rw [HQ.out]; unfold doS; rw [if_neg (by decide), if_pos rfl, if_pos h1])
      clear h1 k0
      go_upto_region 8 with fail
      go_wp2_with (first | refine wsx_load rfl _ rfl w.heap.size rfl ⟨v, m⟩ HZ.out.b0 ?_ | refine wsx_build rfl _ _ rfl _ _ rfl rfl ?_ | refine wsx_store rfl _ _ rfl (w.heap.size + 2) sxZ _ rfl rfl HZ.out.b2 ?_)
      exact ret_do18 rfl rfl rfl (HZ.out.store _) HR.out
    have d1 : decide (n < 1) = false := decide_eq_false h1
    by_cases h2 : 1000 < n
    · have d2 : decide (n > 1000) = true := decide_eq_true h2
      have d3 : decide (1000 < n) = true := decide_eq_true h2
      have HR : Hid (q = (⟨v, m⟩, 11)) := Lib.hid (by rw [HQ.out]; unfold doS; rw [if_neg (by decide), if_pos rfl, if_neg h1, if_pos (.inl h2)])
      clear h1 h2 k0
      go_upto_region 10 with fail
      go_wp2_with (first | refine wsx_load rfl _ rfl w.heap.size rfl ⟨v, m⟩ HZ.out.b0 ?_ | refine wsx_build rfl _ _ rfl _ _ rfl rfl ?_ | refine wsx_store rfl _ _ rfl (w.heap.size + 2) sxZ _ rfl rfl HZ.out.b2 ?_)
      exact ret_do18 rfl rfl rfl (HZ.out.store _) HR.out
    have d2 : decide (n > 1000) = false := decide_eq_false h2
    have d3 : decide (1000 < n) = false := decide_eq_false h2
    have hv : IntKind.i64.wrap (v + n) = v + n := by rw [IntKind.wrap_i64]; omega
    have hv2 : wrap64 (v + n) = v + n := by unfold wrap64; omega
    by_cases h3 : m < v + n
    · have d4 : decide (v + n > m) = true := decide_eq_true h3
      have d5 : decide (m < v + n) = true := decide_eq_true h3
      have HR : Hid (q = (⟨v, m⟩, 11)) := Lib.hid (by rw [HQ.out]; unfold doS; rw [if_neg (by decide), if_pos rfl, if_neg h1, if_pos (.inr h3)])
      clear h1 h2 h3 k0
      go_upto_region 10 with fail
      go_wp2_with (first | refine wsx_load rfl _ rfl w.heap.size rfl ⟨v, m⟩ HZ.out.b0 ?_ | refine wsx_build rfl _ _ rfl _ _ rfl rfl ?_ | refine wsx_store rfl _ _ rfl (w.heap.size + 2) sxZ _ rfl rfl HZ.out.b2 ?_)
      exact ret_do18 rfl rfl rfl (HZ.out.store _) HR.out
    have d4 : decide (v + n > m) = false := decide_eq_false h3
    have d5 : decide (m < v + n) = false := decide_eq_false h3
    have HR : Hid (q = (⟨v + n, m⟩, 0)) := Lib.hid (by rw [HQ.out]; unfold doS; rw [if_neg (by decide), if_pos rfl, if_neg h1, if_neg (by rintro (h | h); exact h2 h; exact h3 h)])
    clear h1 h2 h3 k0
    go_upto_region 11 with fail
    go_wp2_with (first | refine wsx_load rfl _ rfl w.heap.size rfl ⟨v, m⟩ HZ.out.b0 ?_ | refine wsx_build rfl _ _ rfl _ _ rfl rfl ?_ | refine wsx_store rfl _ _ rfl (w.heap.size + 2) sxZ _ rfl rfl HZ.out.b2 ?_)
    exact ret_do18 rfl rfl rfl (HZ.out.store _) HR.out
  have e0 : (k == 0) = false := by rw [beq_eq_false_iff_ne]; exact k0
  have e1 : (k == 1) = false := by rw [beq_eq_false_iff_ne]; exact k1
  have hw : IntKind.i64.wrap (m - v) = m - v := by rw [IntKind.wrap_i64]; omega
  have hw2 : wrap64 (m - v) = m - v := by unfold wrap64; omega
  have HR : Hid (q = (⟨m, m⟩, m - v)) := Lib.hid (by rw [HQ.out]; unfold doS; rw [if_neg k0, if_neg k1])
  clear k0 k1
  go_upto_region 12 with fail
  clear x0 x1 y0 y1
  refine wp_hold_act (fun a0 HA0 => ?_)
  have z0 : a0.tmps.size = 67 := by rw [HA0.out]; rfl
  have dd0 : a0.defers = [] := by rw [HA0.out]
  have f0_2 : a0.eval (.tmp 2) = .pointer (some ⟨w.heap.size, 0, none⟩) := by rw [HA0.out]; rfl
  have f0_4 : a0.eval (.tmp 4) = .pointer (some ⟨w.heap.size + 2, 0, none⟩) := by rw [HA0.out]; rfl
  clear HA0
  refine wp_region_held_drew (S := fun w' => ∃ q, Dz w ⟨v, m⟩ k n q w') (by kernel_rfl) (⟨_, HZ.out.drew⟩) (fun hS => ?_)
  refine wpAnyH_take (i := 0) (v := .pointer (some ⟨w.heap.size, 1, none⟩)) rfl (by kernel_rfl) (by kernel_rfl) (by kernel_rfl) (fun _ _ _ h => h) (yields_sfld rfl (.tmp 2) 1 (by omega) rfl _ f0_2) hS ?_
  obtain ⟨a1, hA1⟩ : ∃ a', a' = a0.put (some 57) (.pointer (some ⟨w.heap.size, 1, none⟩)) := ⟨_, rfl⟩
  change wpAnyH _ _ _ _ _ _ _ (a0.put (some 57) (.pointer (some ⟨w.heap.size, 1, none⟩))) _
  rw [← hA1]
  have f1_57 : a1.eval (.tmp 57) = .pointer (some ⟨w.heap.size, 1, none⟩) := by rw [hA1]; exact Act.eval_put_same _ _ _ (by omega)
  have f1_2 : a1.eval (.tmp 2) = .pointer (some ⟨w.heap.size, 0, none⟩) := by rw [hA1]; exact (Act.eval_put_ne _ _ _ _ (by decide)).trans f0_2
  have f1_4 : a1.eval (.tmp 4) = .pointer (some ⟨w.heap.size + 2, 0, none⟩) := by rw [hA1]; exact (Act.eval_put_ne _ _ _ _ (by decide)).trans f0_4
  have z1 : a1.tmps.size = 67 := by rw [hA1, Act.size_put]; exact z0
  have dd1 : a1.defers = [] := by rw [hA1, Act.defers_put']; exact dd0
  clear hA1 z0 dd0 f0_2 f0_4
  refine wpAnyH_take (i := 1) (v := .int .i64 m) rfl (by kernel_rfl) (by kernel_rfl) (by kernel_rfl) (fun _ _ _ h => h) (yields_int rfl (.tmp 57) rfl _ f1_57 _ (fun _ h => (sx_cells h.choose_spec.b0).2)) hS ?_
  obtain ⟨a2, hA2⟩ : ∃ a', a' = a1.put (some 58) (.int .i64 m) := ⟨_, rfl⟩
  change wpAnyH _ _ _ _ _ _ _ (a1.put (some 58) (.int .i64 m)) _
  rw [← hA2]
  have f2_58 : a2.eval (.tmp 58) = .int .i64 m := by rw [hA2]; exact Act.eval_put_same _ _ _ (by omega)
  have f2_2 : a2.eval (.tmp 2) = .pointer (some ⟨w.heap.size, 0, none⟩) := by rw [hA2]; exact (Act.eval_put_ne _ _ _ _ (by decide)).trans f1_2
  have f2_4 : a2.eval (.tmp 4) = .pointer (some ⟨w.heap.size + 2, 0, none⟩) := by rw [hA2]; exact (Act.eval_put_ne _ _ _ _ (by decide)).trans f1_4
  have z2 : a2.tmps.size = 67 := by rw [hA2, Act.size_put]; exact z1
  have dd2 : a2.defers = [] := by rw [hA2, Act.defers_put']; exact dd1
  clear hA2 z1 dd1 f1_57 f1_2 f1_4
  refine wpAnyH_take (i := 2) (v := .pointer (some ⟨w.heap.size, 1, none⟩)) rfl (by kernel_rfl) (by kernel_rfl) (by kernel_rfl) (fun _ _ _ h => h) (yields_sfld rfl (.tmp 2) 1 (by omega) rfl _ f2_2) hS ?_
  obtain ⟨a3, hA3⟩ : ∃ a', a' = a2.put (some 59) (.pointer (some ⟨w.heap.size, 1, none⟩)) := ⟨_, rfl⟩
  change wpAnyH _ _ _ _ _ _ _ (a2.put (some 59) (.pointer (some ⟨w.heap.size, 1, none⟩))) _
  rw [← hA3]
  have f3_59 : a3.eval (.tmp 59) = .pointer (some ⟨w.heap.size, 1, none⟩) := by rw [hA3]; exact Act.eval_put_same _ _ _ (by omega)
  have f3_58 : a3.eval (.tmp 58) = .int .i64 m := by rw [hA3]; exact (Act.eval_put_ne _ _ _ _ (by decide)).trans f2_58
  have f3_2 : a3.eval (.tmp 2) = .pointer (some ⟨w.heap.size, 0, none⟩) := by rw [hA3]; exact (Act.eval_put_ne _ _ _ _ (by decide)).trans f2_2
  have f3_4 : a3.eval (.tmp 4) = .pointer (some ⟨w.heap.size + 2, 0, none⟩) := by rw [hA3]; exact (Act.eval_put_ne _ _ _ _ (by decide)).trans f2_4
  have z3 : a3.tmps.size = 67 := by rw [hA3, Act.size_put]; exact z2
  have dd3 : a3.defers = [] := by rw [hA3, Act.defers_put']; exact dd2
  clear hA3 z2 dd2 f2_58 f2_2 f2_4
  refine wpAnyH_take (i := 3) (v := .int .i64 m) rfl (by kernel_rfl) (by kernel_rfl) (by kernel_rfl) (fun _ _ _ h => h) (yields_int rfl (.tmp 59) rfl _ f3_59 _ (fun _ h => (sx_cells h.choose_spec.b0).2)) hS ?_
  obtain ⟨a4, hA4⟩ : ∃ a', a' = a3.put (some 60) (.int .i64 m) := ⟨_, rfl⟩
  change wpAnyH _ _ _ _ _ _ _ (a3.put (some 60) (.int .i64 m)) _
  rw [← hA4]
  have f4_60 : a4.eval (.tmp 60) = .int .i64 m := by rw [hA4]; exact Act.eval_put_same _ _ _ (by omega)
  have f4_58 : a4.eval (.tmp 58) = .int .i64 m := by rw [hA4]; exact (Act.eval_put_ne _ _ _ _ (by decide)).trans f3_58
  have f4_2 : a4.eval (.tmp 2) = .pointer (some ⟨w.heap.size, 0, none⟩) := by rw [hA4]; exact (Act.eval_put_ne _ _ _ _ (by decide)).trans f3_2
  have f4_4 : a4.eval (.tmp 4) = .pointer (some ⟨w.heap.size + 2, 0, none⟩) := by rw [hA4]; exact (Act.eval_put_ne _ _ _ _ (by decide)).trans f3_4
  have z4 : a4.tmps.size = 67 := by rw [hA4, Act.size_put]; exact z3
  have dd4 : a4.defers = [] := by rw [hA4, Act.defers_put']; exact dd3
  clear hA4 z3 dd3 f3_59 f3_58 f3_2 f3_4
  refine wpAnyH_take (i := 4) (v := sxV ⟨m, m⟩) rfl (by kernel_rfl) (by kernel_rfl) (by kernel_rfl) (fun _ _ _ h => h) (yields_sbuild rfl (.tmp 58) (.tmp 60) rfl m m f4_58 f4_60) hS ?_
  obtain ⟨a5, hA5⟩ : ∃ a', a' = a4.put (some 61) (sxV ⟨m, m⟩) := ⟨_, rfl⟩
  change wpAnyH _ _ _ _ _ _ _ (a4.put (some 61) (sxV ⟨m, m⟩)) _
  rw [← hA5]
  have f5_61 : a5.eval (.tmp 61) = sxV ⟨m, m⟩ := by rw [hA5]; exact Act.eval_put_same _ _ _ (by omega)
  have f5_2 : a5.eval (.tmp 2) = .pointer (some ⟨w.heap.size, 0, none⟩) := by rw [hA5]; exact (Act.eval_put_ne _ _ _ _ (by decide)).trans f4_2
  have f5_4 : a5.eval (.tmp 4) = .pointer (some ⟨w.heap.size + 2, 0, none⟩) := by rw [hA5]; exact (Act.eval_put_ne _ _ _ _ (by decide)).trans f4_4
  have z5 : a5.tmps.size = 67 := by rw [hA5, Act.size_put]; exact z4
  have dd5 : a5.defers = [] := by rw [hA5, Act.defers_put']; exact dd4
  clear hA5 z4 dd4 f4_60 f4_58 f4_2 f4_4
  refine wpAnyH_take (i := 5) (v := .pointer (some ⟨w.heap.size, 1, none⟩)) rfl (by kernel_rfl) (by kernel_rfl) (by kernel_rfl) (fun _ _ _ h => h) (yields_sfld rfl (.tmp 2) 1 (by omega) rfl _ f5_2) hS ?_
  obtain ⟨a6, hA6⟩ : ∃ a', a' = a5.put (some 62) (.pointer (some ⟨w.heap.size, 1, none⟩)) := ⟨_, rfl⟩
  change wpAnyH _ _ _ _ _ _ _ (a5.put (some 62) (.pointer (some ⟨w.heap.size, 1, none⟩))) _
  rw [← hA6]
  have f6_62 : a6.eval (.tmp 62) = .pointer (some ⟨w.heap.size, 1, none⟩) := by rw [hA6]; exact Act.eval_put_same _ _ _ (by omega)
  have f6_61 : a6.eval (.tmp 61) = sxV ⟨m, m⟩ := by rw [hA6]; exact (Act.eval_put_ne _ _ _ _ (by decide)).trans f5_61
  have f6_2 : a6.eval (.tmp 2) = .pointer (some ⟨w.heap.size, 0, none⟩) := by rw [hA6]; exact (Act.eval_put_ne _ _ _ _ (by decide)).trans f5_2
  have f6_4 : a6.eval (.tmp 4) = .pointer (some ⟨w.heap.size + 2, 0, none⟩) := by rw [hA6]; exact (Act.eval_put_ne _ _ _ _ (by decide)).trans f5_4
  have z6 : a6.tmps.size = 67 := by rw [hA6, Act.size_put]; exact z5
  have dd6 : a6.defers = [] := by rw [hA6, Act.defers_put']; exact dd5
  clear hA6 z5 dd5 f5_61 f5_2 f5_4
  refine wpAnyH_take (i := 6) (v := .int .i64 m) rfl (by kernel_rfl) (by kernel_rfl) (by kernel_rfl) (fun _ _ _ h => h) (yields_int rfl (.tmp 62) rfl _ f6_62 _ (fun _ h => (sx_cells h.choose_spec.b0).2)) hS ?_
  obtain ⟨a7, hA7⟩ : ∃ a', a' = a6.put (some 63) (.int .i64 m) := ⟨_, rfl⟩
  change wpAnyH _ _ _ _ _ _ _ (a6.put (some 63) (.int .i64 m)) _
  rw [← hA7]
  have f7_63 : a7.eval (.tmp 63) = .int .i64 m := by rw [hA7]; exact Act.eval_put_same _ _ _ (by omega)
  have f7_61 : a7.eval (.tmp 61) = sxV ⟨m, m⟩ := by rw [hA7]; exact (Act.eval_put_ne _ _ _ _ (by decide)).trans f6_61
  have f7_2 : a7.eval (.tmp 2) = .pointer (some ⟨w.heap.size, 0, none⟩) := by rw [hA7]; exact (Act.eval_put_ne _ _ _ _ (by decide)).trans f6_2
  have f7_4 : a7.eval (.tmp 4) = .pointer (some ⟨w.heap.size + 2, 0, none⟩) := by rw [hA7]; exact (Act.eval_put_ne _ _ _ _ (by decide)).trans f6_4
  have z7 : a7.tmps.size = 67 := by rw [hA7, Act.size_put]; exact z6
  have dd7 : a7.defers = [] := by rw [hA7, Act.defers_put']; exact dd6
  clear hA7 z6 dd6 f6_62 f6_61 f6_2 f6_4
  refine wpAnyH_take (i := 7) (v := .pointer (some ⟨w.heap.size, 0, none⟩)) rfl (by kernel_rfl) (by kernel_rfl) (by kernel_rfl) (fun _ _ _ h => h) (yields_sfld rfl (.tmp 2) 0 (by omega) rfl _ f7_2) hS ?_
  obtain ⟨a8, hA8⟩ : ∃ a', a' = a7.put (some 64) (.pointer (some ⟨w.heap.size, 0, none⟩)) := ⟨_, rfl⟩
  change wpAnyH _ _ _ _ _ _ _ (a7.put (some 64) (.pointer (some ⟨w.heap.size, 0, none⟩))) _
  rw [← hA8]
  have f8_64 : a8.eval (.tmp 64) = .pointer (some ⟨w.heap.size, 0, none⟩) := by rw [hA8]; exact Act.eval_put_same _ _ _ (by omega)
  have f8_63 : a8.eval (.tmp 63) = .int .i64 m := by rw [hA8]; exact (Act.eval_put_ne _ _ _ _ (by decide)).trans f7_63
  have f8_61 : a8.eval (.tmp 61) = sxV ⟨m, m⟩ := by rw [hA8]; exact (Act.eval_put_ne _ _ _ _ (by decide)).trans f7_61
  have f8_4 : a8.eval (.tmp 4) = .pointer (some ⟨w.heap.size + 2, 0, none⟩) := by rw [hA8]; exact (Act.eval_put_ne _ _ _ _ (by decide)).trans f7_4
  have z8 : a8.tmps.size = 67 := by rw [hA8, Act.size_put]; exact z7
  have dd8 : a8.defers = [] := by rw [hA8, Act.defers_put']; exact dd7
  clear hA8 z7 dd7 f7_63 f7_61 f7_2 f7_4
  refine wpAnyH_take (i := 8) (v := .int .i64 v) rfl (by kernel_rfl) (by kernel_rfl) (by kernel_rfl) (fun _ _ _ h => h) (yields_int rfl (.tmp 64) rfl _ f8_64 _ (fun _ h => (sx_cells h.choose_spec.b0).1)) hS ?_
  obtain ⟨a9, hA9⟩ : ∃ a', a' = a8.put (some 65) (.int .i64 v) := ⟨_, rfl⟩
  change wpAnyH _ _ _ _ _ _ _ (a8.put (some 65) (.int .i64 v)) _
  rw [← hA9]
  have f9_65 : a9.eval (.tmp 65) = .int .i64 v := by rw [hA9]; exact Act.eval_put_same _ _ _ (by omega)
  have f9_63 : a9.eval (.tmp 63) = .int .i64 m := by rw [hA9]; exact (Act.eval_put_ne _ _ _ _ (by decide)).trans f8_63
  have f9_61 : a9.eval (.tmp 61) = sxV ⟨m, m⟩ := by rw [hA9]; exact (Act.eval_put_ne _ _ _ _ (by decide)).trans f8_61
  have f9_4 : a9.eval (.tmp 4) = .pointer (some ⟨w.heap.size + 2, 0, none⟩) := by rw [hA9]; exact (Act.eval_put_ne _ _ _ _ (by decide)).trans f8_4
  have z9 : a9.tmps.size = 67 := by rw [hA9, Act.size_put]; exact z8
  have dd9 : a9.defers = [] := by rw [hA9, Act.defers_put']; exact dd8
  clear hA9 z8 dd8 f8_64 f8_63 f8_61 f8_4
  refine wpAnyH_take (i := 9) (v := .int .i64 (m - v)) rfl (by kernel_rfl) (by kernel_rfl) (by kernel_rfl) (fun _ _ _ h => h) (yields_sub rfl (.tmp 63) (.tmp 65) rfl m v f9_63 f9_65 hw hw2) hS ?_
  obtain ⟨a10, hA10⟩ : ∃ a', a' = a9.put (some 66) (.int .i64 (m - v)) := ⟨_, rfl⟩
  change wpAnyH _ _ _ _ _ _ _ (a9.put (some 66) (.int .i64 (m - v))) _
  rw [← hA10]
  have f10_66 : a10.eval (.tmp 66) = .int .i64 (m - v) := by rw [hA10]; exact Act.eval_put_same _ _ _ (by omega)
  have f10_61 : a10.eval (.tmp 61) = sxV ⟨m, m⟩ := by rw [hA10]; exact (Act.eval_put_ne _ _ _ _ (by decide)).trans f9_61
  have f10_4 : a10.eval (.tmp 4) = .pointer (some ⟨w.heap.size + 2, 0, none⟩) := by rw [hA10]; exact (Act.eval_put_ne _ _ _ _ (by decide)).trans f9_4
  have z10 : a10.tmps.size = 67 := by rw [hA10, Act.size_put]; exact z9
  have dd10 : a10.defers = [] := by rw [hA10, Act.defers_put']; exact dd9
  clear hA10 z9 dd9 f9_65 f9_63 f9_61 f9_4
  refine wpAnyH_ready (rs := [10]) (by kernel_rfl) (by simp) (AllReadyH.cons (by simp only [List.getElem?_toArray, List.getElem?_cons_succ, List.getElem?_cons_zero]; rfl) (fun K hK => ?_) AllReadyH.nil)
  refine ssx_store (by rfl) (.tmp 4) (.tmp 61) (by rfl) (w.heap.size + 2) sxZ ⟨m, m⟩ f10_4 f10_61 HZ.out.drew.b2 ?_
  refine hK.out _ _ (⟨_, HZ.out.drew.store _⟩) (fun hS => ?_)
  change wpAnyH _ _ _ _ _ _ _ a10 _
  refine wpAnyH_take (i := 11) (v := .int .i64 (m - v)) rfl (by kernel_rfl) (by kernel_rfl) (by kernel_rfl) (fun _ _ _ h => h) (yields_assign rfl (.tmp 66) rfl f10_66) hS ?_
  obtain ⟨a11, hA11⟩ : ∃ a', a' = a10.put (some 5) (.int .i64 (m - v)) := ⟨_, rfl⟩
  change wpAnyH _ _ _ _ _ _ _ (a10.put (some 5) (.int .i64 (m - v))) _
  rw [← hA11]
  have f11_5 : a11.eval (.tmp 5) = .int .i64 (m - v) := by rw [hA11]; exact Act.eval_put_same _ _ _ (by omega)
  have f11_4 : a11.eval (.tmp 4) = .pointer (some ⟨w.heap.size + 2, 0, none⟩) := by rw [hA11]; exact (Act.eval_put_ne _ _ _ _ (by decide)).trans f10_4
  have z11 : a11.tmps.size = 67 := by rw [hA11, Act.size_put]; exact z10
  have dd11 : a11.defers = [] := by rw [hA11, Act.defers_put']; exact dd10
  clear hA11 z10 dd10 f10_66 f10_61 f10_4
  refine wpAnyH_done (by kernel_rfl) ?_ _
  go_wp2_with fail
  exact ret_do18 (by rw [← Array.getD_eq_getD_getElem?]; exact f11_4) (by rw [← Array.getD_eq_getD_getElem?]; exact f11_5) dd11 (HZ.out.drew.store ⟨m, m⟩) HR.out
end Go.Proofs.Ytngfienkbmmhjaa.sem
