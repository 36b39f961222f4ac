/-
  The document's Do of a barrier. No condition. Printed by tools/mkbardo.py.
-/
import Derived.Test.YtiekbbknmneikaaBarRef4
namespace Go.Proofs.Ytiekbbknmneikaa.bar
open Go.RowKit Go.ChangeShapes
open Go.Proofs.Ytiekbbknmneikaa.obj
open Go.Proofs.Ytiekbbknmneikaa.bits (Is64 hasB wth wout minus els)
set_option linter.unusedVariables false
set_option linter.unusedSimpArgs false

/-- Its cells, its block, its value. -/
def txC (m : Tx) : List Value := [.int .u64 ((m.s : Nat) : Int), .bool m.b, .int .i64 m.e]
def txO (m : Tx) : Obj := .cells (txC m).toArray 31
def txV (m : Tx) : Value := .agg (txC m).toArray
theorem tx_size {n : Nat} (h : n = 3) : (Try.prog.info? 31).map (·.size) = some n := by
  subst h
  kernel_rfl
theorem tx_all (m : Tx) : (txC m).toArray.all (·.oneCell') = true := by
  rw [Array.all_eq_true_iff_forall_mem]
  intro u hu
  unfold txC at hu
  simp only [List.mem_toArray, List.mem_cons, List.not_mem_nil, or_false] at hu
  rcases hu with rfl | rfl | rfl <;> rfl
theorem tx_cell {w : World} {g : Nat} {m : Tx} (h : w.heap[g]? = some (txO m)) {j : Nat} {v : Value} (hv : (txC m)[j]? = some v) : w.cell? ⟨g, j, none⟩ = some v := by
  unfold World.cell?
  rw [h]
  unfold txO
  simp only [List.getElem?_toArray]
  exact hv
theorem tx_cells {w : World} {g : Nat} {m : Tx} (h : w.heap[g]? = some (txO m)) : w.cell? ⟨g, 0, none⟩ = some (.int .u64 ((m.s : Nat) : Int)) ∧ w.cell? ⟨g, 1, none⟩ = some (.bool m.b) ∧ w.cell? ⟨g, 2, none⟩ = some (.int .i64 m.e) :=
  ⟨tx_cell h rfl, tx_cell h rfl, tx_cell h rfl⟩
theorem tx_range {w : World} {g : Nat} {m : Tx} (h : w.heap[g]? = some (txO m)) : w.rangeAt g 0 (txC m) := fun j v hv => by
  rw [Nat.zero_add]
  exact tx_cell h hv
theorem tx_turned {w : World} {g : Nat} {m0 : Tx} (h : w.heap[g]? = some (txO m0)) (m : Tx) : (w.setRow g (txC m).toArray).heap[g]? = some (txO m) := row_turned h _
def txZ : Tx := ⟨0, false, 0⟩
theorem txZ_run (w : World) : (zeroValue 31).run Try.prog w = .ok (.agg (txC txZ).toArray) w :=
  (zero_of_info (P := Try.prog) (t := 31) (v := .agg (txC txZ).toArray) (n := 3) (by kernel_rfl)).1 w
section
variable {ops : Array Oper} {rest : List Oper} {o : Oper} {a : Act} {w : World} {Q : Exit → Act → World → Prop} {K : Act → World → Prop} {S : World → Prop} {E : Prop}
theorem wtx_alloc (hgd : o.guard = none) (ho : o.op = .alloc 31)
    (h : wpList Try.prog ops Q rest (a.put o.dst (.pointer (some ⟨w.heap.size, 0, none⟩))) (w.alloc (txO txZ))) : wpList Try.prog ops Q (o :: rest) a w := by
  refine Go.Great.wpList_runTo hgd o.dst rfl _ _ ?_ h
  unfold execOp
  simp only [ho, Instr.alloc, Sem.run_bind, txZ_run, Result.andThen_ok, newVar, newRow, Sem.run_pure, Value.cells]
  rfl
theorem wtx_box (hgd : o.guard = none) (x : Operand) (ho : o.op = .box 31 x) (m : Tx) (hx : a.eval x = txV m)
    (h : wpList Try.prog ops Q rest (a.put o.dst (.pointer (some ⟨w.heap.size, 0, none⟩))) (w.alloc (txO m))) : wpList Try.prog ops Q (o :: rest) a w :=
  Go.Great.wpList_boxTo hgd _ x ho o.dst rfl w.heap.size rfl (txC m).toArray (by rw [hx]; rfl) h
theorem wtx_load (hgd : o.guard = none) (x : Operand) (ho : o.op = .load 31 x) (g : Nat) (hx : a.eval x = .pointer (some ⟨g, 0, none⟩)) (m : Tx) (hf : w.heap[g]? = some (txO m))
    (h : wpList Try.prog ops Q rest (a.put o.dst (txV m)) w) : wpList Try.prog ops Q (o :: rest) a w :=
  wpList_load_mid hgd _ x ho g 0 hx (txC m) _ (tx_range hf) Try.underlying31 rfl (tx_size rfl) h
theorem wtx_store (hgd : o.guard = none) (x y : Operand) (ho : o.op = .store 31 x y) (g : Nat) (m0 m : Tx) (hx : a.eval x = .pointer (some ⟨g, 0, none⟩)) (hy : a.eval y = txV m) (hg : w.heap[g]? = some (txO m0))
    (h : wpList Try.prog ops Q rest (a.put o.dst undef) (w.setRow g (txC m).toArray)) : wpList Try.prog ops Q (o :: rest) a w :=
  wpList_store_row hgd _ x y ho g (txC m).toArray hx hy 31 (txC m0).toArray hg (tx_size rfl) rfl (tx_all m) h
theorem stx_alloc (hgd : o.guard = none) (ho : o.op = .alloc 31)
    (h : K (a.put o.dst (.pointer (some ⟨w.heap.size, 0, none⟩))) (w.alloc (txO txZ))) : if Region.wanted o (yielded ops a.tmps) = true then Oper.wp Try.prog o a w K Q else E := by
  have hw : Region.wanted o (yielded ops a.tmps) = true := by simp [Region.wanted, hgd]
  rw [if_pos hw]
  have hr : (execOp a.eval o).run Try.prog w = .ok (.value (.pointer (some ⟨w.heap.size, 0, none⟩))) (w.alloc (txO txZ)) := by
    unfold execOp
    simp only [ho, Instr.alloc, Sem.run_bind, txZ_run, Result.andThen_ok, newVar, newRow, Sem.run_pure, Value.cells]
    rfl
  unfold Oper.wp
  rw [hr, Oper.upon_value]
  exact h
theorem stx_store (hgd : o.guard = none) (x y : Operand) (ho : o.op = .store 31 x y) (g : Nat) (m0 m : Tx) (hx : a.eval x = .pointer (some ⟨g, 0, none⟩)) (hy : a.eval y = txV m) (hg : w.heap[g]? = some (txO m0))
    (h : K (a.put o.dst undef) (w.setRow g (txC m).toArray)) : if Region.wanted o (yielded ops a.tmps) = true then Oper.wp Try.prog o a w K Q else E := by
  have hw : Region.wanted o (yielded ops a.tmps) = true := by simp [Region.wanted, hgd]
  rw [if_pos hw]
  exact wp_store_row _ x y ho g (txC m).toArray hx hy 31 (txC m0).toArray hg (tx_size rfl) rfl (tx_all m) h
theorem yields_tx (hw : o.guard = none) (x : Operand) (ho : o.op = .load 31 x) (g : Nat) (hx : a.eval x = .pointer (some ⟨g, 0, none⟩)) (m : Tx) (hS : ∀ w, S w → w.heap[g]? = some (txO m)) : YieldsIf Try.prog ops S o (txV m) a :=
  yieldsIf_load_mid (by simp [Region.wanted, hw]) _ x ho g 0 hx (txC m) _ (fun w h => tx_range (hS w h)) Try.underlying31 rfl (tx_size rfl)
end
theorem tx_built0 : Try.prog.built 31 [] = some (txC txZ).toArray := by kernel_rfl
theorem wtx_build0 {ops : Array Oper} {rest : List Oper} {o : Oper} {a : Act} {w : World} {Q : Exit → Act → World → Prop} (hgd : o.guard = none) (ho : o.op = .build 31 #[])
    (h : wpList Try.prog ops Q rest (a.put o.dst (txV txZ)) w) : wpList Try.prog ops Q (o :: rest) a w := by
  have e : ((#[] : Array (Nat × Operand)).map fun (i, x) => (i, a.eval x)).toList = [] := by simp
  refine wpList_build hgd _ _ ho (by rw [e, tx_built0]; rfl) ?_
  rw [e, tx_built0]
  exact h
theorem tx_sets {w : World} {g : Nat} {m : Tx} (h : w.heap[g]? = some (txO m)) (r : Nat) : (w.setCell ⟨g, 0, none⟩ (.int .u64 (r : Int))).heap[g]? = some (txO ⟨r, m.b, m.e⟩) := by
  simp [World.setCell, Array.getElem?_modify, h, txO, txC]
theorem tx_setb {w : World} {g : Nat} {m : Tx} (h : w.heap[g]? = some (txO m)) (r : Bool) : (w.setCell ⟨g, 1, none⟩ (.bool r)).heap[g]? = some (txO ⟨m.s, r, m.e⟩) := by
  simp [World.setCell, Array.getElem?_modify, h, txO, txC]
theorem tx_sete {w : World} {g : Nat} {m : Tx} (h : w.heap[g]? = some (txO m)) (r : Int) : (w.setCell ⟨g, 2, none⟩ (.int .i64 r)).heap[g]? = some (txO ⟨m.s, m.b, r⟩) := by
  simp [World.setCell, Array.getElem?_modify, h, txO, txC]
theorem tx_soft {w : World} {g : Nat} {m : Tx} (h : w.heap[g]? = some (txO m)) (i : Nat) : w.frozen? ⟨g, i, none⟩ = false := by
  simp [World.frozen?, h, txO]
/-- While Do goes: the boxes of the barrier and of the call, what is answered, and what is told. -/
structure Dz (w : World) (s : Bx) (k n : Int) (q : Bx) (r t : Tx) (W : World) : Prop where
  below : Below w.heap.size w W
  b0 : W.heap[w.heap.size]? = some (bxO s)
  b1 : W.heap[w.heap.size + 1]? = some (.cells #[.int .i64 k, .int .i64 n] 35 (0, 0))
  b2 : W.heap[w.heap.size + 2]? = some (bxO q)
  b3 : W.heap[w.heap.size + 3]? = some (txO r)
  b4 : W.heap[w.heap.size + 4]? = some (txO t)
theorem dz_new (w : World) (s : Bx) (k n : Int) : Dz w s k n bxZ txZ txZ (((((w.alloc (bxO s)).alloc (.cells #[.int .i64 k, .int .i64 n] 35)).alloc (bxO bxZ)).alloc (txO txZ)).alloc (txO txZ)) := by
  have z1 : (w.alloc (bxO s)).heap.size = w.heap.size + 1 := World.size_alloc _ _
  have z2 : ((w.alloc (bxO s)).alloc (.cells #[.int .i64 k, .int .i64 n] 35)).heap.size = w.heap.size + 2 := by rw [World.size_alloc, z1]
  have z3 : (((w.alloc (bxO s)).alloc (.cells #[.int .i64 k, .int .i64 n] 35)).alloc (bxO bxZ)).heap.size = w.heap.size + 3 := by rw [World.size_alloc, z2]
  have z4 : ((((w.alloc (bxO s)).alloc (.cells #[.int .i64 k, .int .i64 n] 35)).alloc (bxO bxZ)).alloc (txO txZ)).heap.size = w.heap.size + 4 := by rw [World.size_alloc, z3]
  refine ⟨(((((Below.refl _ w).alloc (Nat.le_refl _) _).alloc (by omega) _).alloc (by omega) _).alloc (by omega) _).alloc (by omega) _, ?_, ?_, ?_, ?_, ?_⟩
  · exact (Below.heap_alloc _ _ _ (by omega)).trans ((Below.heap_alloc _ _ _ (by omega)).trans ((Below.heap_alloc _ _ _ (by omega)).trans ((Below.heap_alloc _ _ _ (by omega)).trans (heap_alloc_new w _))))
  · refine (Below.heap_alloc _ _ _ (by omega)).trans ((Below.heap_alloc _ _ _ (by omega)).trans ((Below.heap_alloc _ _ _ (by omega)).trans ?_))
    rw [← z1]
    exact heap_alloc_new _ _
  · refine (Below.heap_alloc _ _ _ (by omega)).trans ((Below.heap_alloc _ _ _ (by omega)).trans ?_)
    rw [← z2]
    exact heap_alloc_new _ _
  · refine (Below.heap_alloc _ _ _ (by omega)).trans ?_
    rw [← z3]
    exact heap_alloc_new _ _
  · rw [← z4]
    exact heap_alloc_new _ _
section
variable {w W : World} {s q : Bx} {k n : Int} {r t : Tx}
theorem Dz.next {W' : World} (h : Dz w s k n q r t W) (hb : Below W.heap.size W W') : Dz w s k n q r t W' :=
  ⟨h.below.trans (hb.mono h.below.size), (hb.block _ (lt_of_block h.b0)).trans h.b0, (hb.block _ (lt_of_block h.b1)).trans h.b1, (hb.block _ (lt_of_block h.b2)).trans h.b2, (hb.block _ (lt_of_block h.b3)).trans h.b3, (hb.block _ (lt_of_block h.b4)).trans h.b4⟩
theorem Dz.drew (h : Dz w s k n q r t W) : Dz w s k n q r t W.drew := ⟨h.below.drew, h.b0, h.b1, h.b2, h.b3, h.b4⟩
theorem Dz.box (h : Dz w s k n q r t W) (x : Bx) : Dz w x k n q r t (W.setRow w.heap.size (bxC x).toArray) :=
  ⟨row_below h.below (Nat.le_refl _) _, bx_turned h.b0 x, (row_far _ (by omega)).trans h.b1, (row_far _ (by omega)).trans h.b2, (row_far _ (by omega)).trans h.b3, (row_far _ (by omega)).trans h.b4⟩
theorem Dz.ans (h : Dz w s k n q r t W) (x : Bx) : Dz w s k n x r t (W.setRow (w.heap.size + 2) (bxC x).toArray) :=
  ⟨row_below h.below (by omega) _, (row_far _ (by omega)).trans h.b0, (row_far _ (by omega)).trans h.b1, bx_turned h.b2 x, (row_far _ (by omega)).trans h.b3, (row_far _ (by omega)).trans h.b4⟩
theorem Dz.tld (h : Dz w s k n q r t W) (x : Tx) : Dz w s k n q x t (W.setRow (w.heap.size + 3) (txC x).toArray) :=
  ⟨row_below h.below (by omega) _, (row_far _ (by omega)).trans h.b0, (row_far _ (by omega)).trans h.b1, (row_far _ (by omega)).trans h.b2, tx_turned h.b3 x, (row_far _ (by omega)).trans h.b4⟩
theorem Dz.t0 (h : Dz w s k n q r t W) : Dz w s k n q r txZ (W.setRow (w.heap.size + 4) (txC txZ).toArray) :=
  ⟨row_below h.below (by omega) _, (row_far _ (by omega)).trans h.b0, (row_far _ (by omega)).trans h.b1, (row_far _ (by omega)).trans h.b2, (row_far _ (by omega)).trans h.b3, tx_turned h.b4 _⟩
theorem Dz.sets (h : Dz w s k n q r t W) (x : Nat) : Dz w s k n q r ⟨x, t.b, t.e⟩ (W.setCell ⟨w.heap.size + 4, 0, none⟩ (.int .u64 (x : Int))) :=
  ⟨set_below h.below (by omega) _, (set_far _ (by omega)).trans h.b0, (set_far _ (by omega)).trans h.b1, (set_far _ (by omega)).trans h.b2, (set_far _ (by omega)).trans h.b3, tx_sets h.b4 x⟩
theorem Dz.setb (h : Dz w s k n q r t W) (x : Bool) : Dz w s k n q r ⟨t.s, x, t.e⟩ (W.setCell ⟨w.heap.size + 4, 1, none⟩ (.bool x)) :=
  ⟨set_below h.below (by omega) _, (set_far _ (by omega)).trans h.b0, (set_far _ (by omega)).trans h.b1, (set_far _ (by omega)).trans h.b2, (set_far _ (by omega)).trans h.b3, tx_setb h.b4 x⟩
theorem Dz.sete (h : Dz w s k n q r t W) (x : Int) : Dz w s k n q r ⟨t.s, t.b, x⟩ (W.setCell ⟨w.heap.size + 4, 2, none⟩ (.int .i64 x)) :=
  ⟨set_below h.below (by omega) _, (set_far _ (by omega)).trans h.b0, (set_far _ (by omega)).trans h.b1, (set_far _ (by omega)).trans h.b2, (set_far _ (by omega)).trans h.b3, tx_sete h.b4 x⟩
end
/-- What Do answers. -/
def BxPost (q : Bx × Tx) (w : World) (e : Ending) (w' : World) : Prop := e = .returned (.tuple #[bxV q.1, txV q.2]) ∧ Below w.heap.size w w'
theorem ret_do19 {W w : World} {act : Act} {q : Bx × Tx} {s m : Bx} {r t : Tx} {k n : Int} (h4 : act.tmps[4]?.getD undef = .pointer (some ⟨w.heap.size + 2, 0, none⟩)) (h5 : act.tmps[5]?.getD undef = .pointer (some ⟨w.heap.size + 3, 0, none⟩)) (hd : act.defers = []) (hE : Dz w s k n m r t W) (hq : q = (m, r)) :
    bodyPost Try.prog Try.f7 (BxPost q w) .ret act W := by
  subst hq
  have hL := run_loadVar_mid (P := Try.prog) W (w.heap.size + 2) 0 29 (bxC m) _ (bx_range hE.b2) Try.underlying29 rfl (bx_size rfl)
  have hT := run_loadVar_mid (P := Try.prog) W (w.heap.size + 3) 0 31 (txC r) _ (tx_range hE.b3) Try.underlying31 rfl (tx_size rfl)
  refine bodyPost_ret (v := .tuple #[bxV m, txV r]) ?_ hd ⟨rfl, hE.below⟩
  simp [results, Try.results7, asAddr, h4, h5, hL, hT, Sem.run_bind, Sem.run_pure, Result.andThen, bxV, txV]
set_option maxRecDepth 100000 in
set_option maxHeartbeats 8000000 in
theorem refDo19_any (s : Bx) (k n : Int) (w : World) (hm : Is64 s.m) (ha : Is64 s.a) : Calls Try.prog 7 #[bxV s, .agg #[.int .i64 k, .int .i64 n]] w (BxPost (doB s k n) w) := by
  have HZ := Lib.hid (dz_new w s k n)
  have HEn := fun W => Lib.hid (refEnrol_any s n W hm ha)
  have HLe := fun W => Lib.hid (refLeave_any s n W hm ha)
  have HAr := fun W => Lib.hid (refArrive_any s n W hm ha)
  have HWi := fun W => Lib.hid (refWithdraw_any s n W ha)
  have HBr := fun W => Lib.hid (refBreak_any s n W hm ha)
  obtain ⟨q, hq⟩ : ∃ q, q = doB s k n := ⟨_, rfl⟩
  rw [← hq]
  have HQ := Lib.hid hq
  unfold doB at hq
  generalize enrolB s n = qe at *
  generalize leaveB s n = ql at *
  generalize arriveB s n = qa at *
  generalize drawB s n = qd at *
  generalize breakB s n = qb at *
  obtain ⟨qe1, qe2⟩ := qe
  obtain ⟨ql1, ql2, ql3⟩ := ql
  obtain ⟨qa1, qa2, qa3, qa4⟩ := qa
  obtain ⟨qd1, qd2⟩ := qd
  obtain ⟨qb1, qb2, qb3⟩ := qb
  dsimp only at hq HEn HLe HAr HWi HBr
  clear hm ha HQ
  have HQ := Lib.hid hq
  clear hq
  go_enter Try.func7, Try.ntmps7
  have hsz : ((((w.alloc (bxO s)).alloc (.cells #[.int .i64 k, .int .i64 n] 35)).alloc (bxO bxZ)).alloc (txO txZ)).heap.size = w.heap.size + 4 := by simp only [World.size_alloc, Nat.add_assoc, Nat.reduceAdd]
  go_upto_region 1 with (first | refine wbx_box rfl _ rfl s rfl ?_ | refine wbx_alloc rfl rfl ?_ | refine wtx_alloc rfl rfl ?_)
  try simp only [Act.put, List.setIfInBounds_toArray, List.set_cons_zero, List.set_cons_succ, World.size_alloc, Nat.add_assoc, Nat.reduceAdd]
  generalize (((w.alloc (bxO s)).alloc (.cells #[.int .i64 k, .int .i64 n] 35)).alloc (bxO bxZ)).alloc (txO txZ) = W0 at *
  go_upto_region 2 with (first | refine wtx_build0 rfl rfl ?_ | refine wtx_alloc rfl rfl ?_ | refine wtx_store rfl _ _ rfl W0.heap.size txZ txZ rfl rfl (heap_alloc_new W0 (txO txZ)) ?_)
  try simp only [Act.put, List.setIfInBounds_toArray, List.set_cons_zero, List.set_cons_succ, hsz]
  have HZ1 := Lib.hid HZ.out.t0
  generalize (W0.alloc (txO txZ)).setRow (w.heap.size + 4) (txC txZ).toArray = W1 at *
  clear HZ hsz
  obtain ⟨y0, y1⟩ := cells2 HZ1.out.b1
  go_cut [9] (fun x wx => x = .int .i64 k ∧ Hid (Dz w s k n bxZ txZ txZ wx))
  case first =>
    clear HQ HEn HLe HAr HWi HBr
    go_wp2_with fail
    go_meet
    exact ⟨rfl, HZ1⟩
  case rest =>
    obtain ⟨rfl, HZ2⟩ := hcut
    clear HZ1 y0 y1
    obtain ⟨y0, y1⟩ := cells2 HZ2.out.b1
    (rename (∀ (a : Act) (w : World), Code.wp _ _ _ a w → _) => hK; refine hK _ _ ?_; clear hK)
    go_cut [6] (fun x wx => x = .pointer (some ⟨w.heap.size + 4, 0, none⟩) ∧ Hid (Dz w q.1 k n bxZ txZ q.2 wx))
    case first =>
      by_cases k0 : k = 0
      · subst k0
        have hq := HQ.out
        rw [if_pos rfl] at hq
        subst hq
        skip
        clear HLe HAr HWi HBr
        clear HQ
        go_wp2_with (first | refine wbx_load rfl _ rfl w.heap.size rfl s HZ2.out.b0 ?_)
        refine (HEn _).out.mono ?_
        rintro _ w3 ⟨rfl, hb⟩
        have HZ3 := Lib.hid ((HZ2.out.next hb).box qe1)
        have hb0 := (HZ2.out.next hb).b0
        clear hb HZ2 y0 y1 HEn
        obtain ⟨t0, t1, t2⟩ := tx_cells HZ3.out.b4
        have f0 := tx_soft HZ3.out.b4 0
        have f1 := tx_soft HZ3.out.b4 1
        have f2 := tx_soft HZ3.out.b4 2
        have HZ4 := Lib.hid (HZ3.out.sete qe2)
        go_wp2_with (first | refine wbx_store rfl _ _ rfl w.heap.size s qe1 rfl rfl hb0 ?_)
        go_meet
        exact ⟨rfl, HZ4⟩
      by_cases k1 : k = 1
      · subst k1
        have hq := HQ.out
        rw [if_neg (by decide), if_pos rfl] at hq
        subst hq
        try clear k0
        clear HEn HAr HWi HBr
        clear HQ
        go_wp2_with (first | refine wbx_load rfl _ rfl w.heap.size rfl s HZ2.out.b0 ?_)
        refine (HLe _).out.mono ?_
        rintro _ w3 ⟨rfl, hb⟩
        have HZ3 := Lib.hid ((HZ2.out.next hb).box ql1)
        have hb0 := (HZ2.out.next hb).b0
        clear hb HZ2 y0 y1 HLe
        obtain ⟨t0, t1, t2⟩ := tx_cells HZ3.out.b4
        have f0 := tx_soft HZ3.out.b4 0
        have f1 := tx_soft HZ3.out.b4 1
        have f2 := tx_soft HZ3.out.b4 2
        have HZ4 := Lib.hid (HZ3.out.sets ql2)
        obtain ⟨t00, t10, t20⟩ := tx_cells HZ4.out.b4
        have f00 := tx_soft HZ4.out.b4 0
        have f10 := tx_soft HZ4.out.b4 1
        have f20 := tx_soft HZ4.out.b4 2
        have HZ5 := Lib.hid (HZ4.out.sete ql3)
        go_wp2_with (first | refine wbx_store rfl _ _ rfl w.heap.size s ql1 rfl rfl hb0 ?_)
        go_meet
        exact ⟨rfl, HZ5⟩
      by_cases k2 : k = 2
      · subst k2
        have hq := HQ.out
        rw [if_neg (by decide), if_neg (by decide), if_pos rfl] at hq
        subst hq
        try clear k0 k1
        clear HEn HLe HWi HBr
        clear HQ
        go_wp2_with (first | refine wbx_load rfl _ rfl w.heap.size rfl s HZ2.out.b0 ?_)
        refine (HAr _).out.mono ?_
        rintro _ w3 ⟨rfl, hb⟩
        have HZ3 := Lib.hid ((HZ2.out.next hb).box qa1)
        have hb0 := (HZ2.out.next hb).b0
        clear hb HZ2 y0 y1 HAr
        obtain ⟨t0, t1, t2⟩ := tx_cells HZ3.out.b4
        have f0 := tx_soft HZ3.out.b4 0
        have f1 := tx_soft HZ3.out.b4 1
        have f2 := tx_soft HZ3.out.b4 2
        have HZ4 := Lib.hid (HZ3.out.sets qa2)
        obtain ⟨t00, t10, t20⟩ := tx_cells HZ4.out.b4
        have f00 := tx_soft HZ4.out.b4 0
        have f10 := tx_soft HZ4.out.b4 1
        have f20 := tx_soft HZ4.out.b4 2
        have HZ5 := Lib.hid (HZ4.out.setb qa3)
        obtain ⟨t01, t11, t21⟩ := tx_cells HZ5.out.b4
        have f01 := tx_soft HZ5.out.b4 0
        have f11 := tx_soft HZ5.out.b4 1
        have f21 := tx_soft HZ5.out.b4 2
        have HZ6 := Lib.hid (HZ5.out.sete qa4)
        go_wp2_with (first | refine wbx_store rfl _ _ rfl w.heap.size s qa1 rfl rfl hb0 ?_)
        go_meet
        exact ⟨rfl, HZ6⟩
      by_cases k3 : k = 3
      · subst k3
        have hq := HQ.out
        rw [if_neg (by decide), if_neg (by decide), if_neg (by decide), if_pos rfl] at hq
        subst hq
        try clear k0 k1 k2
        clear HEn HLe HAr HBr
        clear HQ
        go_wp2_with (first | refine wbx_load rfl _ rfl w.heap.size rfl s HZ2.out.b0 ?_)
        refine (HWi _).out.mono ?_
        rintro _ w3 ⟨rfl, hb⟩
        have HZ3 := Lib.hid ((HZ2.out.next hb).box qd1)
        have hb0 := (HZ2.out.next hb).b0
        clear hb HZ2 y0 y1 HWi
        obtain ⟨t0, t1, t2⟩ := tx_cells HZ3.out.b4
        have f0 := tx_soft HZ3.out.b4 0
        have f1 := tx_soft HZ3.out.b4 1
        have f2 := tx_soft HZ3.out.b4 2
        have HZ4 := Lib.hid (HZ3.out.setb qd2)
        go_wp2_with (first | refine wbx_store rfl _ _ rfl w.heap.size s qd1 rfl rfl hb0 ?_)
        go_meet
        exact ⟨rfl, HZ4⟩
      have hq := HQ.out
      rw [if_neg k0, if_neg k1, if_neg k2, if_neg k3] at hq
      subst hq
      have e0 : (k == 0) = false := by rw [beq_eq_false_iff_ne]; exact k0
      have e1 : (k == 1) = false := by rw [beq_eq_false_iff_ne]; exact k1
      have e2 : (k == 2) = false := by rw [beq_eq_false_iff_ne]; exact k2
      have e3 : (k == 3) = false := by rw [beq_eq_false_iff_ne]; exact k3
      clear k0 k1 k2 k3
      clear HEn HLe HAr HWi
      clear HQ
      go_wp2_with (first | refine wbx_load rfl _ rfl w.heap.size rfl s HZ2.out.b0 ?_)
      refine (HBr _).out.mono ?_
      rintro _ w3 ⟨rfl, hb⟩
      have HZ3 := Lib.hid ((HZ2.out.next hb).box qb1)
      have hb0 := (HZ2.out.next hb).b0
      clear hb HZ2 y0 y1 HBr
      obtain ⟨t0, t1, t2⟩ := tx_cells HZ3.out.b4
      have f0 := tx_soft HZ3.out.b4 0
      have f1 := tx_soft HZ3.out.b4 1
      have f2 := tx_soft HZ3.out.b4 2
      have HZ4 := Lib.hid (HZ3.out.sets qb2)
      obtain ⟨t00, t10, t20⟩ := tx_cells HZ4.out.b4
      have f00 := tx_soft HZ4.out.b4 0
      have f10 := tx_soft HZ4.out.b4 1
      have f20 := tx_soft HZ4.out.b4 2
      have HZ5 := Lib.hid (HZ4.out.setb qb3)
      go_wp2_with (first | refine wbx_store rfl _ _ rfl w.heap.size s qb1 rfl rfl hb0 ?_)
      go_meet
      exact ⟨rfl, HZ5⟩
    case rest =>
      obtain ⟨rfl, HZ3⟩ := hcut
      clear HZ2 y0 y1 HQ HEn HLe HAr HWi HBr
      obtain ⟨q1, q2⟩ := q
      dsimp only at HZ3
      go_upto_region 12 with fail
      refine wp_hold_act (fun a0 HA0 => ?_)
      have z0 : a0.tmps.size = 68 := by rw [HA0.out]; rfl
      have dd0 : a0.defers = [] := by rw [HA0.out]
      have f0_2 : a0.eval (.tmp 2) = .pointer (some ⟨w.heap.size, 0, none⟩) := by rw [HA0.out]; rfl
      have f0_4 : a0.eval (.tmp 4) = .pointer (some ⟨w.heap.size + 2, 0, none⟩) := by rw [HA0.out]; rfl
      have f0_5 : a0.eval (.tmp 5) = .pointer (some ⟨w.heap.size + 3, 0, none⟩) := by rw [HA0.out]; rfl
      have f0_6 : a0.eval (.tmp 6) = .pointer (some ⟨w.heap.size + 4, 0, none⟩) := by rw [HA0.out]; rfl
      clear HA0
      refine wp_region_held_drew (S := fun w' => ∃ q r, Dz w q1 k n q r q2 w') (by kernel_rfl) (⟨_, _, HZ3.out.drew⟩) (fun hS => ?_)
      refine wpAnyH_take (i := 0) (v := bxV q1) rfl (by kernel_rfl) (by kernel_rfl) (by kernel_rfl) (fun _ _ _ h => h) (yields_bx rfl (.tmp 2) rfl _ f0_2 q1 (fun _ h => h.choose_spec.choose_spec.b0)) hS ?_
      obtain ⟨a1, hA1⟩ : ∃ a', a' = a0.put (some 66) (bxV q1) := ⟨_, rfl⟩
      change wpAnyH _ _ _ _ _ _ _ (a0.put (some 66) (bxV q1)) _
      rw [← hA1]
      have f1_66 : a1.eval (.tmp 66) = bxV q1 := by rw [hA1]; exact Act.eval_put_same _ _ _ (by omega)
      have f1_4 : a1.eval (.tmp 4) = .pointer (some ⟨w.heap.size + 2, 0, none⟩) := by rw [hA1]; exact (Act.eval_put_ne _ _ _ _ (by decide)).trans f0_4
      have f1_5 : a1.eval (.tmp 5) = .pointer (some ⟨w.heap.size + 3, 0, none⟩) := by rw [hA1]; exact (Act.eval_put_ne _ _ _ _ (by decide)).trans f0_5
      have f1_6 : a1.eval (.tmp 6) = .pointer (some ⟨w.heap.size + 4, 0, none⟩) := by rw [hA1]; exact (Act.eval_put_ne _ _ _ _ (by decide)).trans f0_6
      have z1 : a1.tmps.size = 68 := by rw [hA1, Act.size_put]; exact z0
      have dd1 : a1.defers = [] := by rw [hA1, Act.defers_put']; exact dd0
      clear hA1 z0 dd0 f0_2 f0_4 f0_5 f0_6
      refine wpAnyH_take (i := 1) (v := txV q2) rfl (by kernel_rfl) (by kernel_rfl) (by kernel_rfl) (fun _ _ _ h => h) (yields_tx rfl (.tmp 6) rfl _ f1_6 q2 (fun _ h => h.choose_spec.choose_spec.b4)) hS ?_
      obtain ⟨a2, hA2⟩ : ∃ a', a' = a1.put (some 67) (txV q2) := ⟨_, rfl⟩
      change wpAnyH _ _ _ _ _ _ _ (a1.put (some 67) (txV q2)) _
      rw [← hA2]
      have f2_67 : a2.eval (.tmp 67) = txV q2 := by rw [hA2]; exact Act.eval_put_same _ _ _ (by omega)
      have f2_66 : a2.eval (.tmp 66) = bxV q1 := by rw [hA2]; exact (Act.eval_put_ne _ _ _ _ (by decide)).trans f1_66
      have f2_4 : a2.eval (.tmp 4) = .pointer (some ⟨w.heap.size + 2, 0, none⟩) := by rw [hA2]; exact (Act.eval_put_ne _ _ _ _ (by decide)).trans f1_4
      have f2_5 : a2.eval (.tmp 5) = .pointer (some ⟨w.heap.size + 3, 0, none⟩) := by rw [hA2]; exact (Act.eval_put_ne _ _ _ _ (by decide)).trans f1_5
      have z2 : a2.tmps.size = 68 := by rw [hA2, Act.size_put]; exact z1
      have dd2 : a2.defers = [] := by rw [hA2, Act.defers_put']; exact dd1
      clear hA2 z1 dd1 f1_66 f1_4 f1_5 f1_6
      refine wpAnyH_ready (rs := [2]) (by kernel_rfl) (by simp) (AllReadyH.cons (by simp only [List.getElem?_toArray, List.getElem?_cons_succ, List.getElem?_cons_zero]; rfl) (fun K hK => ?_) AllReadyH.nil)
      · skip
        refine sbx_store (by rfl) (.tmp 4) (.tmp 66) (by rfl) (w.heap.size + 2) bxZ q1 f2_4 f2_66 HZ3.out.drew.b2 ?_
        refine hK.out _ _ ⟨_, _, HZ3.out.drew.ans q1⟩ (fun hS => ?_)
        change wpAnyH _ _ _ _ _ _ _ a2 _
        refine wpAnyH_ready (rs := [3]) (by kernel_rfl) (by simp) (AllReadyH.cons (by simp only [List.getElem?_toArray, List.getElem?_cons_succ, List.getElem?_cons_zero]; rfl) (fun K hK => ?_) AllReadyH.nil)
        refine stx_store (by rfl) (.tmp 5) (.tmp 67) (by rfl) (w.heap.size + 3) txZ q2 f2_5 f2_67 (HZ3.out.drew.ans q1).b3 ?_
        refine hK.out _ _ ⟨_, _, (HZ3.out.drew.ans q1).tld q2⟩ (fun hS => ?_)
        change wpAnyH _ _ _ _ _ _ _ a2 _
        refine wpAnyH_done (by kernel_rfl) ?_ _
        go_wp2_with fail
        exact ret_do19 (by rw [← Array.getD_eq_getD_getElem?]; exact f2_4) (by rw [← Array.getD_eq_getD_getElem?]; exact f2_5) dd2 ((HZ3.out.drew.ans q1).tld q2) rfl
end Go.Proofs.Ytiekbbknmneikaa.bar
