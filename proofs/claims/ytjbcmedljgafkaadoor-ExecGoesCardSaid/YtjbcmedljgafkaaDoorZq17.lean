/-
  Texts of one claim in one file: ZDoKit. Each has its own sentence, with its conditions.
-/
import Derived.Test.YtjbcmedljgafkaaDoorZq13
import Derived.Test.YtjbcmedljgafkaaDoorZq15
import Derived.Test.YtjbcmedljgafkaaDoorZq16
import Derived.Deep.RegionHeld3
import Derived.StillTailTactics
import Derived.Great.Walk
import Derived.BigCall
import Derived.Deep.MidRow
/-
  What the document's own Do keeps in memory: the program's box, the effect that is answered, the instruction, and the effect of nothing. No condition.
-/

namespace Go.Proofs.YtjbcmedljgafkaaDoor.pgm.exe
open Go.RowKit Go.ChangeShapes
open Go.Proofs.YtjbcmedljgafkaaDoor.pgm
open Go.Proofs.YtjbcmedljgafkaaDoor.objs (De zero cells3 put3 put3_same put3_below put3_far)
open Go.Proofs.YtjbcmedljgafkaaDoor.frames (Fr num cnt topF In)
open Go.Proofs.YtjbcmedljgafkaaDoor.oper (pops numb tk)
set_option linter.unusedVariables false
set_option linter.unusedSimpArgs false

/-- An effect's cells, and an instruction's. -/
def efC (e : Ef) : List Value := [.int .i64 e.op, .int .i64 e.a, .int .i64 e.b, .int .i64 (e.x.getD 0 0), .int .i64 (e.x.getD 1 0), .int .i64 (e.x.getD 2 0), .int .i64 (e.x.getD 3 0), .int .i64 (e.x.getD 4 0)]
def efB (e : Ef) : Obj := .cells (efC e).toArray 36
def efV (e : Ef) : Value := .agg (efC e).toArray
theorem efC_one (e : Ef) : ∀ u ∈ efC e, u.oneCell' = true := by
  intro u hu
  unfold efC at hu
  simp only [List.mem_cons, List.not_mem_nil, or_false] at hu
  rcases hu with rfl | rfl | rfl | rfl | rfl | rfl | rfl | rfl <;> rfl
theorem efC_all (e : Ef) : (efC e).toArray.all (·.oneCell') = true := by
  rw [Array.all_eq_true_iff_forall_mem]
  intro u hu
  exact efC_one e u (by simpa using hu)
theorem sizeE {n : Nat} (h : n = 8) : (Tryd.prog.info? 36).map (·.size) = some n := by
  subst h
  kernel_rfl
theorem row_turned {w : World} {g : Nat} {c : Array Value} {T : TypeId} {fr : Nat × Nat} (h : w.heap[g]? = some (.cells c T fr)) (cs : Array Value) : (w.setRow g cs).heap[g]? = some (.cells cs T fr) := by
  simp [World.setRow, Array.getElem?_modify, h]
theorem ef_cell {w : World} {g : Nat} {e : Ef} (h : w.heap[g]? = some (efB e)) {j : Nat} {v : Value} (hv : (efC e)[j]? = some v) : w.cell? ⟨g, j, none⟩ = some v := by
  unfold World.cell?
  rw [h]
  unfold efB
  simp only [List.getElem?_toArray]
  exact hv
theorem ef_range {w : World} {g : Nat} {e : Ef} (h : w.heap[g]? = some (efB e)) : w.rangeAt g 0 (efC e) := fun j v hv => by
  rw [Nat.zero_add]
  exact ef_cell h hv
def zE : Ef := ⟨0, 0, 0, []⟩
theorem zE_run (w : World) : (zeroValue 36).run Tryd.prog w = .ok (.agg (efC zE).toArray) w :=
  (zero_of_info (P := Tryd.prog) (t := 36) (v := .agg (efC zE).toArray) (n := 8) (by kernel_rfl)).1 w
theorem builtE : Tryd.prog.built 36 [(0, .int .i64 (-1))] = some (efC noE).toArray := by kernel_rfl
theorem builtE3 (o a b : Int) : Tryd.prog.built 36 [(0, .int .i64 o), (1, .int .i64 a), (2, .int .i64 b)] = some (efC ⟨o, a, b, []⟩).toArray := by kernel_rfl
section
variable {ops : Array Oper} {rest : List Oper} {o : Oper} {a : Act} {w : World} {Q : Exit → Act → World → Prop} {K : Act → World → Prop}
theorem we_alloc (hgd : o.guard = none) (ho : o.op = .alloc 36)
    (h : wpList Tryd.prog ops Q rest (a.put o.dst (.pointer (some ⟨w.heap.size, 0, none⟩))) (w.alloc (efB zE))) : wpList Tryd.prog ops Q (o :: rest) a w := by
  refine Go.Great.wpList_runTo hgd o.dst rfl _ _ ?_ h
  unfold execOp
  simp only [ho, Instr.alloc, Sem.run_bind, zE_run, Result.andThen_ok, newVar, newRow, Sem.run_pure, Value.cells]
  rfl
theorem we_load (hgd : o.guard = none) (x : Operand) (ho : o.op = .load 36 x) (g : Nat) (hx : a.eval x = .pointer (some ⟨g, 0, none⟩)) (e : Ef) (hf : w.heap[g]? = some (efB e))
    (h : wpList Tryd.prog ops Q rest (a.put o.dst (efV e)) w) : wpList Tryd.prog ops Q (o :: rest) a w :=
  wpList_load_mid hgd _ x ho g 0 hx (efC e) _ (ef_range hf) Tryd.underlying36 rfl (sizeE rfl) h
theorem we_store (hgd : o.guard = none) (x y : Operand) (ho : o.op = .store 36 x y) (g : Nat) (e0 e : Ef) (hx : a.eval x = .pointer (some ⟨g, 0, none⟩)) (hy : a.eval y = efV e) (hg : w.heap[g]? = some (efB e0))
    (h : wpList Tryd.prog ops Q rest (a.put o.dst undef) (w.setRow g (efC e).toArray)) : wpList Tryd.prog ops Q (o :: rest) a w :=
  wpList_store_row hgd _ x y ho g (efC e).toArray hx hy 36 (efC e0).toArray hg (sizeE rfl) rfl (efC_all e) h
theorem we_build (hgd : o.guard = none) (ho : o.op = .build 36 #[(0, .const (.int .i64 (-1)))])
    (h : wpList Tryd.prog ops Q rest (a.put o.dst (efV noE)) w) : wpList Tryd.prog ops Q (o :: rest) a w := by
  have e : ((#[(0, Operand.const (.int .i64 (-1)))] : Array (Nat × Operand)).map fun (i, x) => (i, a.eval x)).toList = [((0 : Nat), Value.int .i64 (-1))] := by simp [Act.eval]
  refine wpList_build hgd _ _ ho (by rw [e, builtE]; rfl) ?_
  rw [e, builtE]
  exact h
theorem we_build3 (hgd : o.guard = none) (x y z : Operand) (ho : o.op = .build 36 #[(0, x), (1, y), (2, z)]) (n m k : Int) (hx : a.eval x = .int .i64 n) (hy : a.eval y = .int .i64 m) (hz : a.eval z = .int .i64 k)
    (h : wpList Tryd.prog ops Q rest (a.put o.dst (efV ⟨n, m, k, []⟩)) w) : wpList Tryd.prog ops Q (o :: rest) a w := by
  have e : (#[(0, x), (1, y), (2, z)].map fun (i, x) => (i, a.eval x)).toList = [((0 : Nat), Value.int .i64 n), (1, .int .i64 m), (2, .int .i64 k)] := by simp [hx, hy, hz]
  refine wpList_build hgd _ _ ho (by rw [e, builtE3]; rfl) ?_
  rw [e, builtE3]
  exact h
end
def insC (x : De) : List Value := [.int .i64 x.1, .int .i64 x.2.1, .int .i64 x.2.2]
def insO (x : De) : Obj := .cells (insC x).toArray 55
theorem insV_eq (x : De) : insV x = .agg (insC x).toArray := rfl
theorem sizeI {n : Nat} (h : n = 3) : (Tryd.prog.info? 55).map (·.size) = some n := by
  subst h
  kernel_rfl
theorem insC_all (x : De) : (insC x).toArray.all (·.oneCell') = true := by
  rw [Array.all_eq_true_iff_forall_mem]
  intro u hu
  unfold insC at hu
  simp only [List.mem_toArray, List.mem_cons, List.not_mem_nil, or_false] at hu
  rcases hu with rfl | rfl | rfl <;> rfl
theorem zI_run (w : World) : (zeroValue 55).run Tryd.prog w = .ok (.agg (insC zero).toArray) w :=
  (zero_of_info (P := Tryd.prog) (t := 55) (v := .agg (insC zero).toArray) (n := 3) (by kernel_rfl)).1 w
theorem ins_cells {w : World} {g : Nat} {x : De} (h : w.heap[g]? = some (insO x)) : w.cell? ⟨g, 0, none⟩ = some (.int .i64 x.1) ∧ w.cell? ⟨g, 1, none⟩ = some (.int .i64 x.2.1) ∧ w.cell? ⟨g, 2, none⟩ = some (.int .i64 x.2.2) := by
  simp [World.cell?, h, insO, insC]
theorem ins_range {w : World} {g : Nat} {x : De} (h : w.heap[g]? = some (insO x)) : w.rangeAt g 0 (insC x) := fun j v hv => by
  rw [Nat.zero_add]
  unfold World.cell?
  rw [h]
  unfold insO
  simp only [List.getElem?_toArray]
  exact hv
section
variable {ops : Array Oper} {rest : List Oper} {o : Oper} {a : Act} {w : World} {Q : Exit → Act → World → Prop} {K : Act → World → Prop}
theorem wi_alloc (hgd : o.guard = none) (ho : o.op = .alloc 55)
    (h : wpList Tryd.prog ops Q rest (a.put o.dst (.pointer (some ⟨w.heap.size, 0, none⟩))) (w.alloc (insO zero))) : wpList Tryd.prog ops Q (o :: rest) a w := by
  refine Go.Great.wpList_runTo hgd o.dst rfl _ _ ?_ h
  unfold execOp
  simp only [ho, Instr.alloc, Sem.run_bind, zI_run, Result.andThen_ok, newVar, newRow, Sem.run_pure, Value.cells]
  rfl
theorem wi_load (hgd : o.guard = none) (y : Operand) (ho : o.op = .load 55 y) (g : Nat) (hx : a.eval y = .pointer (some ⟨g, 0, none⟩)) (x : De) (hf : w.heap[g]? = some (insO x))
    (h : wpList Tryd.prog ops Q rest (a.put o.dst (insV x)) w) : wpList Tryd.prog ops Q (o :: rest) a w :=
  wpList_load_mid hgd _ y ho g 0 hx (insC x) _ (ins_range hf) Tryd.underlying55 rfl (sizeI rfl) h
theorem wi_store (hgd : o.guard = none) (y z : Operand) (ho : o.op = .store 55 y z) (g : Nat) (x0 x : De) (hx : a.eval y = .pointer (some ⟨g, 0, none⟩)) (hy : a.eval z = insV x) (hg : w.heap[g]? = some (insO x0))
    (h : wpList Tryd.prog ops Q rest (a.put o.dst undef) (w.setRow g (insC x).toArray)) : wpList Tryd.prog ops Q (o :: rest) a w :=
  wpList_store_row hgd _ y z ho g (insC x).toArray hx hy 55 (insC x0).toArray hg (sizeI rfl) rfl (insC_all x) h
end
theorem wp_hold_world {P : Program} {Q : Exit → Act → World → Prop} {c : Code} {a : Act} {w : World} (h : ∀ w', Hid (w' = w) → c.wp P Q a w') : c.wp P Q a w := h w (Lib.hid rfl)

/-- While Do goes: its four blocks. -/
structure Zd (w : World) (pb : Obj) (g : Nat) (x : De) (W : World) : Prop where
  below : Below w.heap.size w W
  b0 : W.heap[w.heap.size]? = some pb
  b1 : W.heap[w.heap.size + 1]? = some (efB zE)
  b2 : W.heap[g]? = some (insO x)
  b3 : W.heap[g + 1]? = some (efB noE)
  far : w.heap.size + 1 < g
theorem Zd.next {w W W' : World} {pb : Obj} {g : Nat} {x : De} (h : Zd w pb g x W) (hb : Below W.heap.size W W') : Zd w pb g x W' :=
  ⟨h.below.trans (hb.mono h.below.size), (hb.block _ (lt_of_block h.b0)).trans h.b0, (hb.block _ (lt_of_block h.b1)).trans h.b1, (hb.block _ (lt_of_block h.b2)).trans h.b2, (hb.block _ (lt_of_block h.b3)).trans h.b3, h.far⟩
theorem Zd.drew {w W : World} {pb : Obj} {g : Nat} {x : De} (h : Zd w pb g x W) : Zd w pb g x W.drew := h.next (Below.refl _ _).drew
theorem zd_new {w W1 w1 : World} {pb : Obj} {x : De} (h1 : W1 = (w.alloc pb).alloc (efB zE)) (hb : Below W1.heap.size W1 w1) :
    Zd w pb w1.heap.size x ((((w1.alloc (insO zero)).alloc (efB zE)).setRow w1.heap.size (insC x).toArray).setRow (w1.heap.size + 1) (efC noE).toArray) := by
  have hs : W1.heap.size = w.heap.size + 1 + 1 := by rw [h1, World.size_alloc, World.size_alloc]
  have hz := hb.size
  have e0 : (w.alloc pb).heap.size = w.heap.size + 1 := World.size_alloc _ _
  have k0 : W1.heap[w.heap.size]? = some pb := by
    rw [h1]
    exact (Below.heap_alloc _ _ _ (by omega)).trans (heap_alloc_new w pb)
  have k1 : W1.heap[w.heap.size + 1]? = some (efB zE) := by
    rw [h1, ← e0]
    exact heap_alloc_new _ _
  have hbw : Below w.heap.size w w1 := by
    have : Below w.heap.size w W1 := by rw [h1]; exact ((Below.refl _ w).alloc (Nat.le_refl _) _).alloc (by omega) _
    exact this.trans (hb.mono (by omega))
  have m0 : ((w1.alloc (insO zero)).alloc (efB zE)).heap[w1.heap.size]? = some (insO zero) := (Below.heap_alloc _ _ _ (by rw [World.size_alloc]; omega)).trans (heap_alloc_new w1 _)
  have m1 : ((w1.alloc (insO zero)).alloc (efB zE)).heap[w1.heap.size + 1]? = some (efB zE) := by
    rw [← World.size_alloc w1 (insO zero)]
    exact heap_alloc_new _ _
  have far : ∀ k, k < W1.heap.size → ((w1.alloc (insO zero)).alloc (efB zE)).heap[k]? = W1.heap[k]? := fun k hk => (Below.heap_alloc _ _ _ (by rw [World.size_alloc]; omega)).trans ((Below.heap_alloc _ _ _ (by omega)).trans (hb.block k hk))
  refine ⟨Go.Proofs.YtjbcmedljgafkaaDoor.frames.row_below (Go.Proofs.YtjbcmedljgafkaaDoor.frames.row_below ((hbw.alloc hbw.size _).alloc (by rw [World.size_alloc]; omega) _) (by omega) _) (by omega) _, ?_, ?_, ?_, ?_, by omega⟩
  · exact (Go.Proofs.YtjbcmedljgafkaaDoor.frames.row_far _ (by omega)).trans ((Go.Proofs.YtjbcmedljgafkaaDoor.frames.row_far _ (by omega)).trans ((far _ (by omega)).trans k0))
  · exact (Go.Proofs.YtjbcmedljgafkaaDoor.frames.row_far _ (by omega)).trans ((Go.Proofs.YtjbcmedljgafkaaDoor.frames.row_far _ (by omega)).trans ((far _ (by omega)).trans k1))
  · exact (Go.Proofs.YtjbcmedljgafkaaDoor.frames.row_far _ (by omega)).trans (row_turned m0 _)
  · exact row_turned ((Go.Proofs.YtjbcmedljgafkaaDoor.frames.row_far _ (by omega)).trans m1) _
/-- What Do answers. -/
def DoPost (q : List Fr × Ef × Int) (w : World) (e : Ending) (w' : World) : Prop :=
  ∃ A c, e = .returned (.tuple #[.slice A q.1.length c, efV q.2.1, .int .i64 q.2.2]) ∧ In w' A c q.1 ∧ Below w.heap.size w w'
theorem do_ret {w W : World} {q : List Fr × Ef × Int} {l : List Fr} {e : Ef} {act : Act} {A : Option Addr} {c n : Nat} {k : Int} (hq : q = (l, e, k)) (hn : n = l.length) (h8 : act.eval (.tmp 8) = .slice A n c) (h9 : act.eval (.tmp 9) = .pointer (some ⟨w.heap.size + 1, 0, none⟩)) (h10 : act.eval (.tmp 10) = .int .i64 k) (hd : act.defers = [])
    (hx : W.heap[w.heap.size + 1]? = some (efB e)) (hI : In W A c l) (hb : Below w.heap.size w W) : bodyPost Tryd.prog Tryd.f11 (DoPost q w) .ret act W := by
  subst hq hn
  have hL := run_loadVar_mid (P := Tryd.prog) W (w.heap.size + 1) 0 36 (efC e) _ (ef_range hx) Tryd.underlying36 rfl (sizeE rfl)
  refine bodyPost_ret (v := .tuple #[.slice A l.length c, efV e, .int .i64 k]) ?_ hd ⟨A, c, rfl, hI, hb⟩
  have e8 : act.tmps[8]?.getD undef = .slice A l.length c := by rw [← Array.getD_eq_getD_getElem?]; exact h8
  have e9 : act.tmps[9]?.getD undef = .pointer (some ⟨w.heap.size + 1, 0, none⟩) := by rw [← Array.getD_eq_getD_getElem?]; exact h9
  have e10 : act.tmps[10]?.getD undef = .int .i64 k := by rw [← Array.getD_eq_getD_getElem?]; exact h10
  simp only [results, Tryd.results11]
  simp [e8, e9, e10, asAddr, hL, Sem.run_bind, Sem.run_pure, Result.andThen, efV]
/-- A block of few cells is none in which frames lie. -/
theorem in_row {W : World} {A : Option Addr} {c k : Nat} {l : List Fr} (h : In W A c l) {cs : Array Value} {T : TypeId} {fr : Nat × Nat} (hk : W.heap[k]? = some (.cells cs T fr)) (hs : cs.size ≤ 26) (rs : Array Value) : In (W.setRow k rs) A c l := by
  refine ⟨fun j hj => ?_, h.cap, h.len, h.all, h.nil⟩
  obtain ⟨b, off, h1, h2, h3⟩ := h.at' j hj
  have hne : b ≠ k := by
    rintro rfl
    have h4 := h3 26 (by omega)
    unfold World.cell? at h4
    rw [hk] at h4
    dsimp only at h4
    rw [Array.getElem?_eq_none (by omega)] at h4
    cases h4
  refine ⟨b, off, h1, by simp only [World.setRow, Array.size_modify]; exact h2, h3.keep (Go.Proofs.YtjbcmedljgafkaaDoor.frames.row_far rs hne)⟩
/-- The effect is stored where the answer lies. -/
theorem step_ef {ops : Array Oper} {o : Oper} {a : Act} {w : World} {Q : Exit → Act → World → Prop} {K : Act → World → Prop} {E : Prop} (hgd : o.guard = none) (x y : Operand) (ho : o.op = .store 36 x y) (g : Nat) (e0 e : Ef) (hx : a.eval x = .pointer (some ⟨g, 0, none⟩)) (hy : a.eval y = efV e) (hg : w.heap[g]? = some (efB e0))
    (h : K (a.put o.dst undef) (w.setRow g (efC e).toArray)) : if Region.wanted o (yielded ops a.tmps) = true then Oper.wp Tryd.prog o a w K Q else E := by
  have hw : Region.wanted o (yielded ops a.tmps) = true := by simp [Region.wanted, hgd]
  rw [if_pos hw]
  exact wp_store_row _ x y ho g (efC e).toArray hx hy 36 (efC e0).toArray hg (sizeE rfl) rfl (efC_all e) h
/-- A call of a function of the program's own, in a region that draws. -/
theorem step_call {ops : Array Oper} {o : Oper} {a : Act} {w : World} {Q : Exit → Act → World → Prop} {K : Act → World → Prop} {E : Prop} (hgd : o.guard = none) (F : Nat) (args : Array Operand) (ats : Array TypeId) (ho : o.op = .call { callee := .value (.func F), args := args, argTypes := ats }) (vals : Array Value) (hv : args.map a.eval = vals)
    {fn : Func} {c : Code} (hf : Tryd.prog.funcs[F]? = some fn) (hname : (fn.name == "runtime.NumGoroutine") = false) (hb : fn.body = some c) {R : Ending → World → Prop} (hc : Calls Tryd.prog F vals w R) (h : ∀ e w', R e w' → ∃ v, e = .returned v ∧ K (a.put o.dst v) w') :
    if Region.wanted o (yielded ops a.tmps) = true then Oper.wp Tryd.prog o a w K Q else E := by
  have hw : Region.wanted o (yielded ops a.tmps) = true := by simp [Region.wanted, hgd]
  rw [if_pos hw]
  have h1 : fn.name ≠ "runtime.NumGoroutine" := by simpa using hname
  have hr : (execOp a.eval o).run Tryd.prog w = .ok (.enter F vals) w := by
    obtain ⟨dst, op, ty, pos, after, guard⟩ := o
    dsimp only at ho
    subst ho
    rw [execOp_call_go, hv]
    simp [callFunc, hf, h1, hb]
  unfold Oper.wp
  rw [hr, Oper.upon_enter]
  refine hc.mono fun e w' hh => ?_
  obtain ⟨v, rfl, hk⟩ := h e w' hh
  exact hk
theorem yields_assign {P : Program} {ops : Array Oper} {S : World → Prop} {o : Oper} {a : Act} {v : Value} (hg : o.guard = none) (x : Operand) (ho : o.op = .assign x) (hx : a.eval x = v) : YieldsIf P ops S o v a :=
  .inl ⟨by simp [Region.wanted, hg], fun w' _ => by
    unfold execOp
    simp only [ho, hx, Sem.run_bind, Sem.run_pure, Result.andThen_ok]⟩
theorem yields_ef {ops : Array Oper} {S : World → Prop} {o : Oper} {a : Act} (hw : o.guard = none) (x : Operand) (ho : o.op = .load 36 x) (g : Nat) (hx : a.eval x = .pointer (some ⟨g, 0, none⟩)) (e : Ef) (hS : ∀ w, S w → w.heap[g]? = some (efB e)) : YieldsIf Tryd.prog ops S o (efV e) a :=
  yieldsIf_load_mid (by simp [Region.wanted, hw]) _ x ho g 0 hx (efC e) _ (fun w h => ef_range (hS w h)) Tryd.underlying36 rfl (sizeE rfl)
/-- What is known of frames that fit. -/
theorem fit_facts {fs : List Fn} (hm : May fs) {l : List Fr} (h : FitL fs 0 l) : l.length ≠ 0 ∧ l.length ≤ 8 ∧ ∃ i a : Nat, i < fs.length ∧ a < (fs.getD i Fn.zero).co.length ∧ num (topF l) 0 = (i : Int) ∧ num (topF l) 1 = (a : Int) ∧ insZ fs l = (fs.getD i Fn.zero).co.getD a zero ∧ chkI (insZ fs l) = 0 ∧ a < 200 := by
  obtain ⟨r, f, rfl, hr, ⟨i, a, d, hA, hi, ha, hd, h0⟩, hrs⟩ := h
  rw [Int.sub_zero] at hA h0
  have hI := ins_at fs r hA
  have hc := (hm.code _ (getD_in (d := Fn.zero) hi))
  refine ⟨by simp, by rw [List.length_append, List.length_singleton]; omega, i, a, hi, ha, by rw [Go.Proofs.YtjbcmedljgafkaaDoor.pgm.exe.f_top]; exact hA.fn, by rw [Go.Proofs.YtjbcmedljgafkaaDoor.pgm.exe.f_top]; exact hA.pc, hI, ?_, by omega⟩
  rw [hI]
  exact hc.2.2 _ (getD_in ha)

theorem form_j : Go.Proofs.YtjbcmedljgafkaaDoor.inst.form 41 = [106, 106] ∧ Go.Proofs.YtjbcmedljgafkaaDoor.inst.form 42 = [106, 106] := by decide +kernel
/-- What an instruction takes that is no call: at most five. -/
theorem pops_five {x : De} (h : chkI x = 0) (h20 : x.1 ≠ 20) : pops x.1 x.2.2 0 ≤ 5 := by
  unfold pops
  rw [if_neg h20]
  split
  · rename_i h1
    have := Go.Proofs.YtjbcmedljgafkaaDoor.pgm.dep.b_small h
    have h2 := Go.Proofs.YtjbcmedljgafkaaDoor.pgm.dep.letter h h1 form_j.1 (j := 1) (by decide) (c := 106) rfl (by decide)
    have e2 : Go.Proofs.YtjbcmedljgafkaaDoor.inst.most 106 = 4 := rfl
    have e3 : Go.Proofs.YtjbcmedljgafkaaDoor.inst.opd x.2.1 x.2.2 1 = x.2.2 := rfl
    omega
  · split
    · rename_i h1
      have h2 := Go.Proofs.YtjbcmedljgafkaaDoor.pgm.dep.letter h h1 form_j.2 (j := 1) (by decide) (c := 106) rfl (by decide)
      have e2 : Go.Proofs.YtjbcmedljgafkaaDoor.inst.most 106 = 4 := rfl
      have e3 : Go.Proofs.YtjbcmedljgafkaaDoor.inst.opd x.2.1 x.2.2 1 = x.2.2 := rfl
      omega
    · have := Go.Proofs.YtjbcmedljgafkaaDoor.pgm.dep.numb_small Go.Proofs.YtjbcmedljgafkaaDoor.pgm.dep.tk_small x.1
      omega
theorem fit_call {fs : List Fn} (hm : May fs) {l : List Fr} (h : FitL fs 0 l) (h20 : (insZ fs l).1 = 20) (h8 : l.length ≠ 8) :
    ∃ (fi : Nat) (y : List Fr), (insZ fs l).2.1 = (fi : Int) ∧ fi < fs.length ∧ Go.Proofs.YtjbcmedljgafkaaDoor.frames.callF (nextF l) (fi : Int) (fs.getD fi Fn.zero).ar = some y ∧ (nextF l).length ≤ 900 := by
  obtain ⟨r, f, rfl, hr, ⟨i, a, d, hA, hi, ha, hd, h0⟩, hrs⟩ := h
  rw [Int.sub_zero] at hA h0
  have hI := ins_at fs r hA
  have S := seen_of hm hi ha hd h0
  rw [hI] at h20 ⊢
  obtain ⟨x, hx⟩ : ∃ x, x = (fs.getD i Fn.zero).co.getD a zero := ⟨_, rfl⟩
  rw [← hx] at S h20 ⊢
  have hd16 : d ≤ 16 := by
    have := (hm.sound hi).2 a
    omega
  have hr6 : r.length ≤ 6 := by
    rw [List.length_append, List.length_singleton] at h8
    omega
  have hc := hm.call _ (getD_in (d := Fn.zero) hi) x (by rw [hx]; exact getD_in ha) h20
  have hAr : Go.Proofs.YtjbcmedljgafkaaDoor.pgm.dep.argsOf fs x = (fs.getD x.2.1.toNat Fn.zero).ar := by
    unfold Go.Proofs.YtjbcmedljgafkaaDoor.pgm.dep.argsOf
    rw [if_pos ⟨h20, hc.2⟩]
  have hP : pops x.1 x.2.2 (Go.Proofs.YtjbcmedljgafkaaDoor.pgm.dep.argsOf fs x) = (fs.getD x.2.1.toNat Fn.zero).ar := by
    rw [hAr]
    unfold pops
    rw [if_pos h20]
  have hs0 := S.p0
  have hs1 := S.p1
  rw [hP] at hs0 hs1
  have hci : x.2.1.toNat < fs.length := by omega
  have ha8 := hm.args _ (getD_in (d := Fn.zero) hci)
  have h3 := hA.go (a + 1)
  have hcall := f_call r (f.set 1 (a + 1)) ((x.2.1.toNat : Nat) : Int) (fs.getD x.2.1.toNat Fn.zero).ar hs0 (by rw [h3.n]; exact hs1) (by rw [h3.n]; exact hd16) ha8.2 hr6
  rw [← next_at r hA] at hcall
  exact ⟨x.2.1.toNat, _, by omega, hci, hcall, by rw [next_at r hA, List.length_append, List.length_singleton]; omega⟩
theorem fit_ret {fs : List Fn} (hm : May fs) {l : List Fr} (h : FitL fs 0 l) (h21 : (insZ fs l).1 = 21) :
    (l.length = 1 → ∃ v, Go.Proofs.YtjbcmedljgafkaaDoor.frames.retF l = some ([], v)) ∧ (l.length ≠ 1 → ∃ y v, Go.Proofs.YtjbcmedljgafkaaDoor.frames.retF l = some (y, v)) := by
  obtain ⟨r, f, rfl, hr, ⟨i, a, d, hA, hi, ha, hd, h0⟩, hrs⟩ := h
  rw [Int.sub_zero] at hA h0
  have hI := ins_at fs r hA
  have S := seen_of hm hi ha hd h0
  rw [hI] at h21
  have hd16 : d ≤ 16 := by
    have := (hm.sound hi).2 a
    omega
  have s1 := S.p1
  have hp1 : pops ((fs.getD i Fn.zero).co.getD a zero).1 ((fs.getD i Fn.zero).co.getD a zero).2.2 (Go.Proofs.YtjbcmedljgafkaaDoor.pgm.dep.argsOf fs ((fs.getD i Fn.zero).co.getD a zero)) = 1 := by rw [h21]; rfl
  rw [hp1] at s1
  refine ⟨fun h1 => ?_, fun h1 => ?_⟩
  · obtain rfl : r = [] := List.eq_nil_of_length_eq_zero (by rw [List.length_append, List.length_singleton] at h1; omega)
    exact ⟨_, f_ret0 f (by rw [hA.n]; exact s1) (by rw [hA.n]; exact hd16)⟩
  · rcases List.eq_nil_or_concat r with rfl | ⟨r', g, hrr⟩
    · exact absurd rfl h1
    · rw [List.concat_eq_append] at hrr
      subst hrr
      obtain ⟨i', a', d', hA', hi', ha', hd', h0'⟩ := hrs g (by simp)
      have hg16 := (hm.sound hi').2 a'
      exact ⟨_, _, f_ret r' g f (by rw [hA.n]; exact s1) (by rw [hA.n]; exact hd16) (by rw [hA'.n]; exact h0') (by rw [hA'.n]; omega)⟩
theorem fit_take {fs : List Fn} (hm : May fs) {l : List Fr} (h : FitL fs 0 l) (h20 : (insZ fs l).1 ≠ 20) :
    ∃ rest v, takeZ (insZ fs l) l = (rest, v) ∧ Go.Proofs.YtjbcmedljgafkaaDoor.frames.popF (nextF l) (pops (insZ fs l).1 (insZ fs l).2.2 0) = some (rest, v) ∧ v.length = (pops (insZ fs l).1 (insZ fs l).2.2 0).toNat ∧
      (0 ≤ pops (insZ fs l).1 (insZ fs l).2.2 0 ∧ pops (insZ fs l).1 (insZ fs l).2.2 0 ≤ 5) ∧ ∃ r g, rest = r ++ [g] ∧ 0 ≤ cnt g ∧ cnt g + numb Go.Proofs.YtjbcmedljgafkaaDoor.oper.ly (insZ fs l).1 ≤ 16 ∧ g.length = 27 := by
  obtain ⟨r, f, rfl, hr, ⟨i, a, d, hA, hi, ha, hd, h0⟩, hrs⟩ := h
  rw [Int.sub_zero] at hA h0
  have hI := ins_at fs r hA
  have S := seen_of hm hi ha hd h0
  rw [hI] at h20 ⊢
  obtain ⟨x, hx⟩ : ∃ x, x = (fs.getD i Fn.zero).co.getD a zero := ⟨_, rfl⟩
  rw [← hx] at S h20 ⊢
  have hd16 : d ≤ 16 := by
    have := (hm.sound hi).2 a
    omega
  have hP := pops_not (b := x.2.2) (a := Go.Proofs.YtjbcmedljgafkaaDoor.pgm.dep.argsOf fs x) (c := 0) h20
  have s0 := S.p0
  have s1 := S.p1
  have s2 := S.b16
  rw [hP] at s0 s1 s2
  obtain ⟨g, v, ht, hg, hv, hpo⟩ := take_at r hA s0 s1 hd16
  exact ⟨_, _, ht, hpo, hv, ⟨s0, pops_five S.chk h20⟩, r, g, rfl, by rw [hg.n]; omega, by rw [hg.n]; exact s2, hg.len⟩
/-- An effect that is told: a value more. -/
theorem ef_set0 {W : World} {g : Nat} (h : W.heap[g]? = some (efB noE)) (o n : Int) : ((W.setCell ⟨g, 0, none⟩ (.int .i64 o)).setCell ⟨g, 3, none⟩ (.int .i64 n)).heap[g]? = some (efB ⟨o, 0, 0, [n]⟩) := by
  simp [World.setCell, Array.getElem?_modify, h, efB, efC, noE]
theorem ef_push {W : World} {g : Nat} {o a b : Int} {xs : List Int} {k : Nat} (h : W.heap[g]? = some (efB ⟨o, a, b, xs⟩)) (hk : xs.length = k) (h5 : k < 5) (n : Int) : (W.setCell ⟨g, 3 + k, none⟩ (.int .i64 n)).heap[g]? = some (efB ⟨o, a, b, xs ++ [n]⟩) := by
  have e : ∀ j, (xs ++ [n]).getD j 0 = if j = k then n else xs.getD j 0 := fun j => by
    rcases Nat.lt_trichotomy j k with hj | hj | hj
    · rw [if_neg (by omega), List.getD_eq_getElem?_getD, List.getD_eq_getElem?_getD, List.getElem?_append_left (by omega)]
    · subst hj
      rw [if_pos rfl, List.getD_eq_getElem?_getD, List.getElem?_append_right (by omega), hk, Nat.sub_self]
      rfl
    · rw [if_neg (by omega), List.getD_eq_getElem?_getD, List.getD_eq_getElem?_getD, List.getElem?_eq_none (by simp; omega), List.getElem?_eq_none (by omega)]
  unfold efB efC at h ⊢
  simp only [e]
  have : k = 0 ∨ k = 1 ∨ k = 2 ∨ k = 3 ∨ k = 4 := by omega
  rcases this with rfl | rfl | rfl | rfl | rfl <;> simp [World.setCell, Array.getElem?_modify, h]
section
variable {ops : Array Oper} {S : World → Prop} {o : Oper} {a : Act}
theorem yields_fld (hg : o.guard = none) (y : Operand) (k : Nat) (hk : k < 3) (ho : o.op = .fieldAddr 55 y k) (g : Nat) (hx : a.eval y = .pointer (some ⟨g, 0, none⟩)) : YieldsIf Tryd.prog ops S o (.pointer (some ⟨g, k, none⟩)) a :=
  .inl ⟨by simp [Region.wanted, hg], fun w' _ => by
    unfold execOp
    simp only [ho, hx]
    match k, hk with
    | 0, _ => go_simp
    | 1, _ => go_simp
    | 2, _ => go_simp⟩
theorem yields_int (hg : o.guard = none) (y : Operand) (ho : o.op = .load 3 y) (p : Addr) (hx : a.eval y = .pointer (some p)) (n : Int) (hS : ∀ w, S w → w.cell? p = some (.int .i64 n)) : YieldsIf Tryd.prog ops S o (.int .i64 n) a :=
  .inl ⟨by simp [Region.wanted, hg], fun w' h => by
    have hc := hS w' h
    unfold execOp
    simp only [ho, hx]
    go_simp⟩
theorem yields_at (hg : o.guard = none) (y : Operand) (k : Nat) (ho : o.op = .indexAddr 27 y (.const (.int .i64 (k : Int)))) (b i n c : Nat) (hx : a.eval y = .slice (some ⟨b, i, none⟩) n c) (k1 : (k : Int) < (n : Int)) : YieldsIf Tryd.prog ops S o (.pointer (some ⟨b, i + k, none⟩)) a :=
  .inl ⟨by simp [Region.wanted, hg], fun w' _ => by
    have k0 : (0 : Int) ≤ (k : Int) := by omega
    have hy : a.eval (.const (.int .i64 (k : Int))) = .int .i64 (k : Int) := rfl
    unfold execOp
    simp only [ho, hx, hy]
    go_simp⟩
end
/-- An effect that is made, beside the one that is answered. -/
structure Zq (w : World) (g : Nat) (e : Ef) (W : World) : Prop where
  below : Below w.heap.size w W
  b1 : W.heap[w.heap.size + 1]? = some (efB zE)
  be : W.heap[g]? = some (efB e)
  far : w.heap.size + 1 < g
theorem zq_set0 {w W : World} {pb : Obj} {g : Nat} {x : De} (h : Zd w pb g x W) (o n : Int) : Zq w (g + 1) ⟨o, 0, 0, [n]⟩ ((W.setCell ⟨g + 1, 0, none⟩ (.int .i64 o)).setCell ⟨g + 1, 3, none⟩ (.int .i64 n)) := by
  have hf := h.far
  refine ⟨(h.below.setCell (p := ⟨g + 1, 0, none⟩) (by show w.heap.size ≤ g + 1; omega) _).setCell (p := ⟨g + 1, 3, none⟩) (by show w.heap.size ≤ g + 1; omega) _, ?_, ef_set0 h.b3 o n, by omega⟩
  exact (Below.heap_setCell _ _ _ _ (by show w.heap.size + 1 ≠ g + 1; omega)).trans ((Below.heap_setCell _ _ _ _ (by show w.heap.size + 1 ≠ g + 1; omega)).trans h.b1)
theorem in_empty {w : World} {A : Option Addr} {c : Nat} (h : In w A c []) (W : World) : In W A c [] := ⟨Go.Proofs.YtjbcmedljgafkaaDoor.frames.FsAt.nil _ _, h.cap, h.len, h.all, h.nil⟩
theorem ef_free {W : World} {g : Nat} {e : Ef} (h : W.heap[g]? = some (efB e)) (k : Nat) : W.frozen? ⟨g, k, none⟩ = false := frozen_of_row W _ k _ _ h
/-- An effect that is filled, place by place. -/
theorem zq_new {w W : World} {pb : Obj} {g : Nat} {x : De} (h : Zd w pb g x W) (e : Ef) : Zq w W.heap.size e ((W.alloc (efB zE)).setRow W.heap.size (efC e).toArray) := by
  have hf := lt_of_block h.b3
  have hg := h.far
  refine ⟨Go.Proofs.YtjbcmedljgafkaaDoor.frames.row_below (h.below.alloc h.below.size _) h.below.size _, (Go.Proofs.YtjbcmedljgafkaaDoor.frames.row_far _ (by omega)).trans ((Below.heap_alloc _ _ _ (by omega)).trans h.b1), row_turned (heap_alloc_new W (efB zE)) _, by omega⟩
theorem Zq.push {w W : World} {g : Nat} {o a b : Int} {xs : List Int} {k : Nat} (h : Zq w g ⟨o, a, b, xs⟩ W) (hk : xs.length = k) (h5 : k < 5) (n : Int) : Zq w g ⟨o, a, b, xs ++ [n]⟩ (W.setCell ⟨g, 3 + k, none⟩ (.int .i64 n)) := by
  have hf := h.far
  exact ⟨h.below.setCell (p := ⟨g, 3 + k, none⟩) (by show w.heap.size ≤ g; omega) _, (Below.heap_setCell _ _ _ _ (by show w.heap.size + 1 ≠ g; omega)).trans h.b1, ef_push h.be hk h5 n, hf⟩
section
variable {ops : Array Oper} {S : World → Prop} {o : Oper} {a : Act}
theorem yields_pfld (hg : o.guard = none) (y : Operand) (ho : o.op = .fieldAddr 26 y 2) (n : Nat) (hx : a.eval y = .pointer (some ⟨n, 0, none⟩)) : YieldsIf Tryd.prog ops S o (.pointer (some ⟨n, 2, none⟩)) a :=
  .inl ⟨by simp [Region.wanted, hg], fun w' _ => by
    unfold execOp
    simp only [ho, hx]
    go_simp⟩
theorem yields_fsl (hg : o.guard = none) (y : Operand) (ho : o.op = .load 24 y) (p : Addr) (hx : a.eval y = .pointer (some p)) (A : Option Addr) (n c : Nat) (hS : ∀ w, S w → w.cell? p = some (.slice A n c)) : YieldsIf Tryd.prog ops S o (.slice A n c) a :=
  .inl ⟨by simp [Region.wanted, hg], fun w' h => by
    have hc := hS w' h
    unfold execOp
    simp only [ho, hx]
    go_simp⟩
theorem yields_fidx (hg : o.guard = none) (y z : Operand) (ho : o.op = .indexAddr 24 y z) (b i n c j : Nat) (hx : a.eval y = .slice (some ⟨b, i, none⟩) n c) (hz : a.eval z = .int .i64 (j : Int)) (k0 : (0 : Int) ≤ (j : Int)) (k1 : (j : Int) < (n : Int)) : YieldsIf Tryd.prog ops S o (.pointer (some ⟨b, i + j * 3, none⟩)) a :=
  .inl ⟨by simp [Region.wanted, hg], fun w' _ => by
    unfold execOp
    simp only [ho, hx, hz]
    go_simp⟩
theorem yields_ff0 (hg : o.guard = none) (y : Operand) (ho : o.op = .fieldAddr 58 y 0) (b i : Nat) (hx : a.eval y = .pointer (some ⟨b, i, none⟩)) : YieldsIf Tryd.prog ops S o (.pointer (some ⟨b, i, none⟩)) a :=
  .inl ⟨by simp [Region.wanted, hg], fun w' _ => by
    unfold execOp
    simp only [ho, hx]
    go_simp⟩
theorem yields_part (hg : o.guard = none) (y : Operand) (k : Nat) (ho : o.op = .extract y k) (vs : Array Value) (v : Value) (hx : a.eval y = .tuple vs) (hv : vs[k]? = some v) : YieldsIf Tryd.prog ops S o v a :=
  .inl ⟨by simp [Region.wanted, hg], fun w' _ => by
    unfold execOp
    simp only [ho, hx]
    simp [hv, go_sem]⟩
end
theorem ef_at {W : World} {g : Nat} {e : Ef} (h : W.heap[g]? = some (efB e)) {k : Nat} (hk : k < 5) : W.cell? ⟨g, 3 + k, none⟩ = some (.int .i64 (e.x.getD k 0)) := by
  have : k = 0 ∨ k = 1 ∨ k = 2 ∨ k = 3 ∨ k = 4 := by omega
  rcases this with rfl | rfl | rfl | rfl | rfl <;> exact ef_cell h rfl
theorem take_snoc {vs : List Int} {k : Nat} (h : k < vs.length) : vs.take k ++ [vs.getD k 0] = vs.take (k + 1) := by
  rw [List.take_add_one, List.getD_eq_getElem?_getD, List.getElem?_eq_getElem h]
  rfl
theorem doW_pair (o x y : Int) : ∃ n f, Go.Proofs.YtjbcmedljgafkaaDoor.word.doW o x y = (n, f) := ⟨_, _, rfl⟩
theorem tk_two : ∀ k : Nat, k < 16 → 3 ≤ k → k ≠ 8 → tk.getD k 0 = 2 := by decide +kernel
theorem two_pops {o b : Int} (h3 : 3 ≤ o) (h15 : o ≤ 15) (h8 : o ≠ 8) : pops o b 0 = 2 := by
  unfold pops numb
  rw [if_neg (by omega), if_neg (by omega), if_neg (by omega), if_pos (by omega)]
  exact tk_two _ (by omega) (by omega) (by omega)
theorem one_lays {o : Int} (h3 : 3 ≤ o) (h15 : o ≤ 15) : numb Go.Proofs.YtjbcmedljgafkaaDoor.oper.ly o = 1 := by
  unfold numb
  rw [if_pos (by omega)]
  exact ly_one _ (by omega) (by
    simp only [List.all_cons, List.all_nil, Bool.and_true, Bool.and_eq_true, Bool.not_eq_true', beq_eq_false_iff_ne, ne_eq]
    omega)
end Go.Proofs.YtjbcmedljgafkaaDoor.pgm.exe
