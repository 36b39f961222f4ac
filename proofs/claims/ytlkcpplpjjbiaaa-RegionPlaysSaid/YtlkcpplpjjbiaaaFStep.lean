/-
  A frame that is built, made, loaded, stored and laid as a row of one: one operation each, whatever its cells are. No condition.
-/
import Derived.Test.YtlkcpplpjjbiaaaFMem
import Derived.Great.Walk
import Derived.Deep.MidRow
import Derived.KernelRfl
namespace Go.Proofs.Ytlkcpplpjjbiaaa.frames
open Go.RowKit Go.ChangeShapes
set_option linter.unusedVariables false

theorem cellsF_all (f : Fr) : (cellsF f).toArray.all (·.oneCell') = true := by
  rw [Array.all_eq_true_iff_forall_mem]
  intro u hu
  exact cellsF_one f u (by simpa using hu)
theorem cellsF_size (f : Fr) : (cellsF f).toArray.size = 27 := by rw [List.size_toArray, cellsF_length]
theorem sizeF {n : Nat} (h : n = 27) : (Try.prog.info? 56).map (·.size) = some n := by
  subst h
  kernel_rfl
theorem range_of {w : World} {b i : Nat} {f : Fr} (h : FCells w b i f) : w.rangeAt b i (cellsF f) := fun j v hv => by
  have hj : j < 27 := by
    have := (List.getElem?_eq_some_iff.1 hv).1
    rwa [cellsF_length] at this
  rw [cellsF_at f hj] at hv
  rw [h j hj]
  exact hv
theorem zeroF_run (w : World) : (zeroValue 56).run Try.prog w = .ok (.agg (cellsF zeroF).toArray) w := by
  have h := infoF
  obtain ⟨h1, _⟩ := zero_of_info (P := Try.prog) (t := 56) (v := .agg (cellsF zeroF).toArray) (n := 27) (by kernel_rfl)
  exact h1 w
theorem builtF (fn : Int) : Try.prog.built 56 [(0, .int .i64 fn)] = some (cellsF (zeroF.set 0 fn)).toArray := by kernel_rfl
theorem builtRow (f : Fr) : Try.prog.builtSlice 56 1 [(0, .agg (cellsF f).toArray)] = some (cellsF f).toArray := by kernel_rfl

section
variable {ops : Array Oper} {rest : List Oper} {o : Oper} {a : Act} {w : World} {Q : Exit → Act → World → Prop} {K : Act → World → Prop}
theorem wl_load (hgd : o.guard = none) (x : Operand) (ho : o.op = .load 56 x) (b i : Nat) (hx : a.eval x = .pointer (some ⟨b, i, none⟩)) (f : Fr) (hf : FCells w b i f)
    (h : wpList Try.prog ops Q rest (a.put o.dst (.agg (cellsF f).toArray)) w) : wpList Try.prog ops Q (o :: rest) a w :=
  wpList_load_mid hgd _ x ho b i hx (cellsF f) _ (range_of hf) Try.underlying56 rfl (sizeF (cellsF_length f)) h
theorem wl_store (hgd : o.guard = none) (x y : Operand) (ho : o.op = .store 56 x y) (W : World) (f0 f : Fr) (hx : a.eval x = .pointer (some ⟨W.heap.size, 0, none⟩)) (hy : a.eval y = .agg (cellsF f).toArray) (hw : w = W.alloc (frB f0))
    (h : wpList Try.prog ops Q rest (a.put o.dst undef) (W.alloc (frB f))) : wpList Try.prog ops Q (o :: rest) a w := by
  subst hw
  refine wpList_store_row hgd _ x y ho W.heap.size (cellsF f).toArray hx hy 56 (cellsF f0).toArray (heap_alloc_new W _) (sizeF (cellsF_size f)) (by rw [cellsF_size, cellsF_size]) (cellsF_all f) ?_
  unfold frB at *
  rw [World.setRow_alloc_new]
  exact h
theorem wl_alloc (hgd : o.guard = none) (ho : o.op = .alloc 56)
    (h : wpList Try.prog ops Q rest (a.put o.dst (.pointer (some ⟨w.heap.size, 0, none⟩))) (w.alloc (frB zeroF))) : wpList Try.prog ops Q (o :: rest) a w := by
  refine Go.Great.wpList_runTo hgd o.dst rfl _ _ ?_ h
  unfold execOp
  simp only [ho, Instr.alloc, Sem.run_bind, zeroF_run, Result.andThen_ok, newVar, newRow, Sem.run_pure, Value.cells]
  rfl
theorem wl_build (hgd : o.guard = none) (x : Operand) (ho : o.op = .build 56 #[(0, x)]) (fn : Int) (hx : a.eval x = .int .i64 fn)
    (h : wpList Try.prog ops Q rest (a.put o.dst (.agg (cellsF (zeroF.set 0 fn)).toArray)) w) : wpList Try.prog ops Q (o :: rest) a w := by
  have e : (#[(0, x)].map fun (i, x) => (i, a.eval x)).toList = [((0 : Nat), Value.int .i64 fn)] := by simp [hx]
  refine wpList_build hgd _ _ ho (by rw [e, builtF]; rfl) ?_
  rw [e, builtF]
  exact h
theorem wl_row (hgd : o.guard = none) (x : Operand) (ho : o.op = .buildSlice 22 1 #[(0, x)]) (f : Fr) (hx : a.eval x = .agg (cellsF f).toArray)
    (h : wpList Try.prog ops Q rest (a.put o.dst (.slice (some ⟨w.heap.size, 0, none⟩) 1 1)) (w.alloc (frB f))) : wpList Try.prog ops Q (o :: rest) a w := by
  have e : (#[(0, x)].map fun (i, x) => (i, a.eval x)).toList = [((0 : Nat), Value.agg (cellsF f).toArray)] := by simp [hx]
  exact Go.Great.wpList_buildSliceTo hgd _ 56 1 _ ho w.heap.size rfl o.dst rfl Try.underlying22 (cellsF f).toArray (by rw [e]; exact builtRow f) h
theorem step_row {E : Prop} (hgd : o.guard = none) (x : Operand) (ho : o.op = .buildSlice 22 1 #[(0, x)]) (f : Fr) (hx : a.eval x = .agg (cellsF f).toArray)
    (h : K (a.put o.dst (.slice (some ⟨w.heap.size, 0, none⟩) 1 1)) (w.alloc (frB f))) : if Region.wanted o (yielded ops a.tmps) = true then Oper.wp Try.prog o a w K Q else E := by
  have hw : Region.wanted o (yielded ops a.tmps) = true := by simp [Region.wanted, hgd]
  rw [if_pos hw]
  have e : (#[(0, x)].map fun (i, x) => (i, a.eval x)).toList = [((0 : Nat), Value.agg (cellsF f).toArray)] := by simp [hx]
  have hf := builtRow f
  rw [← e] at hf
  unfold Program.builtSlice at hf
  cases hie : Try.prog.info? 56 with
  | none => rw [hie] at hf; cases hf
  | some ie =>
    simp only [hie] at hf
    cases hz : ie.zero with
    | none => simp [hz] at hf
    | some z =>
      simp only [hz] at hf
      by_cases hc : 1 * ie.size > 2 ^ 24 ∨ 1 * ie.size = 0
      · rw [if_pos hc] at hf; cases hf
      · rw [if_neg hc] at hf
        exact wp_buildSlice 22 56 1 _ ho (cellsF f).toArray ie z Try.underlying22 hie hz (fun h' => hc (Or.inl h')) (fun h' => hc (Or.inr h')) hf h
end
/-- One number of a frame is turned. -/
theorem cellsF_set (f : Fr) (h : f.length = 27) {k : Nat} (hk : k < 27) (v : Int) : (cellsF f).set k (.int .i64 v) = cellsF (f.set k v) := by
  apply List.ext_getElem?
  intro j
  rcases Nat.lt_or_ge j 27 with hj | hj
  · rw [cellsF_at _ hj]
    by_cases e : k = j
    · subst e
      rw [List.getElem?_set_self (by rw [cellsF_length]; exact hk), num_here (by omega)]
    · rw [List.getElem?_set_ne e, cellsF_at _ hj, num_ne e]
  · rw [List.getElem?_eq_none (by rw [List.length_set, cellsF_length]; exact hj), List.getElem?_eq_none (by rw [cellsF_length]; exact hj)]
theorem set_block {w : World} {g : Nat} {f : Fr} (h : w.heap[g]? = some (frB f)) (hl : f.length = 27) {k : Nat} (hk : k < 27) (v : Int) : (w.setCell ⟨g, k, none⟩ (.int .i64 v)).heap[g]? = some (frB (f.set k v)) := by
  unfold frB at h ⊢
  rw [← cellsF_set f hl hk v]
  simp [World.setCell, Array.getElem?_modify, h]
theorem cell_block {w : World} {g : Nat} {f : Fr} (h : w.heap[g]? = some (frB f)) {k : Nat} (hk : k < 27) : w.cell? ⟨g, k, none⟩ = some (.int .i64 (num f k)) := by
  have := FCells.of_block h k hk
  rwa [Nat.zero_add] at this
theorem free_block {w : World} {g : Nat} {f : Fr} (h : w.heap[g]? = some (frB f)) (k : Nat) : w.frozen? ⟨g, k, none⟩ = false := frozen_of_row w _ k _ _ h
end Go.Proofs.Ytlkcpplpjjbiaaa.frames
