/-
  Texts of one claim in one file: FStep, FRefWith. Each has its own sentence, with its conditions.
-/
import Derived.Test.YtjbcmedljgafkaaDoorZq9
import Derived.Great.Walk
import Derived.Deep.MidRow
import Derived.KernelRfl
/-
  A frame that is built, made, loaded, stored and laid as a row of one: one operation each, whatever its cells are. No condition.
-/

namespace Go.Proofs.YtjbcmedljgafkaaDoor.frames
open Go.RowKit Go.ChangeShapes
set_option linter.unusedVariables false

theorem cellsF_all (f : Fr) : (cellsF f).toArray.all (·.oneCell') = true := by
  rw [Array.all_eq_true_iff_forall_mem]
  intro u hu
  exact cellsF_one f u (by simpa using hu)
theorem cellsF_size (f : Fr) : (cellsF f).toArray.size = 27 := by rw [List.size_toArray, cellsF_length]
theorem sizeF {n : Nat} (h : n = 27) : (Tryd.prog.info? 45).map (·.size) = some n := by
  subst h
  kernel_rfl
theorem range_of {w : World} {b i : Nat} {f : Fr} (h : FCells w b i f) : w.rangeAt b i (cellsF f) := fun j v hv => by
  have hj : j < 27 := by
    have := (List.getElem?_eq_some_iff.1 hv).1
    rwa [cellsF_length] at this
  rw [cellsF_at f hj] at hv
  rw [h j hj]
  exact hv
theorem zeroF_run (w : World) : (zeroValue 45).run Tryd.prog w = .ok (.agg (cellsF zeroF).toArray) w := by
  have h := infoF
  obtain ⟨h1, _⟩ := zero_of_info (P := Tryd.prog) (t := 45) (v := .agg (cellsF zeroF).toArray) (n := 27) (by kernel_rfl)
  exact h1 w
theorem builtF (fn : Int) : Tryd.prog.built 45 [(0, .int .i64 fn)] = some (cellsF (zeroF.set 0 fn)).toArray := by kernel_rfl
theorem builtRow (f : Fr) : Tryd.prog.builtSlice 45 1 [(0, .agg (cellsF f).toArray)] = some (cellsF f).toArray := by kernel_rfl

section
variable {ops : Array Oper} {rest : List Oper} {o : Oper} {a : Act} {w : World} {Q : Exit → Act → World → Prop} {K : Act → World → Prop}
theorem wl_load (hgd : o.guard = none) (x : Operand) (ho : o.op = .load 45 x) (b i : Nat) (hx : a.eval x = .pointer (some ⟨b, i, none⟩)) (f : Fr) (hf : FCells w b i f)
    (h : wpList Tryd.prog ops Q rest (a.put o.dst (.agg (cellsF f).toArray)) w) : wpList Tryd.prog ops Q (o :: rest) a w :=
  wpList_load_mid hgd _ x ho b i hx (cellsF f) _ (range_of hf) Tryd.underlying45 rfl (sizeF (cellsF_length f)) h
theorem wl_store (hgd : o.guard = none) (x y : Operand) (ho : o.op = .store 45 x y) (W : World) (f0 f : Fr) (hx : a.eval x = .pointer (some ⟨W.heap.size, 0, none⟩)) (hy : a.eval y = .agg (cellsF f).toArray) (hw : w = W.alloc (frB f0))
    (h : wpList Tryd.prog ops Q rest (a.put o.dst undef) (W.alloc (frB f))) : wpList Tryd.prog ops Q (o :: rest) a w := by
  subst hw
  refine wpList_store_row hgd _ x y ho W.heap.size (cellsF f).toArray hx hy 45 (cellsF f0).toArray (heap_alloc_new W _) (sizeF (cellsF_size f)) (by rw [cellsF_size, cellsF_size]) (cellsF_all f) ?_
  unfold frB at *
  rw [World.setRow_alloc_new]
  exact h
theorem wl_alloc (hgd : o.guard = none) (ho : o.op = .alloc 45)
    (h : wpList Tryd.prog ops Q rest (a.put o.dst (.pointer (some ⟨w.heap.size, 0, none⟩))) (w.alloc (frB zeroF))) : wpList Tryd.prog ops Q (o :: rest) a w := by
  refine Go.Great.wpList_runTo hgd o.dst rfl _ _ ?_ h
  unfold execOp
  simp only [ho, Instr.alloc, Sem.run_bind, zeroF_run, Result.andThen_ok, newVar, newRow, Sem.run_pure, Value.cells]
  rfl
theorem wl_build (hgd : o.guard = none) (x : Operand) (ho : o.op = .build 45 #[(0, x)]) (fn : Int) (hx : a.eval x = .int .i64 fn)
    (h : wpList Tryd.prog ops Q rest (a.put o.dst (.agg (cellsF (zeroF.set 0 fn)).toArray)) w) : wpList Tryd.prog ops Q (o :: rest) a w := by
  have e : (#[(0, x)].map fun (i, x) => (i, a.eval x)).toList = [((0 : Nat), Value.int .i64 fn)] := by simp [hx]
  refine wpList_build hgd _ _ ho (by rw [e, builtF]; rfl) ?_
  rw [e, builtF]
  exact h
theorem wl_row (hgd : o.guard = none) (x : Operand) (ho : o.op = .buildSlice 30 1 #[(0, x)]) (f : Fr) (hx : a.eval x = .agg (cellsF f).toArray)
    (h : wpList Tryd.prog ops Q rest (a.put o.dst (.slice (some ⟨w.heap.size, 0, none⟩) 1 1)) (w.alloc (frB f))) : wpList Tryd.prog ops Q (o :: rest) a w := by
  have e : (#[(0, x)].map fun (i, x) => (i, a.eval x)).toList = [((0 : Nat), Value.agg (cellsF f).toArray)] := by simp [hx]
  exact Go.Great.wpList_buildSliceTo hgd _ 45 1 _ ho w.heap.size rfl o.dst rfl Tryd.underlying30 (cellsF f).toArray (by rw [e]; exact builtRow f) h
theorem step_row {E : Prop} (hgd : o.guard = none) (x : Operand) (ho : o.op = .buildSlice 30 1 #[(0, x)]) (f : Fr) (hx : a.eval x = .agg (cellsF f).toArray)
    (h : K (a.put o.dst (.slice (some ⟨w.heap.size, 0, none⟩) 1 1)) (w.alloc (frB f))) : if Region.wanted o (yielded ops a.tmps) = true then Oper.wp Tryd.prog o a w K Q else E := by
  have hw : Region.wanted o (yielded ops a.tmps) = true := by simp [Region.wanted, hgd]
  rw [if_pos hw]
  have e : (#[(0, x)].map fun (i, x) => (i, a.eval x)).toList = [((0 : Nat), Value.agg (cellsF f).toArray)] := by simp [hx]
  have hf := builtRow f
  rw [← e] at hf
  unfold Program.builtSlice at hf
  cases hie : Tryd.prog.info? 45 with
  | none => rw [hie] at hf; cases hf
  | some ie =>
    simp only [hie] at hf
    cases hz : ie.zero with
    | none => simp [hz] at hf
    | some z =>
      simp only [hz] at hf
      by_cases hc : 1 * ie.size > 2 ^ 24 ∨ 1 * ie.size = 0
      · rw [if_pos hc] at hf; cases hf
      · rw [if_neg hc] at hf
        exact wp_buildSlice 30 45 1 _ ho (cellsF f).toArray ie z Tryd.underlying30 hie hz (fun h' => hc (Or.inl h')) (fun h' => hc (Or.inr h')) hf h
end
/-- One number of a frame is turned. -/
theorem cellsF_set (f : Fr) (h : f.length = 27) {k : Nat} (hk : k < 27) (v : Int) : (cellsF f).set k (.int .i64 v) = cellsF (f.set k v) := by
  apply List.ext_getElem?
  intro j
  rcases Nat.lt_or_ge j 27 with hj | hj
  · rw [cellsF_at _ hj]
    by_cases e : k = j
    · subst e
      rw [List.getElem?_set_self (by rw [cellsF_length]; exact hk), num_here (by omega)]
    · rw [List.getElem?_set_ne e, cellsF_at _ hj, num_ne e]
  · rw [List.getElem?_eq_none (by rw [List.length_set, cellsF_length]; exact hj), List.getElem?_eq_none (by rw [cellsF_length]; exact hj)]
theorem set_block {w : World} {g : Nat} {f : Fr} (h : w.heap[g]? = some (frB f)) (hl : f.length = 27) {k : Nat} (hk : k < 27) (v : Int) : (w.setCell ⟨g, k, none⟩ (.int .i64 v)).heap[g]? = some (frB (f.set k v)) := by
  unfold frB at h ⊢
  rw [← cellsF_set f hl hk v]
  simp [World.setCell, Array.getElem?_modify, h]
theorem cell_block {w : World} {g : Nat} {f : Fr} (h : w.heap[g]? = some (frB f)) {k : Nat} (hk : k < 27) : w.cell? ⟨g, k, none⟩ = some (.int .i64 (num f k)) := by
  have := FCells.of_block h k hk
  rwa [Nat.zero_add] at this
theorem free_block {w : World} {g : Nat} {f : Fr} (h : w.heap[g]? = some (frB f)) (k : Nat) : w.frozen? ⟨g, k, none⟩ = false := frozen_of_row w _ k _ _ h
end Go.Proofs.YtjbcmedljgafkaaDoor.frames

/-
  The document's own frames, the last of which is another one. At most a thousand frames, at least one.
-/

namespace Go.Proofs.YtjbcmedljgafkaaDoor.frames
open Go.RowKit Go.ChangeShapes
set_option linter.unusedVariables false
set_option linter.unusedSimpArgs false

theorem frame_new1 (W : World) (o : Obj) (f : Fr) : ((W.alloc o).alloc (frB f)).heap[W.heap.size + 1]? = some (frB f) := by
  have h := heap_alloc_new (W.alloc o) (frB f)
  rwa [World.size_alloc] at h
theorem row3 (W : World) (f : Fr) (base : Nat) (hb : base ≤ W.heap.size + 1) : Own ((W.alloc (frB f)).alloc (.cells #[] 45)) base (.slice (some ⟨W.heap.size + 1, 0, none⟩) 0 0) [] := by
  have h := Own.empty (heap_alloc_new (W.alloc (frB f)) (.cells #[] 45))
  rw [World.size_alloc] at h
  exact h.base hb
theorem keepA {W : World} {b : Nat} {o : Obj} (h : W.heap[b]? = some o) (x : Obj) : (W.alloc x).heap[b]? = some o := (Below.heap_alloc W x b (lt_of_block h)).trans h
theorem grown_drew {W w' : World} {r : Option Nat} (h : W.drew.grownBy w' r) : W.grownBy w' r := ⟨h.os, h.tape, h.output, h.size, h.block⟩
theorem keepG {W w' : World} {b : Nat} {o : Obj} {r : Option Nat} (h : W.heap[b]? = some o) (hg : W.grownBy w' r) (hne : some b ≠ r) : w'.heap[b]? = some o := (hg.block b (lt_of_block h) hne).trans h

set_option maxRecDepth 100000 in
set_option maxHeartbeats 8000000 in
theorem refWith_any (A : Option Addr) (c : Nat) (l : List Fr) (f : Fr) (hl : l.length ≤ 1000) (h0 : l.length ≠ 0) (w : World) (hA : FsAt w A l) (hc : l.length ≤ c) :
    Calls Tryd.prog 46 #[.slice A l.length c, .agg (cellsF f).toArray] w fun e w' => ∃ A' c', e = .returned (.slice A' l.length c') ∧ FsAt w' A' (withF l f) ∧ l.length ≤ c' ∧ Below w.heap.size w w' ∧ Own w' w.heap.size (.slice A' l.length c') (withF l f) := by
  obtain ⟨b, off, rfl, hb, -⟩ := hA 0 (by omega)
  have hb0 : Below w.heap.size w (w.alloc (frB f)) := (Below.refl _ w).alloc (Nat.le_refl _) _
  have hx0 := heap_alloc_new w (frB f)
  have hs0 : (w.alloc (frB f)).heap.size = w.heap.size + 1 := World.size_alloc _ _
  have hA1 := hA.next hb0
  have HB := Lib.hid hb0
  unfold frB at hA1 HB hx0 hs0
  have HX := Lib.hid hx0
  have HS := Lib.hid hs0
  obtain ⟨m, hm⟩ : ∃ m, l.length = m + 1 := ⟨l.length - 1, by omega⟩
  have HT : Hid (∀ W, W.heap[b]? = (w.alloc (.cells (cellsF f).toArray 45)).heap[b]? → FsAt W (some ⟨b, off, none⟩) (l.take m)) := Lib.hid fun W hW j hj => by
    rw [List.length_take] at hj
    obtain ⟨b', off', e, h2, h3⟩ := hA1.take m j (by rw [List.length_take]; omega)
    obtain rfl := Addr.mk.inj (Option.some.inj e) |>.1
    obtain rfl := Addr.mk.inj (Option.some.inj e) |>.2.1
    refine ⟨_, _, rfl, ?_, h3.keep hW⟩
    rcases Nat.lt_or_ge b W.heap.size with h | h
    · exact h
    · rw [Array.getElem?_eq_none h, Array.getElem?_eq_getElem h2] at hW
      cases hW
  have HW : Hid (withF l f = l.take m ++ [f]) := Lib.hid (by unfold withF; rw [hm]; rfl)
  have HL : Hid ((l.take m).length = m) := Lib.hid (by rw [List.length_take]; omega)
  rw [hm] at hc hl ⊢
  rw [HW.out]
  generalize l.take m = r at *
  have k0 : (0 : Int) ≤ (m : Int) := by omega
  have k1 : (m : Int) ≤ (c : Int) := by omega
  have hw0 : IntKind.i64.wrap ((m : Int) + 1 - 1) = (m : Int) := by rw [IntKind.wrap_i64]; omega
  have hw1 : IntKind.i64.wrap (m : Int) = (m : Int) := by rw [IntKind.wrap_i64]; omega
  clear hA hb0 hA1 hm HW hx0 hs0
  go_enter Tryd.func46, Tryd.ntmps46
  go_upto_region 1 with fail
  generalize w.alloc (.cells (cellsF f).toArray 45) = W1 at *
  refine wp_region_held_drew (S := fun w' => w'.heap[w.heap.size]? = some (frB f)) (by kernel_rfl) HX.out (fun hS => ?_)
  refine wpAnyH_take (i := 7) (v := _) rfl (by kernel_rfl) (by kernel_rfl) (by kernel_rfl) (fun _ _ _ h => h) (yieldsIf_load_mid (by rfl) _ (.tmp 3) rfl w.heap.size 0 rfl (cellsF f) _ (fun w' h => range_of (FCells.of_block h)) Tryd.underlying45 rfl (sizeF (cellsF_length f))) hS ?_
  simp only [Act.put, List.setIfInBounds_toArray, List.set_cons_zero, List.set_cons_succ]
  refine wpAnyH_take (i := 1) (v := .slice (some ⟨b, off, none⟩) (m + 1) c) rfl (by kernel_rfl) (by kernel_rfl) (by kernel_rfl) (fun _ _ _ h => h) (Or.inl ⟨by rfl, fun w' hw' => by go_simp⟩) hS ?_
  simp only [Act.put, List.setIfInBounds_toArray, List.set_cons_zero, List.set_cons_succ]
  refine wpAnyH_take (i := 2) (v := .slice (some ⟨b, off, none⟩) (m + 1) c) rfl (by kernel_rfl) (by kernel_rfl) (by kernel_rfl) (fun _ _ _ h => h) (Or.inl ⟨by rfl, fun w' hw' => by go_simp⟩) hS ?_
  simp only [Act.put, List.setIfInBounds_toArray, List.set_cons_zero, List.set_cons_succ]
  refine wpAnyH_take (i := 3) (v := .int .i64 ((m : Int) + 1)) rfl (by kernel_rfl) (by kernel_rfl) (by kernel_rfl) (fun _ _ _ h => h) (Or.inl ⟨by rfl, fun w' hw' => by go_simp⟩) hS ?_
  simp only [Act.put, List.setIfInBounds_toArray, List.set_cons_zero, List.set_cons_succ]
  refine wpAnyH_take (i := 4) (v := .int .i64 (m : Int)) rfl (by kernel_rfl) (by kernel_rfl) (by kernel_rfl) (fun _ _ _ h => h) (Or.inl ⟨by rfl, fun w' hw' => by go_simp⟩) hS ?_
  simp only [Act.put, List.setIfInBounds_toArray, List.set_cons_zero, List.set_cons_succ]
  refine wpAnyH_take (i := 5) (v := .slice (some ⟨b, off, none⟩) m c) rfl (by kernel_rfl) (by kernel_rfl) (by kernel_rfl) (fun _ _ _ h => h) (Or.inl ⟨by rfl, fun w' hw' => by go_simp⟩) hS ?_
  simp only [Act.put, List.setIfInBounds_toArray, List.set_cons_zero, List.set_cons_succ]
  refine wpAnyH_ready (rs := [0, 8]) (by kernel_rfl) (by simp) (AllReadyH.cons rfl (fun K hK => ?_) (AllReadyH.cons rfl (fun K hK => ?_) AllReadyH.nil))
  · go_simp
    refine hK.out _ _ (keepA hS _) (fun hS => ?_)
    refine wpAnyH_ready (rs := [6, 8]) (by kernel_rfl) (by simp) (AllReadyH.cons rfl (fun K hK => ?_) (AllReadyH.cons rfl (fun K hK => ?_) AllReadyH.nil))
    · refine step_appF (by rfl) (.tmp 5) (.tmp 10) (by rfl) (w.heap.size + 1) m c (.slice (some ⟨W1.heap.size, 0, none⟩) 0 0) (some ⟨b, off, none⟩) [] r (by rfl) ((Own.empty (heap_alloc_new _ _)).base (by have := HS.out; omega)) (by rfl) HL.out.symm (fun h => by cases h) (HT.out _ (Below.heap_alloc _ _ _ (by rw [HS.out]; omega))) (by simp [HL.out]; omega) (by simp [HS.out]) ?_
      intro v1 w1 hv1 hg1
      simp only [Act.put, List.setIfInBounds_toArray, List.set_cons_zero, List.set_cons_succ]
      refine hK.out _ _ (keepG hS hg1 (fun e => by simp only [Value.ownBlock, Option.some.injEq] at e; have := HS.out; omega)) (fun hS => ?_)
      refine wpAnyH_ready (rs := [8]) (by kernel_rfl) (by simp) (AllReadyH.cons rfl (fun K hK => ?_) AllReadyH.nil)
      refine step_row (by rfl) (.tmp 12) (by rfl) f (by rfl) ?_
      simp only [Act.put, List.setIfInBounds_toArray, List.set_cons_zero, List.set_cons_succ]
      refine hK.out _ _ (keepA hS _) (fun hS => ?_)
      refine wpAnyH_ready (rs := [9]) (by kernel_rfl) (by simp) (AllReadyH.cons rfl (fun K hK => ?_) AllReadyH.nil)
      refine step_appF (by rfl) (.tmp 11) (.tmp 13) (by rfl) (w.heap.size + 1) 1 1 v1 (some ⟨w1.heap.size, 0, none⟩) ([] ++ r) [f] (by rfl) (hv1.next ((Below.refl _ _).alloc (Nat.le_refl _) _)) (by rfl) rfl (fun h => by cases h) (FsAt.one (heap_alloc_new w1 _)) (by simp [HL.out]; omega) (by have := hg1.size; simp [HS.out] at this ⊢; omega) ?_
      intro v2 w2 hv2 hg2
      simp only [Act.put, List.setIfInBounds_toArray, List.set_cons_zero, List.set_cons_succ]
      refine hK.out _ _ (keepG hS hg2 (fun e => by have := (hv1.lt e.symm).1; omega)) (fun hS => ?_)
      refine wpAnyH_ready (rs := [10]) (by kernel_rfl) (by simp) (AllReadyH.cons rfl (fun K hK => ?_) AllReadyH.nil)
      go_simp
      refine hK.out _ _ hS (fun hS => ?_)
      refine wpAnyH_done (by kernel_rfl) ?_ _
      have HBf : Hid (Below w.heap.size w w2) := Lib.hid (((HB.out.alloc (by rw [HS.out]; omega) _).grown (grown_drew hg1) (by (first | (simp [HS.out]; done) | (simp [HS.out]; omega))) (fun k e => by simp only [Value.ownBlock, Option.some.injEq] at e; have := HS.out; omega)).alloc (by have := hg1.size; simp [HS.out] at this; omega) _ |>.grown hg2 (by have := hg1.size; simp [HS.out] at this ⊢; omega) (fun k e => by have := (hv1.lt e).1; omega))
      have HV2 := Lib.hid hv2
      clear hv1 hv2 hg1 hg2 hS hK
      obtain ⟨A2, c2, rfl⟩ := HV2.out.slice
      have HLf : Hid (([] ++ r ++ [f]).length = m + 1) := Lib.hid (by simp [HL.out])
      rw [HLf.out]
      go_wp2_with fail
      go_ret
      exact ⟨A2, c2, rfl, Own.at HV2.out, by have := Own.cap HV2.out; rw [HLf.out] at this; exact this, HBf.out, by have h := HV2.out.base (Nat.le_succ w.heap.size); rw [HLf.out] at h; exact h⟩
    · refine step_row (by rfl) (.tmp 12) (by rfl) f (by rfl) ?_
      simp only [Act.put, List.setIfInBounds_toArray, List.set_cons_zero, List.set_cons_succ]
      rw [show (W1.alloc (.cells #[] 45)).drew.heap.size = W1.heap.size + 1 from World.size_alloc _ _]
      refine hK.out _ _ (keepA hS _) (fun hS => ?_)
      refine wpAnyH_ready (rs := [6]) (by kernel_rfl) (by simp) (AllReadyH.cons rfl (fun K hK => ?_) AllReadyH.nil)
      refine step_appF (by rfl) (.tmp 5) (.tmp 10) (by rfl) (w.heap.size + 1) m c (.slice (some ⟨W1.heap.size, 0, none⟩) 0 0) (some ⟨b, off, none⟩) [] r (by rfl) ((Own.empty (keepA (heap_alloc_new _ _) _)).base (by have := HS.out; omega)) (by rfl) HL.out.symm (fun h => by cases h) (HT.out _ ((Below.heap_alloc _ _ _ (by simp [HS.out]; omega)).trans (Below.heap_alloc _ _ _ (by rw [HS.out]; omega)))) (by simp [HL.out]; omega) (by (first | (simp [HS.out]; done) | (simp [HS.out]; omega))) ?_
      intro v1 w1 hv1 hg1
      simp only [Act.put, List.setIfInBounds_toArray, List.set_cons_zero, List.set_cons_succ]
      refine hK.out _ _ (keepG hS hg1 (fun e => by simp only [Value.ownBlock, Option.some.injEq] at e; have := HS.out; omega)) (fun hS => ?_)
      refine wpAnyH_ready (rs := [9]) (by kernel_rfl) (by simp) (AllReadyH.cons rfl (fun K hK => ?_) AllReadyH.nil)
      refine step_appF (by rfl) (.tmp 11) (.tmp 13) (by rfl) (w.heap.size + 1) 1 1 v1 (some ⟨W1.heap.size + 1, 0, none⟩) ([] ++ r) [f] (by rfl) (hv1) (by rfl) rfl (fun h => by cases h) (FsAt.one (keepG (frame_new1 W1 _ f) (grown_drew hg1) (fun e => by simp only [Value.ownBlock, Option.some.injEq] at e; omega))) (by simp [HL.out]; omega) (by have := hg1.size; simp [HS.out] at this ⊢; omega) ?_
      intro v2 w2 hv2 hg2
      simp only [Act.put, List.setIfInBounds_toArray, List.set_cons_zero, List.set_cons_succ]
      refine hK.out _ _ (keepG hS hg2 (fun e => by have := (hv1.lt e.symm).1; omega)) (fun hS => ?_)
      refine wpAnyH_ready (rs := [10]) (by kernel_rfl) (by simp) (AllReadyH.cons rfl (fun K hK => ?_) AllReadyH.nil)
      go_simp
      refine hK.out _ _ hS (fun hS => ?_)
      refine wpAnyH_done (by kernel_rfl) ?_ _
      have HBf : Hid (Below w.heap.size w w2) := Lib.hid ((((HB.out.alloc (by rw [HS.out]; omega) _).alloc (by (first | (simp [HS.out]; done) | (simp [HS.out]; omega))) _).grown (grown_drew hg1) (by (first | (simp [HS.out]; done) | (simp [HS.out]; omega))) (fun k e => by simp only [Value.ownBlock, Option.some.injEq] at e; have := HS.out; omega)).grown hg2 (by have := hg1.size; simp [HS.out] at this ⊢; omega) (fun k e => by have := (hv1.lt e).1; omega))
      have HV2 := Lib.hid hv2
      clear hv1 hv2 hg1 hg2 hS hK
      obtain ⟨A2, c2, rfl⟩ := HV2.out.slice
      have HLf : Hid (([] ++ r ++ [f]).length = m + 1) := Lib.hid (by simp [HL.out])
      rw [HLf.out]
      go_wp2_with fail
      go_ret
      exact ⟨A2, c2, rfl, Own.at HV2.out, by have := Own.cap HV2.out; rw [HLf.out] at this; exact this, HBf.out, by have h := HV2.out.base (Nat.le_succ w.heap.size); rw [HLf.out] at h; exact h⟩
  · refine step_row (by rfl) (.tmp 12) (by rfl) f (by rfl) ?_
    simp only [Act.put, List.setIfInBounds_toArray, List.set_cons_zero, List.set_cons_succ]
    refine hK.out _ _ (keepA hS _) (fun hS => ?_)
    refine wpAnyH_ready (rs := [0]) (by kernel_rfl) (by simp) (AllReadyH.cons rfl (fun K hK => ?_) AllReadyH.nil)
    go_simp
    refine hK.out _ _ (keepA hS _) (fun hS => ?_)
    refine wpAnyH_ready (rs := [6]) (by kernel_rfl) (by simp) (AllReadyH.cons rfl (fun K hK => ?_) AllReadyH.nil)
    refine step_appF (by rfl) (.tmp 5) (.tmp 10) (by rfl) (w.heap.size + 1) m c (.slice (some ⟨W1.heap.size + 1, 0, none⟩) 0 0) (some ⟨b, off, none⟩) [] r (by rfl) (row3 W1 f _ (by have := HS.out; omega)) (by rfl) HL.out.symm (fun h => by cases h) (HT.out _ ((Below.heap_alloc _ _ _ (by simp [HS.out]; omega)).trans (Below.heap_alloc _ _ _ (by rw [HS.out]; omega)))) (by simp [HL.out]; omega) (by (first | (simp [HS.out]; done) | (simp [HS.out]; omega))) ?_
    intro v1 w1 hv1 hg1
    simp only [Act.put, List.setIfInBounds_toArray, List.set_cons_zero, List.set_cons_succ]
    refine hK.out _ _ (keepG hS hg1 (fun e => by simp only [Value.ownBlock, Option.some.injEq] at e; have := HS.out; omega)) (fun hS => ?_)
    refine wpAnyH_ready (rs := [9]) (by kernel_rfl) (by simp) (AllReadyH.cons rfl (fun K hK => ?_) AllReadyH.nil)
    refine step_appF (by rfl) (.tmp 11) (.tmp 13) (by rfl) (w.heap.size + 1) 1 1 v1 (some ⟨W1.heap.size, 0, none⟩) ([] ++ r) [f] (by rfl) (hv1) (by rfl) rfl (fun h => by cases h) (FsAt.one (keepG (keepA (heap_alloc_new W1 _) _) (grown_drew hg1) (fun e => by simp only [Value.ownBlock, Option.some.injEq] at e; omega))) (by simp [HL.out]; omega) (by have := hg1.size; simp [HS.out] at this ⊢; omega) ?_
    intro v2 w2 hv2 hg2
    simp only [Act.put, List.setIfInBounds_toArray, List.set_cons_zero, List.set_cons_succ]
    refine hK.out _ _ (keepG hS hg2 (fun e => by have := (hv1.lt e.symm).1; omega)) (fun hS => ?_)
    refine wpAnyH_ready (rs := [10]) (by kernel_rfl) (by simp) (AllReadyH.cons rfl (fun K hK => ?_) AllReadyH.nil)
    go_simp
    refine hK.out _ _ hS (fun hS => ?_)
    refine wpAnyH_done (by kernel_rfl) ?_ _
    have HBf : Hid (Below w.heap.size w w2) := Lib.hid ((((HB.out.alloc (by rw [HS.out]; omega) _).alloc (by (first | (simp [HS.out]; done) | (simp [HS.out]; omega))) _).grown (grown_drew hg1) (by (first | (simp [HS.out]; done) | (simp [HS.out]; omega))) (fun k e => by simp only [Value.ownBlock, Option.some.injEq] at e; have := HS.out; omega)).grown hg2 (by have := hg1.size; simp [HS.out] at this ⊢; omega) (fun k e => by have := (hv1.lt e).1; omega))
    have HV2 := Lib.hid hv2
    clear hv1 hv2 hg1 hg2 hS hK
    obtain ⟨A2, c2, rfl⟩ := HV2.out.slice
    have HLf : Hid (([] ++ r ++ [f]).length = m + 1) := Lib.hid (by simp [HL.out])
    rw [HLf.out]
    go_wp2_with fail
    go_ret
    exact ⟨A2, c2, rfl, Own.at HV2.out, by have := Own.cap HV2.out; rw [HLf.out] at this; exact this, HBf.out, by have h := HV2.out.base (Nat.le_succ w.heap.size); rw [HLf.out] at h; exact h⟩
end Go.Proofs.YtjbcmedljgafkaaDoor.frames
