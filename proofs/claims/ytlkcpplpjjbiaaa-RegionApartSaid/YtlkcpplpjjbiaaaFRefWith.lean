/-
  The document's own frames, the last of which is another one. At most a thousand frames, at least one.
-/
import Derived.Test.YtlkcpplpjjbiaaaFStep
namespace Go.Proofs.Ytlkcpplpjjbiaaa.frames
open Go.RowKit Go.ChangeShapes
set_option linter.unusedVariables false
set_option linter.unusedSimpArgs false

theorem frame_new1 (W : World) (o : Obj) (f : Fr) : ((W.alloc o).alloc (frB f)).heap[W.heap.size + 1]? = some (frB f) := by
  have h := heap_alloc_new (W.alloc o) (frB f)
  rwa [World.size_alloc] at h
theorem row3 (W : World) (f : Fr) (base : Nat) (hb : base ≤ W.heap.size + 1) : Own ((W.alloc (frB f)).alloc (.cells #[] 56)) base (.slice (some ⟨W.heap.size + 1, 0, none⟩) 0 0) [] := by
  have h := Own.empty (heap_alloc_new (W.alloc (frB f)) (.cells #[] 56))
  rw [World.size_alloc] at h
  exact h.base hb
theorem keepA {W : World} {b : Nat} {o : Obj} (h : W.heap[b]? = some o) (x : Obj) : (W.alloc x).heap[b]? = some o := (Below.heap_alloc W x b (lt_of_block h)).trans h
theorem grown_drew {W w' : World} {r : Option Nat} (h : W.drew.grownBy w' r) : W.grownBy w' r := ⟨h.os, h.tape, h.output, h.size, h.block⟩
theorem keepG {W w' : World} {b : Nat} {o : Obj} {r : Option Nat} (h : W.heap[b]? = some o) (hg : W.grownBy w' r) (hne : some b ≠ r) : w'.heap[b]? = some o := (hg.block b (lt_of_block h) hne).trans h

set_option maxRecDepth 100000 in
set_option maxHeartbeats 8000000 in
theorem refWith_any (A : Option Addr) (c : Nat) (l : List Fr) (f : Fr) (hl : l.length ≤ 1000) (h0 : l.length ≠ 0) (w : World) (hA : FsAt w A l) (hc : l.length ≤ c) :
    Calls Try.prog 62 #[.slice A l.length c, .agg (cellsF f).toArray] w fun e w' => ∃ A' c', e = .returned (.slice A' l.length c') ∧ FsAt w' A' (withF l f) ∧ l.length ≤ c' ∧ Below w.heap.size w w' ∧ Own w' w.heap.size (.slice A' l.length c') (withF l f) := by
  obtain ⟨b, off, rfl, hb, -⟩ := hA 0 (by omega)
  have hb0 : Below w.heap.size w (w.alloc (frB f)) := (Below.refl _ w).alloc (Nat.le_refl _) _
  have hx0 := heap_alloc_new w (frB f)
  have hs0 : (w.alloc (frB f)).heap.size = w.heap.size + 1 := World.size_alloc _ _
  have hA1 := hA.next hb0
  have HB := Lib.hid hb0
  unfold frB at hA1 HB hx0 hs0
  have HX := Lib.hid hx0
  have HS := Lib.hid hs0
  obtain ⟨m, hm⟩ : ∃ m, l.length = m + 1 := ⟨l.length - 1, by omega⟩
  have HT : Hid (∀ W, W.heap[b]? = (w.alloc (.cells (cellsF f).toArray 56)).heap[b]? → FsAt W (some ⟨b, off, none⟩) (l.take m)) := Lib.hid fun W hW j hj => by
    rw [List.length_take] at hj
    obtain ⟨b', off', e, h2, h3⟩ := hA1.take m j (by rw [List.length_take]; omega)
    obtain rfl := Addr.mk.inj (Option.some.inj e) |>.1
    obtain rfl := Addr.mk.inj (Option.some.inj e) |>.2.1
    refine ⟨_, _, rfl, ?_, h3.keep hW⟩
    rcases Nat.lt_or_ge b W.heap.size with h | h
    · exact h
    · rw [Array.getElem?_eq_none h, Array.getElem?_eq_getElem h2] at hW
      cases hW
  have HW : Hid (withF l f = l.take m ++ [f]) := Lib.hid (by unfold withF; rw [hm]; rfl)
  have HL : Hid ((l.take m).length = m) := Lib.hid (by rw [List.length_take]; omega)
  rw [hm] at hc hl ⊢
  rw [HW.out]
  generalize l.take m = r at *
  have k0 : (0 : Int) ≤ (m : Int) := by omega
  have k1 : (m : Int) ≤ (c : Int) := by omega
  have hw0 : IntKind.i64.wrap ((m : Int) + 1 - 1) = (m : Int) := by rw [IntKind.wrap_i64]; omega
  have hw1 : IntKind.i64.wrap (m : Int) = (m : Int) := by rw [IntKind.wrap_i64]; omega
  clear hA hb0 hA1 hm HW hx0 hs0
  go_enter Try.func62, Try.ntmps62
  go_upto_region 1 with fail
  generalize w.alloc (.cells (cellsF f).toArray 56) = W1 at *
  refine wp_region_held_drew (S := fun w' => w'.heap[w.heap.size]? = some (frB f)) (by kernel_rfl) HX.out (fun hS => ?_)
  refine wpAnyH_take (i := 7) (v := _) rfl (by kernel_rfl) (by kernel_rfl) (by kernel_rfl) (fun _ _ _ h => h) (yieldsIf_load_mid (by rfl) _ (.tmp 3) rfl w.heap.size 0 rfl (cellsF f) _ (fun w' h => range_of (FCells.of_block h)) Try.underlying56 rfl (sizeF (cellsF_length f))) hS ?_
  simp only [Act.put, List.setIfInBounds_toArray, List.set_cons_zero, List.set_cons_succ]
  refine wpAnyH_take (i := 1) (v := .slice (some ⟨b, off, none⟩) (m + 1) c) rfl (by kernel_rfl) (by kernel_rfl) (by kernel_rfl) (fun _ _ _ h => h) (Or.inl ⟨by rfl, fun w' hw' => by go_simp⟩) hS ?_
  simp only [Act.put, List.setIfInBounds_toArray, List.set_cons_zero, List.set_cons_succ]
  refine wpAnyH_take (i := 2) (v := .slice (some ⟨b, off, none⟩) (m + 1) c) rfl (by kernel_rfl) (by kernel_rfl) (by kernel_rfl) (fun _ _ _ h => h) (Or.inl ⟨by rfl, fun w' hw' => by go_simp⟩) hS ?_
  simp only [Act.put, List.setIfInBounds_toArray, List.set_cons_zero, List.set_cons_succ]
  refine wpAnyH_take (i := 3) (v := .int .i64 ((m : Int) + 1)) rfl (by kernel_rfl) (by kernel_rfl) (by kernel_rfl) (fun _ _ _ h => h) (Or.inl ⟨by rfl, fun w' hw' => by go_simp⟩) hS ?_
  simp only [Act.put, List.setIfInBounds_toArray, List.set_cons_zero, List.set_cons_succ]
  refine wpAnyH_take (i := 4) (v := .int .i64 (m : Int)) rfl (by kernel_rfl) (by kernel_rfl) (by kernel_rfl) (fun _ _ _ h => h) (Or.inl ⟨by rfl, fun w' hw' => by go_simp⟩) hS ?_
  simp only [Act.put, List.setIfInBounds_toArray, List.set_cons_zero, List.set_cons_succ]
  refine wpAnyH_take (i := 5) (v := .slice (some ⟨b, off, none⟩) m c) rfl (by kernel_rfl) (by kernel_rfl) (by kernel_rfl) (fun _ _ _ h => h) (Or.inl ⟨by rfl, fun w' hw' => by go_simp⟩) hS ?_
  simp only [Act.put, List.setIfInBounds_toArray, List.set_cons_zero, List.set_cons_succ]
  refine wpAnyH_ready (rs := [0, 8]) (by kernel_rfl) (by simp) (AllReadyH.cons rfl (fun K hK => ?_) (AllReadyH.cons rfl (fun K hK => ?_) AllReadyH.nil))
  · go_simp
    refine hK.out _ _ (keepA hS _) (fun hS => ?_)
    refine wpAnyH_ready (rs := [6, 8]) (by kernel_rfl) (by simp) (AllReadyH.cons rfl (fun K hK => ?_) (AllReadyH.cons rfl (fun K hK => ?_) AllReadyH.nil))
    · refine step_appF (by rfl) (.tmp 5) (.tmp 10) (by rfl) (w.heap.size + 1) m c (.slice (some ⟨W1.heap.size, 0, none⟩) 0 0) (some ⟨b, off, none⟩) [] r (by rfl) ((Own.empty (heap_alloc_new _ _)).base (by have := HS.out; omega)) (by rfl) HL.out.symm (fun h => by cases h) (HT.out _ (Below.heap_alloc _ _ _ (by rw [HS.out]; omega))) (by simp [HL.out]; omega) (by simp [HS.out]) ?_
      intro v1 w1 hv1 hg1
      simp only [Act.put, List.setIfInBounds_toArray, List.set_cons_zero, List.set_cons_succ]
      refine hK.out _ _ (keepG hS hg1 (fun e => by simp only [Value.ownBlock, Option.some.injEq] at e; have := HS.out; omega)) (fun hS => ?_)
      refine wpAnyH_ready (rs := [8]) (by kernel_rfl) (by simp) (AllReadyH.cons rfl (fun K hK => ?_) AllReadyH.nil)
      refine step_row (by rfl) (.tmp 12) (by rfl) f (by rfl) ?_
      simp only [Act.put, List.setIfInBounds_toArray, List.set_cons_zero, List.set_cons_succ]
      refine hK.out _ _ (keepA hS _) (fun hS => ?_)
      refine wpAnyH_ready (rs := [9]) (by kernel_rfl) (by simp) (AllReadyH.cons rfl (fun K hK => ?_) AllReadyH.nil)
      refine step_appF (by rfl) (.tmp 11) (.tmp 13) (by rfl) (w.heap.size + 1) 1 1 v1 (some ⟨w1.heap.size, 0, none⟩) ([] ++ r) [f] (by rfl) (hv1.next ((Below.refl _ _).alloc (Nat.le_refl _) _)) (by rfl) rfl (fun h => by cases h) (FsAt.one (heap_alloc_new w1 _)) (by simp [HL.out]; omega) (by have := hg1.size; simp [HS.out] at this ⊢; omega) ?_
      intro v2 w2 hv2 hg2
      simp only [Act.put, List.setIfInBounds_toArray, List.set_cons_zero, List.set_cons_succ]
      refine hK.out _ _ (keepG hS hg2 (fun e => by have := (hv1.lt e.symm).1; omega)) (fun hS => ?_)
      refine wpAnyH_ready (rs := [10]) (by kernel_rfl) (by simp) (AllReadyH.cons rfl (fun K hK => ?_) AllReadyH.nil)
      go_simp
      refine hK.out _ _ hS (fun hS => ?_)
      refine wpAnyH_done (by kernel_rfl) ?_ _
      have HBf : Hid (Below w.heap.size w w2) := Lib.hid (((HB.out.alloc (by rw [HS.out]; omega) _).grown (grown_drew hg1) (by (first | (simp [HS.out]; done) | (simp [HS.out]; omega))) (fun k e => by simp only [Value.ownBlock, Option.some.injEq] at e; have := HS.out; omega)).alloc (by have := hg1.size; simp [HS.out] at this; omega) _ |>.grown hg2 (by have := hg1.size; simp [HS.out] at this ⊢; omega) (fun k e => by have := (hv1.lt e).1; omega))
      have HV2 := Lib.hid hv2
      clear hv1 hv2 hg1 hg2 hS hK
      obtain ⟨A2, c2, rfl⟩ := HV2.out.slice
      have HLf : Hid (([] ++ r ++ [f]).length = m + 1) := Lib.hid (by simp [HL.out])
      rw [HLf.out]
      go_wp2_with fail
      go_ret
      exact ⟨A2, c2, rfl, Own.at HV2.out, by have := Own.cap HV2.out; rw [HLf.out] at this; exact this, HBf.out, by have h := HV2.out.base (Nat.le_succ w.heap.size); rw [HLf.out] at h; exact h⟩
    · refine step_row (by rfl) (.tmp 12) (by rfl) f (by rfl) ?_
      simp only [Act.put, List.setIfInBounds_toArray, List.set_cons_zero, List.set_cons_succ]
      rw [show (W1.alloc (.cells #[] 56)).drew.heap.size = W1.heap.size + 1 from World.size_alloc _ _]
      refine hK.out _ _ (keepA hS _) (fun hS => ?_)
      refine wpAnyH_ready (rs := [6]) (by kernel_rfl) (by simp) (AllReadyH.cons rfl (fun K hK => ?_) AllReadyH.nil)
      refine step_appF (by rfl) (.tmp 5) (.tmp 10) (by rfl) (w.heap.size + 1) m c (.slice (some ⟨W1.heap.size, 0, none⟩) 0 0) (some ⟨b, off, none⟩) [] r (by rfl) ((Own.empty (keepA (heap_alloc_new _ _) _)).base (by have := HS.out; omega)) (by rfl) HL.out.symm (fun h => by cases h) (HT.out _ ((Below.heap_alloc _ _ _ (by simp [HS.out]; omega)).trans (Below.heap_alloc _ _ _ (by rw [HS.out]; omega)))) (by simp [HL.out]; omega) (by (first | (simp [HS.out]; done) | (simp [HS.out]; omega))) ?_
      intro v1 w1 hv1 hg1
      simp only [Act.put, List.setIfInBounds_toArray, List.set_cons_zero, List.set_cons_succ]
      refine hK.out _ _ (keepG hS hg1 (fun e => by simp only [Value.ownBlock, Option.some.injEq] at e; have := HS.out; omega)) (fun hS => ?_)
      refine wpAnyH_ready (rs := [9]) (by kernel_rfl) (by simp) (AllReadyH.cons rfl (fun K hK => ?_) AllReadyH.nil)
      refine step_appF (by rfl) (.tmp 11) (.tmp 13) (by rfl) (w.heap.size + 1) 1 1 v1 (some ⟨W1.heap.size + 1, 0, none⟩) ([] ++ r) [f] (by rfl) (hv1) (by rfl) rfl (fun h => by cases h) (FsAt.one (keepG (frame_new1 W1 _ f) (grown_drew hg1) (fun e => by simp only [Value.ownBlock, Option.some.injEq] at e; omega))) (by simp [HL.out]; omega) (by have := hg1.size; simp [HS.out] at this ⊢; omega) ?_
      intro v2 w2 hv2 hg2
      simp only [Act.put, List.setIfInBounds_toArray, List.set_cons_zero, List.set_cons_succ]
      refine hK.out _ _ (keepG hS hg2 (fun e => by have := (hv1.lt e.symm).1; omega)) (fun hS => ?_)
      refine wpAnyH_ready (rs := [10]) (by kernel_rfl) (by simp) (AllReadyH.cons rfl (fun K hK => ?_) AllReadyH.nil)
      go_simp
      refine hK.out _ _ hS (fun hS => ?_)
      refine wpAnyH_done (by kernel_rfl) ?_ _
      have HBf : Hid (Below w.heap.size w w2) := Lib.hid ((((HB.out.alloc (by rw [HS.out]; omega) _).alloc (by (first | (simp [HS.out]; done) | (simp [HS.out]; omega))) _).grown (grown_drew hg1) (by (first | (simp [HS.out]; done) | (simp [HS.out]; omega))) (fun k e => by simp only [Value.ownBlock, Option.some.injEq] at e; have := HS.out; omega)).grown hg2 (by have := hg1.size; simp [HS.out] at this ⊢; omega) (fun k e => by have := (hv1.lt e).1; omega))
      have HV2 := Lib.hid hv2
      clear hv1 hv2 hg1 hg2 hS hK
      obtain ⟨A2, c2, rfl⟩ := HV2.out.slice
      have HLf : Hid (([] ++ r ++ [f]).length = m + 1) := Lib.hid (by simp [HL.out])
      rw [HLf.out]
      go_wp2_with fail
      go_ret
      exact ⟨A2, c2, rfl, Own.at HV2.out, by have := Own.cap HV2.out; rw [HLf.out] at this; exact this, HBf.out, by have h := HV2.out.base (Nat.le_succ w.heap.size); rw [HLf.out] at h; exact h⟩
  · refine step_row (by rfl) (.tmp 12) (by rfl) f (by rfl) ?_
    simp only [Act.put, List.setIfInBounds_toArray, List.set_cons_zero, List.set_cons_succ]
    refine hK.out _ _ (keepA hS _) (fun hS => ?_)
    refine wpAnyH_ready (rs := [0]) (by kernel_rfl) (by simp) (AllReadyH.cons rfl (fun K hK => ?_) AllReadyH.nil)
    go_simp
    refine hK.out _ _ (keepA hS _) (fun hS => ?_)
    refine wpAnyH_ready (rs := [6]) (by kernel_rfl) (by simp) (AllReadyH.cons rfl (fun K hK => ?_) AllReadyH.nil)
    refine step_appF (by rfl) (.tmp 5) (.tmp 10) (by rfl) (w.heap.size + 1) m c (.slice (some ⟨W1.heap.size + 1, 0, none⟩) 0 0) (some ⟨b, off, none⟩) [] r (by rfl) (row3 W1 f _ (by have := HS.out; omega)) (by rfl) HL.out.symm (fun h => by cases h) (HT.out _ ((Below.heap_alloc _ _ _ (by simp [HS.out]; omega)).trans (Below.heap_alloc _ _ _ (by rw [HS.out]; omega)))) (by simp [HL.out]; omega) (by (first | (simp [HS.out]; done) | (simp [HS.out]; omega))) ?_
    intro v1 w1 hv1 hg1
    simp only [Act.put, List.setIfInBounds_toArray, List.set_cons_zero, List.set_cons_succ]
    refine hK.out _ _ (keepG hS hg1 (fun e => by simp only [Value.ownBlock, Option.some.injEq] at e; have := HS.out; omega)) (fun hS => ?_)
    refine wpAnyH_ready (rs := [9]) (by kernel_rfl) (by simp) (AllReadyH.cons rfl (fun K hK => ?_) AllReadyH.nil)
    refine step_appF (by rfl) (.tmp 11) (.tmp 13) (by rfl) (w.heap.size + 1) 1 1 v1 (some ⟨W1.heap.size, 0, none⟩) ([] ++ r) [f] (by rfl) (hv1) (by rfl) rfl (fun h => by cases h) (FsAt.one (keepG (keepA (heap_alloc_new W1 _) _) (grown_drew hg1) (fun e => by simp only [Value.ownBlock, Option.some.injEq] at e; omega))) (by simp [HL.out]; omega) (by have := hg1.size; simp [HS.out] at this ⊢; omega) ?_
    intro v2 w2 hv2 hg2
    simp only [Act.put, List.setIfInBounds_toArray, List.set_cons_zero, List.set_cons_succ]
    refine hK.out _ _ (keepG hS hg2 (fun e => by have := (hv1.lt e.symm).1; omega)) (fun hS => ?_)
    refine wpAnyH_ready (rs := [10]) (by kernel_rfl) (by simp) (AllReadyH.cons rfl (fun K hK => ?_) AllReadyH.nil)
    go_simp
    refine hK.out _ _ hS (fun hS => ?_)
    refine wpAnyH_done (by kernel_rfl) ?_ _
    have HBf : Hid (Below w.heap.size w w2) := Lib.hid ((((HB.out.alloc (by rw [HS.out]; omega) _).alloc (by (first | (simp [HS.out]; done) | (simp [HS.out]; omega))) _).grown (grown_drew hg1) (by (first | (simp [HS.out]; done) | (simp [HS.out]; omega))) (fun k e => by simp only [Value.ownBlock, Option.some.injEq] at e; have := HS.out; omega)).grown hg2 (by have := hg1.size; simp [HS.out] at this ⊢; omega) (fun k e => by have := (hv1.lt e).1; omega))
    have HV2 := Lib.hid hv2
    clear hv1 hv2 hg1 hg2 hS hK
    obtain ⟨A2, c2, rfl⟩ := HV2.out.slice
    have HLf : Hid (([] ++ r ++ [f]).length = m + 1) := Lib.hid (by simp [HL.out])
    rw [HLf.out]
    go_wp2_with fail
    go_ret
    exact ⟨A2, c2, rfl, Own.at HV2.out, by have := Own.cap HV2.out; rw [HLf.out] at this; exact this, HBf.out, by have h := HV2.out.base (Nat.le_succ w.heap.size); rw [HLf.out] at h; exact h⟩
end Go.Proofs.Ytlkcpplpjjbiaaa.frames
