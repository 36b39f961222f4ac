/-
  The document's Do of rights. No condition. Printed by tools/mkrirefdo.py.
-/
import Derived.Test.YtjedinodopcdaaaDoorRiRef
import Derived.Test.YtjedinodopcdaaaDoorBBit
import Derived.Test.YtjedinodopcdaaaDoorObjSkip
namespace Go.Proofs.YtjedinodopcdaaaDoor.rig
open Go.RowKit Go.ChangeShapes
open Go.Proofs.YtjedinodopcdaaaDoor.obj
open Go.Proofs.YtjedinodopcdaaaDoor.bits (Is64 hasB minus)
set_option linter.unusedVariables false
set_option linter.unusedSimpArgs false

theorem cells4 {w : World} {g : Nat} {a b c d : Value} {T : TypeId} (h : w.heap[g]? = some (.cells #[a, b, c, d] T (0, 0))) : w.cell? ⟨g, 0, none⟩ = some a ∧ w.cell? ⟨g, 1, none⟩ = some b ∧ w.cell? ⟨g, 2, none⟩ = some c ∧ w.cell? ⟨g, 3, none⟩ = some d := by
  simp [World.cell?, h]
/-- While Do goes: the boxes of the rights and of the call, and what is answered. -/
structure Dz (w : World) (l : List Nat) (k f t : Int) (m : Nat) (r : List Nat) (W : World) : Prop where
  below : Below w.heap.size w W
  b0 : W.heap[w.heap.size]? = some (rO l)
  b1 : W.heap[w.heap.size + 1]? = some (.cells #[.int .i64 k, .int .i64 f, .int .i64 t, .int .u64 (m : Int)] 31 (0, 0))
  b2 : W.heap[w.heap.size + 2]? = some (rO r)
theorem dz_new (w : World) (l : List Nat) (k f t : Int) (m : Nat) : Dz w l k f t m zerosR (((w.alloc (rO l)).alloc (.cells #[.int .i64 k, .int .i64 f, .int .i64 t, .int .u64 (m : Int)] 31)).alloc (rO zerosR)) := by
  have z1 : (w.alloc (rO l)).heap.size = w.heap.size + 1 := World.size_alloc _ _
  have z2 : ((w.alloc (rO l)).alloc (.cells #[.int .i64 k, .int .i64 f, .int .i64 t, .int .u64 (m : Int)] 31)).heap.size = w.heap.size + 2 := by rw [World.size_alloc, z1]
  refine ⟨(((Below.refl _ w).alloc (Nat.le_refl _) _).alloc (by omega) _).alloc (by omega) _, ?_, ?_, ?_⟩
  · exact (Below.heap_alloc _ _ _ (by omega)).trans ((Below.heap_alloc _ _ _ (by omega)).trans (heap_alloc_new w _))
  · refine (Below.heap_alloc _ _ _ (by omega)).trans ?_
    rw [← z1]
    exact heap_alloc_new _ _
  · rw [← z2]
    exact heap_alloc_new _ _
section
variable {w W W' : World} {l r : List Nat} {k f t : Int} {m : Nat}
theorem Dz.next (h : Dz w l k f t m r W) (hb : Below W.heap.size W W') : Dz w l k f t m r W' :=
  ⟨h.below.trans (hb.mono h.below.size), (hb.block _ (lt_of_block h.b0)).trans h.b0, (hb.block _ (lt_of_block h.b1)).trans h.b1, (hb.block _ (lt_of_block h.b2)).trans h.b2⟩
theorem Dz.store (h : Dz w l k f t m r W) (q : List Nat) : Dz w l k f t m q (W.setRow (w.heap.size + 2) (rC q).toArray) :=
  ⟨row_below h.below (by omega) _, (row_far _ (by omega)).trans h.b0, (row_far _ (by omega)).trans h.b1, r_turned h.b2 q⟩
theorem Dz.drew (h : Dz w l k f t m r W) : Dz w l k f t m r W.drew := ⟨h.below.drew, h.b0, h.b1, h.b2⟩
theorem Dz.cells (h : Dz w l k f t m r W) : W.cell? ⟨w.heap.size + 1, 0, none⟩ = some (.int .i64 k) ∧ W.cell? ⟨w.heap.size + 1, 1, none⟩ = some (.int .i64 f) ∧ W.cell? ⟨w.heap.size + 1, 2, none⟩ = some (.int .i64 t) ∧ W.cell? ⟨w.heap.size + 1, 3, none⟩ = some (.int .u64 (m : Int)) := cells4 h.b1
end
theorem ret_do21 {W w : World} {act : Act} {l q r : List Nat} {k f t : Int} {m : Nat} (h4 : act.tmps[4]?.getD undef = .pointer (some ⟨w.heap.size + 2, 0, none⟩)) (hd : act.defers = []) (hE : Dz w l k f t m q W) (hq : q = r) :
    bodyPost Tryd.prog Tryd.f9 (fun e w' => e = .returned (rV r) ∧ Below w.heap.size w w') .ret act W := by
  subst hq
  have hL := run_loadVar_mid (P := Tryd.prog) W (w.heap.size + 2) 0 28 (rC q) _ (r_range hE.b2) Tryd.underlying28 rfl (r_size (rC_length q))
  refine bodyPost_ret (v := rV q) ?_ hd ⟨rfl, hE.below⟩
  simp [results, Tryd.results9, asAddr, h4, hL, Sem.run_bind, Sem.run_pure, Result.andThen, rV]
section
variable {ops : Array Oper} {S : World → Prop} {o : Oper} {a : Act}
theorem yields_ofld (hg : o.guard = none) (y : Operand) (k : Nat) (hk : k < 4) (ho : o.op = .fieldAddr 31 y k) (g : Nat) (hx : a.eval y = .pointer (some ⟨g, 0, none⟩)) : YieldsIf Tryd.prog ops S o (.pointer (some ⟨g, k, none⟩)) a :=
  .inl ⟨by simp [Region.wanted, hg], fun w' _ => by
    unfold execOp
    simp only [ho, hx]
    match k, hk with
    | 0, _ => go_simp
    | 1, _ => go_simp
    | 2, _ => go_simp
    | 3, _ => go_simp⟩
theorem yields_u64 (hg : o.guard = none) (y : Operand) (ho : o.op = .load 25 y) (p : Addr) (hx : a.eval y = .pointer (some p)) (n : Int) (hS : ∀ w, S w → w.cell? p = some (.int .u64 n)) : YieldsIf Tryd.prog ops S o (.int .u64 n) a :=
  .inl ⟨by simp [Region.wanted, hg], fun w' h => by
    have hc := hS w' h
    unfold execOp
    simp only [ho, hx]
    go_simp⟩
theorem yields_and (hg : o.guard = none) (x y : Operand) (ho : o.op = .binOp .and 25 x y 25) (n m : Nat) (hx : a.eval x = .int .u64 (n : Int)) (hy : a.eval y = .int .u64 (m : Int)) (hn : Is64 n) (hm : Is64 m) : YieldsIf Tryd.prog ops S o (.int .u64 ((n &&& m : Nat) : Int)) a :=
  .inl ⟨by simp [Region.wanted, hg], fun w' _ => by
    have he := bits.and_u64 hn hm
    unfold execOp
    simp only [ho, hx, hy]
    go_simp⟩
theorem yields_or (hg : o.guard = none) (x y : Operand) (ho : o.op = .binOp .or 25 x y 25) (n m : Nat) (hx : a.eval x = .int .u64 (n : Int)) (hy : a.eval y = .int .u64 (m : Int)) (hn : Is64 n) (hm : Is64 m) : YieldsIf Tryd.prog ops S o (.int .u64 ((n ||| m : Nat) : Int)) a :=
  .inl ⟨by simp [Region.wanted, hg], fun w' _ => by
    have he := bits.or_u64 hn hm
    unfold execOp
    simp only [ho, hx, hy]
    go_simp⟩
end
set_option maxRecDepth 100000 in
set_option maxHeartbeats 4000000 in
theorem refDo21_any (l : List Nat) (k f t : Int) (m : Nat) (w : World) (hl : Fine l) (hm : Is64 m) :
    Calls Tryd.prog 9 #[rV l, .agg #[.int .i64 k, .int .i64 f, .int .i64 t, .int .u64 (m : Int)]] w fun e w' => e = .returned (rV (doR l k f t m)) ∧ Below w.heap.size w w' := by
  have CO : ∀ u W, Hid (Calls Tryd.prog 16 #[rV l, .int .i64 u] W fun e w' => e = .returned (.int .u64 ((rv l u : Nat) : Int)) ∧ Below W.heap.size W w') := fun u W => Lib.hid (refOf21_any l u W)
  have CS : ∀ (x : Nat) W, Hid (Calls Tryd.prog 22 #[rV l, .int .i64 t, .int .u64 (x : Int)] W fun e w' => e = .returned (rV (setR l t x)) ∧ Below W.heap.size W w') := fun x W => Lib.hid (refSet21_any l t x W hl.len)
  have CA := fun W => Lib.hid (refAll21_any W)
  have HZ := Lib.hid (dz_new w l k f t m)
  obtain ⟨q, hq⟩ : ∃ q, q = doR l k f t m := ⟨_, rfl⟩
  rw [← hq]
  have HQ := Lib.hid hq
  have HM := Lib.hid hm
  have HX := Lib.hid (rv_is hl t)
  have HY := Lib.hid (rv_is hl f)
  clear hq hl hm
  go_enter Tryd.func9, Tryd.ntmps9
  go_upto_region 1 with (first | refine wr_box rfl _ rfl l rfl ?_ | refine wr_alloc rfl rfl ?_)
  try simp only [Act.put, List.setIfInBounds_toArray, List.set_cons_zero, List.set_cons_succ, World.size_alloc, Nat.add_assoc, Nat.reduceAdd]
  generalize ((w.alloc (rO l)).alloc (.cells #[.int .i64 k, .int .i64 f, .int .i64 t, .int .u64 (m : Int)] 31)).alloc (rO zerosR) = W1 at *
  obtain ⟨y0, y1, y2, y3⟩ := HZ.out.cells
  go_wp2_with (first | refine wr_load rfl _ rfl w.heap.size rfl l HZ.out.b0 ?_)
  refine (CO t W1).out.mono ?_
  rintro _ w2 ⟨rfl, hb⟩
  have HZ2 := Lib.hid (HZ.out.next hb)
  clear hb HZ y0 y1 y2 y3
  obtain ⟨y0, y1, y2, y3⟩ := HZ2.out.cells
  have HXr := Lib.hid (Eq.refl (rv l t))
  generalize hx : rv l t = x at *
  have HXe := Lib.hid hx
  clear hx HXr
  by_cases h0 : k = 0
  · subst h0
    have HQ2 : Hid (q = setR l t allR) := Lib.hid (by rw [HQ.out]; unfold doR; rw [if_pos rfl])
    clear HQ
    go_upto_region 4 with fail
    refine wp_hold_act (fun a0 HA0 => ?_)
    have z0 : a0.tmps.size = 61 := by rw [HA0.out]; rfl
    have dd0 : a0.defers = [] := by rw [HA0.out]
    have f0_2 : a0.eval (.tmp 2) = .pointer (some ⟨w.heap.size, 0, none⟩) := by rw [HA0.out]; rfl
    have f0_3 : a0.eval (.tmp 3) = .pointer (some ⟨w.heap.size + 1, 0, none⟩) := by rw [HA0.out]; rfl
    have f0_4 : a0.eval (.tmp 4) = .pointer (some ⟨w.heap.size + 2, 0, none⟩) := by rw [HA0.out]; rfl
    clear HA0
    refine wp_region_held_drew (S := fun w' => ∃ q, Dz w l 0 f t m q w') (by kernel_rfl) (⟨_, HZ2.out.drew⟩) (fun hS => ?_)
    refine wpAnyH_take (i := 0) (v := rV l) rfl (by kernel_rfl) (by kernel_rfl) (by kernel_rfl) (fun _ _ _ h => h) (yields_r rfl (.tmp 2) rfl _ f0_2 l (fun _ h => h.choose_spec.b0)) hS ?_
    obtain ⟨a1, hA1⟩ : ∃ a', a' = a0.put (some 14) (rV l) := ⟨_, rfl⟩
    change wpAnyH _ _ _ _ _ _ _ (a0.put (some 14) (rV l)) _
    rw [← hA1]
    have f1_14 : a1.eval (.tmp 14) = rV l := by rw [hA1]; exact Act.eval_put_same _ _ _ (by omega)
    have f1_2 : a1.eval (.tmp 2) = .pointer (some ⟨w.heap.size, 0, none⟩) := by rw [hA1]; exact (Act.eval_put_ne _ _ _ _ (by decide)).trans f0_2
    have f1_3 : a1.eval (.tmp 3) = .pointer (some ⟨w.heap.size + 1, 0, none⟩) := by rw [hA1]; exact (Act.eval_put_ne _ _ _ _ (by decide)).trans f0_3
    have f1_4 : a1.eval (.tmp 4) = .pointer (some ⟨w.heap.size + 2, 0, none⟩) := by rw [hA1]; exact (Act.eval_put_ne _ _ _ _ (by decide)).trans f0_4
    have z1 : a1.tmps.size = 61 := by rw [hA1, Act.size_put]; exact z0
    have dd1 : a1.defers = [] := by rw [hA1, Act.defers_put']; exact dd0
    clear hA1 z0 dd0 f0_2 f0_3 f0_4
    refine wpAnyH_take (i := 1) (v := .pointer (some ⟨w.heap.size + 1, 2, none⟩)) rfl (by kernel_rfl) (by kernel_rfl) (by kernel_rfl) (fun _ _ _ h => h) (yields_ofld rfl (.tmp 3) 2 (by omega) rfl _ f1_3) hS ?_
    obtain ⟨a2, hA2⟩ : ∃ a', a' = a1.put (some 15) (.pointer (some ⟨w.heap.size + 1, 2, none⟩)) := ⟨_, rfl⟩
    change wpAnyH _ _ _ _ _ _ _ (a1.put (some 15) (.pointer (some ⟨w.heap.size + 1, 2, none⟩))) _
    rw [← hA2]
    have f2_15 : a2.eval (.tmp 15) = .pointer (some ⟨w.heap.size + 1, 2, none⟩) := by rw [hA2]; exact Act.eval_put_same _ _ _ (by omega)
    have f2_14 : a2.eval (.tmp 14) = rV l := by rw [hA2]; exact (Act.eval_put_ne _ _ _ _ (by decide)).trans f1_14
    have f2_2 : a2.eval (.tmp 2) = .pointer (some ⟨w.heap.size, 0, none⟩) := by rw [hA2]; exact (Act.eval_put_ne _ _ _ _ (by decide)).trans f1_2
    have f2_3 : a2.eval (.tmp 3) = .pointer (some ⟨w.heap.size + 1, 0, none⟩) := by rw [hA2]; exact (Act.eval_put_ne _ _ _ _ (by decide)).trans f1_3
    have f2_4 : a2.eval (.tmp 4) = .pointer (some ⟨w.heap.size + 2, 0, none⟩) := by rw [hA2]; exact (Act.eval_put_ne _ _ _ _ (by decide)).trans f1_4
    have z2 : a2.tmps.size = 61 := by rw [hA2, Act.size_put]; exact z1
    have dd2 : a2.defers = [] := by rw [hA2, Act.defers_put']; exact dd1
    clear hA2 z1 dd1 f1_14 f1_2 f1_3 f1_4
    refine wpAnyH_take (i := 2) (v := .int .i64 t) rfl (by kernel_rfl) (by kernel_rfl) (by kernel_rfl) (fun _ _ _ h => h) (yields_int rfl (.tmp 15) rfl _ f2_15 t (fun _ h => h.choose_spec.cells.2.2.1)) hS ?_
    obtain ⟨a3, hA3⟩ : ∃ a', a' = a2.put (some 16) (.int .i64 t) := ⟨_, rfl⟩
    change wpAnyH _ _ _ _ _ _ _ (a2.put (some 16) (.int .i64 t)) _
    rw [← hA3]
    have f3_16 : a3.eval (.tmp 16) = .int .i64 t := by rw [hA3]; exact Act.eval_put_same _ _ _ (by omega)
    have f3_14 : a3.eval (.tmp 14) = rV l := by rw [hA3]; exact (Act.eval_put_ne _ _ _ _ (by decide)).trans f2_14
    have f3_2 : a3.eval (.tmp 2) = .pointer (some ⟨w.heap.size, 0, none⟩) := by rw [hA3]; exact (Act.eval_put_ne _ _ _ _ (by decide)).trans f2_2
    have f3_3 : a3.eval (.tmp 3) = .pointer (some ⟨w.heap.size + 1, 0, none⟩) := by rw [hA3]; exact (Act.eval_put_ne _ _ _ _ (by decide)).trans f2_3
    have f3_4 : a3.eval (.tmp 4) = .pointer (some ⟨w.heap.size + 2, 0, none⟩) := by rw [hA3]; exact (Act.eval_put_ne _ _ _ _ (by decide)).trans f2_4
    have z3 : a3.tmps.size = 61 := by rw [hA3, Act.size_put]; exact z2
    have dd3 : a3.defers = [] := by rw [hA3, Act.defers_put']; exact dd2
    clear hA3 z2 dd2 f2_15 f2_14 f2_2 f2_3 f2_4
    refine wpAnyH_ready (rs := [3]) (by kernel_rfl) (by simp) (AllReadyH.cons (by simp only [List.getElem?_toArray, List.getElem?_cons_succ, List.getElem?_cons_zero]; rfl) (fun K hK => ?_) AllReadyH.nil)
    refine step_call (by rfl) 23 #[] #[] (by rfl) #[] (by simp only [List.map_toArray, List.map_cons, List.map_nil, ]) Tryd.func23 (by kernel_rfl) rfl ((CA w2.drew).out) (fun e w' hR => ?_)
    obtain ⟨rfl, rfl⟩ := hR
    refine ⟨_, rfl, hK.out _ _ (hS) (fun hS => ?_)⟩
    obtain ⟨a4, hA4⟩ : ∃ a', a' = a3.put (some 17) (.int .u64 ((allR : Nat) : Int)) := ⟨_, rfl⟩
    change wpAnyH _ _ _ _ _ _ _ (a3.put (some 17) (.int .u64 ((allR : Nat) : Int))) _
    rw [← hA4]
    have f4_17 : a4.eval (.tmp 17) = .int .u64 ((allR : Nat) : Int) := by rw [hA4]; exact Act.eval_put_same _ _ _ (by omega)
    have f4_16 : a4.eval (.tmp 16) = .int .i64 t := by rw [hA4]; exact (Act.eval_put_ne _ _ _ _ (by decide)).trans f3_16
    have f4_14 : a4.eval (.tmp 14) = rV l := by rw [hA4]; exact (Act.eval_put_ne _ _ _ _ (by decide)).trans f3_14
    have f4_2 : a4.eval (.tmp 2) = .pointer (some ⟨w.heap.size, 0, none⟩) := by rw [hA4]; exact (Act.eval_put_ne _ _ _ _ (by decide)).trans f3_2
    have f4_3 : a4.eval (.tmp 3) = .pointer (some ⟨w.heap.size + 1, 0, none⟩) := by rw [hA4]; exact (Act.eval_put_ne _ _ _ _ (by decide)).trans f3_3
    have f4_4 : a4.eval (.tmp 4) = .pointer (some ⟨w.heap.size + 2, 0, none⟩) := by rw [hA4]; exact (Act.eval_put_ne _ _ _ _ (by decide)).trans f3_4
    have z4 : a4.tmps.size = 61 := by rw [hA4, Act.size_put]; exact z3
    have dd4 : a4.defers = [] := by rw [hA4, Act.defers_put']; exact dd3
    clear hA4 z3 dd3 f3_16 f3_14 f3_2 f3_3 f3_4
    refine wpAnyH_ready (rs := [4]) (by kernel_rfl) (by simp) (AllReadyH.cons (by simp only [List.getElem?_toArray, List.getElem?_cons_succ, List.getElem?_cons_zero]; rfl) (fun K hK => ?_) AllReadyH.nil)
    refine step_call (by rfl) 22 #[.tmp 14, .tmp 16, .tmp 17] #[28, 3, 25] (by rfl) #[rV l, .int .i64 t, .int .u64 ((allR : Nat) : Int)] (by simp only [List.map_toArray, List.map_cons, List.map_nil, f4_14, f4_16, f4_17]) Tryd.func22 (by kernel_rfl) rfl ((CS allR w2.drew).out) (fun e w' hR => ?_)
    obtain ⟨rfl, hb3⟩ := hR
    rw [← HQ2.out]
    have H1 := Lib.hid (HZ2.out.drew.next hb3)
    clear hb3
    refine ⟨_, rfl, hK.out _ _ (⟨_, H1.out⟩) (fun hS => ?_)⟩
    obtain ⟨a5, hA5⟩ : ∃ a', a' = a4.put (some 18) (rV q) := ⟨_, rfl⟩
    change wpAnyH _ _ _ _ _ _ _ (a4.put (some 18) (rV q)) _
    rw [← hA5]
    have f5_18 : a5.eval (.tmp 18) = rV q := by rw [hA5]; exact Act.eval_put_same _ _ _ (by omega)
    have f5_2 : a5.eval (.tmp 2) = .pointer (some ⟨w.heap.size, 0, none⟩) := by rw [hA5]; exact (Act.eval_put_ne _ _ _ _ (by decide)).trans f4_2
    have f5_3 : a5.eval (.tmp 3) = .pointer (some ⟨w.heap.size + 1, 0, none⟩) := by rw [hA5]; exact (Act.eval_put_ne _ _ _ _ (by decide)).trans f4_3
    have f5_4 : a5.eval (.tmp 4) = .pointer (some ⟨w.heap.size + 2, 0, none⟩) := by rw [hA5]; exact (Act.eval_put_ne _ _ _ _ (by decide)).trans f4_4
    have z5 : a5.tmps.size = 61 := by rw [hA5, Act.size_put]; exact z4
    have dd5 : a5.defers = [] := by rw [hA5, Act.defers_put']; exact dd4
    clear hA5 z4 dd4 f4_17 f4_16 f4_14 f4_2 f4_3 f4_4
    refine wpAnyH_ready (rs := [5]) (by kernel_rfl) (by simp) (AllReadyH.cons (by simp only [List.getElem?_toArray, List.getElem?_cons_succ, List.getElem?_cons_zero]; rfl) (fun K hK => ?_) AllReadyH.nil)
    refine sr_store (by rfl) (.tmp 4) (.tmp 18) (by rfl) (w.heap.size + 2) zerosR q f5_4 f5_18 H1.out.b2 ?_
    refine hK.out _ _ (⟨_, H1.out.store _⟩) (fun hS => ?_)
    change wpAnyH _ _ _ _ _ _ _ a5 _
    refine wpAnyH_done (by kernel_rfl) ?_ _
    go_wp2_with fail
    exact ret_do21 (by rw [← Array.getD_eq_getD_getElem?]; exact f5_4) dd5 (H1.out.store q) rfl
  have e0 : (k == 0) = false := by rw [beq_eq_false_iff_ne]; exact h0
  by_cases h1 : k = 1
  · subst h1
    have HQ2 : Hid (q = setR l t (rv l f &&& m)) := Lib.hid (by rw [HQ.out]; unfold doR; rw [if_neg (by decide), if_pos rfl])
    clear HQ
    go_upto_region 6 with fail
    refine wp_hold_act (fun a0 HA0 => ?_)
    have z0 : a0.tmps.size = 61 := by rw [HA0.out]; rfl
    have dd0 : a0.defers = [] := by rw [HA0.out]
    have f0_2 : a0.eval (.tmp 2) = .pointer (some ⟨w.heap.size, 0, none⟩) := by rw [HA0.out]; rfl
    have f0_3 : a0.eval (.tmp 3) = .pointer (some ⟨w.heap.size + 1, 0, none⟩) := by rw [HA0.out]; rfl
    have f0_4 : a0.eval (.tmp 4) = .pointer (some ⟨w.heap.size + 2, 0, none⟩) := by rw [HA0.out]; rfl
    clear HA0
    refine wp_region_held_drew (S := fun w' => ∃ q, Dz w l 1 f t m q w') (by kernel_rfl) (⟨_, HZ2.out.drew⟩) (fun hS => ?_)
    refine wpAnyH_take (i := 0) (v := rV l) rfl (by kernel_rfl) (by kernel_rfl) (by kernel_rfl) (fun _ _ _ h => h) (yields_r rfl (.tmp 2) rfl _ f0_2 l (fun _ h => h.choose_spec.b0)) hS ?_
    obtain ⟨a1, hA1⟩ : ∃ a', a' = a0.put (some 21) (rV l) := ⟨_, rfl⟩
    change wpAnyH _ _ _ _ _ _ _ (a0.put (some 21) (rV l)) _
    rw [← hA1]
    have f1_21 : a1.eval (.tmp 21) = rV l := by rw [hA1]; exact Act.eval_put_same _ _ _ (by omega)
    have f1_2 : a1.eval (.tmp 2) = .pointer (some ⟨w.heap.size, 0, none⟩) := by rw [hA1]; exact (Act.eval_put_ne _ _ _ _ (by decide)).trans f0_2
    have f1_3 : a1.eval (.tmp 3) = .pointer (some ⟨w.heap.size + 1, 0, none⟩) := by rw [hA1]; exact (Act.eval_put_ne _ _ _ _ (by decide)).trans f0_3
    have f1_4 : a1.eval (.tmp 4) = .pointer (some ⟨w.heap.size + 2, 0, none⟩) := by rw [hA1]; exact (Act.eval_put_ne _ _ _ _ (by decide)).trans f0_4
    have z1 : a1.tmps.size = 61 := by rw [hA1, Act.size_put]; exact z0
    have dd1 : a1.defers = [] := by rw [hA1, Act.defers_put']; exact dd0
    clear hA1 z0 dd0 f0_2 f0_3 f0_4
    refine wpAnyH_take (i := 1) (v := .pointer (some ⟨w.heap.size + 1, 2, none⟩)) rfl (by kernel_rfl) (by kernel_rfl) (by kernel_rfl) (fun _ _ _ h => h) (yields_ofld rfl (.tmp 3) 2 (by omega) rfl _ f1_3) hS ?_
    obtain ⟨a2, hA2⟩ : ∃ a', a' = a1.put (some 22) (.pointer (some ⟨w.heap.size + 1, 2, none⟩)) := ⟨_, rfl⟩
    change wpAnyH _ _ _ _ _ _ _ (a1.put (some 22) (.pointer (some ⟨w.heap.size + 1, 2, none⟩))) _
    rw [← hA2]
    have f2_22 : a2.eval (.tmp 22) = .pointer (some ⟨w.heap.size + 1, 2, none⟩) := by rw [hA2]; exact Act.eval_put_same _ _ _ (by omega)
    have f2_21 : a2.eval (.tmp 21) = rV l := by rw [hA2]; exact (Act.eval_put_ne _ _ _ _ (by decide)).trans f1_21
    have f2_2 : a2.eval (.tmp 2) = .pointer (some ⟨w.heap.size, 0, none⟩) := by rw [hA2]; exact (Act.eval_put_ne _ _ _ _ (by decide)).trans f1_2
    have f2_3 : a2.eval (.tmp 3) = .pointer (some ⟨w.heap.size + 1, 0, none⟩) := by rw [hA2]; exact (Act.eval_put_ne _ _ _ _ (by decide)).trans f1_3
    have f2_4 : a2.eval (.tmp 4) = .pointer (some ⟨w.heap.size + 2, 0, none⟩) := by rw [hA2]; exact (Act.eval_put_ne _ _ _ _ (by decide)).trans f1_4
    have z2 : a2.tmps.size = 61 := by rw [hA2, Act.size_put]; exact z1
    have dd2 : a2.defers = [] := by rw [hA2, Act.defers_put']; exact dd1
    clear hA2 z1 dd1 f1_21 f1_2 f1_3 f1_4
    refine wpAnyH_take (i := 2) (v := .int .i64 t) rfl (by kernel_rfl) (by kernel_rfl) (by kernel_rfl) (fun _ _ _ h => h) (yields_int rfl (.tmp 22) rfl _ f2_22 t (fun _ h => h.choose_spec.cells.2.2.1)) hS ?_
    obtain ⟨a3, hA3⟩ : ∃ a', a' = a2.put (some 23) (.int .i64 t) := ⟨_, rfl⟩
    change wpAnyH _ _ _ _ _ _ _ (a2.put (some 23) (.int .i64 t)) _
    rw [← hA3]
    have f3_23 : a3.eval (.tmp 23) = .int .i64 t := by rw [hA3]; exact Act.eval_put_same _ _ _ (by omega)
    have f3_21 : a3.eval (.tmp 21) = rV l := by rw [hA3]; exact (Act.eval_put_ne _ _ _ _ (by decide)).trans f2_21
    have f3_2 : a3.eval (.tmp 2) = .pointer (some ⟨w.heap.size, 0, none⟩) := by rw [hA3]; exact (Act.eval_put_ne _ _ _ _ (by decide)).trans f2_2
    have f3_3 : a3.eval (.tmp 3) = .pointer (some ⟨w.heap.size + 1, 0, none⟩) := by rw [hA3]; exact (Act.eval_put_ne _ _ _ _ (by decide)).trans f2_3
    have f3_4 : a3.eval (.tmp 4) = .pointer (some ⟨w.heap.size + 2, 0, none⟩) := by rw [hA3]; exact (Act.eval_put_ne _ _ _ _ (by decide)).trans f2_4
    have z3 : a3.tmps.size = 61 := by rw [hA3, Act.size_put]; exact z2
    have dd3 : a3.defers = [] := by rw [hA3, Act.defers_put']; exact dd2
    clear hA3 z2 dd2 f2_22 f2_21 f2_2 f2_3 f2_4
    refine wpAnyH_take (i := 3) (v := rV l) rfl (by kernel_rfl) (by kernel_rfl) (by kernel_rfl) (fun _ _ _ h => h) (yields_r rfl (.tmp 2) rfl _ f3_2 l (fun _ h => h.choose_spec.b0)) hS ?_
    obtain ⟨a4, hA4⟩ : ∃ a', a' = a3.put (some 24) (rV l) := ⟨_, rfl⟩
    change wpAnyH _ _ _ _ _ _ _ (a3.put (some 24) (rV l)) _
    rw [← hA4]
    have f4_24 : a4.eval (.tmp 24) = rV l := by rw [hA4]; exact Act.eval_put_same _ _ _ (by omega)
    have f4_23 : a4.eval (.tmp 23) = .int .i64 t := by rw [hA4]; exact (Act.eval_put_ne _ _ _ _ (by decide)).trans f3_23
    have f4_21 : a4.eval (.tmp 21) = rV l := by rw [hA4]; exact (Act.eval_put_ne _ _ _ _ (by decide)).trans f3_21
    have f4_2 : a4.eval (.tmp 2) = .pointer (some ⟨w.heap.size, 0, none⟩) := by rw [hA4]; exact (Act.eval_put_ne _ _ _ _ (by decide)).trans f3_2
    have f4_3 : a4.eval (.tmp 3) = .pointer (some ⟨w.heap.size + 1, 0, none⟩) := by rw [hA4]; exact (Act.eval_put_ne _ _ _ _ (by decide)).trans f3_3
    have f4_4 : a4.eval (.tmp 4) = .pointer (some ⟨w.heap.size + 2, 0, none⟩) := by rw [hA4]; exact (Act.eval_put_ne _ _ _ _ (by decide)).trans f3_4
    have z4 : a4.tmps.size = 61 := by rw [hA4, Act.size_put]; exact z3
    have dd4 : a4.defers = [] := by rw [hA4, Act.defers_put']; exact dd3
    clear hA4 z3 dd3 f3_23 f3_21 f3_2 f3_3 f3_4
    refine wpAnyH_take (i := 4) (v := .pointer (some ⟨w.heap.size + 1, 1, none⟩)) rfl (by kernel_rfl) (by kernel_rfl) (by kernel_rfl) (fun _ _ _ h => h) (yields_ofld rfl (.tmp 3) 1 (by omega) rfl _ f4_3) hS ?_
    obtain ⟨a5, hA5⟩ : ∃ a', a' = a4.put (some 25) (.pointer (some ⟨w.heap.size + 1, 1, none⟩)) := ⟨_, rfl⟩
    change wpAnyH _ _ _ _ _ _ _ (a4.put (some 25) (.pointer (some ⟨w.heap.size + 1, 1, none⟩))) _
    rw [← hA5]
    have f5_25 : a5.eval (.tmp 25) = .pointer (some ⟨w.heap.size + 1, 1, none⟩) := by rw [hA5]; exact Act.eval_put_same _ _ _ (by omega)
    have f5_24 : a5.eval (.tmp 24) = rV l := by rw [hA5]; exact (Act.eval_put_ne _ _ _ _ (by decide)).trans f4_24
    have f5_23 : a5.eval (.tmp 23) = .int .i64 t := by rw [hA5]; exact (Act.eval_put_ne _ _ _ _ (by decide)).trans f4_23
    have f5_21 : a5.eval (.tmp 21) = rV l := by rw [hA5]; exact (Act.eval_put_ne _ _ _ _ (by decide)).trans f4_21
    have f5_2 : a5.eval (.tmp 2) = .pointer (some ⟨w.heap.size, 0, none⟩) := by rw [hA5]; exact (Act.eval_put_ne _ _ _ _ (by decide)).trans f4_2
    have f5_3 : a5.eval (.tmp 3) = .pointer (some ⟨w.heap.size + 1, 0, none⟩) := by rw [hA5]; exact (Act.eval_put_ne _ _ _ _ (by decide)).trans f4_3
    have f5_4 : a5.eval (.tmp 4) = .pointer (some ⟨w.heap.size + 2, 0, none⟩) := by rw [hA5]; exact (Act.eval_put_ne _ _ _ _ (by decide)).trans f4_4
    have z5 : a5.tmps.size = 61 := by rw [hA5, Act.size_put]; exact z4
    have dd5 : a5.defers = [] := by rw [hA5, Act.defers_put']; exact dd4
    clear hA5 z4 dd4 f4_24 f4_23 f4_21 f4_2 f4_3 f4_4
    refine wpAnyH_take (i := 5) (v := .int .i64 f) rfl (by kernel_rfl) (by kernel_rfl) (by kernel_rfl) (fun _ _ _ h => h) (yields_int rfl (.tmp 25) rfl _ f5_25 f (fun _ h => h.choose_spec.cells.2.1)) hS ?_
    obtain ⟨a6, hA6⟩ : ∃ a', a' = a5.put (some 26) (.int .i64 f) := ⟨_, rfl⟩
    change wpAnyH _ _ _ _ _ _ _ (a5.put (some 26) (.int .i64 f)) _
    rw [← hA6]
    have f6_26 : a6.eval (.tmp 26) = .int .i64 f := by rw [hA6]; exact Act.eval_put_same _ _ _ (by omega)
    have f6_24 : a6.eval (.tmp 24) = rV l := by rw [hA6]; exact (Act.eval_put_ne _ _ _ _ (by decide)).trans f5_24
    have f6_23 : a6.eval (.tmp 23) = .int .i64 t := by rw [hA6]; exact (Act.eval_put_ne _ _ _ _ (by decide)).trans f5_23
    have f6_21 : a6.eval (.tmp 21) = rV l := by rw [hA6]; exact (Act.eval_put_ne _ _ _ _ (by decide)).trans f5_21
    have f6_2 : a6.eval (.tmp 2) = .pointer (some ⟨w.heap.size, 0, none⟩) := by rw [hA6]; exact (Act.eval_put_ne _ _ _ _ (by decide)).trans f5_2
    have f6_3 : a6.eval (.tmp 3) = .pointer (some ⟨w.heap.size + 1, 0, none⟩) := by rw [hA6]; exact (Act.eval_put_ne _ _ _ _ (by decide)).trans f5_3
    have f6_4 : a6.eval (.tmp 4) = .pointer (some ⟨w.heap.size + 2, 0, none⟩) := by rw [hA6]; exact (Act.eval_put_ne _ _ _ _ (by decide)).trans f5_4
    have z6 : a6.tmps.size = 61 := by rw [hA6, Act.size_put]; exact z5
    have dd6 : a6.defers = [] := by rw [hA6, Act.defers_put']; exact dd5
    clear hA6 z5 dd5 f5_25 f5_24 f5_23 f5_21 f5_2 f5_3 f5_4
    refine wpAnyH_take (i := 7) (v := .pointer (some ⟨w.heap.size + 1, 3, none⟩)) rfl (by kernel_rfl) (by kernel_rfl) (by kernel_rfl) (fun _ _ _ h => h) (yields_ofld rfl (.tmp 3) 3 (by omega) rfl _ f6_3) hS ?_
    obtain ⟨a7, hA7⟩ : ∃ a', a' = a6.put (some 28) (.pointer (some ⟨w.heap.size + 1, 3, none⟩)) := ⟨_, rfl⟩
    change wpAnyH _ _ _ _ _ _ _ (a6.put (some 28) (.pointer (some ⟨w.heap.size + 1, 3, none⟩))) _
    rw [← hA7]
    have f7_28 : a7.eval (.tmp 28) = .pointer (some ⟨w.heap.size + 1, 3, none⟩) := by rw [hA7]; exact Act.eval_put_same _ _ _ (by omega)
    have f7_26 : a7.eval (.tmp 26) = .int .i64 f := by rw [hA7]; exact (Act.eval_put_ne _ _ _ _ (by decide)).trans f6_26
    have f7_24 : a7.eval (.tmp 24) = rV l := by rw [hA7]; exact (Act.eval_put_ne _ _ _ _ (by decide)).trans f6_24
    have f7_23 : a7.eval (.tmp 23) = .int .i64 t := by rw [hA7]; exact (Act.eval_put_ne _ _ _ _ (by decide)).trans f6_23
    have f7_21 : a7.eval (.tmp 21) = rV l := by rw [hA7]; exact (Act.eval_put_ne _ _ _ _ (by decide)).trans f6_21
    have f7_2 : a7.eval (.tmp 2) = .pointer (some ⟨w.heap.size, 0, none⟩) := by rw [hA7]; exact (Act.eval_put_ne _ _ _ _ (by decide)).trans f6_2
    have f7_3 : a7.eval (.tmp 3) = .pointer (some ⟨w.heap.size + 1, 0, none⟩) := by rw [hA7]; exact (Act.eval_put_ne _ _ _ _ (by decide)).trans f6_3
    have f7_4 : a7.eval (.tmp 4) = .pointer (some ⟨w.heap.size + 2, 0, none⟩) := by rw [hA7]; exact (Act.eval_put_ne _ _ _ _ (by decide)).trans f6_4
    have z7 : a7.tmps.size = 61 := by rw [hA7, Act.size_put]; exact z6
    have dd7 : a7.defers = [] := by rw [hA7, Act.defers_put']; exact dd6
    clear hA7 z6 dd6 f6_26 f6_24 f6_23 f6_21 f6_2 f6_3 f6_4
    refine wpAnyH_take (i := 8) (v := .int .u64 (m : Int)) rfl (by kernel_rfl) (by kernel_rfl) (by kernel_rfl) (fun _ _ _ h => h) (yields_u64 rfl (.tmp 28) rfl _ f7_28 _ (fun _ h => h.choose_spec.cells.2.2.2)) hS ?_
    obtain ⟨a8, hA8⟩ : ∃ a', a' = a7.put (some 29) (.int .u64 (m : Int)) := ⟨_, rfl⟩
    change wpAnyH _ _ _ _ _ _ _ (a7.put (some 29) (.int .u64 (m : Int))) _
    rw [← hA8]
    have f8_29 : a8.eval (.tmp 29) = .int .u64 (m : Int) := by rw [hA8]; exact Act.eval_put_same _ _ _ (by omega)
    have f8_26 : a8.eval (.tmp 26) = .int .i64 f := by rw [hA8]; exact (Act.eval_put_ne _ _ _ _ (by decide)).trans f7_26
    have f8_24 : a8.eval (.tmp 24) = rV l := by rw [hA8]; exact (Act.eval_put_ne _ _ _ _ (by decide)).trans f7_24
    have f8_23 : a8.eval (.tmp 23) = .int .i64 t := by rw [hA8]; exact (Act.eval_put_ne _ _ _ _ (by decide)).trans f7_23
    have f8_21 : a8.eval (.tmp 21) = rV l := by rw [hA8]; exact (Act.eval_put_ne _ _ _ _ (by decide)).trans f7_21
    have f8_2 : a8.eval (.tmp 2) = .pointer (some ⟨w.heap.size, 0, none⟩) := by rw [hA8]; exact (Act.eval_put_ne _ _ _ _ (by decide)).trans f7_2
    have f8_3 : a8.eval (.tmp 3) = .pointer (some ⟨w.heap.size + 1, 0, none⟩) := by rw [hA8]; exact (Act.eval_put_ne _ _ _ _ (by decide)).trans f7_3
    have f8_4 : a8.eval (.tmp 4) = .pointer (some ⟨w.heap.size + 2, 0, none⟩) := by rw [hA8]; exact (Act.eval_put_ne _ _ _ _ (by decide)).trans f7_4
    have z8 : a8.tmps.size = 61 := by rw [hA8, Act.size_put]; exact z7
    have dd8 : a8.defers = [] := by rw [hA8, Act.defers_put']; exact dd7
    clear hA8 z7 dd7 f7_28 f7_26 f7_24 f7_23 f7_21 f7_2 f7_3 f7_4
    refine wpAnyH_ready (rs := [6]) (by kernel_rfl) (by simp) (AllReadyH.cons (by simp only [List.getElem?_toArray, List.getElem?_cons_succ, List.getElem?_cons_zero]; rfl) (fun K hK => ?_) AllReadyH.nil)
    refine step_call (by rfl) 16 #[.tmp 24, .tmp 26] #[28, 3] (by rfl) #[rV l, .int .i64 f] (by simp only [List.map_toArray, List.map_cons, List.map_nil, f8_24, f8_26]) Tryd.func16 (by kernel_rfl) rfl ((CO f w2.drew).out) (fun e w' hR => ?_)
    obtain ⟨rfl, hb3⟩ := hR
    have H1 := Lib.hid (HZ2.out.drew.next hb3)
    clear hb3
    refine ⟨_, rfl, hK.out _ _ (⟨_, H1.out⟩) (fun hS => ?_)⟩
    obtain ⟨a9, hA9⟩ : ∃ a', a' = a8.put (some 27) (.int .u64 ((rv l f : Nat) : Int)) := ⟨_, rfl⟩
    change wpAnyH _ _ _ _ _ _ _ (a8.put (some 27) (.int .u64 ((rv l f : Nat) : Int))) _
    rw [← hA9]
    have f9_27 : a9.eval (.tmp 27) = .int .u64 ((rv l f : Nat) : Int) := by rw [hA9]; exact Act.eval_put_same _ _ _ (by omega)
    have f9_29 : a9.eval (.tmp 29) = .int .u64 (m : Int) := by rw [hA9]; exact (Act.eval_put_ne _ _ _ _ (by decide)).trans f8_29
    have f9_23 : a9.eval (.tmp 23) = .int .i64 t := by rw [hA9]; exact (Act.eval_put_ne _ _ _ _ (by decide)).trans f8_23
    have f9_21 : a9.eval (.tmp 21) = rV l := by rw [hA9]; exact (Act.eval_put_ne _ _ _ _ (by decide)).trans f8_21
    have f9_2 : a9.eval (.tmp 2) = .pointer (some ⟨w.heap.size, 0, none⟩) := by rw [hA9]; exact (Act.eval_put_ne _ _ _ _ (by decide)).trans f8_2
    have f9_3 : a9.eval (.tmp 3) = .pointer (some ⟨w.heap.size + 1, 0, none⟩) := by rw [hA9]; exact (Act.eval_put_ne _ _ _ _ (by decide)).trans f8_3
    have f9_4 : a9.eval (.tmp 4) = .pointer (some ⟨w.heap.size + 2, 0, none⟩) := by rw [hA9]; exact (Act.eval_put_ne _ _ _ _ (by decide)).trans f8_4
    have z9 : a9.tmps.size = 61 := by rw [hA9, Act.size_put]; exact z8
    have dd9 : a9.defers = [] := by rw [hA9, Act.defers_put']; exact dd8
    clear hA9 z8 dd8 f8_29 f8_26 f8_24 f8_23 f8_21 f8_2 f8_3 f8_4
    refine wpAnyH_take (i := 9) (v := .int .u64 ((rv l f &&& m : Nat) : Int)) rfl (by kernel_rfl) (by kernel_rfl) (by kernel_rfl) (fun _ _ _ h => h) (yields_and rfl (.tmp 27) (.tmp 29) rfl _ _ f9_27 f9_29 HY.out HM.out) hS ?_
    obtain ⟨a10, hA10⟩ : ∃ a', a' = a9.put (some 30) (.int .u64 ((rv l f &&& m : Nat) : Int)) := ⟨_, rfl⟩
    change wpAnyH _ _ _ _ _ _ _ (a9.put (some 30) (.int .u64 ((rv l f &&& m : Nat) : Int))) _
    rw [← hA10]
    have f10_30 : a10.eval (.tmp 30) = .int .u64 ((rv l f &&& m : Nat) : Int) := by rw [hA10]; exact Act.eval_put_same _ _ _ (by omega)
    have f10_23 : a10.eval (.tmp 23) = .int .i64 t := by rw [hA10]; exact (Act.eval_put_ne _ _ _ _ (by decide)).trans f9_23
    have f10_21 : a10.eval (.tmp 21) = rV l := by rw [hA10]; exact (Act.eval_put_ne _ _ _ _ (by decide)).trans f9_21
    have f10_2 : a10.eval (.tmp 2) = .pointer (some ⟨w.heap.size, 0, none⟩) := by rw [hA10]; exact (Act.eval_put_ne _ _ _ _ (by decide)).trans f9_2
    have f10_3 : a10.eval (.tmp 3) = .pointer (some ⟨w.heap.size + 1, 0, none⟩) := by rw [hA10]; exact (Act.eval_put_ne _ _ _ _ (by decide)).trans f9_3
    have f10_4 : a10.eval (.tmp 4) = .pointer (some ⟨w.heap.size + 2, 0, none⟩) := by rw [hA10]; exact (Act.eval_put_ne _ _ _ _ (by decide)).trans f9_4
    have z10 : a10.tmps.size = 61 := by rw [hA10, Act.size_put]; exact z9
    have dd10 : a10.defers = [] := by rw [hA10, Act.defers_put']; exact dd9
    clear hA10 z9 dd9 f9_27 f9_29 f9_23 f9_21 f9_2 f9_3 f9_4
    refine wpAnyH_ready (rs := [10]) (by kernel_rfl) (by simp) (AllReadyH.cons (by simp only [List.getElem?_toArray, List.getElem?_cons_succ, List.getElem?_cons_zero]; rfl) (fun K hK => ?_) AllReadyH.nil)
    refine step_call (by rfl) 22 #[.tmp 21, .tmp 23, .tmp 30] #[28, 3, 25] (by rfl) #[rV l, .int .i64 t, .int .u64 ((rv l f &&& m : Nat) : Int)] (by simp only [List.map_toArray, List.map_cons, List.map_nil, f10_21, f10_23, f10_30]) Tryd.func22 (by kernel_rfl) rfl ((CS _ _).out) (fun e w' hR => ?_)
    obtain ⟨rfl, hb4⟩ := hR
    rw [← HQ2.out]
    have H2 := Lib.hid (H1.out.next hb4)
    clear hb4
    refine ⟨_, rfl, hK.out _ _ (⟨_, H2.out⟩) (fun hS => ?_)⟩
    obtain ⟨a11, hA11⟩ : ∃ a', a' = a10.put (some 31) (rV q) := ⟨_, rfl⟩
    change wpAnyH _ _ _ _ _ _ _ (a10.put (some 31) (rV q)) _
    rw [← hA11]
    have f11_31 : a11.eval (.tmp 31) = rV q := by rw [hA11]; exact Act.eval_put_same _ _ _ (by omega)
    have f11_2 : a11.eval (.tmp 2) = .pointer (some ⟨w.heap.size, 0, none⟩) := by rw [hA11]; exact (Act.eval_put_ne _ _ _ _ (by decide)).trans f10_2
    have f11_3 : a11.eval (.tmp 3) = .pointer (some ⟨w.heap.size + 1, 0, none⟩) := by rw [hA11]; exact (Act.eval_put_ne _ _ _ _ (by decide)).trans f10_3
    have f11_4 : a11.eval (.tmp 4) = .pointer (some ⟨w.heap.size + 2, 0, none⟩) := by rw [hA11]; exact (Act.eval_put_ne _ _ _ _ (by decide)).trans f10_4
    have z11 : a11.tmps.size = 61 := by rw [hA11, Act.size_put]; exact z10
    have dd11 : a11.defers = [] := by rw [hA11, Act.defers_put']; exact dd10
    clear hA11 z10 dd10 f10_30 f10_23 f10_21 f10_2 f10_3 f10_4
    refine wpAnyH_ready (rs := [11]) (by kernel_rfl) (by simp) (AllReadyH.cons (by simp only [List.getElem?_toArray, List.getElem?_cons_succ, List.getElem?_cons_zero]; rfl) (fun K hK => ?_) AllReadyH.nil)
    refine sr_store (by rfl) (.tmp 4) (.tmp 31) (by rfl) (w.heap.size + 2) zerosR q f11_4 f11_31 H2.out.b2 ?_
    refine hK.out _ _ (⟨_, H2.out.store _⟩) (fun hS => ?_)
    change wpAnyH _ _ _ _ _ _ _ a11 _
    refine wpAnyH_done (by kernel_rfl) ?_ _
    go_wp2_with fail
    exact ret_do21 (by rw [← Array.getD_eq_getD_getElem?]; exact f11_4) dd11 (H2.out.store q) rfl
  have e1 : (k == 1) = false := by rw [beq_eq_false_iff_ne]; exact h1
  by_cases h2 : k = 2
  · subst h2
    have HQ2 : Hid (q = setR l t (x ||| (rv l f &&& m))) := Lib.hid (by rw [HQ.out]; unfold doR; rw [if_neg (by decide), if_neg (by decide), if_pos rfl, HXe.out])
    clear HQ
    go_upto_region 8 with fail
    refine wp_hold_act (fun a0 HA0 => ?_)
    have z0 : a0.tmps.size = 61 := by rw [HA0.out]; rfl
    have dd0 : a0.defers = [] := by rw [HA0.out]
    have f0_2 : a0.eval (.tmp 2) = .pointer (some ⟨w.heap.size, 0, none⟩) := by rw [HA0.out]; rfl
    have f0_3 : a0.eval (.tmp 3) = .pointer (some ⟨w.heap.size + 1, 0, none⟩) := by rw [HA0.out]; rfl
    have f0_4 : a0.eval (.tmp 4) = .pointer (some ⟨w.heap.size + 2, 0, none⟩) := by rw [HA0.out]; rfl
    have f0_5 : a0.eval (.tmp 5) = .int .u64 ((x : Nat) : Int) := by rw [HA0.out]; rfl
    clear HA0
    refine wp_region_held_drew (S := fun w' => ∃ q, Dz w l 2 f t m q w') (by kernel_rfl) (⟨_, HZ2.out.drew⟩) (fun hS => ?_)
    refine wpAnyH_take (i := 0) (v := rV l) rfl (by kernel_rfl) (by kernel_rfl) (by kernel_rfl) (fun _ _ _ h => h) (yields_r rfl (.tmp 2) rfl _ f0_2 l (fun _ h => h.choose_spec.b0)) hS ?_
    obtain ⟨a1, hA1⟩ : ∃ a', a' = a0.put (some 34) (rV l) := ⟨_, rfl⟩
    change wpAnyH _ _ _ _ _ _ _ (a0.put (some 34) (rV l)) _
    rw [← hA1]
    have f1_34 : a1.eval (.tmp 34) = rV l := by rw [hA1]; exact Act.eval_put_same _ _ _ (by omega)
    have f1_2 : a1.eval (.tmp 2) = .pointer (some ⟨w.heap.size, 0, none⟩) := by rw [hA1]; exact (Act.eval_put_ne _ _ _ _ (by decide)).trans f0_2
    have f1_3 : a1.eval (.tmp 3) = .pointer (some ⟨w.heap.size + 1, 0, none⟩) := by rw [hA1]; exact (Act.eval_put_ne _ _ _ _ (by decide)).trans f0_3
    have f1_4 : a1.eval (.tmp 4) = .pointer (some ⟨w.heap.size + 2, 0, none⟩) := by rw [hA1]; exact (Act.eval_put_ne _ _ _ _ (by decide)).trans f0_4
    have f1_5 : a1.eval (.tmp 5) = .int .u64 ((x : Nat) : Int) := by rw [hA1]; exact (Act.eval_put_ne _ _ _ _ (by decide)).trans f0_5
    have z1 : a1.tmps.size = 61 := by rw [hA1, Act.size_put]; exact z0
    have dd1 : a1.defers = [] := by rw [hA1, Act.defers_put']; exact dd0
    clear hA1 z0 dd0 f0_2 f0_3 f0_4 f0_5
    refine wpAnyH_take (i := 1) (v := .pointer (some ⟨w.heap.size + 1, 2, none⟩)) rfl (by kernel_rfl) (by kernel_rfl) (by kernel_rfl) (fun _ _ _ h => h) (yields_ofld rfl (.tmp 3) 2 (by omega) rfl _ f1_3) hS ?_
    obtain ⟨a2, hA2⟩ : ∃ a', a' = a1.put (some 35) (.pointer (some ⟨w.heap.size + 1, 2, none⟩)) := ⟨_, rfl⟩
    change wpAnyH _ _ _ _ _ _ _ (a1.put (some 35) (.pointer (some ⟨w.heap.size + 1, 2, none⟩))) _
    rw [← hA2]
    have f2_35 : a2.eval (.tmp 35) = .pointer (some ⟨w.heap.size + 1, 2, none⟩) := by rw [hA2]; exact Act.eval_put_same _ _ _ (by omega)
    have f2_34 : a2.eval (.tmp 34) = rV l := by rw [hA2]; exact (Act.eval_put_ne _ _ _ _ (by decide)).trans f1_34
    have f2_2 : a2.eval (.tmp 2) = .pointer (some ⟨w.heap.size, 0, none⟩) := by rw [hA2]; exact (Act.eval_put_ne _ _ _ _ (by decide)).trans f1_2
    have f2_3 : a2.eval (.tmp 3) = .pointer (some ⟨w.heap.size + 1, 0, none⟩) := by rw [hA2]; exact (Act.eval_put_ne _ _ _ _ (by decide)).trans f1_3
    have f2_4 : a2.eval (.tmp 4) = .pointer (some ⟨w.heap.size + 2, 0, none⟩) := by rw [hA2]; exact (Act.eval_put_ne _ _ _ _ (by decide)).trans f1_4
    have f2_5 : a2.eval (.tmp 5) = .int .u64 ((x : Nat) : Int) := by rw [hA2]; exact (Act.eval_put_ne _ _ _ _ (by decide)).trans f1_5
    have z2 : a2.tmps.size = 61 := by rw [hA2, Act.size_put]; exact z1
    have dd2 : a2.defers = [] := by rw [hA2, Act.defers_put']; exact dd1
    clear hA2 z1 dd1 f1_34 f1_2 f1_3 f1_4 f1_5
    refine wpAnyH_take (i := 2) (v := .int .i64 t) rfl (by kernel_rfl) (by kernel_rfl) (by kernel_rfl) (fun _ _ _ h => h) (yields_int rfl (.tmp 35) rfl _ f2_35 t (fun _ h => h.choose_spec.cells.2.2.1)) hS ?_
    obtain ⟨a3, hA3⟩ : ∃ a', a' = a2.put (some 36) (.int .i64 t) := ⟨_, rfl⟩
    change wpAnyH _ _ _ _ _ _ _ (a2.put (some 36) (.int .i64 t)) _
    rw [← hA3]
    have f3_36 : a3.eval (.tmp 36) = .int .i64 t := by rw [hA3]; exact Act.eval_put_same _ _ _ (by omega)
    have f3_34 : a3.eval (.tmp 34) = rV l := by rw [hA3]; exact (Act.eval_put_ne _ _ _ _ (by decide)).trans f2_34
    have f3_2 : a3.eval (.tmp 2) = .pointer (some ⟨w.heap.size, 0, none⟩) := by rw [hA3]; exact (Act.eval_put_ne _ _ _ _ (by decide)).trans f2_2
    have f3_3 : a3.eval (.tmp 3) = .pointer (some ⟨w.heap.size + 1, 0, none⟩) := by rw [hA3]; exact (Act.eval_put_ne _ _ _ _ (by decide)).trans f2_3
    have f3_4 : a3.eval (.tmp 4) = .pointer (some ⟨w.heap.size + 2, 0, none⟩) := by rw [hA3]; exact (Act.eval_put_ne _ _ _ _ (by decide)).trans f2_4
    have f3_5 : a3.eval (.tmp 5) = .int .u64 ((x : Nat) : Int) := by rw [hA3]; exact (Act.eval_put_ne _ _ _ _ (by decide)).trans f2_5
    have z3 : a3.tmps.size = 61 := by rw [hA3, Act.size_put]; exact z2
    have dd3 : a3.defers = [] := by rw [hA3, Act.defers_put']; exact dd2
    clear hA3 z2 dd2 f2_35 f2_34 f2_2 f2_3 f2_4 f2_5
    refine wpAnyH_take (i := 3) (v := .int .u64 ((x : Nat) : Int)) rfl (by kernel_rfl) (by kernel_rfl) (by kernel_rfl) (fun _ _ _ h => h) (yields_move rfl (.tmp 5) rfl f3_5) hS ?_
    obtain ⟨a4, hA4⟩ : ∃ a', a' = a3.put (some 37) (.int .u64 ((x : Nat) : Int)) := ⟨_, rfl⟩
    change wpAnyH _ _ _ _ _ _ _ (a3.put (some 37) (.int .u64 ((x : Nat) : Int))) _
    rw [← hA4]
    have f4_37 : a4.eval (.tmp 37) = .int .u64 ((x : Nat) : Int) := by rw [hA4]; exact Act.eval_put_same _ _ _ (by omega)
    have f4_36 : a4.eval (.tmp 36) = .int .i64 t := by rw [hA4]; exact (Act.eval_put_ne _ _ _ _ (by decide)).trans f3_36
    have f4_34 : a4.eval (.tmp 34) = rV l := by rw [hA4]; exact (Act.eval_put_ne _ _ _ _ (by decide)).trans f3_34
    have f4_2 : a4.eval (.tmp 2) = .pointer (some ⟨w.heap.size, 0, none⟩) := by rw [hA4]; exact (Act.eval_put_ne _ _ _ _ (by decide)).trans f3_2
    have f4_3 : a4.eval (.tmp 3) = .pointer (some ⟨w.heap.size + 1, 0, none⟩) := by rw [hA4]; exact (Act.eval_put_ne _ _ _ _ (by decide)).trans f3_3
    have f4_4 : a4.eval (.tmp 4) = .pointer (some ⟨w.heap.size + 2, 0, none⟩) := by rw [hA4]; exact (Act.eval_put_ne _ _ _ _ (by decide)).trans f3_4
    have f4_5 : a4.eval (.tmp 5) = .int .u64 ((x : Nat) : Int) := by rw [hA4]; exact (Act.eval_put_ne _ _ _ _ (by decide)).trans f3_5
    have z4 : a4.tmps.size = 61 := by rw [hA4, Act.size_put]; exact z3
    have dd4 : a4.defers = [] := by rw [hA4, Act.defers_put']; exact dd3
    clear hA4 z3 dd3 f3_36 f3_34 f3_2 f3_3 f3_4 f3_5
    refine wpAnyH_take (i := 4) (v := rV l) rfl (by kernel_rfl) (by kernel_rfl) (by kernel_rfl) (fun _ _ _ h => h) (yields_r rfl (.tmp 2) rfl _ f4_2 l (fun _ h => h.choose_spec.b0)) hS ?_
    obtain ⟨a5, hA5⟩ : ∃ a', a' = a4.put (some 38) (rV l) := ⟨_, rfl⟩
    change wpAnyH _ _ _ _ _ _ _ (a4.put (some 38) (rV l)) _
    rw [← hA5]
    have f5_38 : a5.eval (.tmp 38) = rV l := by rw [hA5]; exact Act.eval_put_same _ _ _ (by omega)
    have f5_37 : a5.eval (.tmp 37) = .int .u64 ((x : Nat) : Int) := by rw [hA5]; exact (Act.eval_put_ne _ _ _ _ (by decide)).trans f4_37
    have f5_36 : a5.eval (.tmp 36) = .int .i64 t := by rw [hA5]; exact (Act.eval_put_ne _ _ _ _ (by decide)).trans f4_36
    have f5_34 : a5.eval (.tmp 34) = rV l := by rw [hA5]; exact (Act.eval_put_ne _ _ _ _ (by decide)).trans f4_34
    have f5_2 : a5.eval (.tmp 2) = .pointer (some ⟨w.heap.size, 0, none⟩) := by rw [hA5]; exact (Act.eval_put_ne _ _ _ _ (by decide)).trans f4_2
    have f5_3 : a5.eval (.tmp 3) = .pointer (some ⟨w.heap.size + 1, 0, none⟩) := by rw [hA5]; exact (Act.eval_put_ne _ _ _ _ (by decide)).trans f4_3
    have f5_4 : a5.eval (.tmp 4) = .pointer (some ⟨w.heap.size + 2, 0, none⟩) := by rw [hA5]; exact (Act.eval_put_ne _ _ _ _ (by decide)).trans f4_4
    have f5_5 : a5.eval (.tmp 5) = .int .u64 ((x : Nat) : Int) := by rw [hA5]; exact (Act.eval_put_ne _ _ _ _ (by decide)).trans f4_5
    have z5 : a5.tmps.size = 61 := by rw [hA5, Act.size_put]; exact z4
    have dd5 : a5.defers = [] := by rw [hA5, Act.defers_put']; exact dd4
    clear hA5 z4 dd4 f4_37 f4_36 f4_34 f4_2 f4_3 f4_4 f4_5
    refine wpAnyH_take (i := 5) (v := .pointer (some ⟨w.heap.size + 1, 1, none⟩)) rfl (by kernel_rfl) (by kernel_rfl) (by kernel_rfl) (fun _ _ _ h => h) (yields_ofld rfl (.tmp 3) 1 (by omega) rfl _ f5_3) hS ?_
    obtain ⟨a6, hA6⟩ : ∃ a', a' = a5.put (some 39) (.pointer (some ⟨w.heap.size + 1, 1, none⟩)) := ⟨_, rfl⟩
    change wpAnyH _ _ _ _ _ _ _ (a5.put (some 39) (.pointer (some ⟨w.heap.size + 1, 1, none⟩))) _
    rw [← hA6]
    have f6_39 : a6.eval (.tmp 39) = .pointer (some ⟨w.heap.size + 1, 1, none⟩) := by rw [hA6]; exact Act.eval_put_same _ _ _ (by omega)
    have f6_38 : a6.eval (.tmp 38) = rV l := by rw [hA6]; exact (Act.eval_put_ne _ _ _ _ (by decide)).trans f5_38
    have f6_37 : a6.eval (.tmp 37) = .int .u64 ((x : Nat) : Int) := by rw [hA6]; exact (Act.eval_put_ne _ _ _ _ (by decide)).trans f5_37
    have f6_36 : a6.eval (.tmp 36) = .int .i64 t := by rw [hA6]; exact (Act.eval_put_ne _ _ _ _ (by decide)).trans f5_36
    have f6_34 : a6.eval (.tmp 34) = rV l := by rw [hA6]; exact (Act.eval_put_ne _ _ _ _ (by decide)).trans f5_34
    have f6_2 : a6.eval (.tmp 2) = .pointer (some ⟨w.heap.size, 0, none⟩) := by rw [hA6]; exact (Act.eval_put_ne _ _ _ _ (by decide)).trans f5_2
    have f6_3 : a6.eval (.tmp 3) = .pointer (some ⟨w.heap.size + 1, 0, none⟩) := by rw [hA6]; exact (Act.eval_put_ne _ _ _ _ (by decide)).trans f5_3
    have f6_4 : a6.eval (.tmp 4) = .pointer (some ⟨w.heap.size + 2, 0, none⟩) := by rw [hA6]; exact (Act.eval_put_ne _ _ _ _ (by decide)).trans f5_4
    have f6_5 : a6.eval (.tmp 5) = .int .u64 ((x : Nat) : Int) := by rw [hA6]; exact (Act.eval_put_ne _ _ _ _ (by decide)).trans f5_5
    have z6 : a6.tmps.size = 61 := by rw [hA6, Act.size_put]; exact z5
    have dd6 : a6.defers = [] := by rw [hA6, Act.defers_put']; exact dd5
    clear hA6 z5 dd5 f5_38 f5_37 f5_36 f5_34 f5_2 f5_3 f5_4 f5_5
    refine wpAnyH_take (i := 6) (v := .int .i64 f) rfl (by kernel_rfl) (by kernel_rfl) (by kernel_rfl) (fun _ _ _ h => h) (yields_int rfl (.tmp 39) rfl _ f6_39 f (fun _ h => h.choose_spec.cells.2.1)) hS ?_
    obtain ⟨a7, hA7⟩ : ∃ a', a' = a6.put (some 40) (.int .i64 f) := ⟨_, rfl⟩
    change wpAnyH _ _ _ _ _ _ _ (a6.put (some 40) (.int .i64 f)) _
    rw [← hA7]
    have f7_40 : a7.eval (.tmp 40) = .int .i64 f := by rw [hA7]; exact Act.eval_put_same _ _ _ (by omega)
    have f7_38 : a7.eval (.tmp 38) = rV l := by rw [hA7]; exact (Act.eval_put_ne _ _ _ _ (by decide)).trans f6_38
    have f7_37 : a7.eval (.tmp 37) = .int .u64 ((x : Nat) : Int) := by rw [hA7]; exact (Act.eval_put_ne _ _ _ _ (by decide)).trans f6_37
    have f7_36 : a7.eval (.tmp 36) = .int .i64 t := by rw [hA7]; exact (Act.eval_put_ne _ _ _ _ (by decide)).trans f6_36
    have f7_34 : a7.eval (.tmp 34) = rV l := by rw [hA7]; exact (Act.eval_put_ne _ _ _ _ (by decide)).trans f6_34
    have f7_2 : a7.eval (.tmp 2) = .pointer (some ⟨w.heap.size, 0, none⟩) := by rw [hA7]; exact (Act.eval_put_ne _ _ _ _ (by decide)).trans f6_2
    have f7_3 : a7.eval (.tmp 3) = .pointer (some ⟨w.heap.size + 1, 0, none⟩) := by rw [hA7]; exact (Act.eval_put_ne _ _ _ _ (by decide)).trans f6_3
    have f7_4 : a7.eval (.tmp 4) = .pointer (some ⟨w.heap.size + 2, 0, none⟩) := by rw [hA7]; exact (Act.eval_put_ne _ _ _ _ (by decide)).trans f6_4
    have f7_5 : a7.eval (.tmp 5) = .int .u64 ((x : Nat) : Int) := by rw [hA7]; exact (Act.eval_put_ne _ _ _ _ (by decide)).trans f6_5
    have z7 : a7.tmps.size = 61 := by rw [hA7, Act.size_put]; exact z6
    have dd7 : a7.defers = [] := by rw [hA7, Act.defers_put']; exact dd6
    clear hA7 z6 dd6 f6_39 f6_38 f6_37 f6_36 f6_34 f6_2 f6_3 f6_4 f6_5
    refine wpAnyH_take (i := 8) (v := .pointer (some ⟨w.heap.size + 1, 3, none⟩)) rfl (by kernel_rfl) (by kernel_rfl) (by kernel_rfl) (fun _ _ _ h => h) (yields_ofld rfl (.tmp 3) 3 (by omega) rfl _ f7_3) hS ?_
    obtain ⟨a8, hA8⟩ : ∃ a', a' = a7.put (some 42) (.pointer (some ⟨w.heap.size + 1, 3, none⟩)) := ⟨_, rfl⟩
    change wpAnyH _ _ _ _ _ _ _ (a7.put (some 42) (.pointer (some ⟨w.heap.size + 1, 3, none⟩))) _
    rw [← hA8]
    have f8_42 : a8.eval (.tmp 42) = .pointer (some ⟨w.heap.size + 1, 3, none⟩) := by rw [hA8]; exact Act.eval_put_same _ _ _ (by omega)
    have f8_40 : a8.eval (.tmp 40) = .int .i64 f := by rw [hA8]; exact (Act.eval_put_ne _ _ _ _ (by decide)).trans f7_40
    have f8_38 : a8.eval (.tmp 38) = rV l := by rw [hA8]; exact (Act.eval_put_ne _ _ _ _ (by decide)).trans f7_38
    have f8_37 : a8.eval (.tmp 37) = .int .u64 ((x : Nat) : Int) := by rw [hA8]; exact (Act.eval_put_ne _ _ _ _ (by decide)).trans f7_37
    have f8_36 : a8.eval (.tmp 36) = .int .i64 t := by rw [hA8]; exact (Act.eval_put_ne _ _ _ _ (by decide)).trans f7_36
    have f8_34 : a8.eval (.tmp 34) = rV l := by rw [hA8]; exact (Act.eval_put_ne _ _ _ _ (by decide)).trans f7_34
    have f8_2 : a8.eval (.tmp 2) = .pointer (some ⟨w.heap.size, 0, none⟩) := by rw [hA8]; exact (Act.eval_put_ne _ _ _ _ (by decide)).trans f7_2
    have f8_3 : a8.eval (.tmp 3) = .pointer (some ⟨w.heap.size + 1, 0, none⟩) := by rw [hA8]; exact (Act.eval_put_ne _ _ _ _ (by decide)).trans f7_3
    have f8_4 : a8.eval (.tmp 4) = .pointer (some ⟨w.heap.size + 2, 0, none⟩) := by rw [hA8]; exact (Act.eval_put_ne _ _ _ _ (by decide)).trans f7_4
    have f8_5 : a8.eval (.tmp 5) = .int .u64 ((x : Nat) : Int) := by rw [hA8]; exact (Act.eval_put_ne _ _ _ _ (by decide)).trans f7_5
    have z8 : a8.tmps.size = 61 := by rw [hA8, Act.size_put]; exact z7
    have dd8 : a8.defers = [] := by rw [hA8, Act.defers_put']; exact dd7
    clear hA8 z7 dd7 f7_40 f7_38 f7_37 f7_36 f7_34 f7_2 f7_3 f7_4 f7_5
    refine wpAnyH_take (i := 9) (v := .int .u64 (m : Int)) rfl (by kernel_rfl) (by kernel_rfl) (by kernel_rfl) (fun _ _ _ h => h) (yields_u64 rfl (.tmp 42) rfl _ f8_42 _ (fun _ h => h.choose_spec.cells.2.2.2)) hS ?_
    obtain ⟨a9, hA9⟩ : ∃ a', a' = a8.put (some 43) (.int .u64 (m : Int)) := ⟨_, rfl⟩
    change wpAnyH _ _ _ _ _ _ _ (a8.put (some 43) (.int .u64 (m : Int))) _
    rw [← hA9]
    have f9_43 : a9.eval (.tmp 43) = .int .u64 (m : Int) := by rw [hA9]; exact Act.eval_put_same _ _ _ (by omega)
    have f9_40 : a9.eval (.tmp 40) = .int .i64 f := by rw [hA9]; exact (Act.eval_put_ne _ _ _ _ (by decide)).trans f8_40
    have f9_38 : a9.eval (.tmp 38) = rV l := by rw [hA9]; exact (Act.eval_put_ne _ _ _ _ (by decide)).trans f8_38
    have f9_37 : a9.eval (.tmp 37) = .int .u64 ((x : Nat) : Int) := by rw [hA9]; exact (Act.eval_put_ne _ _ _ _ (by decide)).trans f8_37
    have f9_36 : a9.eval (.tmp 36) = .int .i64 t := by rw [hA9]; exact (Act.eval_put_ne _ _ _ _ (by decide)).trans f8_36
    have f9_34 : a9.eval (.tmp 34) = rV l := by rw [hA9]; exact (Act.eval_put_ne _ _ _ _ (by decide)).trans f8_34
    have f9_2 : a9.eval (.tmp 2) = .pointer (some ⟨w.heap.size, 0, none⟩) := by rw [hA9]; exact (Act.eval_put_ne _ _ _ _ (by decide)).trans f8_2
    have f9_3 : a9.eval (.tmp 3) = .pointer (some ⟨w.heap.size + 1, 0, none⟩) := by rw [hA9]; exact (Act.eval_put_ne _ _ _ _ (by decide)).trans f8_3
    have f9_4 : a9.eval (.tmp 4) = .pointer (some ⟨w.heap.size + 2, 0, none⟩) := by rw [hA9]; exact (Act.eval_put_ne _ _ _ _ (by decide)).trans f8_4
    have f9_5 : a9.eval (.tmp 5) = .int .u64 ((x : Nat) : Int) := by rw [hA9]; exact (Act.eval_put_ne _ _ _ _ (by decide)).trans f8_5
    have z9 : a9.tmps.size = 61 := by rw [hA9, Act.size_put]; exact z8
    have dd9 : a9.defers = [] := by rw [hA9, Act.defers_put']; exact dd8
    clear hA9 z8 dd8 f8_42 f8_40 f8_38 f8_37 f8_36 f8_34 f8_2 f8_3 f8_4 f8_5
    refine wpAnyH_ready (rs := [7]) (by kernel_rfl) (by simp) (AllReadyH.cons (by simp only [List.getElem?_toArray, List.getElem?_cons_succ, List.getElem?_cons_zero]; rfl) (fun K hK => ?_) AllReadyH.nil)
    refine step_call (by rfl) 16 #[.tmp 38, .tmp 40] #[28, 3] (by rfl) #[rV l, .int .i64 f] (by simp only [List.map_toArray, List.map_cons, List.map_nil, f9_38, f9_40]) Tryd.func16 (by kernel_rfl) rfl ((CO f w2.drew).out) (fun e w' hR => ?_)
    obtain ⟨rfl, hb3⟩ := hR
    have H1 := Lib.hid (HZ2.out.drew.next hb3)
    clear hb3
    refine ⟨_, rfl, hK.out _ _ (⟨_, H1.out⟩) (fun hS => ?_)⟩
    obtain ⟨a10, hA10⟩ : ∃ a', a' = a9.put (some 41) (.int .u64 ((rv l f : Nat) : Int)) := ⟨_, rfl⟩
    change wpAnyH _ _ _ _ _ _ _ (a9.put (some 41) (.int .u64 ((rv l f : Nat) : Int))) _
    rw [← hA10]
    have f10_41 : a10.eval (.tmp 41) = .int .u64 ((rv l f : Nat) : Int) := by rw [hA10]; exact Act.eval_put_same _ _ _ (by omega)
    have f10_43 : a10.eval (.tmp 43) = .int .u64 (m : Int) := by rw [hA10]; exact (Act.eval_put_ne _ _ _ _ (by decide)).trans f9_43
    have f10_37 : a10.eval (.tmp 37) = .int .u64 ((x : Nat) : Int) := by rw [hA10]; exact (Act.eval_put_ne _ _ _ _ (by decide)).trans f9_37
    have f10_36 : a10.eval (.tmp 36) = .int .i64 t := by rw [hA10]; exact (Act.eval_put_ne _ _ _ _ (by decide)).trans f9_36
    have f10_34 : a10.eval (.tmp 34) = rV l := by rw [hA10]; exact (Act.eval_put_ne _ _ _ _ (by decide)).trans f9_34
    have f10_2 : a10.eval (.tmp 2) = .pointer (some ⟨w.heap.size, 0, none⟩) := by rw [hA10]; exact (Act.eval_put_ne _ _ _ _ (by decide)).trans f9_2
    have f10_3 : a10.eval (.tmp 3) = .pointer (some ⟨w.heap.size + 1, 0, none⟩) := by rw [hA10]; exact (Act.eval_put_ne _ _ _ _ (by decide)).trans f9_3
    have f10_4 : a10.eval (.tmp 4) = .pointer (some ⟨w.heap.size + 2, 0, none⟩) := by rw [hA10]; exact (Act.eval_put_ne _ _ _ _ (by decide)).trans f9_4
    have f10_5 : a10.eval (.tmp 5) = .int .u64 ((x : Nat) : Int) := by rw [hA10]; exact (Act.eval_put_ne _ _ _ _ (by decide)).trans f9_5
    have z10 : a10.tmps.size = 61 := by rw [hA10, Act.size_put]; exact z9
    have dd10 : a10.defers = [] := by rw [hA10, Act.defers_put']; exact dd9
    clear hA10 z9 dd9 f9_43 f9_40 f9_38 f9_37 f9_36 f9_34 f9_2 f9_3 f9_4 f9_5
    refine wpAnyH_take (i := 10) (v := .int .u64 ((rv l f &&& m : Nat) : Int)) rfl (by kernel_rfl) (by kernel_rfl) (by kernel_rfl) (fun _ _ _ h => h) (yields_and rfl (.tmp 41) (.tmp 43) rfl _ _ f10_41 f10_43 HY.out HM.out) hS ?_
    obtain ⟨a11, hA11⟩ : ∃ a', a' = a10.put (some 44) (.int .u64 ((rv l f &&& m : Nat) : Int)) := ⟨_, rfl⟩
    change wpAnyH _ _ _ _ _ _ _ (a10.put (some 44) (.int .u64 ((rv l f &&& m : Nat) : Int))) _
    rw [← hA11]
    have f11_44 : a11.eval (.tmp 44) = .int .u64 ((rv l f &&& m : Nat) : Int) := by rw [hA11]; exact Act.eval_put_same _ _ _ (by omega)
    have f11_37 : a11.eval (.tmp 37) = .int .u64 ((x : Nat) : Int) := by rw [hA11]; exact (Act.eval_put_ne _ _ _ _ (by decide)).trans f10_37
    have f11_36 : a11.eval (.tmp 36) = .int .i64 t := by rw [hA11]; exact (Act.eval_put_ne _ _ _ _ (by decide)).trans f10_36
    have f11_34 : a11.eval (.tmp 34) = rV l := by rw [hA11]; exact (Act.eval_put_ne _ _ _ _ (by decide)).trans f10_34
    have f11_2 : a11.eval (.tmp 2) = .pointer (some ⟨w.heap.size, 0, none⟩) := by rw [hA11]; exact (Act.eval_put_ne _ _ _ _ (by decide)).trans f10_2
    have f11_3 : a11.eval (.tmp 3) = .pointer (some ⟨w.heap.size + 1, 0, none⟩) := by rw [hA11]; exact (Act.eval_put_ne _ _ _ _ (by decide)).trans f10_3
    have f11_4 : a11.eval (.tmp 4) = .pointer (some ⟨w.heap.size + 2, 0, none⟩) := by rw [hA11]; exact (Act.eval_put_ne _ _ _ _ (by decide)).trans f10_4
    have f11_5 : a11.eval (.tmp 5) = .int .u64 ((x : Nat) : Int) := by rw [hA11]; exact (Act.eval_put_ne _ _ _ _ (by decide)).trans f10_5
    have z11 : a11.tmps.size = 61 := by rw [hA11, Act.size_put]; exact z10
    have dd11 : a11.defers = [] := by rw [hA11, Act.defers_put']; exact dd10
    clear hA11 z10 dd10 f10_41 f10_43 f10_37 f10_36 f10_34 f10_2 f10_3 f10_4 f10_5
    refine wpAnyH_take (i := 11) (v := .int .u64 ((x ||| (rv l f &&& m) : Nat) : Int)) rfl (by kernel_rfl) (by kernel_rfl) (by kernel_rfl) (fun _ _ _ h => h) (yields_or rfl (.tmp 37) (.tmp 44) rfl _ _ f11_37 f11_44 HX.out (Nat.lt_of_le_of_lt Nat.and_le_left HY.out)) hS ?_
    obtain ⟨a12, hA12⟩ : ∃ a', a' = a11.put (some 45) (.int .u64 ((x ||| (rv l f &&& m) : Nat) : Int)) := ⟨_, rfl⟩
    change wpAnyH _ _ _ _ _ _ _ (a11.put (some 45) (.int .u64 ((x ||| (rv l f &&& m) : Nat) : Int))) _
    rw [← hA12]
    have f12_45 : a12.eval (.tmp 45) = .int .u64 ((x ||| (rv l f &&& m) : Nat) : Int) := by rw [hA12]; exact Act.eval_put_same _ _ _ (by omega)
    have f12_36 : a12.eval (.tmp 36) = .int .i64 t := by rw [hA12]; exact (Act.eval_put_ne _ _ _ _ (by decide)).trans f11_36
    have f12_34 : a12.eval (.tmp 34) = rV l := by rw [hA12]; exact (Act.eval_put_ne _ _ _ _ (by decide)).trans f11_34
    have f12_2 : a12.eval (.tmp 2) = .pointer (some ⟨w.heap.size, 0, none⟩) := by rw [hA12]; exact (Act.eval_put_ne _ _ _ _ (by decide)).trans f11_2
    have f12_3 : a12.eval (.tmp 3) = .pointer (some ⟨w.heap.size + 1, 0, none⟩) := by rw [hA12]; exact (Act.eval_put_ne _ _ _ _ (by decide)).trans f11_3
    have f12_4 : a12.eval (.tmp 4) = .pointer (some ⟨w.heap.size + 2, 0, none⟩) := by rw [hA12]; exact (Act.eval_put_ne _ _ _ _ (by decide)).trans f11_4
    have f12_5 : a12.eval (.tmp 5) = .int .u64 ((x : Nat) : Int) := by rw [hA12]; exact (Act.eval_put_ne _ _ _ _ (by decide)).trans f11_5
    have z12 : a12.tmps.size = 61 := by rw [hA12, Act.size_put]; exact z11
    have dd12 : a12.defers = [] := by rw [hA12, Act.defers_put']; exact dd11
    clear hA12 z11 dd11 f11_44 f11_37 f11_36 f11_34 f11_2 f11_3 f11_4 f11_5
    refine wpAnyH_ready (rs := [12]) (by kernel_rfl) (by simp) (AllReadyH.cons (by simp only [List.getElem?_toArray, List.getElem?_cons_succ, List.getElem?_cons_zero]; rfl) (fun K hK => ?_) AllReadyH.nil)
    refine step_call (by rfl) 22 #[.tmp 34, .tmp 36, .tmp 45] #[28, 3, 25] (by rfl) #[rV l, .int .i64 t, .int .u64 ((x ||| (rv l f &&& m) : Nat) : Int)] (by simp only [List.map_toArray, List.map_cons, List.map_nil, f12_34, f12_36, f12_45]) Tryd.func22 (by kernel_rfl) rfl ((CS _ _).out) (fun e w' hR => ?_)
    obtain ⟨rfl, hb4⟩ := hR
    rw [← HQ2.out]
    have H2 := Lib.hid (H1.out.next hb4)
    clear hb4
    refine ⟨_, rfl, hK.out _ _ (⟨_, H2.out⟩) (fun hS => ?_)⟩
    obtain ⟨a13, hA13⟩ : ∃ a', a' = a12.put (some 46) (rV q) := ⟨_, rfl⟩
    change wpAnyH _ _ _ _ _ _ _ (a12.put (some 46) (rV q)) _
    rw [← hA13]
    have f13_46 : a13.eval (.tmp 46) = rV q := by rw [hA13]; exact Act.eval_put_same _ _ _ (by omega)
    have f13_2 : a13.eval (.tmp 2) = .pointer (some ⟨w.heap.size, 0, none⟩) := by rw [hA13]; exact (Act.eval_put_ne _ _ _ _ (by decide)).trans f12_2
    have f13_3 : a13.eval (.tmp 3) = .pointer (some ⟨w.heap.size + 1, 0, none⟩) := by rw [hA13]; exact (Act.eval_put_ne _ _ _ _ (by decide)).trans f12_3
    have f13_4 : a13.eval (.tmp 4) = .pointer (some ⟨w.heap.size + 2, 0, none⟩) := by rw [hA13]; exact (Act.eval_put_ne _ _ _ _ (by decide)).trans f12_4
    have f13_5 : a13.eval (.tmp 5) = .int .u64 ((x : Nat) : Int) := by rw [hA13]; exact (Act.eval_put_ne _ _ _ _ (by decide)).trans f12_5
    have z13 : a13.tmps.size = 61 := by rw [hA13, Act.size_put]; exact z12
    have dd13 : a13.defers = [] := by rw [hA13, Act.defers_put']; exact dd12
    clear hA13 z12 dd12 f12_45 f12_36 f12_34 f12_2 f12_3 f12_4 f12_5
    refine wpAnyH_ready (rs := [13]) (by kernel_rfl) (by simp) (AllReadyH.cons (by simp only [List.getElem?_toArray, List.getElem?_cons_succ, List.getElem?_cons_zero]; rfl) (fun K hK => ?_) AllReadyH.nil)
    refine sr_store (by rfl) (.tmp 4) (.tmp 46) (by rfl) (w.heap.size + 2) zerosR q f13_4 f13_46 H2.out.b2 ?_
    refine hK.out _ _ (⟨_, H2.out.store _⟩) (fun hS => ?_)
    change wpAnyH _ _ _ _ _ _ _ a13 _
    refine wpAnyH_done (by kernel_rfl) ?_ _
    go_wp2_with fail
    exact ret_do21 (by rw [← Array.getD_eq_getD_getElem?]; exact f13_4) dd13 (H2.out.store q) rfl
  have e2 : (k == 2) = false := by rw [beq_eq_false_iff_ne]; exact h2
  by_cases h3 : k = 3
  · subst h3
    have HQ2 : Hid (q = setR l t (minus x m)) := Lib.hid (by rw [HQ.out]; unfold doR; rw [if_neg (by decide), if_neg (by decide), if_neg (by decide), if_pos rfl, HXe.out])
    clear HQ
    go_upto_region 10 with fail
    have hand := bits.andNot_u64 HX.out HM.out
    have C3 : Hid (Calls Tryd.prog 22 #[rV l, .int .i64 t, .int .u64 (Go.bits .andNot .u64 (x : Int) (m : Int))] w2 fun e w' => e = .returned (rV (setR l t (minus x m))) ∧ Below w2.heap.size w2 w') := Lib.hid (by rw [hand]; exact (CS _ _).out)
    clear hand
    go_wp2_with (first | refine wr_load rfl _ rfl w.heap.size rfl l HZ2.out.b0 ?_)
    refine (C3.out).mono ?_
    rintro _ w3 ⟨rfl, hb⟩
    have H1 := Lib.hid (HZ2.out.next hb)
    rw [← HQ2.out]
    clear hb y0 y1 y2 y3
    go_wp2_with (first | refine wr_store rfl _ _ rfl (w.heap.size + 2) zerosR q rfl rfl H1.out.b2 ?_)
    exact ret_do21 rfl rfl (H1.out.store q) rfl
  have e3 : (k == 3) = false := by rw [beq_eq_false_iff_ne]; exact h3
  have HQ2 : Hid (q = setR l t 0) := Lib.hid (by rw [HQ.out]; unfold doR; rw [if_neg h0, if_neg h1, if_neg h2, if_neg h3])
  clear HQ h0 h1 h2 h3
  go_wp2_with (first | refine wr_load rfl _ rfl w.heap.size rfl l HZ2.out.b0 ?_)
  refine ((CS 0 w2).out).mono ?_
  rintro _ w3 ⟨rfl, hb⟩
  have H1 := Lib.hid (HZ2.out.next hb)
  rw [← HQ2.out]
  clear hb y0 y1 y2 y3
  go_wp2_with (first | refine wr_store rfl _ _ rfl (w.heap.size + 2) zerosR q rfl rfl H1.out.b2 ?_)
  exact ret_do21 rfl rfl (H1.out.store q) rfl
end Go.Proofs.YtjedinodopcdaaaDoor.rig
