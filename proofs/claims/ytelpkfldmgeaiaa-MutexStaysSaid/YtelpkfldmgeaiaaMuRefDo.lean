/-
  The document's own calls of a mutex. No condition. Printed by tools/mkmudo.py.
-/
import Derived.Test.YtelpkfldmgeaiaaMuRef
import Derived.Deep.MidRow
import Derived.Deep.Cut
import Derived.Deep.CutBlock
namespace Go.Proofs.Ytelpkfldmgeaiaa.mut
open Go.RowKit Go.ChangeShapes
set_option linter.unusedVariables false
set_option linter.unusedSimpArgs false

def mxC (m : Mx) : List Value := [.int .i64 m.o, .bool m.bad, .bool m.lost]
def zM : Mx := ⟨0, false, false⟩
theorem sizeM {n : Nat} (h : n = 3) : (Try.prog.info? 28).map (·.size) = some n := by
  subst h
  kernel_rfl
theorem mxC_all (m : Mx) : (mxC m).toArray.all (·.oneCell') = true := by
  rw [Array.all_eq_true_iff_forall_mem]
  intro u hu
  unfold mxC at hu
  simp only [List.mem_toArray, List.mem_cons, List.not_mem_nil, or_false] at hu
  rcases hu with rfl | rfl | rfl <;> rfl
theorem mx_range {w : World} {g : Nat} {m : Mx} (h : w.heap[g]? = some (mxO m)) : w.rangeAt g 0 (mxC m) := fun j v hv => by
  rw [Nat.zero_add]
  unfold World.cell?
  rw [h]
  unfold mxO
  show (mxC m).toArray[j]? = some v
  rw [List.getElem?_toArray]
  exact hv
theorem mx_turned {w : World} {g : Nat} {m0 : Mx} (h : w.heap[g]? = some (mxO m0)) (m : Mx) : (w.setRow g (mxC m).toArray).heap[g]? = some (mxO m) := by
  simp [World.setRow, Array.getElem?_modify, h, mxO, mxC]
section
variable {ops : Array Oper} {rest : List Oper} {o : Oper} {a : Act} {w : World} {Q : Exit → Act → World → Prop}
theorem wm_load (hgd : o.guard = none) (x : Operand) (ho : o.op = .load 28 x) (g : Nat) (hx : a.eval x = .pointer (some ⟨g, 0, none⟩)) (m : Mx) (hf : w.heap[g]? = some (mxO m))
    (h : wpList Try.prog ops Q rest (a.put o.dst (mxV m)) w) : wpList Try.prog ops Q (o :: rest) a w :=
  wpList_load_mid hgd _ x ho g 0 hx (mxC m) _ (mx_range hf) Try.underlying28 rfl (sizeM rfl) h
theorem wm_store (hgd : o.guard = none) (x y : Operand) (ho : o.op = .store 28 x y) (g : Nat) (m0 m : Mx) (hx : a.eval x = .pointer (some ⟨g, 0, none⟩)) (hy : a.eval y = mxV m) (hg : w.heap[g]? = some (mxO m0))
    (h : wpList Try.prog ops Q rest (a.put o.dst undef) (w.setRow g (mxC m).toArray)) : wpList Try.prog ops Q (o :: rest) a w :=
  wpList_store_row hgd _ x y ho g (mxC m).toArray hx hy 28 (mxC m0).toArray hg (sizeM rfl) rfl (mxC_all m) h
end
theorem row_far {w : World} {g k : Nat} (rs : Array Value) (h : k ≠ g) : (w.setRow g rs).heap[k]? = w.heap[k]? := by
  simp [World.setRow, Array.getElem?_modify, Ne.symm h]
/-- While a call goes: its boxes, and where its answer lies. -/
structure Dz (w : World) (m : Mx) (k t : Int) (W : World) : Prop where
  below : Below w.heap.size w W
  b0 : W.heap[w.heap.size]? = some (mxO m)
  b1 : W.heap[w.heap.size + 1]? = some (.cells #[.int .i64 k, .int .i64 t] 33 (0, 0))
  b2 : W.heap[w.heap.size + 2]? = some (mxO zM)
theorem Dz.next {w W W' : World} {m : Mx} {k t : Int} (h : Dz w m k t W) (hb : Below W.heap.size W W') : Dz w m k t W' :=
  ⟨h.below.trans (hb.mono h.below.size), (hb.block _ (lt_of_block h.b0)).trans h.b0, (hb.block _ (lt_of_block h.b1)).trans h.b1, (hb.block _ (lt_of_block h.b2)).trans h.b2⟩
theorem dz_new (w : World) (m : Mx) (k t : Int) : Dz w m k t (((w.alloc (mxO m)).alloc (.cells #[.int .i64 k, .int .i64 t] 33)).alloc (mxO zM)) := by
  have z1 : (w.alloc (mxO m)).heap.size = w.heap.size + 1 := World.size_alloc _ _
  have z2 : ((w.alloc (mxO m)).alloc (.cells #[.int .i64 k, .int .i64 t] 33)).heap.size = w.heap.size + 2 := by rw [World.size_alloc, z1]
  refine ⟨(((Below.refl _ w).alloc (Nat.le_refl _) _).alloc (by omega) _).alloc (by omega) _, ?_, ?_, ?_⟩
  · exact (Below.heap_alloc _ _ _ (by omega)).trans ((Below.heap_alloc _ _ _ (by omega)).trans (heap_alloc_new w _))
  · refine (Below.heap_alloc _ _ _ (by omega)).trans ?_
    rw [← z1]
    exact heap_alloc_new _ _
  · rw [← z2]
    exact heap_alloc_new _ _
theorem op_cells {W : World} {g : Nat} {k t : Int} (h : W.heap[g]? = some (.cells #[.int .i64 k, .int .i64 t] 33 (0, 0))) : W.cell? ⟨g, 0, none⟩ = some (.int .i64 k) ∧ W.cell? ⟨g, 1, none⟩ = some (.int .i64 t) := by
  simp [World.cell?, h]
theorem Dz.row {w W : World} {m : Mx} {k t : Int} (h : Dz w m k t W) (rs : Array Value) : Below w.heap.size w (W.setRow (w.heap.size + 2) rs) := by
  have hs := lt_of_block h.b2
  refine ⟨h.below.os, h.below.tape, h.below.output, ?_, fun i hi => (row_far rs (by omega)).trans (h.below.block i hi)⟩
  show w.heap.size ≤ (W.heap.modify _ _).size
  rw [Array.size_modify]
  exact h.below.size

theorem wp_hold_worldM {P : Program} {Q : Exit → Act → World → Prop} {c : Code} {a : Act} {w : World} (h : ∀ w', Hid (w' = w) → c.wp P Q a w') : c.wp P Q a w := h w (Lib.hid rfl)
set_option maxRecDepth 100000 in
set_option maxHeartbeats 4000000 in
theorem refDo16_any (m : Mx) (k t : Int) (w : World) : Calls Try.prog 7 #[mxV m, .agg #[.int .i64 k, .int .i64 t]] w (MxPost2 (doM m k t) w) := by
  obtain ⟨r, hr⟩ : ∃ r, r = doM m k t := ⟨_, rfl⟩
  rw [← hr]
  unfold doM at hr
  have HZ := Lib.hid (dz_new w m k t)
  have HLk := fun W => Lib.hid (refLock16_any m t W)
  have HOw := fun W => Lib.hid (refOwn16_any m t W)
  have HU := fun W => Lib.hid (refUnlock16_any m W)
  have HF := fun W => Lib.hid (refFree16_any m W)
  have HD := fun W => Lib.hid (refDie16_any m W)
  have HMe := fun W => Lib.hid (refMend16_any m W)
  unfold MxPost2 at HLk
  unfold MxPost at HU HF HD HMe
  by_cases k0 : k = 0
  · rw [if_pos k0] at hr
    subst k0
    have q0 : ((0 : Int) == 0) = true := by decide
    obtain ⟨m', e'⟩ := r
    rw [← hr] at HLk
    dsimp only at HLk
    clear hr HOw HU HF HD HMe
    go_enter Try.func7, Try.ntmps7
    go_upto_region 1 with fail
    refine wp_hold_worldM (fun W0 HW0 => ?_)
    have HZ0 : Hid (Dz w m 0 t W0) := Lib.hid (by rw [HW0.out]; exact HZ.out)
    clear HW0 HZ
    obtain ⟨p0, p1⟩ := op_cells HZ0.out.b1
    go_wp2_with (first | refine wm_load rfl _ rfl w.heap.size rfl m HZ0.out.b0 ?_)
    refine (HLk W0).out.mono ?_
    rintro _ w1 ⟨rfl, hb1⟩
    have HZ1 := Lib.hid (HZ0.out.next hb1)
    clear hb1 HZ0 p0 p1 HLk
    go_wp2_with (first | refine wm_store rfl _ _ rfl (w.heap.size + 2) zM m' rfl rfl HZ1.out.b2 ?_)
    exact ret_do16 (m := m') (k := e') rfl rfl rfl (mx_turned HZ1.out.b2 _) (HZ1.out.row _)
  rw [if_neg k0] at hr
  have q0 : (k == 0) = false := by simpa using k0
  by_cases ho : ownM m t
  · rw [if_neg (fun h => h ho)] at hr
    have HOd := Lib.hid (decide_eq_true ho)
    by_cases k1 : k = 1
    · rw [if_pos k1] at hr
      subst hr k1
      clear ho k0
      have q1 : ((1 : Int) == 1) = true := by decide
      go_enter Try.func7, Try.ntmps7
      go_upto_region 1 with fail
      refine wp_hold_worldM (fun W0 HW0 => ?_)
      have HZ0 : Hid (Dz w m 1 t W0) := Lib.hid (by rw [HW0.out]; exact HZ.out)
      clear HW0 HZ
      obtain ⟨p0, p1⟩ := op_cells HZ0.out.b1
      go_wp2_with (first | refine wm_load rfl _ rfl w.heap.size rfl m HZ0.out.b0 ?_)
      refine (HOw W0).out.mono ?_
      rintro _ w1 ⟨rfl, hb1⟩
      rw [HOd.out]
      have HZ1 := Lib.hid (HZ0.out.next hb1)
      clear hb1 HZ0 p0 p1
      obtain ⟨p0, p1⟩ := op_cells HZ1.out.b1
      go_wp2_with (first | refine wm_load rfl _ rfl w.heap.size rfl m HZ1.out.b0 ?_)
      refine (HU w1).out.mono ?_
      rintro _ w2 ⟨rfl, hb2⟩
      have HZ2 := Lib.hid (HZ1.out.next hb2)
      clear hb2 HZ1 p0 p1 HOd HLk HOw HU HF HD HMe
      go_wp2_with (first | refine wm_store rfl _ _ rfl (w.heap.size + 2) zM (unlockM m) rfl rfl HZ2.out.b2 ?_)
      exact ret_do16 (m := unlockM m) (k := 0) rfl rfl rfl (mx_turned HZ2.out.b2 _) (HZ2.out.row _)
    rw [if_neg k1] at hr
    have q1 : (k == 1) = false := by simpa using k1
    by_cases k2 : k = 2
    · rw [if_pos k2] at hr
      subst hr k2
      clear ho k0 k1
      have q2 : ((2 : Int) == 2) = true := by decide
      go_enter Try.func7, Try.ntmps7
      go_upto_region 1 with fail
      refine wp_hold_worldM (fun W0 HW0 => ?_)
      have HZ0 : Hid (Dz w m 2 t W0) := Lib.hid (by rw [HW0.out]; exact HZ.out)
      clear HW0 HZ
      obtain ⟨p0, p1⟩ := op_cells HZ0.out.b1
      go_wp2_with (first | refine wm_load rfl _ rfl w.heap.size rfl m HZ0.out.b0 ?_)
      refine (HOw W0).out.mono ?_
      rintro _ w1 ⟨rfl, hb1⟩
      rw [HOd.out]
      have HZ1 := Lib.hid (HZ0.out.next hb1)
      clear hb1 HZ0 p0 p1
      obtain ⟨p0, p1⟩ := op_cells HZ1.out.b1
      go_wp2_with (first | refine wm_load rfl _ rfl w.heap.size rfl m HZ1.out.b0 ?_)
      refine (HF w1).out.mono ?_
      rintro _ w2 ⟨rfl, hb2⟩
      have HZ2 := Lib.hid (HZ1.out.next hb2)
      clear hb2 HZ1 p0 p1 HOd HLk HOw HU HF HD HMe
      go_wp2_with (first | refine wm_store rfl _ _ rfl (w.heap.size + 2) zM (freeM m) rfl rfl HZ2.out.b2 ?_)
      exact ret_do16 (m := freeM m) (k := 1) rfl rfl rfl (mx_turned HZ2.out.b2 _) (HZ2.out.row _)
    rw [if_neg k2] at hr
    have q2 : (k == 2) = false := by simpa using k2
    by_cases k3 : k = 3
    · rw [if_pos k3] at hr
      subst hr k3
      clear ho k0 k1 k2
      have q3 : ((3 : Int) == 3) = true := by decide
      go_enter Try.func7, Try.ntmps7
      go_upto_region 1 with fail
      refine wp_hold_worldM (fun W0 HW0 => ?_)
      have HZ0 : Hid (Dz w m 3 t W0) := Lib.hid (by rw [HW0.out]; exact HZ.out)
      clear HW0 HZ
      obtain ⟨p0, p1⟩ := op_cells HZ0.out.b1
      go_wp2_with (first | refine wm_load rfl _ rfl w.heap.size rfl m HZ0.out.b0 ?_)
      refine (HOw W0).out.mono ?_
      rintro _ w1 ⟨rfl, hb1⟩
      rw [HOd.out]
      have HZ1 := Lib.hid (HZ0.out.next hb1)
      clear hb1 HZ0 p0 p1
      obtain ⟨p0, p1⟩ := op_cells HZ1.out.b1
      go_wp2_with (first | refine wm_load rfl _ rfl w.heap.size rfl m HZ1.out.b0 ?_)
      refine (HD w1).out.mono ?_
      rintro _ w2 ⟨rfl, hb2⟩
      have HZ2 := Lib.hid (HZ1.out.next hb2)
      clear hb2 HZ1 p0 p1 HOd HLk HOw HU HF HD HMe
      go_wp2_with (first | refine wm_store rfl _ _ rfl (w.heap.size + 2) zM (dieM m) rfl rfl HZ2.out.b2 ?_)
      exact ret_do16 (m := dieM m) (k := 1) rfl rfl rfl (mx_turned HZ2.out.b2 _) (HZ2.out.row _)
    rw [if_neg k3] at hr
    have q3 : (k == 3) = false := by simpa using k3
    subst hr
    clear ho k0 k1 k2 k3
    go_enter Try.func7, Try.ntmps7
    go_upto_region 1 with fail
    refine wp_hold_worldM (fun W0 HW0 => ?_)
    have HZ0 : Hid (Dz w m k t W0) := Lib.hid (by rw [HW0.out]; exact HZ.out)
    clear HW0 HZ
    obtain ⟨p0, p1⟩ := op_cells HZ0.out.b1
    go_wp2_with (first | refine wm_load rfl _ rfl w.heap.size rfl m HZ0.out.b0 ?_)
    refine (HOw W0).out.mono ?_
    rintro _ w1 ⟨rfl, hb1⟩
    rw [HOd.out]
    have HZ1 := Lib.hid (HZ0.out.next hb1)
    clear hb1 HZ0 p0 p1
    obtain ⟨p0, p1⟩ := op_cells HZ1.out.b1
    go_wp2_with (first | refine wm_load rfl _ rfl w.heap.size rfl m HZ1.out.b0 ?_)
    refine (HMe w1).out.mono ?_
    rintro _ w2 ⟨rfl, hb2⟩
    have HZ2 := Lib.hid (HZ1.out.next hb2)
    clear hb2 HZ1 p0 p1 HOd HLk HOw HU HF HD HMe
    go_wp2_with (first | refine wm_store rfl _ _ rfl (w.heap.size + 2) zM (mendM m) rfl rfl HZ2.out.b2 ?_)
    exact ret_do16 (m := mendM m) (k := 0) rfl rfl rfl (mx_turned HZ2.out.b2 _) (HZ2.out.row _)
  · rw [if_pos ho] at hr
    have HOd := Lib.hid (decide_eq_false ho)
    by_cases k2 : k = 2
    · rw [if_pos (.inl k2)] at hr
      subst hr k2
      clear ho k0
      have q2 : ((2 : Int) == 2) = true := by decide
      go_enter Try.func7, Try.ntmps7
      go_upto_region 1 with fail
      refine wp_hold_worldM (fun W0 HW0 => ?_)
      have HZ0 : Hid (Dz w m 2 t W0) := Lib.hid (by rw [HW0.out]; exact HZ.out)
      clear HW0 HZ
      obtain ⟨p0, p1⟩ := op_cells HZ0.out.b1
      go_wp2_with (first | refine wm_load rfl _ rfl w.heap.size rfl m HZ0.out.b0 ?_)
      refine (HOw W0).out.mono ?_
      rintro _ w1 ⟨rfl, hb1⟩
      rw [HOd.out]
      have HZ1 := Lib.hid (HZ0.out.next hb1)
      clear hb1 HZ0 p0 p1
      obtain ⟨p0, p1⟩ := op_cells HZ1.out.b1
      clear HOd HLk HOw HU HF HD HMe
      go_wp2_with (first | refine wm_load rfl _ rfl w.heap.size rfl m HZ1.out.b0 ?_ | refine wm_store rfl _ _ rfl (w.heap.size + 2) zM m rfl rfl HZ1.out.b2 ?_)
      exact ret_do16 (m := m) (k := 0) rfl rfl rfl (mx_turned HZ1.out.b2 m) (HZ1.out.row _)
    have q2 : (k == 2) = false := by simpa using k2
    by_cases k3 : k = 3
    · rw [if_pos (.inr k3)] at hr
      subst hr k3
      clear ho k0 k2
      have q3 : ((3 : Int) == 3) = true := by decide
      go_enter Try.func7, Try.ntmps7
      go_upto_region 1 with fail
      refine wp_hold_worldM (fun W0 HW0 => ?_)
      have HZ0 : Hid (Dz w m 3 t W0) := Lib.hid (by rw [HW0.out]; exact HZ.out)
      clear HW0 HZ
      obtain ⟨p0, p1⟩ := op_cells HZ0.out.b1
      go_wp2_with (first | refine wm_load rfl _ rfl w.heap.size rfl m HZ0.out.b0 ?_)
      refine (HOw W0).out.mono ?_
      rintro _ w1 ⟨rfl, hb1⟩
      rw [HOd.out]
      have HZ1 := Lib.hid (HZ0.out.next hb1)
      clear hb1 HZ0 p0 p1
      obtain ⟨p0, p1⟩ := op_cells HZ1.out.b1
      clear HOd HLk HOw HU HF HD HMe
      go_wp2_with (first | refine wm_load rfl _ rfl w.heap.size rfl m HZ1.out.b0 ?_ | refine wm_store rfl _ _ rfl (w.heap.size + 2) zM m rfl rfl HZ1.out.b2 ?_)
      exact ret_do16 (m := m) (k := 0) rfl rfl rfl (mx_turned HZ1.out.b2 m) (HZ1.out.row _)
    have q3 : (k == 3) = false := by simpa using k3
    rw [if_neg (by rintro (h | h); exact k2 h; exact k3 h)] at hr
    subst hr
    clear ho k0 k2 k3
    go_enter Try.func7, Try.ntmps7
    go_upto_region 1 with fail
    refine wp_hold_worldM (fun W0 HW0 => ?_)
    have HZ0 : Hid (Dz w m k t W0) := Lib.hid (by rw [HW0.out]; exact HZ.out)
    clear HW0 HZ
    obtain ⟨p0, p1⟩ := op_cells HZ0.out.b1
    go_wp2_with (first | refine wm_load rfl _ rfl w.heap.size rfl m HZ0.out.b0 ?_)
    refine (HOw W0).out.mono ?_
    rintro _ w1 ⟨rfl, hb1⟩
    rw [HOd.out]
    have HZ1 := Lib.hid (HZ0.out.next hb1)
    clear hb1 HZ0 p0 p1
    obtain ⟨p0, p1⟩ := op_cells HZ1.out.b1
    clear HOd HLk HOw HU HF HD HMe
    go_wp2_with (first | refine wm_load rfl _ rfl w.heap.size rfl m HZ1.out.b0 ?_ | refine wm_store rfl _ _ rfl (w.heap.size + 2) zM m rfl rfl HZ1.out.b2 ?_)
    exact ret_do16 (m := m) (k := 9) rfl rfl rfl (mx_turned HZ1.out.b2 m) (HZ1.out.row _)
end Go.Proofs.Ytelpkfldmgeaiaa.mut
