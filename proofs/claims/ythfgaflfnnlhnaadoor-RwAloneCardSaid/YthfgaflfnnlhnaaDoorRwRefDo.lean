/-
  The document's Do of a lock that many read or one writes. No condition. Printed by tools/mkrwdo.py.
-/
import Derived.Test.YthfgaflfnnlhnaaDoorRwRef
namespace Go.Proofs.YthfgaflfnnlhnaaDoor.rwl
open Go.RowKit Go.ChangeShapes
open Go.Proofs.YthfgaflfnnlhnaaDoor.obj
open Go.Proofs.YthfgaflfnnlhnaaDoor.bits (Is64 hasB wth wout refHas_any refWith_any refWithout_any)
set_option linter.unusedVariables false
set_option linter.unusedSimpArgs false

/-- While Do goes: the boxes of the lock and of the call, and what is answered. -/
structure Dz (w : World) (s : Rx) (k n : Int) (q : Rx) (W : World) : Prop where
  below : Below w.heap.size w W
  b0 : W.heap[w.heap.size]? = some (rxO s)
  b1 : W.heap[w.heap.size + 1]? = some (.cells #[.int .i64 k, .int .i64 n] 34 (0, 0))
  b2 : W.heap[w.heap.size + 2]? = some (rxO q)
theorem dz_new (w : World) (s : Rx) (k n : Int) : Dz w s k n rxZ (((w.alloc (rxO s)).alloc (.cells #[.int .i64 k, .int .i64 n] 34)).alloc (rxO rxZ)) := by
  have z1 : (w.alloc (rxO s)).heap.size = w.heap.size + 1 := World.size_alloc _ _
  have z2 : ((w.alloc (rxO s)).alloc (.cells #[.int .i64 k, .int .i64 n] 34)).heap.size = w.heap.size + 2 := by rw [World.size_alloc, z1]
  refine ⟨(((Below.refl _ w).alloc (Nat.le_refl _) _).alloc (by omega) _).alloc (by omega) _, ?_, ?_, ?_⟩
  · exact (Below.heap_alloc _ _ _ (by omega)).trans ((Below.heap_alloc _ _ _ (by omega)).trans (heap_alloc_new w _))
  · refine (Below.heap_alloc _ _ _ (by omega)).trans ?_
    rw [← z1]
    exact heap_alloc_new _ _
  · rw [← z2]
    exact heap_alloc_new _ _
theorem Dz.store {w W : World} {s q0 : Rx} {k n : Int} (h : Dz w s k n q0 W) (q : Rx) : Dz w s k n q (W.setRow (w.heap.size + 2) (rxC q).toArray) :=
  ⟨row_below h.below (by omega) _, (row_far _ (by omega)).trans h.b0, (row_far _ (by omega)).trans h.b1, rx_turned h.b2 q⟩
theorem Dz.setr {w W : World} {s q : Rx} {k n : Int} (h : Dz w s k n q W) (r : Nat) : Dz w ⟨r, s.p⟩ k n q (W.setCell ⟨w.heap.size, 0, none⟩ (.int .u64 (r : Int))) :=
  ⟨set_below h.below (Nat.le_refl _) _, rx_setr h.b0 r, (set_far _ (by omega)).trans h.b1, (set_far _ (by omega)).trans h.b2⟩
theorem Dz.setp {w W : World} {s q : Rx} {k n : Int} (h : Dz w s k n q W) (p : Int) : Dz w ⟨s.r, p⟩ k n q (W.setCell ⟨w.heap.size, 1, none⟩ (.int .i64 p)) :=
  ⟨set_below h.below (Nat.le_refl _) _, rx_setp h.b0 p, (set_far _ (by omega)).trans h.b1, (set_far _ (by omega)).trans h.b2⟩
theorem Dz.next {w W W' : World} {s q : Rx} {k n : Int} (h : Dz w s k n q W) (hb : Below W.heap.size W W') : Dz w s k n q W' :=
  ⟨h.below.trans (hb.mono h.below.size), (hb.block _ (lt_of_block h.b0)).trans h.b0, (hb.block _ (lt_of_block h.b1)).trans h.b1, (hb.block _ (lt_of_block h.b2)).trans h.b2⟩
theorem ret_do17 {W w : World} {act : Act} {q : Rx × Int} {s m : Rx} {k n y : Int} (h4 : act.tmps[4]?.getD undef = .pointer (some ⟨w.heap.size + 2, 0, none⟩)) (h5 : act.tmps[5]?.getD undef = .int .i64 y) (hd : act.defers = []) (hE : Dz w s k n m W) (hq : q = (m, y)) :
    bodyPost Tryd.prog Tryd.f7 (RxPost2 q w) .ret act W := by
  subst hq
  have hL := run_loadVar_mid (P := Tryd.prog) W (w.heap.size + 2) 0 29 (rxC m) _ (rx_range hE.b2) Tryd.underlying29 rfl (rx_size rfl)
  refine bodyPost_ret (v := .tuple #[rxV m, .int .i64 y]) ?_ hd ⟨rfl, hE.below⟩
  simp [results, Tryd.results7, asAddr, h4, h5, hL, Sem.run_bind, Sem.run_pure, Result.andThen, rxV]
set_option maxRecDepth 100000 in
set_option maxHeartbeats 4000000 in
theorem refDo17_any (s : Rx) (k n : Int) (w : World) (h64 : Is64 s.r) : Calls Tryd.prog 7 #[rxV s, .agg #[.int .i64 k, .int .i64 n]] w (RxPost2 (doR s k n) w) := by
  have HZ := Lib.hid (dz_new w s k n)
  have HM := fun W => Lib.hid (refMode_any s n W h64)
  have HLv := fun W => Lib.hid (refLeave_any s n W h64)
  have HW := fun W => Lib.hid (refWith_any s.r h64 n W)
  unfold RxPost at HLv
  obtain ⟨q, hq⟩ : ∃ q, q = doR s k n := ⟨_, rfl⟩
  rw [← hq]
  have HQ := Lib.hid hq
  have z1 : (w.alloc (rxO s)).heap.size = w.heap.size + 1 := World.size_alloc _ _
  clear hq h64
  go_enter Tryd.func7, Tryd.ntmps7
  go_upto_region 1 with (first | refine wrx_box rfl _ rfl s rfl ?_ | refine wrx_alloc rfl rfl ?_)
  try simp only [Act.put, List.setIfInBounds_toArray, List.set_cons_zero, List.set_cons_succ, World.size_alloc, Nat.add_assoc, Nat.reduceAdd]
  generalize ((w.alloc (rxO s)).alloc (.cells #[.int .i64 k, .int .i64 n] 34)).alloc (rxO rxZ) = W1 at *
  obtain ⟨x0, x1⟩ := rx_cells HZ.out.b0
  obtain ⟨y0, y1⟩ := cells2 HZ.out.b1
  by_cases h1 : n < 0
  · have HR : Hid (q = (s, 1)) := Lib.hid (by rw [HQ.out]; unfold doR; rw [if_pos (.inl h1)])
    have d1 : decide (n < 0) = true := decide_eq_true h1
    clear h1 HM HLv HW
    go_upto_region 2 with fail
    go_wp2_with (first | refine wrx_load rfl _ rfl w.heap.size rfl s HZ.out.b0 ?_ | refine wrx_store rfl _ _ rfl (w.heap.size + 2) rxZ _ rfl rfl HZ.out.b2 ?_)
    exact ret_do17 rfl rfl rfl (HZ.out.store _) HR.out
  have d1 : decide (n < 0) = false := decide_eq_false h1
  by_cases h2 : 63 < n
  · have HR : Hid (q = (s, 1)) := Lib.hid (by rw [HQ.out]; unfold doR; rw [if_pos (.inr h2)])
    have d2 : decide (n > 63) = true := decide_eq_true h2
    have d3 : decide (63 < n) = true := decide_eq_true h2
    clear h1 h2 HM HLv HW
    go_upto_region 2 with fail
    go_wp2_with (first | refine wrx_load rfl _ rfl w.heap.size rfl s HZ.out.b0 ?_ | refine wrx_store rfl _ _ rfl (w.heap.size + 2) rxZ _ rfl rfl HZ.out.b2 ?_)
    exact ret_do17 rfl rfl rfl (HZ.out.store _) HR.out
  have d2 : decide (n > 63) = false := decide_eq_false h2
  have d3 : decide (63 < n) = false := decide_eq_false h2
  have ht : ¬ (n < 0 ∨ 63 < n) := by omega
  clear h1 h2
  by_cases k0 : k = 0
  · subst k0
    by_cases hm : modeR s n ≠ 0
    · have HR : Hid (q = (s, 8)) := Lib.hid (by rw [HQ.out]; unfold doR; rw [if_neg ht, if_neg (by omega), if_pos hm])
      have e1 : (modeR s n != 0) = true := by rw [bne_iff_ne]; exact hm
      clear hm HLv HW
      generalize modeR s n = y at *
      go_upto_region 7 with fail
      go_wp2_with (first | refine wrx_load rfl _ rfl w.heap.size rfl s HZ.out.b0 ?_ | refine wrx_store rfl _ _ rfl (w.heap.size + 2) rxZ _ rfl rfl HZ.out.b2 ?_)
      refine (HM _).out.mono ?_
      rintro _ w2 ⟨rfl, hb⟩
      have HZ2 := Lib.hid (HZ.out.next hb)
      clear hb HM x0 x1 y0 y1 HZ
      obtain ⟨x0, x1⟩ := rx_cells HZ2.out.b0
      obtain ⟨y0, y1⟩ := cells2 HZ2.out.b1
      go_upto_region 8 with fail
      go_wp2_with (first | refine wrx_load rfl _ rfl w.heap.size rfl s HZ2.out.b0 ?_ | refine wrx_store rfl _ _ rfl (w.heap.size + 2) rxZ _ rfl rfl HZ2.out.b2 ?_)
      exact ret_do17 rfl rfl rfl (HZ2.out.store _) HR.out
    have hm0 : modeR s n = 0 := by omega
    rw [hm0] at HM
    by_cases hp : 0 ≤ s.p
    · have HR : Hid (q = (s, 7)) := Lib.hid (by rw [HQ.out]; unfold doR; rw [if_neg ht, if_neg (by omega), if_neg hm, if_pos (.inl hp)])
      have e1 : decide (s.p ≥ 0) = true := decide_eq_true hp
      have e2 : decide (0 ≤ s.p) = true := decide_eq_true hp
      clear hp hm hm0 HLv HW
      go_upto_region 7 with fail
      go_wp2_with (first | refine wrx_load rfl _ rfl w.heap.size rfl s HZ.out.b0 ?_ | refine wrx_store rfl _ _ rfl (w.heap.size + 2) rxZ _ rfl rfl HZ.out.b2 ?_)
      refine (HM _).out.mono ?_
      rintro _ w2 ⟨rfl, hb⟩
      have HZ2 := Lib.hid (HZ.out.next hb)
      clear hb HM x0 x1 y0 y1 HZ
      obtain ⟨x0, x1⟩ := rx_cells HZ2.out.b0
      obtain ⟨y0, y1⟩ := cells2 HZ2.out.b1
      go_upto_region 10 with fail
      go_wp2_with (first | refine wrx_load rfl _ rfl w.heap.size rfl s HZ2.out.b0 ?_ | refine wrx_store rfl _ _ rfl (w.heap.size + 2) rxZ _ rfl rfl HZ2.out.b2 ?_)
      exact ret_do17 rfl rfl rfl (HZ2.out.store _) HR.out
    have e1 : decide (s.p ≥ 0) = false := decide_eq_false hp
    have e2 : decide (0 ≤ s.p) = false := decide_eq_false hp
    have HR : Hid (q = (⟨wth s.r n, s.p⟩, 0)) := Lib.hid (by rw [HQ.out]; unfold doR; rw [if_neg ht, if_neg (by omega), if_neg hm, if_neg (by rintro (h | h); exact hp h; omega), if_pos rfl])
    clear hp hm hm0 HLv
    go_upto_region 7 with fail
    go_wp2_with (first | refine wrx_load rfl _ rfl w.heap.size rfl s HZ.out.b0 ?_ | refine wrx_store rfl _ _ rfl (w.heap.size + 2) rxZ _ rfl rfl HZ.out.b2 ?_)
    refine (HM _).out.mono ?_
    rintro _ w2 ⟨rfl, hb⟩
    have HZ2 := Lib.hid (HZ.out.next hb)
    clear hb HM x0 x1 y0 y1 HZ
    obtain ⟨x0, x1⟩ := rx_cells HZ2.out.b0
    obtain ⟨y0, y1⟩ := cells2 HZ2.out.b1
    go_upto_region 12 with fail
    have f0 := rx_soft HZ2.out.b0 0
    generalize wth s.r n = r2 at *
    go_wp2_with fail
    refine (HW _).out.mono ?_
    rintro _ w3 ⟨rfl, rfl⟩
    go_upto_region 14 with fail
    have HZ3 := Lib.hid (HZ2.out.setr r2)
    generalize w2.setCell ⟨w.heap.size, 0, none⟩ (.int .u64 (r2 : Int)) = W3 at *
    clear HZ2 x0 x1 y0 y1 f0 HW
    skip
    go_wp2_with (first | refine wrx_load rfl _ rfl w.heap.size rfl ⟨r2, s.p⟩ HZ3.out.b0 ?_ | refine wrx_store rfl _ _ rfl (w.heap.size + 2) rxZ _ rfl rfl HZ3.out.b2 ?_)
    exact ret_do17 rfl rfl rfl (HZ3.out.store _) HR.out
  by_cases k1 : k = 1
  · subst k1
    by_cases hm : modeR s n ≠ 0
    · have HR : Hid (q = (s, 8)) := Lib.hid (by rw [HQ.out]; unfold doR; rw [if_neg ht, if_neg (by omega), if_pos hm])
      have e1 : (modeR s n != 0) = true := by rw [bne_iff_ne]; exact hm
      clear hm HLv HW
      generalize modeR s n = y at *
      go_upto_region 7 with fail
      go_wp2_with (first | refine wrx_load rfl _ rfl w.heap.size rfl s HZ.out.b0 ?_ | refine wrx_store rfl _ _ rfl (w.heap.size + 2) rxZ _ rfl rfl HZ.out.b2 ?_)
      refine (HM _).out.mono ?_
      rintro _ w2 ⟨rfl, hb⟩
      have HZ2 := Lib.hid (HZ.out.next hb)
      clear hb HM x0 x1 y0 y1 HZ
      obtain ⟨x0, x1⟩ := rx_cells HZ2.out.b0
      obtain ⟨y0, y1⟩ := cells2 HZ2.out.b1
      go_upto_region 8 with fail
      go_wp2_with (first | refine wrx_load rfl _ rfl w.heap.size rfl s HZ2.out.b0 ?_ | refine wrx_store rfl _ _ rfl (w.heap.size + 2) rxZ _ rfl rfl HZ2.out.b2 ?_)
      exact ret_do17 rfl rfl rfl (HZ2.out.store _) HR.out
    have hm0 : modeR s n = 0 := by omega
    rw [hm0] at HM
    by_cases hp : 0 ≤ s.p
    · have HR : Hid (q = (s, 7)) := Lib.hid (by rw [HQ.out]; unfold doR; rw [if_neg ht, if_neg (by omega), if_neg hm, if_pos (.inl hp)])
      have e1 : decide (s.p ≥ 0) = true := decide_eq_true hp
      have e2 : decide (0 ≤ s.p) = true := decide_eq_true hp
      clear hp hm hm0 HLv HW
      go_upto_region 7 with fail
      go_wp2_with (first | refine wrx_load rfl _ rfl w.heap.size rfl s HZ.out.b0 ?_ | refine wrx_store rfl _ _ rfl (w.heap.size + 2) rxZ _ rfl rfl HZ.out.b2 ?_)
      refine (HM _).out.mono ?_
      rintro _ w2 ⟨rfl, hb⟩
      have HZ2 := Lib.hid (HZ.out.next hb)
      clear hb HM x0 x1 y0 y1 HZ
      obtain ⟨x0, x1⟩ := rx_cells HZ2.out.b0
      obtain ⟨y0, y1⟩ := cells2 HZ2.out.b1
      go_upto_region 10 with fail
      go_wp2_with (first | refine wrx_load rfl _ rfl w.heap.size rfl s HZ2.out.b0 ?_ | refine wrx_store rfl _ _ rfl (w.heap.size + 2) rxZ _ rfl rfl HZ2.out.b2 ?_)
      exact ret_do17 rfl rfl rfl (HZ2.out.store _) HR.out
    have e1 : decide (s.p ≥ 0) = false := decide_eq_false hp
    have e2 : decide (0 ≤ s.p) = false := decide_eq_false hp
    by_cases hr : s.r ≠ 0
    · have HR : Hid (q = (s, 7)) := Lib.hid (by rw [HQ.out]; unfold doR; rw [if_neg ht, if_neg (by omega), if_neg hm, if_pos (.inr ⟨rfl, hr⟩)])
      have e3 : ((s.r : Int) != 0) = true := by rw [bne_iff_ne]; omega
      clear hp hm hm0 hr HLv HW
      go_upto_region 7 with fail
      go_wp2_with (first | refine wrx_load rfl _ rfl w.heap.size rfl s HZ.out.b0 ?_ | refine wrx_store rfl _ _ rfl (w.heap.size + 2) rxZ _ rfl rfl HZ.out.b2 ?_)
      refine (HM _).out.mono ?_
      rintro _ w2 ⟨rfl, hb⟩
      have HZ2 := Lib.hid (HZ.out.next hb)
      clear hb HM x0 x1 y0 y1 HZ
      obtain ⟨x0, x1⟩ := rx_cells HZ2.out.b0
      obtain ⟨y0, y1⟩ := cells2 HZ2.out.b1
      go_upto_region 10 with fail
      go_wp2_with (first | refine wrx_load rfl _ rfl w.heap.size rfl s HZ2.out.b0 ?_ | refine wrx_store rfl _ _ rfl (w.heap.size + 2) rxZ _ rfl rfl HZ2.out.b2 ?_)
      exact ret_do17 rfl rfl rfl (HZ2.out.store _) HR.out
    have hr0 : s.r = 0 := by omega
    have e3 : ((s.r : Int) != 0) = false := by rw [hr0]; rfl
    have HR : Hid (q = (⟨s.r, n⟩, 0)) := Lib.hid (by rw [HQ.out]; unfold doR; rw [if_neg ht, if_neg (by omega), if_neg hm, if_neg (by rintro (h | h); exact hp h; exact hr h.2), if_neg (by decide)])
    clear hp hm hm0 hr hr0 HLv HW
    go_upto_region 7 with fail
    go_wp2_with (first | refine wrx_load rfl _ rfl w.heap.size rfl s HZ.out.b0 ?_ | refine wrx_store rfl _ _ rfl (w.heap.size + 2) rxZ _ rfl rfl HZ.out.b2 ?_)
    refine (HM _).out.mono ?_
    rintro _ w2 ⟨rfl, hb⟩
    have HZ2 := Lib.hid (HZ.out.next hb)
    clear hb HM x0 x1 y0 y1 HZ
    obtain ⟨x0, x1⟩ := rx_cells HZ2.out.b0
    obtain ⟨y0, y1⟩ := cells2 HZ2.out.b1
    go_upto_region 13 with fail
    have f1 := rx_soft HZ2.out.b0 1
    go_upto_region 14 with fail
    have HZ3 := Lib.hid (HZ2.out.setp n)
    generalize w2.setCell ⟨w.heap.size, 1, none⟩ (.int .i64 n) = W3 at *
    clear HZ2 x0 x1 y0 y1 f1
    skip
    go_wp2_with (first | refine wrx_load rfl _ rfl w.heap.size rfl ⟨s.r, n⟩ HZ3.out.b0 ?_ | refine wrx_store rfl _ _ rfl (w.heap.size + 2) rxZ _ rfl rfl HZ3.out.b2 ?_)
    exact ret_do17 rfl rfl rfl (HZ3.out.store _) HR.out
  have e0 : (k != 0) = true := by rw [bne_iff_ne]; exact k0
  have e1 : (k != 1) = true := by rw [bne_iff_ne]; exact k1
  by_cases hm : modeR s n = 0
  · have HR : Hid (q = (s, 9)) := Lib.hid (by rw [HQ.out]; unfold doR; rw [if_neg ht, if_pos ⟨k0, k1⟩, if_pos hm])
    rw [hm] at HM
    clear hm k0 k1 HLv HW
    go_upto_region 4 with fail
    go_wp2_with (first | refine wrx_load rfl _ rfl w.heap.size rfl s HZ.out.b0 ?_ | refine wrx_store rfl _ _ rfl (w.heap.size + 2) rxZ _ rfl rfl HZ.out.b2 ?_)
    refine (HM _).out.mono ?_
    rintro _ w2 ⟨rfl, hb⟩
    have HZ2 := Lib.hid (HZ.out.next hb)
    clear hb HM x0 x1 y0 y1 HZ
    obtain ⟨x0, x1⟩ := rx_cells HZ2.out.b0
    obtain ⟨y0, y1⟩ := cells2 HZ2.out.b1
    go_upto_region 5 with fail
    go_wp2_with (first | refine wrx_load rfl _ rfl w.heap.size rfl s HZ2.out.b0 ?_ | refine wrx_store rfl _ _ rfl (w.heap.size + 2) rxZ _ rfl rfl HZ2.out.b2 ?_)
    exact ret_do17 rfl rfl rfl (HZ2.out.store _) HR.out
  have HR : Hid (q = (leaveR s n, 0)) := Lib.hid (by rw [HQ.out]; unfold doR; rw [if_neg ht, if_pos ⟨k0, k1⟩, if_neg hm])
  have e2 : (modeR s n == 0) = false := by rw [beq_eq_false_iff_ne]; exact hm
  clear hm k0 k1 HW
  generalize modeR s n = y at *
  generalize leaveR s n = q2 at *
  go_upto_region 4 with fail
  go_wp2_with (first | refine wrx_load rfl _ rfl w.heap.size rfl s HZ.out.b0 ?_ | refine wrx_store rfl _ _ rfl (w.heap.size + 2) rxZ _ rfl rfl HZ.out.b2 ?_)
  refine (HM _).out.mono ?_
  rintro _ w2 ⟨rfl, hb⟩
  have HZ2 := Lib.hid (HZ.out.next hb)
  clear hb HM x0 x1 y0 y1 HZ
  obtain ⟨x0, x1⟩ := rx_cells HZ2.out.b0
  obtain ⟨y0, y1⟩ := cells2 HZ2.out.b1
  go_upto_region 6 with fail
  go_wp2_with (first | refine wrx_load rfl _ rfl w.heap.size rfl s HZ2.out.b0 ?_ | refine wrx_store rfl _ _ rfl (w.heap.size + 2) rxZ _ rfl rfl HZ2.out.b2 ?_)
  refine (HLv _).out.mono ?_
  rintro _ w3 ⟨rfl, hb⟩
  have HZ3 := Lib.hid (HZ2.out.next hb)
  clear hb HLv x0 x1 y0 y1 HZ2
  go_wp2_with (first | refine wrx_load rfl _ rfl w.heap.size rfl s HZ3.out.b0 ?_ | refine wrx_store rfl _ _ rfl (w.heap.size + 2) rxZ _ rfl rfl HZ3.out.b2 ?_)
  exact ret_do17 rfl rfl rfl (HZ3.out.store _) HR.out
end Go.Proofs.YthfgaflfnnlhnaaDoor.rwl
