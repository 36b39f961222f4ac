/-
  The document's Do of units. No condition. Printed by tools/mkporefdo.py.
-/
import Derived.Test.YthdencddocgbjaaPoRef2
import Derived.Test.YthdencddocgbjaaObjSkip
namespace Go.Proofs.Ythdencddocgbjaa.pol
open Go.RowKit Go.ChangeShapes
open Go.Proofs.Ythdencddocgbjaa.obj
set_option linter.unusedVariables false
set_option linter.unusedSimpArgs false

theorem cells3 {w : World} {g : Nat} {a b c : Value} {T : TypeId} (h : w.heap[g]? = some (.cells #[a, b, c] T (0, 0))) : w.cell? ⟨g, 0, none⟩ = some a ∧ w.cell? ⟨g, 1, none⟩ = some b ∧ w.cell? ⟨g, 2, none⟩ = some c := by
  simp [World.cell?, h]
theorem free_in {p : Px} (h : Fine p) (k : Nat) (hk : k ≤ (shares p.h).length) : I64 (p.total - sumH (((shares p.h).take k).map Prod.snd)) := by
  have h1 := shares_part h k
  have h2 := h.t0
  have h3 := h.t1
  have h4 := h.sum
  unfold I64
  omega
/-- While Do goes: the boxes of the units and of the call, and what is answered. -/
structure Dz (w : World) (m : Rx) (k t n : Int) (r : Rx) (W : World) : Prop where
  below : Below w.heap.size w W
  b0 : W.heap[w.heap.size]? = some (rxO m)
  b1 : W.heap[w.heap.size + 1]? = some (.cells #[.int .i64 k, .int .i64 t, .int .i64 n] 33 (0, 0))
  b2 : W.heap[w.heap.size + 2]? = some (rxO r)
theorem dz_new (w : World) (m : Rx) (k t n : Int) : Dz w m k t n rxZ (((w.alloc (rxO m)).alloc (.cells #[.int .i64 k, .int .i64 t, .int .i64 n] 33)).alloc (rxO rxZ)) := by
  have z1 : (w.alloc (rxO m)).heap.size = w.heap.size + 1 := World.size_alloc _ _
  have z2 : ((w.alloc (rxO m)).alloc (.cells #[.int .i64 k, .int .i64 t, .int .i64 n] 33)).heap.size = w.heap.size + 2 := by rw [World.size_alloc, z1]
  refine ⟨(((Below.refl _ w).alloc (Nat.le_refl _) _).alloc (by omega) _).alloc (by omega) _, ?_, ?_, ?_⟩
  · exact (Below.heap_alloc _ _ _ (by omega)).trans ((Below.heap_alloc _ _ _ (by omega)).trans (heap_alloc_new w _))
  · refine (Below.heap_alloc _ _ _ (by omega)).trans ?_
    rw [← z1]
    exact heap_alloc_new _ _
  · rw [← z2]
    exact heap_alloc_new _ _
theorem Dz.next {w W W' : World} {m r : Rx} {k t n : Int} (h : Dz w m k t n r W) (hb : Below W.heap.size W W') : Dz w m k t n r W' :=
  ⟨h.below.trans (hb.mono h.below.size), (hb.block _ (lt_of_block h.b0)).trans h.b0, (hb.block _ (lt_of_block h.b1)).trans h.b1, (hb.block _ (lt_of_block h.b2)).trans h.b2⟩
theorem Dz.drew {w W : World} {m r : Rx} {k t n : Int} (h : Dz w m k t n r W) : Dz w m k t n r W.drew := ⟨h.below.drew, h.b0, h.b1, h.b2⟩
theorem Dz.drewN {w W : World} {m r : Rx} {k t n : Int} (h : Dz w m k t n r W) (i : Nat) : Dz w m k t n r (W.drewN i) := ⟨⟨h.below.os, h.below.tape, h.below.output, h.below.size, h.below.block⟩, h.b0, h.b1, h.b2⟩
theorem Dz.cells {w W : World} {m r : Rx} {k t n : Int} (h : Dz w m k t n r W) : W.cell? ⟨w.heap.size, 0, none⟩ = some (.int .i64 m.t) ∧ W.cell? ⟨w.heap.size, 1, none⟩ = some (.slice m.A m.n m.c) ∧ W.cell? ⟨w.heap.size + 1, 0, none⟩ = some (.int .i64 k) ∧ W.cell? ⟨w.heap.size + 1, 1, none⟩ = some (.int .i64 t) ∧ W.cell? ⟨w.heap.size + 1, 2, none⟩ = some (.int .i64 n) := by
  obtain ⟨x0, x1⟩ := rx_cells h.b0
  obtain ⟨y0, y1, y2⟩ := cells3 h.b1
  exact ⟨x0, x1, y0, y1, y2⟩
/-- What Do answers: units whose shares lie where B holds, and a number. -/
def DoPostR (q : Px × Int) (B : Nat → Prop) (w : World) (e : Ending) (w' : World) : Prop :=
  ∃ A c, e = .returned (.tuple #[rxV ⟨q.1.total, A, (shares q.1.h).length, c⟩, .int .i64 q.2]) ∧ SAt w' B A (shares q.1.h) ∧ Below w.heap.size w w'
theorem ret_do20 {W w : World} {act : Act} {q : Px × Int} {B : Nat → Prop} {r : Rx} {y : Int} (h4 : act.tmps[4]?.getD undef = .pointer (some ⟨w.heap.size + 2, 0, none⟩)) (h5 : act.tmps[5]?.getD undef = .int .i64 y) (hd : act.defers = []) (hE : W.heap[w.heap.size + 2]? = some (rxO r)) (hb : Below w.heap.size w W) (hr : r = ⟨q.1.total, r.A, (shares q.1.h).length, r.c⟩) (hs : SAt W B r.A (shares q.1.h)) (hy : q.2 = y) :
    bodyPost Try.prog Try.f10 (DoPostR q B w) .ret act W := by
  unfold DoPostR
  obtain ⟨A, c, hA⟩ : ∃ A c, (A, c) = (r.A, r.c) := ⟨_, _, rfl⟩
  injection hA with hA hc
  have hP : ∃ A c, Ending.returned (.tuple #[rxV r, .int .i64 y]) = .returned (.tuple #[rxV ⟨q.1.total, A, (shares q.1.h).length, c⟩, .int .i64 q.2]) ∧ SAt W B A (shares q.1.h) ∧ Below w.heap.size w W := ⟨r.A, r.c, by rw [← hr, hy], hs, hb⟩
  clear hr hs hA hc hy
  have hL := run_loadVar_mid (P := Try.prog) W (w.heap.size + 2) 0 27 (rxC r) _ (rx_range hE) Try.underlying27 rfl (rx_size rfl)
  refine bodyPost_ret (v := .tuple #[rxV r, .int .i64 y]) ?_ hd hP
  simp [results, Try.results10, asAddr, h4, h5, hL, Sem.run_bind, Sem.run_pure, Result.andThen, rxV]
section
variable {ops : Array Oper} {S : World → Prop} {o : Oper} {a : Act}
theorem yields_ofld (hg : o.guard = none) (y : Operand) (k : Nat) (hk : k < 3) (ho : o.op = .fieldAddr 33 y k) (g : Nat) (hx : a.eval y = .pointer (some ⟨g, 0, none⟩)) : YieldsIf Try.prog ops S o (.pointer (some ⟨g, k, none⟩)) a :=
  .inl ⟨by simp [Region.wanted, hg], fun w' _ => by
    unfold execOp
    simp only [ho, hx]
    match k, hk with
    | 0, _ => go_simp
    | 1, _ => go_simp
    | 2, _ => go_simp⟩
end
theorem do_yes0 {p : Px} {t n : Int} (h : t < 0 ∨ 63 < t ∨ n < 1 ∨ freeP p < n) : doP p 0 t n = (p, 0) := by
  unfold doP
  rw [if_pos rfl, if_pos h]
theorem do_no0 {p : Px} {t n : Int} (h : ¬ (t < 0 ∨ 63 < t ∨ n < 1 ∨ freeP p < n)) : doP p 0 t n = (setP p t (hv p.h t + n), 1) := by
  unfold doP
  rw [if_pos rfl, if_neg h]
theorem do_yes1 {p : Px} {t n : Int} (h : t < 0 ∨ 63 < t ∨ n < 1) : doP p 1 t n = (p, 1) := by
  unfold doP
  rw [if_neg (by decide), if_pos rfl, if_pos h]
theorem do_more1 {p : Px} {t n : Int} (h : ¬ (t < 0 ∨ 63 < t ∨ n < 1)) (h2 : hv p.h t < n) : doP p 1 t n = (p, 9) := by
  unfold doP
  rw [if_neg (by decide), if_pos rfl, if_neg h, if_pos h2]
theorem do_no1 {p : Px} {t n : Int} (h : ¬ (t < 0 ∨ 63 < t ∨ n < 1)) (h2 : ¬ hv p.h t < n) : doP p 1 t n = (setP p t (hv p.h t - n), 0) := by
  unfold doP
  rw [if_neg (by decide), if_pos rfl, if_neg h, if_neg h2]
theorem do_else {p : Px} {k t n : Int} (h0 : k ≠ 0) (h1 : k ≠ 1) : doP p k t n = (setP p t 0, hv p.h t) := by
  unfold doP
  rw [if_neg h0, if_neg h1]
set_option maxRecDepth 100000 in
set_option maxHeartbeats 4000000 in
theorem refDo20_any (p : Px) (A : Option Addr) (c : Nat) (k t n : Int) (w : World) (B : Nat → Prop) (hf : Fine p) (hs : SAt w B A (shares p.h)) (hB : ∀ b, w.heap.size ≤ b → B b) :
    Calls Try.prog 10 #[rxV ⟨p.total, A, (shares p.h).length, c⟩, .agg #[.int .i64 k, .int .i64 t, .int .i64 n]] w (DoPostR (doP p k t n) B w) := by
  have CH : ∀ W, Below w.heap.size w W → Hid (Calls Try.prog 17 #[rxV ⟨p.total, A, (shares p.h).length, c⟩, .int .i64 t] W fun e w' => e = .returned (.int .i64 (hv p.h t)) ∧ Below W.heap.size W w') := fun W hb => Lib.hid (by
    have h := refHeld20_any p.total A c (shares p.h) t W B (hs.next hb) (Nat.le_trans (shares_small _) (by omega))
    rwa [heldL_shares hf] at h)
  have CF : ∀ W, Below w.heap.size w W → Hid (Calls Try.prog 15 #[rxV ⟨p.total, A, (shares p.h).length, c⟩] W fun e w' => e = .returned (.int .i64 (freeP p)) ∧ Below W.heap.size W w') := fun W hb => Lib.hid (by
    have h := refFree20_any p.total A c (shares p.h) W B (hs.next hb) (Nat.le_trans (shares_small _) (by omega)) (fun k hk => free_in hf k hk)
    rwa [shares_all hf] at h)
  have CW : ∀ x W, Below w.heap.size w W → Hid (Calls Try.prog 23 #[rxV ⟨p.total, A, (shares p.h).length, c⟩, .int .i64 t, .int .i64 x] W (WithPost (setP p t x) (fun b => W.heap.size ≤ b) W)) := fun x W hb => Lib.hid (refWith20_any p A c t x W B hf (hs.next hb))
  have HS : Hid (∀ W, Below w.heap.size w W → SAt W B A (shares p.h)) := Lib.hid (fun W hb => hs.next hb)
  have HB := Lib.hid hB
  obtain ⟨m, hm⟩ : ∃ m : Rx, m = ⟨p.total, A, (shares p.h).length, c⟩ := ⟨_, rfl⟩
  have HM : Hid (m = ⟨p.total, m.A, (shares p.h).length, m.c⟩ ∧ m.A = A) := Lib.hid (by rw [hm]; exact ⟨rfl, rfl⟩)
  rw [← hm] at CH CF CW ⊢
  have HZ := Lib.hid (dz_new w m k t n)
  obtain ⟨q, hq⟩ : ∃ q, q = doP p k t n := ⟨_, rfl⟩
  rw [← hq]
  have HQ := Lib.hid hq
  have HN : Hid (0 ≤ hv p.h t ∧ hv p.h t ≤ 1000 ∧ 0 ≤ freeP p ∧ freeP p ≤ 1000) := Lib.hid (by
    have h1 := hv_nonneg hf t
    have h2 := hv_le hf t
    have h3 := hf.sum
    have h4 := hf.t1
    have h5 := sum_nonneg hf
    unfold freeP
    omega)
  clear hf hs hB hm hq
  go_enter Try.func10, Try.ntmps10
  go_upto_region 1 with (first | refine wrx_box rfl _ rfl m rfl ?_ | refine wrx_alloc rfl rfl ?_)
  try simp only [Act.put, List.setIfInBounds_toArray, List.set_cons_zero, List.set_cons_succ, World.size_alloc, Nat.add_assoc, Nat.reduceAdd]
  generalize ((w.alloc (rxO m)).alloc (.cells #[.int .i64 k, .int .i64 t, .int .i64 n] 33)).alloc (rxO rxZ) = W1 at *
  obtain ⟨b, hb⟩ : ∃ b, b = decide (t < 0 ∨ 63 < t) := ⟨_, rfl⟩
  have HBd := Lib.hid hb
  obtain ⟨have_, hh⟩ : ∃ h, h = hv p.h t := ⟨_, rfl⟩
  rw [← hh] at CH HN
  have HH := Lib.hid hh
  obtain ⟨fr, hfr⟩ : ∃ h, h = freeP p := ⟨_, rfl⟩
  rw [← hfr] at CF HN
  have HFr := Lib.hid hfr
  clear hh hfr
  go_cut [6, 7] (fun x y wx => x = .bool b ∧ y = .int .i64 have_ ∧ Hid (Dz w m k t n rxZ wx))
  case first =>
    obtain ⟨x0, x1, y0, y1, y2⟩ := HZ.out.cells
    have HD := Lib.hid HZ.out.drew
    clear CF CW HS HB HM HQ HN HH HFr HBd
    by_cases h0 : t < 0
    · have d0 : decide (t < 0) = true := decide_eq_true h0
      obtain rfl : b = true := by rw [hb]; exact decide_eq_true (.inl h0)
      clear h0 hb
      refine wp_hold_act (fun a0 HA0 => ?_)
      have z0 : a0.tmps.size = 73 := by rw [HA0.out]; rfl
      have dd0 : a0.defers = [] := by rw [HA0.out]
      have f0_2 : a0.eval (.tmp 2) = .pointer (some ⟨w.heap.size, 0, none⟩) := by rw [HA0.out]; rfl
      have f0_3 : a0.eval (.tmp 3) = .pointer (some ⟨w.heap.size + 1, 0, none⟩) := by rw [HA0.out]; rfl
      refine wp_region_held_drew (S := fun w' => Dz w m k t n rxZ w') (by kernel_rfl) (HZ.out.drew) (fun hS => ?_)
      refine wpAnyH_take (i := 0) (v := .pointer (some ⟨w.heap.size + 1, 1, none⟩)) rfl (by kernel_rfl) (by kernel_rfl) (by kernel_rfl) (fun _ _ _ h => h) (yields_ofld rfl (.tmp 3) 1 (by omega) rfl _ f0_3) hS ?_
      obtain ⟨a1, hA1⟩ : ∃ a', a' = a0.put (some 8) (.pointer (some ⟨w.heap.size + 1, 1, none⟩)) := ⟨_, rfl⟩
      change wpAnyH _ _ _ _ _ _ _ (a0.put (some 8) (.pointer (some ⟨w.heap.size + 1, 1, none⟩))) _
      rw [← hA1]
      have f1_8 : a1.eval (.tmp 8) = .pointer (some ⟨w.heap.size + 1, 1, none⟩) := by rw [hA1]; exact Act.eval_put_same _ _ _ (by omega)
      have f1_2 : a1.eval (.tmp 2) = .pointer (some ⟨w.heap.size, 0, none⟩) := by rw [hA1]; exact (Act.eval_put_ne _ _ _ _ (by decide)).trans f0_2
      have f1_3 : a1.eval (.tmp 3) = .pointer (some ⟨w.heap.size + 1, 0, none⟩) := by rw [hA1]; exact (Act.eval_put_ne _ _ _ _ (by decide)).trans f0_3
      have z1 : a1.tmps.size = 73 := by rw [hA1, Act.size_put]; exact z0
      have dd1 : a1.defers = [] := by rw [hA1, Act.defers_put']; exact dd0
      have HA1 := Lib.hid hA1
      clear hA1 z0 dd0 f0_2 f0_3
      refine wpAnyH_take (i := 1) (v := .int .i64 t) rfl (by kernel_rfl) (by kernel_rfl) (by kernel_rfl) (fun _ _ _ h => h) (yields_int rfl (.tmp 8) rfl _ f1_8 t (fun _ h => h.cells.2.2.2.1)) hS ?_
      obtain ⟨a2, hA2⟩ : ∃ a', a' = a1.put (some 9) (.int .i64 t) := ⟨_, rfl⟩
      change wpAnyH _ _ _ _ _ _ _ (a1.put (some 9) (.int .i64 t)) _
      rw [← hA2]
      have f2_9 : a2.eval (.tmp 9) = .int .i64 t := by rw [hA2]; exact Act.eval_put_same _ _ _ (by omega)
      have f2_2 : a2.eval (.tmp 2) = .pointer (some ⟨w.heap.size, 0, none⟩) := by rw [hA2]; exact (Act.eval_put_ne _ _ _ _ (by decide)).trans f1_2
      have f2_3 : a2.eval (.tmp 3) = .pointer (some ⟨w.heap.size + 1, 0, none⟩) := by rw [hA2]; exact (Act.eval_put_ne _ _ _ _ (by decide)).trans f1_3
      have z2 : a2.tmps.size = 73 := by rw [hA2, Act.size_put]; exact z1
      have dd2 : a2.defers = [] := by rw [hA2, Act.defers_put']; exact dd1
      have HA2 := Lib.hid hA2
      clear hA2 z1 dd1 f1_8 f1_2 f1_3
      refine wpAnyH_take (i := 2) (v := .bool true) rfl (by kernel_rfl) (by kernel_rfl) (by kernel_rfl) (fun _ _ _ h => h) (yields_lss rfl (.tmp 9) (.const (.int .i64 0)) rfl t 0 f2_9 rfl true d0) hS ?_
      obtain ⟨a3, hA3⟩ : ∃ a', a' = a2.put (some 10) (.bool true) := ⟨_, rfl⟩
      change wpAnyH _ _ _ _ _ _ _ (a2.put (some 10) (.bool true)) _
      rw [← hA3]
      have f3_10 : a3.eval (.tmp 10) = .bool true := by rw [hA3]; exact Act.eval_put_same _ _ _ (by omega)
      have f3_2 : a3.eval (.tmp 2) = .pointer (some ⟨w.heap.size, 0, none⟩) := by rw [hA3]; exact (Act.eval_put_ne _ _ _ _ (by decide)).trans f2_2
      have f3_3 : a3.eval (.tmp 3) = .pointer (some ⟨w.heap.size + 1, 0, none⟩) := by rw [hA3]; exact (Act.eval_put_ne _ _ _ _ (by decide)).trans f2_3
      have z3 : a3.tmps.size = 73 := by rw [hA3, Act.size_put]; exact z2
      have dd3 : a3.defers = [] := by rw [hA3, Act.defers_put']; exact dd2
      have HA3 := Lib.hid hA3
      clear hA3 z2 dd2 f2_9 f2_2 f2_3
      refine wpAnyH_take (i := 3) (v := .bool true) rfl (by kernel_rfl) (by kernel_rfl) (by kernel_rfl) (fun _ _ _ h => h) (yields_move rfl (.tmp 10) rfl f3_10) hS ?_
      obtain ⟨a4, hA4⟩ : ∃ a', a' = a3.put (some 11) (.bool true) := ⟨_, rfl⟩
      change wpAnyH _ _ _ _ _ _ _ (a3.put (some 11) (.bool true)) _
      rw [← hA4]
      have f4_11 : a4.eval (.tmp 11) = .bool true := by rw [hA4]; exact Act.eval_put_same _ _ _ (by omega)
      have f4_2 : a4.eval (.tmp 2) = .pointer (some ⟨w.heap.size, 0, none⟩) := by rw [hA4]; exact (Act.eval_put_ne _ _ _ _ (by decide)).trans f3_2
      have f4_3 : a4.eval (.tmp 3) = .pointer (some ⟨w.heap.size + 1, 0, none⟩) := by rw [hA4]; exact (Act.eval_put_ne _ _ _ _ (by decide)).trans f3_3
      have z4 : a4.tmps.size = 73 := by rw [hA4, Act.size_put]; exact z3
      have dd4 : a4.defers = [] := by rw [hA4, Act.defers_put']; exact dd3
      have HA4 := Lib.hid hA4
      clear hA4 z3 dd3 f3_10 f3_2 f3_3
      refine wpAnyH_take (i := 4) (v := undef) rfl (by kernel_rfl) (by kernel_rfl) (by kernel_rfl) (fun _ _ _ h => h) (yields_skip 3 11 false true rfl rfl f4_11 rfl) hS ?_
      obtain ⟨a5, hA5⟩ : ∃ a', a' = a4.put (some 12) (undef) := ⟨_, rfl⟩
      change wpAnyH _ _ _ _ _ _ _ (a4.put (some 12) (undef)) _
      rw [← hA5]
      have f5_12 : a5.eval (.tmp 12) = undef := by rw [hA5]; exact Act.eval_put_same _ _ _ (by omega)
      have f5_11 : a5.eval (.tmp 11) = .bool true := by rw [hA5]; exact (Act.eval_put_ne _ _ _ _ (by decide)).trans f4_11
      have f5_2 : a5.eval (.tmp 2) = .pointer (some ⟨w.heap.size, 0, none⟩) := by rw [hA5]; exact (Act.eval_put_ne _ _ _ _ (by decide)).trans f4_2
      have f5_3 : a5.eval (.tmp 3) = .pointer (some ⟨w.heap.size + 1, 0, none⟩) := by rw [hA5]; exact (Act.eval_put_ne _ _ _ _ (by decide)).trans f4_3
      have z5 : a5.tmps.size = 73 := by rw [hA5, Act.size_put]; exact z4
      have dd5 : a5.defers = [] := by rw [hA5, Act.defers_put']; exact dd4
      have HA5 := Lib.hid hA5
      clear hA5 z4 dd4 f4_11 f4_2 f4_3
      refine wpAnyH_take (i := 5) (v := undef) rfl (by kernel_rfl) (by kernel_rfl) (by kernel_rfl) (fun _ _ _ h => h) (yields_skip 3 11 false true rfl rfl f5_11 rfl) hS ?_
      obtain ⟨a6, hA6⟩ : ∃ a', a' = a5.put (some 13) (undef) := ⟨_, rfl⟩
      change wpAnyH _ _ _ _ _ _ _ (a5.put (some 13) (undef)) _
      rw [← hA6]
      have f6_13 : a6.eval (.tmp 13) = undef := by rw [hA6]; exact Act.eval_put_same _ _ _ (by omega)
      have f6_11 : a6.eval (.tmp 11) = .bool true := by rw [hA6]; exact (Act.eval_put_ne _ _ _ _ (by decide)).trans f5_11
      have f6_2 : a6.eval (.tmp 2) = .pointer (some ⟨w.heap.size, 0, none⟩) := by rw [hA6]; exact (Act.eval_put_ne _ _ _ _ (by decide)).trans f5_2
      have f6_3 : a6.eval (.tmp 3) = .pointer (some ⟨w.heap.size + 1, 0, none⟩) := by rw [hA6]; exact (Act.eval_put_ne _ _ _ _ (by decide)).trans f5_3
      have z6 : a6.tmps.size = 73 := by rw [hA6, Act.size_put]; exact z5
      have dd6 : a6.defers = [] := by rw [hA6, Act.defers_put']; exact dd5
      have HA6 := Lib.hid hA6
      clear hA6 z5 dd5 f5_12 f5_11 f5_2 f5_3
      refine wpAnyH_take (i := 6) (v := undef) rfl (by kernel_rfl) (by kernel_rfl) (by kernel_rfl) (fun _ _ _ h => h) (yields_skip 3 11 false true rfl rfl f6_11 rfl) hS ?_
      obtain ⟨a7, hA7⟩ : ∃ a', a' = a6.put (some 14) (undef) := ⟨_, rfl⟩
      change wpAnyH _ _ _ _ _ _ _ (a6.put (some 14) (undef)) _
      rw [← hA7]
      have f7_14 : a7.eval (.tmp 14) = undef := by rw [hA7]; exact Act.eval_put_same _ _ _ (by omega)
      have f7_11 : a7.eval (.tmp 11) = .bool true := by rw [hA7]; exact (Act.eval_put_ne _ _ _ _ (by decide)).trans f6_11
      have f7_2 : a7.eval (.tmp 2) = .pointer (some ⟨w.heap.size, 0, none⟩) := by rw [hA7]; exact (Act.eval_put_ne _ _ _ _ (by decide)).trans f6_2
      have f7_3 : a7.eval (.tmp 3) = .pointer (some ⟨w.heap.size + 1, 0, none⟩) := by rw [hA7]; exact (Act.eval_put_ne _ _ _ _ (by decide)).trans f6_3
      have z7 : a7.tmps.size = 73 := by rw [hA7, Act.size_put]; exact z6
      have dd7 : a7.defers = [] := by rw [hA7, Act.defers_put']; exact dd6
      have HA7 := Lib.hid hA7
      clear hA7 z6 dd6 f6_13 f6_11 f6_2 f6_3
      refine wpAnyH_take (i := 7) (v := .bool true) rfl (by kernel_rfl) (by kernel_rfl) (by kernel_rfl) (fun _ _ _ h => h) (yields_pick rfl (.tmp 11) (.const (.bool true)) (.tmp 14) rfl true f7_11 rfl) hS ?_
      obtain ⟨a8, hA8⟩ : ∃ a', a' = a7.put (some 15) (.bool true) := ⟨_, rfl⟩
      change wpAnyH _ _ _ _ _ _ _ (a7.put (some 15) (.bool true)) _
      rw [← hA8]
      have f8_15 : a8.eval (.tmp 15) = .bool true := by rw [hA8]; exact Act.eval_put_same _ _ _ (by omega)
      have f8_2 : a8.eval (.tmp 2) = .pointer (some ⟨w.heap.size, 0, none⟩) := by rw [hA8]; exact (Act.eval_put_ne _ _ _ _ (by decide)).trans f7_2
      have f8_3 : a8.eval (.tmp 3) = .pointer (some ⟨w.heap.size + 1, 0, none⟩) := by rw [hA8]; exact (Act.eval_put_ne _ _ _ _ (by decide)).trans f7_3
      have z8 : a8.tmps.size = 73 := by rw [hA8, Act.size_put]; exact z7
      have dd8 : a8.defers = [] := by rw [hA8, Act.defers_put']; exact dd7
      have HA8 := Lib.hid hA8
      clear hA8 z7 dd7 f7_14 f7_11 f7_2 f7_3
      refine wpAnyH_take (i := 8) (v := rxV m) rfl (by kernel_rfl) (by kernel_rfl) (by kernel_rfl) (fun _ _ _ h => h) (yields_rx rfl (.tmp 2) rfl _ f8_2 m (fun _ h => h.b0)) hS ?_
      obtain ⟨a9, hA9⟩ : ∃ a', a' = a8.put (some 16) (rxV m) := ⟨_, rfl⟩
      change wpAnyH _ _ _ _ _ _ _ (a8.put (some 16) (rxV m)) _
      rw [← hA9]
      have f9_16 : a9.eval (.tmp 16) = rxV m := by rw [hA9]; exact Act.eval_put_same _ _ _ (by omega)
      have f9_15 : a9.eval (.tmp 15) = .bool true := by rw [hA9]; exact (Act.eval_put_ne _ _ _ _ (by decide)).trans f8_15
      have f9_3 : a9.eval (.tmp 3) = .pointer (some ⟨w.heap.size + 1, 0, none⟩) := by rw [hA9]; exact (Act.eval_put_ne _ _ _ _ (by decide)).trans f8_3
      have z9 : a9.tmps.size = 73 := by rw [hA9, Act.size_put]; exact z8
      have dd9 : a9.defers = [] := by rw [hA9, Act.defers_put']; exact dd8
      have HA9 := Lib.hid hA9
      clear hA9 z8 dd8 f8_15 f8_2 f8_3
      refine wpAnyH_take (i := 9) (v := .pointer (some ⟨w.heap.size + 1, 1, none⟩)) rfl (by kernel_rfl) (by kernel_rfl) (by kernel_rfl) (fun _ _ _ h => h) (yields_ofld rfl (.tmp 3) 1 (by omega) rfl _ f9_3) hS ?_
      obtain ⟨a10, hA10⟩ : ∃ a', a' = a9.put (some 17) (.pointer (some ⟨w.heap.size + 1, 1, none⟩)) := ⟨_, rfl⟩
      change wpAnyH _ _ _ _ _ _ _ (a9.put (some 17) (.pointer (some ⟨w.heap.size + 1, 1, none⟩))) _
      rw [← hA10]
      have f10_17 : a10.eval (.tmp 17) = .pointer (some ⟨w.heap.size + 1, 1, none⟩) := by rw [hA10]; exact Act.eval_put_same _ _ _ (by omega)
      have f10_16 : a10.eval (.tmp 16) = rxV m := by rw [hA10]; exact (Act.eval_put_ne _ _ _ _ (by decide)).trans f9_16
      have f10_15 : a10.eval (.tmp 15) = .bool true := by rw [hA10]; exact (Act.eval_put_ne _ _ _ _ (by decide)).trans f9_15
      have z10 : a10.tmps.size = 73 := by rw [hA10, Act.size_put]; exact z9
      have dd10 : a10.defers = [] := by rw [hA10, Act.defers_put']; exact dd9
      have HA10 := Lib.hid hA10
      clear hA10 z9 dd9 f9_16 f9_15 f9_3
      refine wpAnyH_take (i := 10) (v := .int .i64 t) rfl (by kernel_rfl) (by kernel_rfl) (by kernel_rfl) (fun _ _ _ h => h) (yields_int rfl (.tmp 17) rfl _ f10_17 t (fun _ h => h.cells.2.2.2.1)) hS ?_
      obtain ⟨a11, hA11⟩ : ∃ a', a' = a10.put (some 18) (.int .i64 t) := ⟨_, rfl⟩
      change wpAnyH _ _ _ _ _ _ _ (a10.put (some 18) (.int .i64 t)) _
      rw [← hA11]
      have f11_18 : a11.eval (.tmp 18) = .int .i64 t := by rw [hA11]; exact Act.eval_put_same _ _ _ (by omega)
      have f11_16 : a11.eval (.tmp 16) = rxV m := by rw [hA11]; exact (Act.eval_put_ne _ _ _ _ (by decide)).trans f10_16
      have f11_15 : a11.eval (.tmp 15) = .bool true := by rw [hA11]; exact (Act.eval_put_ne _ _ _ _ (by decide)).trans f10_15
      have z11 : a11.tmps.size = 73 := by rw [hA11, Act.size_put]; exact z10
      have dd11 : a11.defers = [] := by rw [hA11, Act.defers_put']; exact dd10
      have HA11 := Lib.hid hA11
      clear hA11 z10 dd10 f10_17 f10_16 f10_15
      refine wpAnyH_ready (rs := [11]) (by kernel_rfl) (by simp) (AllReadyH.cons (by simp only [List.getElem?_toArray, List.getElem?_cons_succ, List.getElem?_cons_zero]; rfl) (fun K hK => ?_) AllReadyH.nil)
      refine step_call (by rfl) 17 #[.tmp 16, .tmp 18] #[27, 3] (by rfl) #[rxV m, .int .i64 t] (by simp only [List.map_toArray, List.map_cons, List.map_nil, f11_16, f11_18]) Try.func17 (by kernel_rfl) rfl ((CH W1.drew HZ.out.drew.below).out) (fun e w' hR => ?_)
      obtain ⟨rfl, hb2⟩ := hR
      refine ⟨_, rfl, hK.out _ _ (hS.next hb2) (fun hS => ?_)⟩
      obtain ⟨a12, hA12⟩ : ∃ a', a' = a11.put (some 19) (.int .i64 have_) := ⟨_, rfl⟩
      change wpAnyH _ _ _ _ _ _ _ (a11.put (some 19) (.int .i64 have_)) _
      rw [← hA12]
      have f12_19 : a12.eval (.tmp 19) = .int .i64 have_ := by rw [hA12]; exact Act.eval_put_same _ _ _ (by omega)
      have f12_15 : a12.eval (.tmp 15) = .bool true := by rw [hA12]; exact (Act.eval_put_ne _ _ _ _ (by decide)).trans f11_15
      have z12 : a12.tmps.size = 73 := by rw [hA12, Act.size_put]; exact z11
      have dd12 : a12.defers = [] := by rw [hA12, Act.defers_put']; exact dd11
      have HA12 := Lib.hid hA12
      clear hA12 z11 dd11 f11_18 f11_16 f11_15
      refine wpAnyH_take (i := 12) (v := .bool true) rfl (by kernel_rfl) (by kernel_rfl) (by kernel_rfl) (fun _ _ _ h => h) (yields_assign rfl (.tmp 15) rfl f12_15) hS ?_
      obtain ⟨a13, hA13⟩ : ∃ a', a' = a12.put (some 6) (.bool true) := ⟨_, rfl⟩
      change wpAnyH _ _ _ _ _ _ _ (a12.put (some 6) (.bool true)) _
      rw [← hA13]
      have f13_6 : a13.eval (.tmp 6) = .bool true := by rw [hA13]; exact Act.eval_put_same _ _ _ (by omega)
      have f13_19 : a13.eval (.tmp 19) = .int .i64 have_ := by rw [hA13]; exact (Act.eval_put_ne _ _ _ _ (by decide)).trans f12_19
      have z13 : a13.tmps.size = 73 := by rw [hA13, Act.size_put]; exact z12
      have dd13 : a13.defers = [] := by rw [hA13, Act.defers_put']; exact dd12
      have HA13 := Lib.hid hA13
      clear hA13 z12 dd12 f12_19 f12_15
      refine wpAnyH_take (i := 13) (v := .int .i64 have_) rfl (by kernel_rfl) (by kernel_rfl) (by kernel_rfl) (fun _ _ _ h => h) (yields_assign rfl (.tmp 19) rfl f13_19) hS ?_
      obtain ⟨a14, hA14⟩ : ∃ a', a' = a13.put (some 7) (.int .i64 have_) := ⟨_, rfl⟩
      change wpAnyH _ _ _ _ _ _ _ (a13.put (some 7) (.int .i64 have_)) _
      rw [← hA14]
      have f14_7 : a14.eval (.tmp 7) = .int .i64 have_ := by rw [hA14]; exact Act.eval_put_same _ _ _ (by omega)
      have f14_6 : a14.eval (.tmp 6) = .bool true := by rw [hA14]; exact (Act.eval_put_ne _ _ _ _ (by decide)).trans f13_6
      have z14 : a14.tmps.size = 73 := by rw [hA14, Act.size_put]; exact z13
      have dd14 : a14.defers = [] := by rw [hA14, Act.defers_put']; exact dd13
      have HA14 := Lib.hid hA14
      clear hA14 z13 dd13 f13_6 f13_19
      refine wpAnyH_done (by kernel_rfl) ?_ _
      have HD := Lib.hid hS
      clear hS hK
      rw [HA14.out]
      rw [HA13.out]
      rw [HA12.out]
      rw [HA11.out]
      rw [HA10.out]
      rw [HA9.out]
      rw [HA8.out]
      rw [HA7.out]
      rw [HA6.out]
      rw [HA5.out]
      rw [HA4.out]
      rw [HA3.out]
      rw [HA2.out]
      rw [HA1.out]
      rw [HA0.out]
      simp only [Act.put, List.setIfInBounds_toArray, List.set_cons_zero, List.set_cons_succ]
      go_wp2_with fail
      go_meet
      exact ⟨rfl, rfl, HD⟩
    · have d0 : decide (t < 0) = false := decide_eq_false h0
      by_cases h1 : 63 < t
      · have d1 : decide (t > 63) = true := decide_eq_true h1
        have d2 : decide (63 < t) = true := decide_eq_true h1
        obtain rfl : b = true := by rw [hb]; exact decide_eq_true (.inr h1)
        clear h0 h1 hb
        go_region_held3 (fun w' => w'.cell? ⟨w.heap.size, 0, none⟩ = some (.int .i64 m.t) ∧ w'.cell? ⟨w.heap.size, 1, none⟩ = some (.slice m.A m.n m.c) ∧ w'.cell? ⟨w.heap.size + 1, 1, none⟩ = some (.int .i64 t)) (go_keep)
          (first
            | (go_at_call 17; refine (CH _ ?_).out.mono ?_; (exact HD.out.below); rintro _ w' ⟨rfl, hb⟩; have HD := Lib.hid (HD.out.next hb); obtain ⟨z0, z1, z2, z3, z4⟩ := HD.out.cells))
        go_wp2_with fail
        go_meet
        exact ⟨rfl, rfl, HD⟩
      · have d1 : decide (t > 63) = false := decide_eq_false h1
        have d2 : decide (63 < t) = false := decide_eq_false h1
        obtain rfl : b = false := by rw [hb]; exact decide_eq_false (by omega)
        clear h0 h1 hb
        go_region_held3 (fun w' => w'.cell? ⟨w.heap.size, 0, none⟩ = some (.int .i64 m.t) ∧ w'.cell? ⟨w.heap.size, 1, none⟩ = some (.slice m.A m.n m.c) ∧ w'.cell? ⟨w.heap.size + 1, 1, none⟩ = some (.int .i64 t)) (go_keep)
          (first
            | (go_at_call 17; refine (CH _ ?_).out.mono ?_; (exact HD.out.below); rintro _ w' ⟨rfl, hb⟩; have HD := Lib.hid (HD.out.next hb); obtain ⟨z0, z1, z2, z3, z4⟩ := HD.out.cells))
        go_wp2_with fail
        go_meet
        exact ⟨rfl, rfl, HD⟩
  case rest =>
    obtain ⟨rfl, rfl, HW⟩ := hcut
    obtain ⟨x0, x1, y0, y1, y2⟩ := HW.out.cells
    clear CH HZ
    by_cases k0 : k = 0
    · subst k0
      go_upto_region 4 with fail
      by_cases hbad : t < 0 ∨ 63 < t
      · obtain rfl : b = true := by rw [HBd.out]; exact decide_eq_true hbad
        have HR : Hid (q = (p, 0)) := Lib.hid (by rw [HQ.out]; exact do_yes0 (by omega))
        clear hbad hb HBd CW HN
        have HDn := fun i => Lib.hid (HW.out.drewN i)
        go_quiet (fail)
        go_wp2_with (first | refine wrx_load rfl _ rfl w.heap.size rfl m (HDn _).out.b0 ?_ | refine wrx_store rfl _ _ rfl (w.heap.size + 2) rxZ m rfl rfl (HDn _).out.b2 ?_)
        exact ret_do20 rfl rfl rfl (rx_turned (HDn _).out.b2 m) (row_below (HDn _).out.below (by omega) _) (by rw [HR.out]; exact HM.out.1) (by rw [HR.out, HM.out.2]; exact HS.out _ (row_below (HDn _).out.below (by omega) _)) (by rw [HR.out])
      obtain rfl : b = false := by rw [HBd.out]; exact decide_eq_false hbad
      clear hb HBd
      by_cases h1 : n < 1
      · have d1 : decide (n < 1) = true := decide_eq_true h1
        have HR : Hid (q = (p, 0)) := Lib.hid (by rw [HQ.out]; exact do_yes0 (.inr (.inr (.inl h1))))
        clear hbad h1 CW HN
        have HDn := fun i => Lib.hid (HW.out.drewN i)
        go_quiet (fail)
        go_wp2_with (first | refine wrx_load rfl _ rfl w.heap.size rfl m (HDn _).out.b0 ?_ | refine wrx_store rfl _ _ rfl (w.heap.size + 2) rxZ m rfl rfl (HDn _).out.b2 ?_)
        exact ret_do20 rfl rfl rfl (rx_turned (HDn _).out.b2 m) (row_below (HDn _).out.below (by omega) _) (by rw [HR.out]; exact HM.out.1) (by rw [HR.out, HM.out.2]; exact HS.out _ (row_below (HDn _).out.below (by omega) _)) (by rw [HR.out])
      have d1 : decide (n < 1) = false := decide_eq_false h1
      by_cases h2 : fr < n
      · have d2 : decide (n > fr) = true := decide_eq_true h2
        have d3 : decide (fr < n) = true := decide_eq_true h2
        have HR : Hid (q = (p, 0)) := Lib.hid (by rw [HQ.out]; rw [HFr.out] at h2; exact do_yes0 (.inr (.inr (.inr h2))))
        clear hbad h1 h2 CW HN
        have HD := Lib.hid HW.out.drew
        go_region_held3 (fun w' => w'.cell? ⟨w.heap.size, 0, none⟩ = some (.int .i64 m.t) ∧ w'.cell? ⟨w.heap.size, 1, none⟩ = some (.slice m.A m.n m.c) ∧ w'.cell? ⟨w.heap.size + 1, 2, none⟩ = some (.int .i64 n)) (go_keep)
          (first
            | (go_at_call 15; refine (CF _ ?_).out.mono ?_; (exact HD.out.below); rintro _ w' ⟨rfl, hb⟩; have HD := Lib.hid (HD.out.next hb); obtain ⟨z0, z1, z2, z3, z4⟩ := HD.out.cells))
        go_wp2_with (first | refine wrx_load rfl _ rfl w.heap.size rfl m HD.out.b0 ?_ | refine wrx_store rfl _ _ rfl (w.heap.size + 2) rxZ m rfl rfl HD.out.b2 ?_)
        exact ret_do20 rfl rfl rfl (rx_turned HD.out.b2 m) (row_below HD.out.below (by omega) _) (by rw [HR.out]; exact HM.out.1) (by rw [HR.out, HM.out.2]; exact HS.out _ (row_below HD.out.below (by omega) _)) (by rw [HR.out])
      have d2 : decide (n > fr) = false := decide_eq_false h2
      have d3 : decide (fr < n) = false := decide_eq_false h2
      have hw1 : IntKind.i64.wrap (have_ + n) = have_ + n := by have := HN.out; rw [IntKind.wrap_i64]; omega
      have hw2 : wrap64 (have_ + n) = have_ + n := by have := HN.out; unfold wrap64; omega
      obtain ⟨p2, hp2⟩ : ∃ p2, p2 = setP p t (have_ + n) := ⟨_, rfl⟩
      have HP := Lib.hid hp2
      have HR : Hid (q = (p2, 1)) := Lib.hid (by rw [HQ.out, hp2, HH.out]; rw [HFr.out] at h2; exact do_no0 (by omega))
      clear hp2 hbad h1 h2
      have HD := Lib.hid HW.out.drew
      go_region_held3 (fun w' => w'.cell? ⟨w.heap.size, 0, none⟩ = some (.int .i64 m.t) ∧ w'.cell? ⟨w.heap.size, 1, none⟩ = some (.slice m.A m.n m.c) ∧ w'.cell? ⟨w.heap.size + 1, 2, none⟩ = some (.int .i64 n)) (go_keep)
        (first
          | (go_at_call 15; refine (CF _ ?_).out.mono ?_; (exact HD.out.below); rintro _ w' ⟨rfl, hb⟩; have HD := Lib.hid (HD.out.next hb); obtain ⟨z0, z1, z2, z3, z4⟩ := HD.out.cells))
      go_wp2_with (first | refine wrx_load rfl _ rfl w.heap.size rfl m HD.out.b0 ?_)
      refine (CW _ _ HD.out.below).out.mono ?_
      rintro _ w2 ⟨A2, c2, rfl, hs2, hb2⟩
      have H2 := Lib.hid (HD.out.next hb2)
      obtain ⟨z0, z1, z2, z3, z4⟩ := H2.out.cells
      have HS2 : Hid (SAt w2 (fun b => w.heap.size + 3 ≤ b) A2 (shares (setP p t (have_ + n)).h)) := Lib.hid (hs2.base (fun b h _ => by have := lt_of_block HD.out.b2; (try dsimp only at h); (try dsimp only); omega))
      clear hs2 hb2
      rw [← HP.out] at HS2 ⊢
      go_wp2_with (first | refine wrx_store rfl _ _ rfl (w.heap.size + 2) rxZ ⟨p2.total, A2, (shares p2.h).length, c2⟩ rfl rfl H2.out.b2 ?_)
      have hX := row_below H2.out.below (by omega : w.heap.size ≤ w.heap.size + 2) (rxC ⟨p2.total, A2, (shares p2.h).length, c2⟩).toArray
      exact ret_do20 rfl rfl rfl (rx_turned H2.out.b2 _) hX (by rw [HR.out]) (by rw [HR.out]; exact (HS2.out.keep (fun b h1 h2 => row_far _ (by (try dsimp only at h1); omega)) (row_size _ _ _)).base (fun b h _ => HB.out b (by (try dsimp only at h); omega))) (by rw [HR.out])
    by_cases k1 : k = 1
    · subst k1
      go_upto_region 8 with fail
      by_cases hbad : t < 0 ∨ 63 < t
      · obtain rfl : b = true := by rw [HBd.out]; exact decide_eq_true hbad
        have HR : Hid (q = (p, 1)) := Lib.hid (by rw [HQ.out]; exact do_yes1 (by omega))
        clear hbad hb HBd CW HN k0
        have HD := HW
        go_wp2_with (first | refine wrx_load rfl _ rfl w.heap.size rfl m HD.out.b0 ?_ | refine wrx_store rfl _ _ rfl (w.heap.size + 2) rxZ m rfl rfl HD.out.b2 ?_)
        exact ret_do20 rfl rfl rfl (rx_turned HD.out.b2 m) (row_below HD.out.below (by omega) _) (by rw [HR.out]; exact HM.out.1) (by rw [HR.out, HM.out.2]; exact HS.out _ (row_below HD.out.below (by omega) _)) (by rw [HR.out])
      obtain rfl : b = false := by rw [HBd.out]; exact decide_eq_false hbad
      clear hb HBd
      by_cases h1 : n < 1
      · have d1 : decide (n < 1) = true := decide_eq_true h1
        have HR : Hid (q = (p, 1)) := Lib.hid (by rw [HQ.out]; exact do_yes1 (.inr (.inr h1)))
        clear hbad h1 CW HN k0
        have HD := HW
        go_wp2_with (first | refine wrx_load rfl _ rfl w.heap.size rfl m HD.out.b0 ?_ | refine wrx_store rfl _ _ rfl (w.heap.size + 2) rxZ m rfl rfl HD.out.b2 ?_)
        exact ret_do20 rfl rfl rfl (rx_turned HD.out.b2 m) (row_below HD.out.below (by omega) _) (by rw [HR.out]; exact HM.out.1) (by rw [HR.out, HM.out.2]; exact HS.out _ (row_below HD.out.below (by omega) _)) (by rw [HR.out])
      have d1 : decide (n < 1) = false := decide_eq_false h1
      by_cases h2 : have_ < n
      · have d2 : decide (n > have_) = true := decide_eq_true h2
        have d3 : decide (have_ < n) = true := decide_eq_true h2
        have HR : Hid (q = (p, 9)) := Lib.hid (by rw [HQ.out]; rw [HH.out] at h2; exact do_more1 (by omega) h2)
        clear hbad h1 h2 CW HN k0
        have HD := HW
        go_wp2_with (first | refine wrx_load rfl _ rfl w.heap.size rfl m HD.out.b0 ?_ | refine wrx_store rfl _ _ rfl (w.heap.size + 2) rxZ m rfl rfl HD.out.b2 ?_)
        exact ret_do20 rfl rfl rfl (rx_turned HD.out.b2 m) (row_below HD.out.below (by omega) _) (by rw [HR.out]; exact HM.out.1) (by rw [HR.out, HM.out.2]; exact HS.out _ (row_below HD.out.below (by omega) _)) (by rw [HR.out])
      have d2 : decide (n > have_) = false := decide_eq_false h2
      have d3 : decide (have_ < n) = false := decide_eq_false h2
      have hw1 : IntKind.i64.wrap (have_ - n) = have_ - n := by have := HN.out; rw [IntKind.wrap_i64]; omega
      have hw2 : wrap64 (have_ - n) = have_ - n := by have := HN.out; unfold wrap64; omega
      obtain ⟨p2, hp2⟩ : ∃ p2, p2 = setP p t (have_ - n) := ⟨_, rfl⟩
      have HP := Lib.hid hp2
      have HR : Hid (q = (p2, 0)) := Lib.hid (by rw [HQ.out, hp2]; rw [HH.out] at h2 ⊢; exact do_no1 (by omega) h2)
      clear hp2 hbad h1 h2 k0
      have HD := HW
      go_wp2_with (first | refine wrx_load rfl _ rfl w.heap.size rfl m HD.out.b0 ?_)
      refine (CW _ _ HD.out.below).out.mono ?_
      rintro _ w2 ⟨A2, c2, rfl, hs2, hb2⟩
      have H2 := Lib.hid (HD.out.next hb2)
      obtain ⟨z0, z1, z2, z3, z4⟩ := H2.out.cells
      have HS2 : Hid (SAt w2 (fun b => w.heap.size + 3 ≤ b) A2 (shares (setP p t (have_ - n)).h)) := Lib.hid (hs2.base (fun b h _ => by have := lt_of_block HD.out.b2; (try dsimp only at h); (try dsimp only); omega))
      clear hs2 hb2
      rw [← HP.out] at HS2 ⊢
      go_wp2_with (first | refine wrx_store rfl _ _ rfl (w.heap.size + 2) rxZ ⟨p2.total, A2, (shares p2.h).length, c2⟩ rfl rfl H2.out.b2 ?_)
      have hX := row_below H2.out.below (by omega : w.heap.size ≤ w.heap.size + 2) (rxC ⟨p2.total, A2, (shares p2.h).length, c2⟩).toArray
      exact ret_do20 rfl rfl rfl (rx_turned H2.out.b2 _) hX (by rw [HR.out]) (by rw [HR.out]; exact (HS2.out.keep (fun b h1 h2 => row_far _ (by (try dsimp only at h1); omega)) (row_size _ _ _)).base (fun b h _ => HB.out b (by (try dsimp only at h); omega))) (by rw [HR.out])
    have e0 : (k == 0) = false := by rw [beq_eq_false_iff_ne]; exact k0
    have e1 : (k == 1) = false := by rw [beq_eq_false_iff_ne]; exact k1
    obtain ⟨p2, hp2⟩ : ∃ p2, p2 = setP p t 0 := ⟨_, rfl⟩
    have HP := Lib.hid hp2
    have HR : Hid (q = (p2, have_)) := Lib.hid (by rw [HQ.out, hp2, HH.out]; exact do_else k0 k1)
    clear hp2 k0 k1 hb HBd
    have HD := HW
    go_wp2_with (first | refine wrx_load rfl _ rfl w.heap.size rfl m HD.out.b0 ?_)
    refine (CW _ _ HD.out.below).out.mono ?_
    rintro _ w2 ⟨A2, c2, rfl, hs2, hb2⟩
    have H2 := Lib.hid (HD.out.next hb2)
    obtain ⟨z0, z1, z2, z3, z4⟩ := H2.out.cells
    have HS2 : Hid (SAt w2 (fun b => w.heap.size + 3 ≤ b) A2 (shares (setP p t (0)).h)) := Lib.hid (hs2.base (fun b h _ => by have := lt_of_block HD.out.b2; (try dsimp only at h); (try dsimp only); omega))
    clear hs2 hb2
    rw [← HP.out] at HS2 ⊢
    go_wp2_with (first | refine wrx_store rfl _ _ rfl (w.heap.size + 2) rxZ ⟨p2.total, A2, (shares p2.h).length, c2⟩ rfl rfl H2.out.b2 ?_)
    have hX := row_below H2.out.below (by omega : w.heap.size ≤ w.heap.size + 2) (rxC ⟨p2.total, A2, (shares p2.h).length, c2⟩).toArray
    exact ret_do20 rfl rfl rfl (rx_turned H2.out.b2 _) hX (by rw [HR.out]) (by rw [HR.out]; exact (HS2.out.keep (fun b h1 h2 => row_far _ (by (try dsimp only at h1); omega)) (row_size _ _ _)).base (fun b h _ => HB.out b (by (try dsimp only at h); omega))) (by rw [HR.out])
end Go.Proofs.Ythdencddocgbjaa.pol
