/-
  An entry is settled: up or down, where the heap needs it. No condition.
-/
import Derived.Test.YtfhkaedpbandiaaTBelow
import Derived.LoopTactic
import Derived.Deep.CutBlock
import Derived.Deep.DeepCutAuto
namespace Go.Proofs.Ytfhkaedpbandiaa.timer
open Go.RowKit
attribute [local go_sem ↓] Go.wp_at_zero Go.wp_at_succ

/-- What holds while an entry is on its way. -/
structure St (w0 : World) (bt bh bm cap : Nat) (e : E) (V : List E) (wr : World) (i : Nat) (h : List E) (p : Int → Option Nat) (N : Nat) : Prop where
  has : Has wr bt bh bm cap h p N
  hole : Hole h p N i e V
  near : Near (h.set i e) i
  frm : Frm bt bh bm w0 wr

theorem St.le {w0 wr : World} {bt bh bm cap : Nat} {e : E} {V : List E} {i : Nat} {h : List E} {p : Int → Option Nat} {N : Nat} (o : St w0 bt bh bm cap e V wr i h p N) : N ≤ 4096 ∧ i < h.length ∧ h.length ≤ 4096 := by
  have h1 := o.hole.num
  have h2 := o.has.len
  have h3 := o.hole.lt
  unfold cnt at h1
  split at h1 <;> omega
theorem lower_set (h : List E) {i : Nat} (e : E) (hi : i < h.length) : lower (h.set i e) i = lower h i := by
  unfold lower
  rw [List.length_set, g_other e hi (by omega), g_other e hi (by omega)]
theorem St.below {w0 wr w' : World} {bt bh bm cap : Nat} {e : E} {V : List E} {i : Nat} {h : List E} {p : Int → Option Nat} {N : Nat} (o : St w0 bt bh bm cap e V wr i h p N) (hb : Below wr.heap.size wr w') : St w0 bt bh bm cap e V w' i h p N :=
  ⟨o.has.below hb, o.hole, o.near, o.frm.and (Frm.of_below hb)⟩
theorem St.up {w0 wr w' : World} {bt bh bm cap : Nat} {e : E} {V : List E} {i : Nat} {h : List E} {p : Int → Option Nat} {N : Nat} (o : St w0 bt bh bm cap e V wr i h p N) (h0 : 0 < i) (ha : ahd e (g h ((i - 1) / 2)) = true)
    (hh : Has w' bt bh bm cap (h.set i (g h ((i - 1) / 2))) (upd p (g h ((i - 1) / 2)).1 (some i)) (cnt p N (g h ((i - 1) / 2)).1)) (hf : Frm bt bh bm wr w') :
    St w0 bt bh bm cap e V w' ((i - 1) / 2) (h.set i (g h ((i - 1) / 2))) (upd p (g h ((i - 1) / 2)).1 (some i)) (cnt p N (g h ((i - 1) / 2)).1) := by
  have hi := o.hole.lt
  obtain ⟨m1, m2⟩ := o.hole.move (k := (i - 1) / 2) (by omega) (by omega)
  refine ⟨hh, m1, ?_, o.frm.and hf⟩
  rw [m2]
  refine o.near.up h0 (by rw [List.length_set]; exact hi) ?_
  rw [g_same e hi, g_other e hi (by omega)]
  exact ha
theorem St.upOK {w0 wr : World} {bt bh bm cap : Nat} {e : E} {V : List E} {i : Nat} {h : List E} {p : Int → Option Nat} {N : Nat} (o : St w0 bt bh bm cap e V wr i h p N) (ha : 0 < i → ahd e (g h ((i - 1) / 2)) = false) : Up (h.set i e) i := by
  intro h0
  rw [g_same e o.hole.lt, g_other e o.hole.lt (by omega)]
  exact ha h0
theorem St.down {w0 wr w' : World} {bt bh bm cap : Nat} {e : E} {V : List E} {i : Nat} {h : List E} {p : Int → Option Nat} {N : Nat} (o : St w0 bt bh bm cap e V wr i h p N) (hk : lower h i < h.length) (ha : ahd (g h (lower h i)) e = true)
    (hh : Has w' bt bh bm cap (h.set i (g h (lower h i))) (upd p (g h (lower h i)).1 (some i)) (cnt p N (g h (lower h i)).1)) (hf : Frm bt bh bm wr w') :
    St w0 bt bh bm cap e V w' (lower h i) (h.set i (g h (lower h i))) (upd p (g h (lower h i)).1 (some i)) (cnt p N (g h (lower h i)).1) ∧ Up ((h.set i (g h (lower h i))).set (lower h i) e) (lower h i) := by
  have hi := o.hole.lt
  have hne : lower h i ≠ i := by have := (lower_ge h i).1; omega
  obtain ⟨m1, m2⟩ := o.hole.move hk hne
  have hl := lower_set h e hi
  have hd := o.near.down (by rw [List.length_set]; exact hi) (by rw [hl, List.length_set]; exact hk) (by rw [hl, g_same e hi, g_other e hi hne]; exact ha)
  rw [hl, ← m2] at hd
  exact ⟨⟨hh, m1, hd.1, o.frm.and hf⟩, hd.2⟩
theorem St.done {w0 wr w' : World} {bt bh bm cap : Nat} {e : E} {V : List E} {i : Nat} {h : List E} {p : Int → Option Nat} {N : Nat} (o : St w0 bt bh bm cap e V wr i h p N) (u : Up (h.set i e) i) (ha : lower h i < h.length → ahd (g h (lower h i)) e = false)
    (hh : Has w' bt bh bm cap (h.set i e) (upd p e.1 (some i)) (cnt p N e.1)) (hf : Frm bt bh bm wr w') :
    (∃ h' p' N', Has w' bt bh bm cap h' p' N' ∧ Good h' p' N' V) ∧ Frm bt bh bm w0 w' := by
  have hi := o.hole.lt
  have hne : lower h i ≠ i := by have := (lower_ge h i).1; omega
  have hl := lower_set h e hi
  have := o.near.done u (by rw [hl, List.length_set, g_same e hi, g_other e hi hne]; exact ha)
  exact ⟨⟨_, _, _, hh, o.hole.done this⟩, o.frm.and hf⟩

/-- The entry's own box is as it was. -/
theorem St.box {w wr : World} {bt bh bm cap : Nat} {e : E} {V : List E} {i : Nat} {h : List E} {p : Int → Option Nat} {N : Nat} (o : St (w.alloc (.cells #[.int .i64 e.1, .int .i64 e.2] 59)) bt bh bm cap e V wr i h p N) (hlt : bt < w.heap.size ∧ bh < w.heap.size ∧ bm < w.heap.size) :
    wr.cell? ⟨w.heap.size, 0, none⟩ = some (.int .i64 e.1) ∧ wr.cell? ⟨w.heap.size, 1, none⟩ = some (.int .i64 e.2) ∧ w.heap.size < wr.heap.size := by
  have h1 := heap_alloc_new w (.cells #[.int .i64 e.1, .int .i64 e.2] 59)
  have h2 := o.frm.block w.heap.size (by simp) (by omega) (by omega) (by omega)
  rw [h1] at h2
  have h3 := lt_of_block h2
  exact ⟨by simp [World.cell?, h2], by simp [World.cell?, h2], h3⟩

def SHead (w0 : World) (bt bh bm cap : Nat) (e : E) (V : List E) (v : Value) (wr : World) : Prop := ∃ i h p N, v = .int .i64 ((i : Nat) : Int) ∧ St w0 bt bh bm cap e V wr i h p N
def SMid (w0 : World) (bt bh bm cap : Nat) (e : E) (V : List E) (v : Value) (wr : World) : Prop := ∃ i h p N, v = .int .i64 ((i : Nat) : Int) ∧ St w0 bt bh bm cap e V wr i h p N ∧ Up (h.set i e) i
def SLow (w0 : World) (bt bh bm cap : Nat) (e : E) (V : List E) (v k : Value) (wr : World) : Prop := ∃ i h p N, v = .int .i64 ((i : Nat) : Int) ∧ k = .int .i64 (lower h i : Int) ∧ St w0 bt bh bm cap e V wr i h p N ∧ Up (h.set i e) i
def Settled (w : World) (bt bh bm cap : Nat) (V : List E) (x : Ending) (w' : World) : Prop := x = .returned (.tuple #[]) ∧ (∃ h' p' N', Has w' bt bh bm cap h' p' N' ∧ Good h' p' N' V) ∧ Frm bt bh bm w w'

set_option maxHeartbeats 2000000 in
set_option maxRecDepth 100000 in
theorem settle_any (w : World) (bt bh bm cap : Nat) (h0 : List E) (p0 : Int → Option Nat) (N0 i0 : Nat) (e : E) (V : List E) (o : Has w bt bh bm cap h0 p0 N0) (ho : Hole h0 p0 N0 i0 e V) (hn : Near (h0.set i0 e) i0) (he : Wf e.1) :
    Calls Try.prog 23 #[.pointer (some ⟨bt, 0, none⟩), .int .i64 (i0 : Int), .agg #[.int .i64 e.1, .int .i64 e.2]] w (Settled w bt bh bm cap V) := by
  have hlt := o.lt
  have hS0 : SHead (w.alloc (.cells #[.int .i64 e.1, .int .i64 e.2] 59)) bt bh bm cap e V (.int .i64 (i0 : Int)) (w.alloc (.cells #[.int .i64 e.1, .int .i64 e.2] 59)) :=
    ⟨i0, h0, p0, N0, rfl, o.below ((Below.refl _ _).alloc (Nat.le_refl _) _), ho, hn, Frm.refl _ _ _ _⟩
  have HS0 := Lib.hid hS0
  have HF0 : Hid (Frm bt bh bm w (w.alloc (.cells #[.int .i64 e.1, .int .i64 e.2] 59))) := (Frm.refl _ _ _ _).alloc _
  clear o ho hn hS0
  have HL := Lib.hid fun (wr : World) i h p N (o : St (w.alloc (.cells #[.int .i64 e.1, .int .i64 e.2] 59)) bt bh bm cap e V wr i h p N) => o.box hlt
  go_enter Try.func23, Try.ntmps23
  go_upto_block 0 with fail
  have hB : w.heap.size < (w.alloc (.cells #[.int .i64 e.1, .int .i64 e.2] 59)).heap.size := by simp
  generalize w.alloc (.cells #[.int .i64 e.1, .int .i64 e.2] 59) = w0 at *
  go_cut [1] (fun v wx => SMid w0 bt bh bm cap e V v wx)
  case first =>
    go_wp2_with fail
    go_loopw [1] (SHead w0 bt bh bm cap e V) (fun v _ => (intOf v).toNat)
    case atStart => exact HS0.out
    case round =>
      obtain ⟨i, h, p, N, rfl, hS⟩ := hrel
      obtain ⟨b0, b1, _⟩ := HL.out _ _ _ _ _ hS
      obtain ⟨hN, hi, hn4⟩ := hS.le
      by_cases hi0 : i = 0
      · subst hi0
        have HT := Lib.hid fun n => (show SMid w0 bt bh bm cap e V (.int .i64 ((0 : Nat) : Int)) (wr.drewN n) from ⟨0, h, p, N, rfl, hS.below (below_drewN (Below.refl _ _) n), hS.upOK (by omega)⟩)
        clear hS
        go_wp2_with fail
        go_quiet (fail)
        go_wp2_with fail
        go_meet
        exact HT.out _
      · have hq : (i - 1) / 2 < h.length := by omega
        obtain ⟨c0, _, _, _⟩ := hS.has.cells
        obtain ⟨d0, d1, _, _⟩ := hS.has.row.cells hq
        have hmv := fun W hb => move_any W bt bh bm cap h p N ((i - 1) / 2) i (hS.below (w' := W) hb).has hi hq hN
        have HU := Lib.hid fun w1 w2 (hb : Below wr.heap.size wr w1) hc hh hf => (hS.below hb).up (w' := w2) (by omega : 0 < i) hc hh hf
        have HX := Lib.hid fun w1 (hb : Below wr.heap.size wr w1) hc => (show SMid w0 bt bh bm cap e V (.int .i64 (i : Int)) w1 from ⟨i, h, p, N, rfl, hS.below hb, hS.upOK fun _ => hc⟩)
        obtain ⟨q, hqe⟩ : ∃ q, q = (i - 1) / 2 := ⟨_, rfl⟩
        rw [← hqe] at hq d0 d1 hmv HU HX
        have g0 : decide ((i : Int) > 0) = true := by simp; omega
        have g1 : (0 : Int) < (i : Int) := by omega
        have g2 : 0 < i := by omega
        obtain ⟨j, hj⟩ : ∃ j : Nat, (i : Int) - 1 = (j : Int) := ⟨i - 1, by omega⟩
        have j1 : IntKind.i64.wrap (j : Int) = (j : Int) := by rw [IntKind.wrap_i64]; omega
        have j2 : (j : Int).tdiv 2 = (q : Int) := by rw [Int.tdiv_eq_ediv_of_nonneg (by omega)]; omega
        have j3 : (j : Int) / 2 = (q : Int) := by omega
        have j4 : IntKind.i64.wrap (q : Int) = (q : Int) := by rw [IntKind.wrap_i64]; omega
        have q1 : (0 : Int) ≤ (q : Int) := by omega
        have q2 : (q : Int) < (h.length : Int) := by omega
        have hqi : q < i := by omega
        have hsz : bt < wr.heap.size ∧ bh < wr.heap.size := ⟨hS.has.lt.1, hS.has.lt.2.1⟩
        have hah := fun W => ahead_any e (g h q) W
        generalize g h q = f at *
        have hbb := ((Below.refl wr.heap.size wr).alloc (Nat.le_refl _) (.cells #[.int .i64 e.1, .int .i64 e.2] 59)).alloc (by simp) (.cells #[.int .i64 f.1, .int .i64 f.2] 59)
        have HB := Lib.hid hbb.drew
        have HQ := Lib.hid hqi
        clear hbb hS hqe hi0 hqi
        cases hc : ahd e f
        · rw [hc] at hah
          have HC := Lib.hid hc
          clear hc
          go_wp2_with fail
          go_region_held3 (fun w' => w'.cell? ⟨bt, 0, none⟩ = some (.slice (some ⟨bh, 0, none⟩) h.length cap) ∧ w'.cell? ⟨bh, q * 2, none⟩ = some (.int .i64 f.1) ∧ w'.cell? ⟨bh, q * 2 + 1, none⟩ = some (.int .i64 f.2) ∧ w'.cell? ⟨w.heap.size, 0, none⟩ = some (.int .i64 e.1) ∧ w'.cell? ⟨w.heap.size, 1, none⟩ = some (.int .i64 e.2)) (go_keep)
            (first | (go_at_call 27; refine (hah _).mono ?_; rintro x w' ⟨rfl, rfl⟩))
          have HT := Lib.hid (HX.out _ HB.out HC.out)
          clear c0 d0 d1 b0 b1 hmv
          go_wp2_with fail
          go_meet
          exact HT.out
        · rw [hc] at hah
          have HC := Lib.hid hc
          clear hc
          go_wp2_with fail
          go_region_held3 (fun w' => w'.cell? ⟨bt, 0, none⟩ = some (.slice (some ⟨bh, 0, none⟩) h.length cap) ∧ w'.cell? ⟨bh, q * 2, none⟩ = some (.int .i64 f.1) ∧ w'.cell? ⟨bh, q * 2 + 1, none⟩ = some (.int .i64 f.2) ∧ w'.cell? ⟨w.heap.size, 0, none⟩ = some (.int .i64 e.1) ∧ w'.cell? ⟨w.heap.size, 1, none⟩ = some (.int .i64 e.2)) (go_keep)
            (first | (go_at_call 27; refine (hah _).mono ?_; rintro x w' ⟨rfl, rfl⟩))
          clear c0 d0 d1 b0 b1 hah
          go_wp2_with fail
          refine (hmv _ HB.out).mono ?_
          rintro x w2 ⟨rfl, hh, hf⟩
          have HT := Lib.hid (HU.out _ _ HB.out HC.out hh hf)
          clear hmv hh hf
          go_wp2_with fail
          exact ⟨⟨q, _, _, _, rfl, HT.out⟩, by simp [intOf]; exact HQ.out⟩
  case rest =>
    obtain ⟨i, h, p, N, rfl, hS, hU⟩ := hcut
    have hbl := below_any wc bt bh bm cap h p N i hS.has (by have := hS.le; omega)
    have HS := Lib.hid hS
    have HU := Lib.hid hU
    clear hS hU HS0
    go_wp2_with fail
    refine hbl.mono ?_
    rintro x w1 ⟨rfl, hb⟩
    have HT : Hid (SLow w0 bt bh bm cap e V (.int .i64 (i : Int)) (.int .i64 (lower h i : Int)) w1) := ⟨i, h, p, N, rfl, rfl, HS.out.below hb, HU.out⟩
    clear hbl hb HS HU
    go_wp2_with fail
    go_loopw [1, 6] (SLow w0 bt bh bm cap e V) (fun v _ _ => V.length - (intOf v).toNat)
    case atStart => exact HT.out
    case round =>
      clear HT
      obtain ⟨i, h, p, N, rfl, rfl, hS, hU⟩ := hrel
      obtain ⟨b0, b1, hBr⟩ := HL.out _ _ _ _ _ hS
      obtain ⟨hN, hi, hn4⟩ := hS.le
      obtain ⟨c0, _, _, _⟩ := hS.has.cells
      obtain ⟨hki, _, hk2⟩ := lower_ge h i
      have hVl := hS.hole.len
      have hput := fun W hb => put_any W bt bh bm cap h p N i e (hS.below (w' := W) hb).has hi hN he
      have hsz : bt < wr.heap.size ∧ bh < wr.heap.size := ⟨hS.has.lt.1, hS.has.lt.2.1⟩
      by_cases hk : lower h i < h.length
      · obtain ⟨d0, d1, _, _⟩ := hS.has.row.cells hk
        have hmv := fun W hb => move_any W bt bh bm cap h p N (lower h i) i (hS.below (w' := W) hb).has hi hk hN
        have HD := Lib.hid fun w1 w2 (hb : Below wr.heap.size wr w1) hc hh hf => (hS.below hb).done (w' := w2) hU (fun _ => hc) hh hf
        have HU := Lib.hid fun w1 w2 (hb : Below wr.heap.size wr w1) hc hh hf => (hS.below hb).down (w' := w2) hk hc hh hf
        have HKI := Lib.hid hki
        have HVL := Lib.hid hVl
        have HKL := Lib.hid hk
        clear hS hU hki hVl
        generalize lower h i = k at *
        have k1 : (k : Int) < (h.length : Int) := by omega
        have k2 : (0 : Int) ≤ (k : Int) := by omega
        have hah := fun W => ahead_any (g h k) e W
        generalize g h k = f at *
        have hbb := ((Below.refl wr.heap.size wr).alloc (Nat.le_refl _) (.cells #[.int .i64 f.1, .int .i64 f.2] 59)).alloc (by simp) (.cells #[.int .i64 e.1, .int .i64 e.2] 59)
        have HB := Lib.hid hbb.drew
        clear hbb
        cases hc : ahd f e
        · rw [hc] at hah
          have HC := Lib.hid hc
          clear hc hmv
          go_wp2_with fail
          go_region_held3 (fun w' => w'.cell? ⟨bt, 0, none⟩ = some (.slice (some ⟨bh, 0, none⟩) h.length cap) ∧ w'.cell? ⟨bh, k * 2, none⟩ = some (.int .i64 f.1) ∧ w'.cell? ⟨bh, k * 2 + 1, none⟩ = some (.int .i64 f.2) ∧ w'.cell? ⟨w.heap.size, 0, none⟩ = some (.int .i64 e.1) ∧ w'.cell? ⟨w.heap.size, 1, none⟩ = some (.int .i64 e.2)) (go_keep)
            (first | (go_at_call 27; refine (hah _).mono ?_; rintro x w' ⟨rfl, rfl⟩))
          go_wp2_with fail
          refine (hput _ HB.out).mono ?_
          rintro x w2 ⟨rfl, hh, hf⟩
          obtain ⟨r1, r2⟩ := HD.out _ _ HB.out HC.out hh hf
          have R1 : Hid (Settled w bt bh bm cap V (.returned (.tuple #[])) w2) := ⟨rfl, r1, HF0.out.and r2⟩
          clear r1 r2 hh hf hput c0 b0 b1 d0 d1 hah
          go_wp2_with fail
          go_end0
          exact R1.out
        · rw [hc] at hah
          have HC := Lib.hid hc
          clear hc hput
          go_wp2_with fail
          go_region_held3 (fun w' => w'.cell? ⟨bt, 0, none⟩ = some (.slice (some ⟨bh, 0, none⟩) h.length cap) ∧ w'.cell? ⟨bh, k * 2, none⟩ = some (.int .i64 f.1) ∧ w'.cell? ⟨bh, k * 2 + 1, none⟩ = some (.int .i64 f.2) ∧ w'.cell? ⟨w.heap.size, 0, none⟩ = some (.int .i64 e.1) ∧ w'.cell? ⟨w.heap.size, 1, none⟩ = some (.int .i64 e.2)) (go_keep)
            (first | (go_at_call 27; refine (hah _).mono ?_; rintro x w' ⟨rfl, rfl⟩))
          clear c0 d0 d1 b0 b1 hah
          go_wp2_with fail
          refine (hmv _ HB.out).mono ?_
          rintro x w2 ⟨rfl, hh, hf⟩
          obtain ⟨r1, r2⟩ := HU.out _ _ HB.out HC.out hh hf
          have hbl := below_any w2 bt bh bm cap _ _ _ k r1.has (by have := HKL.out; omega)
          have R1 := Lib.hid r1
          have R2 := Lib.hid r2
          clear hmv hh hf r1 r2
          go_wp2_with fail
          refine hbl.mono ?_
          rintro x w3 ⟨rfl, hb⟩
          have R3 := Lib.hid (R1.out.below hb)
          clear hbl hb R1
          go_wp2_with fail
          exact ⟨⟨k, _, _, _, rfl, rfl, R3.out, R2.out⟩, by simp [intOf]; have := HKI.out; have := HKL.out; have := HVL.out; omega⟩
      · have HD := Lib.hid fun n w2 hh hf => (hS.below (below_drewN (Below.refl _ _) n)).done (w' := w2) hU (fun hc => absurd hc hk) hh hf
        have hput := fun n => hput (wr.drewN n) (below_drewN (Below.refl _ _) n)
        clear hS hU hVl
        generalize lower h i = k at *
        have hd : decide (k < h.length) = false := by simpa using hk
        have hd2 : decide ((k : Int) < (h.length : Int)) = false := by simpa using hk
        have hd3 : (h.length : Int) ≤ (k : Int) := by omega
        have hd4 : h.length ≤ k := by omega
        clear hk
        go_wp2_with fail
        go_quiet (fail)
        go_wp2_with fail
        refine (hput _).mono ?_
        rintro x w2 ⟨rfl, hh, hf⟩
        obtain ⟨r1, r2⟩ := HD.out _ _ hh hf
        have R1 : Hid (Settled w bt bh bm cap V (.returned (.tuple #[])) w2) := ⟨rfl, r1, HF0.out.and r2⟩
        clear r1 r2 hh hf hput c0 b0 b1
        go_wp2_with fail
        go_end0
        exact R1.out
end Go.Proofs.Ytfhkaedpbandiaa.timer
