/-
  The calls that let an entry stand at a place. No condition.
-/
import Derived.Test.YtfhkaedpbandiaaTRead
import Derived.RegionTactic
import Derived.ChangeAlike
namespace Go.Proofs.Ytfhkaedpbandiaa.timer
open Go.RowKit
attribute [local go_sem ↓] Go.wp_at_zero Go.wp_at_succ

/-- Behind the store of an entry. -/
structure Put1 (w W : World) (bt bh bm cap : Nat) (h : List E) (p : Int → Option Nat) (N i : Nat) (e : E) : Prop where
  c1 : W.cell? ⟨bt, 1, none⟩ = some (.map (some bm))
  ce : W.cell? ⟨w.heap.size, 0, none⟩ = some (.int .i64 e.1)
  tim : W.heap[bt]? = some (.cells #[.slice (some ⟨bh, 0, none⟩) h.length cap, .map (some bm)] 27 (0, 0))
  row : Row 59 W 0 bh cap (h.set i e)
  map : MapAt W bm N p
  frm : Frm bt bh bm w W
theorem put1 {w : World} {bt bh bm cap : Nat} {h : List E} {p : Int → Option Nat} {N : Nat} (o : Has w bt bh bm cap h p N) (i : Nat) (e : E) :
    Put1 w ((((w.setCell ⟨bh, i * 2, none⟩ (.int .i64 e.1)).setCell ⟨bh, i * 2 + 1, none⟩ (.int .i64 e.2)).alloc (.cells #[.int .i64 e.1, .int .i64 e.2] 59)).drew) bt bh bm cap h p N i e := by
  have hlt := o.lt
  have n1 := o.ne1
  have n3 := o.ne3
  have hk : ∀ k, k < w.heap.size → k ≠ bh → ((((w.setCell ⟨bh, i * 2, none⟩ (.int .i64 e.1)).setCell ⟨bh, i * 2 + 1, none⟩ (.int .i64 e.2)).alloc (.cells #[.int .i64 e.1, .int .i64 e.2] 59)).drew).heap[k]? = w.heap[k]? := by
    intro k h1 h2
    show (((w.setCell ⟨bh, i * 2, none⟩ (.int .i64 e.1)).setCell ⟨bh, i * 2 + 1, none⟩ (.int .i64 e.2)).alloc (.cells #[.int .i64 e.1, .int .i64 e.2] 59)).heap[k]? = w.heap[k]?
    rw [Below.heap_alloc _ _ _ (by simp [World.setCell]; exact h1), Below.heap_setCell _ _ _ _ h2, Below.heap_setCell _ _ _ _ h2]
  have hs : ((w.setCell ⟨bh, i * 2, none⟩ (.int .i64 e.1)).setCell ⟨bh, i * 2 + 1, none⟩ (.int .i64 e.2)).heap.size = w.heap.size := by simp [World.setCell]
  have hnew := heap_alloc_new ((w.setCell ⟨bh, i * 2, none⟩ (.int .i64 e.1)).setCell ⟨bh, i * 2 + 1, none⟩ (.int .i64 e.2)) (.cells #[.int .i64 e.1, .int .i64 e.2] 59)
  rw [hs] at hnew
  have ht := (hk bt hlt.1 (Ne.symm n1)).trans o.tim
  refine ⟨by simp [World.cell?, ht], ?_, ht, ?_, o.map.keep (hk bm hlt.2.2 n3), ?_⟩
  · generalize (((w.setCell ⟨bh, i * 2, none⟩ (.int .i64 e.1)).setCell ⟨bh, i * 2 + 1, none⟩ (.int .i64 e.2)).alloc (.cells #[.int .i64 e.1, .int .i64 e.2] 59)) = W at *
    have h5 : W.drew.heap[w.heap.size]? = _ := hnew
    simp [World.cell?, h5]
  · refine (o.row.set i e).keep ?_
    show (((w.setCell ⟨bh, i * 2, none⟩ (.int .i64 e.1)).setCell ⟨bh, i * 2 + 1, none⟩ (.int .i64 e.2)).alloc (.cells #[.int .i64 e.1, .int .i64 e.2] 59)).heap[bh]? = _
    rw [Below.heap_alloc _ _ _ (by rw [hs]; exact hlt.2.1)]
  · exact ((((Frm.refl bt bh bm w).setCell (p := ⟨bh, i * 2, none⟩) (.inr (.inl rfl)) _).setCell (p := ⟨bh, i * 2 + 1, none⟩) (.inr (.inl rfl)) _).alloc _).drew

/-- Behind the store of its place. -/
theorem put2 {w W w2 : World} {bt bh bm cap : Nat} {h : List E} {p : Int → Option Nat} {N i M : Nat} {e : E} {q : Int → Option Nat} (o : Has w bt bh bm cap h p N) (o1 : Put1 w W bt bh bm cap h p N i e) (hi : i < h.length) (he : Wf e.1)
    (hm : MapAt w2 bm M q) (hg : W.drew.grownBy w2 (some bm)) : Has w2 bt bh bm cap (h.set i e) q M ∧ Frm bt bh bm w w2 := by
  have l1 : bt < W.heap.size := lt_of_block o1.tim
  have l2 := o1.row.lt.2
  refine ⟨⟨?_, o1.row.keep (hg.block bh l2 (by simp; exact (Ne.symm o.ne3))), hm, o.ne1, o.ne2, o.ne3, ?_, by rw [List.length_set]; exact o.len⟩, o1.frm.drew.grown hg (.inr (.inr (.inl rfl)))⟩
  · rw [List.length_set, hg.block bt l1 (by simp; exact (Ne.symm o.ne2))]
    exact o1.tim
  · intro k hk
    rw [List.length_set] at hk
    rw [g_set _ hi]
    split
    · exact he
    · exact o.wf k hk

set_option maxHeartbeats 400000 in
theorem put_any (w : World) (bt bh bm cap : Nat) (h : List E) (p : Int → Option Nat) (N i : Nat) (e : E) (o : Has w bt bh bm cap h p N) (hi : i < h.length) (hN : N ≤ 4096) (he : Wf e.1) :
    Calls Try.prog 30 #[.pointer (some ⟨bt, 0, none⟩), .int .i64 (i : Int), .agg #[.int .i64 e.1, .int .i64 e.2]] w fun x w' => x = .returned (.tuple #[]) ∧
      Has w' bt bh bm cap (h.set i e) (upd p e.1 (some i)) (cnt p N e.1) ∧ Frm bt bh bm w w' := by
  obtain ⟨c0, _, _, _⟩ := o.cells
  obtain ⟨_, _, f0, f1⟩ := o.row.cells hi
  have hlt := o.lt
  have n1 := o.ne1
  have o1 := put1 o i e
  have H2 := Lib.hid fun (w2 W : World) M q (o1 : Put1 w W bt bh bm cap h p N i e) hm hg => put2 (w2 := w2) (M := M) (q := q) o o1 hi he hm hg
  have h1 : (0 : Int) ≤ (i : Int) := by omega
  have h2 : (i : Int) < (h.length : Int) := by omega
  have hi4 : i ≤ 4096 := by have := o.len; omega
  clear o hi
  have HO := Lib.hid o1
  clear o1
  go_enter Try.func30, Try.ntmps30
  go_wp2
  go_region
  go_wp2
  generalize ((((w.setCell ⟨bh, i * 2, none⟩ (.int .i64 e.1)).setCell ⟨bh, i * 2 + 1, none⟩ (.int .i64 e.2)).alloc (.cells #[.int .i64 e.1, .int .i64 e.2] 59)).drew) = W at *
  clear c0 f0 f1 h1 h2
  have c1 := HO.out.c1
  have ce := HO.out.ce
  obtain ⟨w2, hrun, hm, hg⟩ := (HO.out.map.keep (w' := W.drew) rfl).put hN he hi4
  obtain ⟨r1, r2⟩ := H2.out w2 W _ _ HO.out hm hg
  have R1 := Lib.hid r1
  have R2 := Lib.hid r2
  clear r1 r2 hm hg HO H2
  go_region
  go_wp2
  go_end0
  exact ⟨rfl, R1.out, R2.out⟩

set_option maxHeartbeats 400000 in
theorem move_any (w : World) (bt bh bm cap : Nat) (h : List E) (p : Int → Option Nat) (N k i : Nat) (o : Has w bt bh bm cap h p N) (hi : i < h.length) (hk : k < h.length) (hN : N ≤ 4096) :
    Calls Try.prog 28 #[.pointer (some ⟨bt, 0, none⟩), .int .i64 (k : Int), .int .i64 (i : Int)] w fun x w' => x = .returned (.int .i64 (k : Int)) ∧
      Has w' bt bh bm cap (h.set i (g h k)) (upd p (g h k).1 (some i)) (cnt p N (g h k).1) ∧ Frm bt bh bm w w' := by
  obtain ⟨c0, _, _, _⟩ := o.cells
  obtain ⟨d0, d1, _, _⟩ := o.row.cells hk
  have hp := put_any w bt bh bm cap h p N i (g h k) o hi hN (o.wf k hk)
  have h1 : (0 : Int) ≤ (k : Int) := by omega
  have h2 : (k : Int) < (h.length : Int) := by omega
  clear o
  generalize g h k = e at *
  go_enter Try.func28, Try.ntmps28
  go_wp2_with fail
  refine hp.mono ?_
  rintro x w' ⟨rfl, r1, r2⟩
  have R1 := Lib.hid r1
  have R2 := Lib.hid r2
  clear r1 r2 hp c0 d0 d1
  go_wp2
  go_ret
  exact ⟨rfl, R1.out, R2.out⟩
end Go.Proofs.Ytfhkaedpbandiaa.timer
