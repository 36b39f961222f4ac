/-
  An id is dropped: the last one goes, one of the midst is filled by the last one, which is settled there. No condition.
-/
import Derived.Test.YtfhkaedpbandiaaTSet
namespace Go.Proofs.Ytfhkaedpbandiaa.timer
open Go.RowKit
attribute [local go_sem ↓] Go.wp_at_zero Go.wp_at_succ

/-- Behind the cut of the heap's slice. -/
structure Drop1 (w W : World) (bt bh bm cap L : Nat) (h : List E) (p : Int → Option Nat) (N : Nat) : Prop where
  c1 : W.cell? ⟨bt, 1, none⟩ = some (.map (some bm))
  e0 : W.cell? ⟨w.heap.size, 0, none⟩ = some (.int .i64 (g h L).1)
  e1 : W.cell? ⟨w.heap.size, 1, none⟩ = some (.int .i64 (g h L).2)
  tim : W.heap[bt]? = some (.cells #[.slice (some ⟨bh, 0, none⟩) h.dropLast.length cap, .map (some bm)] 27 (0, 0))
  row : Row 59 W 0 bh cap h.dropLast
  map : MapAt W bm N p
  frm : Frm bt bh bm w W
theorem drop1 {w : World} {bt bh bm cap L : Nat} {h : List E} {p : Int → Option Nat} {N : Nat} (o : Has w bt bh bm cap h p N) (hL : h.length = L + 1) :
    Drop1 w ((w.setCell ⟨bt, 0, none⟩ (.slice (some ⟨bh, 0, none⟩) L cap)).alloc (.cells #[.int .i64 (g h L).1, .int .i64 (g h L).2] 59)) bt bh bm cap L h p N := by
  have hlt := o.lt
  have n1 := o.ne1
  have n2 := o.ne2
  have hs : (w.setCell ⟨bt, 0, none⟩ (.slice (some ⟨bh, 0, none⟩) L cap)).heap.size = w.heap.size := by simp [World.setCell]
  have hk : ∀ k, k < w.heap.size → k ≠ bt → ((w.setCell ⟨bt, 0, none⟩ (.slice (some ⟨bh, 0, none⟩) L cap)).alloc (.cells #[.int .i64 (g h L).1, .int .i64 (g h L).2] 59)).heap[k]? = w.heap[k]? := by
    intro k h1 h2
    rw [Below.heap_alloc _ _ _ (by rw [hs]; exact h1), Below.heap_setCell _ _ _ _ h2]
  have hnew := heap_alloc_new (w.setCell ⟨bt, 0, none⟩ (.slice (some ⟨bh, 0, none⟩) L cap)) (.cells #[.int .i64 (g h L).1, .int .i64 (g h L).2] 59)
  rw [hs] at hnew
  have ht : ((w.setCell ⟨bt, 0, none⟩ (.slice (some ⟨bh, 0, none⟩) L cap)).alloc (.cells #[.int .i64 (g h L).1, .int .i64 (g h L).2] 59)).heap[bt]? = some (.cells #[.slice (some ⟨bh, 0, none⟩) L cap, .map (some bm)] 27 (0, 0)) := by
    rw [Below.heap_alloc _ _ _ (by rw [hs]; exact hlt.1), heap_setCell_same w bt 0 _ _ _ o.tim]
    rfl
  have hd : h.dropLast.length = L := by rw [List.length_dropLast]; omega
  have hf : Frm bt bh bm w ((w.setCell ⟨bt, 0, none⟩ (.slice (some ⟨bh, 0, none⟩) L cap)).alloc (.cells #[.int .i64 (g h L).1, .int .i64 (g h L).2] 59)) := ((Frm.refl bt bh bm w).setCell (p := ⟨bt, 0, none⟩) (.inl rfl) _).alloc _
  have e := front_end (h := h) (by omega)
  generalize (w.setCell ⟨bt, 0, none⟩ (.slice (some ⟨bh, 0, none⟩) L cap)).alloc (.cells #[.int .i64 (g h L).1, .int .i64 (g h L).2] 59) = W at *
  have hrow : Row 59 W 0 bh cap (h.dropLast ++ [g h (h.length - 1)]) := by
    rw [← e]
    exact o.row.keep (hk bh hlt.2.1 n1)
  exact ⟨by simp [World.cell?, ht], by simp [World.cell?, hnew], by simp [World.cell?, hnew], by rw [hd]; exact ht, hrow.front, o.map.keep (hk bm hlt.2.2 n2), hf⟩

theorem drop2 {w W w2 : World} {bt bh bm cap L M : Nat} {h : List E} {p q : Int → Option Nat} {N : Nat} (o : Has w bt bh bm cap h p N) (d : Drop1 w W bt bh bm cap L h p N) (hm : MapAt w2 bm M q) (hg : W.grownBy w2 (some bm)) :
    Has w2 bt bh bm cap h.dropLast q M ∧ Frm bt bh bm w w2 := by
  have l1 := lt_of_block d.tim
  have l2 := d.row.lt.2
  refine ⟨⟨(hg.block bt l1 (by simp; exact (Ne.symm o.ne2))).trans d.tim, d.row.keep (hg.block bh l2 (by simp; exact (Ne.symm o.ne3))), hm, o.ne1, o.ne2, o.ne3, ?_, ?_⟩, d.frm.grown hg (.inr (.inr (.inl rfl)))⟩
  · intro k hk
    rw [List.length_dropLast] at hk
    rw [g_front hk]
    exact o.wf k (by omega)
  · have := o.len
    rw [List.length_dropLast]
    omega

set_option maxHeartbeats 400000 in
theorem drop_there (w : World) (bt bh bm cap : Nat) (h : List E) (p : Int → Option Nat) (N i : Nat) (m : List E) (o : Has w bt bh bm cap h p N) (r : Good h p N m) (x : Int) (hx : Wf x) (hi : p x = some i) :
    Calls Try.prog 19 #[.pointer (some ⟨bt, 0, none⟩), .int .i64 x] w fun e w' => e = .returned (.bool true) ∧ Lies w' bt bh bm (drop m x) ∧ Frm bt bh bm w w' := by
  obtain ⟨c0, c1, f0, _⟩ := o.cells
  have hlt := o.lt
  have hpl := place_run w bt _ x i true c1 ((o.map.look hx).1 i hi)
  obtain ⟨hil, _⟩ := r.po.2 x i hi
  obtain ⟨L, hL⟩ : ∃ L, h.length = L + 1 := ⟨h.length - 1, by omega⟩
  obtain ⟨d0, d1, _, _⟩ := o.row.cells (show L < h.length by omega)
  have hlen := o.len
  have n1 := o.ne1
  have hD1 := drop1 o hL
  have H2 := Lib.hid fun (W w2 : World) M q (d : Drop1 w W bt bh bm cap L h p N) hm hg => drop2 (w2 := w2) (M := M) (q := q) o d hm hg
  have hwf := o.wf L (by omega)
  have hle : h.length - 1 = L := by omega
  have HM := Lib.hid fun (hiL : i < L) => by
    have := r.mid hi (by omega)
    rw [hle] at this
    exact this
  have HT := Lib.hid fun (hiL : i = L) => r.last (x := x) (by rw [hle, ← hiL]; exact hi)
  have HN : Hid (N ≤ 4096) := Lib.hid (by rw [r.num]; omega)
  have HI := Lib.hid hi
  have hiL : i ≤ L := by omega
  obtain ⟨hcap, _⟩ := o.row.cap
  clear o r hi hle
  have HD1 := Lib.hid hD1
  clear hD1
  have b1 : (L : Int) < (h.length : Int) := by omega
  have b2 : (0 : Int) ≤ (L : Int) := by omega
  have b3 : (L : Int) ≤ (cap : Int) := by omega
  have e1 : (h.length : Int) - 1 = (L : Int) := by omega
  have HX := Lib.hid (show Wf (g h L).1 from hwf)
  clear hwf hL
  generalize hge : g h L = e0 at *
  generalize h.length = n at *
  go_enter Try.func19, Try.ntmps19
  go_upto_region 7 with (go_at_call 26; refine hpl.mono ?_; rintro e w' ⟨rfl, rfl⟩)
  generalize (w.setCell ⟨bt, 0, none⟩ (.slice (some ⟨bh, 0, none⟩) L cap)).alloc (.cells #[.int .i64 e0.1, .int .i64 e0.2] 59) = W at *
  have hD := HD1.out
  have k1 := hD.c1
  have a0 := hD.e0
  have a1 := hD.e1
  rw [hge] at a0 a1
  obtain ⟨w2, hrun, hm, hg⟩ := hD.map.del hx HI.out 0
  obtain ⟨r1, r2⟩ := H2.out W w2 _ _ hD hm hg
  have hbm : W.heap.size > w.heap.size := World.block_lt_of_cell? W _ a0
  have g0 : w2.cell? ⟨w.heap.size, 0, none⟩ = some (.int .i64 e0.1) := (World.cell?_of_block (a := ⟨w.heap.size, 0, none⟩) (hg.block _ hbm (by simp; omega))).trans a0
  have g1 : w2.cell? ⟨w.heap.size, 1, none⟩ = some (.int .i64 e0.2) := (World.cell?_of_block (a := ⟨w.heap.size, 1, none⟩) (hg.block _ hbm (by simp; omega))).trans a1
  have R1 := Lib.hid r1
  have R2 := Lib.hid r2
  clear hD a0 a1 hm hg r1 r2 HD1 H2 c0 c1 d0 d1 f0 n1 hpl
  by_cases hil2 : i < L
  · obtain ⟨m1, m2⟩ := HM.out hil2
    have hs := settle_any w2 bt bh bm cap h.dropLast (upd p x none) (N - 1) i e0 (drop m x) R1.out m1 m2 HX.out
    have hd : decide (i < L) = true := by simpa using hil2
    have hd2 : (i : Int) < (L : Int) := by omega
    clear m1 m2 HM HT hge
    go_wp2_with fail
    refine hs.mono ?_
    rintro e w' ⟨rfl, ⟨h', p', N', q1, q2⟩, q3⟩
    have HD : Hid (Lies w' bt bh bm (drop m x)) := .inr ⟨cap, h', p', N', q1, q2⟩
    have HF := Lib.hid (R2.out.and q3)
    clear q1 q2 q3 hs g0 g1
    go_wp2_with fail
    go_ret
    exact ⟨rfl, HD.out, HF.out⟩
  · have hg := HT.out (by omega)
    have HD : Hid (Lies w2 bt bh bm (drop m x)) := .inr ⟨cap, _, _, _, R1.out, hg⟩
    have hd : decide (i < L) = false := by simpa using hil2
    have hd2 : (L : Int) ≤ (i : Int) := by omega
    clear hg HM HT hge g0 g1
    go_wp2_with fail
    go_ret
    exact ⟨rfl, HD.out, R2.out⟩

/-- An id is dropped, if it is there. -/
theorem drop_any (w : World) (bt bh bm : Nat) (m : List E) (o : Lies w bt bh bm m) (x : Int) (hx : Wf x) :
    ((∃ e ∈ m, e.1 = x) ∧ Calls Try.prog 19 #[.pointer (some ⟨bt, 0, none⟩), .int .i64 x] w fun e w' => e = .returned (.bool true) ∧ Lies w' bt bh bm (drop m x) ∧ Frm bt bh bm w w') ∨
    ((∀ e ∈ m, e.1 ≠ x) ∧ Calls Try.prog 19 #[.pointer (some ⟨bt, 0, none⟩), .int .i64 x] w fun e w' => e = .returned (.bool false) ∧ Lies w' bt bh bm (drop m x) ∧ Frm bt bh bm w w') := by
  rcases place_any w bt bh bm m o x hx with ⟨cap, h, p, N, k, o, r, hk, _⟩ | ⟨h, hc⟩
  · obtain ⟨r1, r2⟩ := r.some hk
    exact .inl ⟨⟨_, r1, r2⟩, drop_there w bt bh bm cap h p N k m o r x hx hk⟩
  · refine .inr ⟨h, ?_⟩
    rw [drop_self h]
    have HD := Lib.hid o
    clear h o
    go_enter Try.func19, Try.ntmps19
    go_wp2_with (go_at_call 26; refine hc.mono ?_; rintro e w' ⟨rfl, rfl⟩)
    go_ret
    exact ⟨rfl, HD.out, Frm.refl _ _ _ _⟩
theorem drop_none (w : World) (x : Int) :
    Calls Try.prog 19 #[.pointer none, .int .i64 x] w fun e w' => e = .returned (.bool false) ∧ w = w' := by
  go_enter Try.func19, Try.ntmps19
  go_wp2_with (go_at_call 26; refine (place_nil _ x).mono ?_; rintro e w' ⟨rfl, rfl⟩)
  go_ret
  exact ⟨rfl, rfl⟩
end Go.Proofs.Ytfhkaedpbandiaa.timer
