/-
  An id is set, one that is there or a new one. No condition.
-/
import Derived.Test.YtfhkaedpbandiaaTApp
import Derived.Carry
import Derived.WalkSpells
namespace Go.Proofs.Ytfhkaedpbandiaa.timer
open Go.RowKit
attribute [local go_sem ↓] Go.wp_at_zero Go.wp_at_succ

/-- Behind a call: what is due is the list m, in blocks of its own, old or new. -/
def Done (w : World) (bt bh bm : Nat) (m : List E) (w' : World) : Prop :=
  ∃ bh' bm', Lies w' bt bh' bm' m ∧ Frm bt bh bm w w' ∧ (bh' = bh ∨ w.heap.size ≤ bh') ∧ (bm' = bm ∨ w.heap.size ≤ bm')
theorem done_of {w w1 w' : World} {bt bh bm g b2 cap : Nat} {V : List E} {x : Ending} (hs : Settled w1 bt g b2 cap V x w') (hf : Frm bt bh bm w w1) (hg : g = bh ∨ w.heap.size ≤ g) (hb : b2 = bm ∨ w.heap.size ≤ b2) : x = .returned (.tuple #[]) ∧ Done w bt bh bm V w' := by
  obtain ⟨e, ⟨h', p', N', h1, h2⟩, h3⟩ := hs
  exact ⟨e, g, b2, .inr ⟨cap, h', p', N', h1, h2⟩, hf.trans h3 (.inl rfl) (by omega) (by omega), hg, hb⟩
theorem eql_map (b : Option Nat) (w : World) : (binOp .eql 25 (.map b) (.map none)).run Try.prog w = .ok (.bool b.isNone) w := run_eql_map_nil w 25 _ _ b Try.underlying25
theorem grown_any {w w' : World} (h : w.grownBy w' none) (b : Nat) : w.grownBy w' (some b) := ⟨h.os, h.tape, h.output, h.size, fun k hk _ => h.block k hk (by simp)⟩
theorem wf_app {h : List E} (hw : ∀ k, k < h.length → Wf (g h k).1) : ∀ k, k < (h ++ [((0 : Int), (0 : Int))]).length → Wf (g (h ++ [(0, 0)]) k).1 := by
  intro k hk
  rw [List.length_append, List.length_singleton] at hk
  by_cases hk2 : k < h.length
  · rw [g_left hk2]
    exact hw k hk2
  · rw [show k = h.length by omega, g_end]
    exact wf_nat (k := 0) (by omega)

set_option maxHeartbeats 400000 in
theorem set_old (w : World) (bt bh bm cap : Nat) (h : List E) (p : Int → Option Nat) (N i : Nat) (m : List E) (o : Has w bt bh bm cap h p N) (r : Good h p N m) (x y : Int) (hx : Wf x) (hi : p x = some i) :
    Calls Try.prog 10 #[.pointer (some ⟨bt, 0, none⟩), .int .i64 x, .int .i64 y] w fun e w' => e = .returned (.tuple #[]) ∧ Done w bt bh bm (setl m x y) w' := by
  obtain ⟨c0, c1, _, _⟩ := o.cells
  have hl := (o.map.look hx).1 i hi
  obtain ⟨h1, h2⟩ := r.reset y hi
  have hs := settle_any w bt bh bm cap h p N i (x, y) _ o h1 h2 hx
  clear o r h1 h2 hi
  simp only at hs
  have hq := eql_map (some bm)
  go_enter Try.func10, Try.ntmps10
  go_wp2_with fail
  refine hs.mono ?_
  intro e w' hd
  obtain ⟨rfl, hd2⟩ := done_of hd (Frm.refl bt bh bm w) (.inl rfl) (.inl rfl)
  have HD := Lib.hid hd2
  clear hd hd2 hs hl c0 c1
  go_wp2_with fail
  go_end0
  exact ⟨rfl, HD.out⟩

set_option maxHeartbeats 400000 in
theorem set_new (w : World) (bt bh bm cap : Nat) (h : List E) (p : Int → Option Nat) (N : Nat) (m : List E) (o : Has w bt bh bm cap h p N) (r : Good h p N m) (hm : m.length ≤ 4000) (x y : Int) (hx : Wf x) (hi : p x = none) :
    Calls Try.prog 10 #[.pointer (some ⟨bt, 0, none⟩), .int .i64 x, .int .i64 y] w fun e w' => e = .returned (.tuple #[]) ∧ Done w bt bh bm (setl m x y) w' := by
  obtain ⟨c0, c1, f0, _⟩ := o.cells
  have hlt := o.lt
  have hl := (o.map.look hx).2 hi
  obtain ⟨h1, h2⟩ := r.fresh y (0, 0) hi
  have hlen : h.length ≤ 4000 := by rw [r.len]; exact hm
  have hrow : Own 59 (w.alloc (.cells #[.int .i64 0, .int .i64 0] 59)) 0 (.slice (some ⟨bh, 0, none⟩) h.length cap) h := o.row.keep (Below.heap_alloc _ _ _ hlt.2.1)
  have hsrc := heap_alloc_new w (.cells #[.int .i64 0, .int .i64 0] 59)
  have HS := Lib.hid fun (W w2 : World) g cap' (oW : Has W bt bh bm cap h p N) (hg : W.grownBy w2 (some bh)) (row : Row 59 w2 0 g cap' (h ++ [(0, 0)])) n1 n3 =>
    settle_any (w2.setCell ⟨bt, 0, none⟩ (.slice (some ⟨g, 0, none⟩) (h ++ [(0, 0)]).length cap')) bt g bm cap' (h ++ [(0, 0)]) p N h.length (x, y) _ (app_has (v := .slice (some ⟨bh, 0, none⟩) h.length cap) oW.tim oW.map hg (by simp [Value.ownBlock]; exact oW.ne1) (by simp [Value.ownBlock]; exact (Ne.symm oW.ne3)) row n1 oW.ne2 n3 (wf_app oW.wf) (by simp; omega)) h1 h2 hx
  have HO := Lib.hid (o.below ((Below.refl _ _).alloc (Nat.le_refl _) (.cells #[.int .i64 0, .int .i64 0] 59)))
  have n1 := o.ne1
  have HN := Lib.hid o.ne3
  have HN1 := Lib.hid o.ne1
  clear o r h1 h2 hi
  have hq := eql_map (some bm)
  go_enter Try.func10, Try.ntmps10
  go_wp2_with (at_builtin; refine wpList_appE (by rfl) (.tmp 39) (.tmp 41) (by rfl) 0 (h.length + 1) w.heap.size (.slice (some ⟨bh, 0, none⟩) h.length cap) h (0, 0) (by rfl) rfl hrow (by rfl) hsrc (by omega) (Nat.zero_le _) ?_)
  intro g cap' w2 hr hg hor
  have hg2 : (w.alloc (.cells #[.int .i64 0, .int .i64 0] 59)).grownBy w2 (some bh) := hg
  have hor2 : g = bh ∨ w.heap.size ≤ g := by
    rcases hor with h3 | h3
    · simp [Value.ownBlock] at h3
      exact .inl h3.symm
    · omega
  have hs := HS.out _ w2 g cap' HO.out hg2 hr (by rcases hor2 with rfl | h4; exact HN1.out; omega) (by rcases hor2 with rfl | h4; exact HN.out; omega)
  rw [List.length_append, List.length_singleton] at hs
  have HF : Hid (Frm bt bh bm w (w2.setCell ⟨bt, 0, none⟩ (.slice (some ⟨g, 0, none⟩) (h.length + 1) cap'))) := (((Frm.refl bt bh bm w).alloc _).grown hg2 (.inr (.inl rfl))).setCell (p := ⟨bt, 0, none⟩) (.inl rfl) _
  have f2 : w2.frozen? ⟨bt, 0, none⟩ = false := by
    rw [World.frozen?_of_block (a := ⟨bt, 0, none⟩) (hg2.block bt (by simp; omega) (by simp; exact (Ne.symm HN1.out))), World.frozen?_of_block (a := ⟨bt, 0, none⟩) (Below.heap_alloc w _ bt hlt.1)]
    exact f0
  have d2 : w2.cell? ⟨bt, 0, none⟩ = some (.slice (some ⟨bh, 0, none⟩) h.length cap) := by
    rw [World.cell?_of_block (a := ⟨bt, 0, none⟩) (hg2.block bt (by simp; omega) (by simp; exact (Ne.symm HN1.out))), World.cell?_of_block (a := ⟨bt, 0, none⟩) (Below.heap_alloc w _ bt hlt.1)]
    exact c0
  have HG : Hid (g = bh ∨ w.heap.size ≤ g) := Lib.hid (by omega)
  clear hg hg2 hr hor hor2 hrow hsrc HS HO hl c0 c1 f0 n1 HN HN1
  go_wp2_with fail
  refine hs.mono ?_
  intro e w' hd
  obtain ⟨rfl, hd2⟩ := done_of hd HF.out HG.out (.inl rfl)
  have HD := Lib.hid hd2
  clear hd hd2 hs
  go_wp2_with fail
  go_end0
  exact ⟨rfl, HD.out⟩

/-- Behind the making of the map. -/
structure Set0 (w W : World) (bt : Nat) : Prop where
  tim : W.heap[bt]? = some (.cells #[.slice none 0 0, .map (some w.heap.size)] 27 (0, 0))
  map : MapAt W w.heap.size 0 (fun _ => none)
  size : W.heap.size = w.heap.size + 1
  frm : Frm bt bt bt w W
theorem set0 {w : World} {bt : Nat} (h : w.heap[bt]? = some (.cells #[.slice none 0 0, .map none] 27 (0, 0))) :
    Set0 w ((w.setCell ⟨bt, 1, none⟩ (.map (some w.heap.size))).alloc (.map #[] 0)) bt := by
  have hlt := lt_of_block h
  have hs : (w.setCell ⟨bt, 1, none⟩ (.map (some w.heap.size))).heap.size = w.heap.size := by simp [World.setCell]
  refine ⟨?_, ?_, by simp [World.setCell], ((Frm.refl bt bt bt w).setCell (p := ⟨bt, 1, none⟩) (.inl rfl) _).alloc _⟩
  · rw [Below.heap_alloc _ _ _ (by rw [hs]; exact hlt), heap_setCell_same w bt 1 _ _ _ h]
    rfl
  · have := MapAt.made (w.setCell ⟨bt, 1, none⟩ (.map (some w.heap.size)))
    rw [hs] at this
    exact this

set_option maxHeartbeats 400000 in
theorem set_zero (w : World) (bt : Nat) (x y : Int) (hx : Wf x) (h : w.heap[bt]? = some (.cells #[.slice none 0 0, .map none] 27 (0, 0))) :
    Calls Try.prog 10 #[.pointer (some ⟨bt, 0, none⟩), .int .i64 x, .int .i64 y] w fun e w' => e = .returned (.tuple #[]) ∧ Done w bt bt bt (setl [] x y) w' := by
  have hlt := lt_of_block h
  have c0 : w.cell? ⟨bt, 0, none⟩ = some (.slice none 0 0) := by simp [World.cell?, h]
  have c1 : w.cell? ⟨bt, 1, none⟩ = some (.map none) := by simp [World.cell?, h]
  have f1 : w.frozen? ⟨bt, 1, none⟩ = false := by simp [World.frozen?, h]
  have s0 := set0 h
  have HS0 := Lib.hid s0
  clear s0 h
  have hq := eql_map none
  have hmm := @run_makeMap Try.prog
  go_enter Try.func10, Try.ntmps10
  go_upto_region 3 with (fail)
  generalize (w.setCell ⟨bt, 1, none⟩ (.map (some w.heap.size))).alloc (.map #[] 0) = W at *
  have s0 := HS0.out
  have hl := (s0.map.look hx).2 rfl
  have t0 := s0.tim
  have d0 : W.cell? ⟨bt, 0, none⟩ = some (.slice none 0 0) := by simp [World.cell?, t0]
  have d1 : W.cell? ⟨bt, 1, none⟩ = some (.map (some w.heap.size)) := by simp [World.cell?, t0]
  have f0 : W.frozen? ⟨bt, 0, none⟩ = false := by simp [World.frozen?, t0]
  have hsrc := heap_alloc_new W (.cells #[.int .i64 0, .int .i64 0] 59)
  have hlW := lt_of_block t0
  have hz := s0.size
  have HZ := Lib.hid hz
  obtain ⟨r1, r2⟩ := Good.new.fresh y (0, 0) (x := x) rfl
  have HS := Lib.hid fun (w2 : World) g cap' (hg : (W.alloc (.cells #[.int .i64 0, .int .i64 0] 59)).grownBy w2 none) (row : Row 59 w2 0 g cap' [(0, 0)]) n1 n3 =>
    settle_any (w2.setCell ⟨bt, 0, none⟩ (.slice (some ⟨g, 0, none⟩) [((0 : Int), (0 : Int))].length cap')) bt g w.heap.size cap' [(0, 0)] (fun _ => none) 0 0 (x, y) _
      (app_has (v := .slice none 0 0) ((Below.heap_alloc W _ bt hlW).trans t0) (s0.map.keep (Below.heap_alloc W _ _ (by omega))) hg (by simp [Value.ownBlock]) (by simp [Value.ownBlock]) row n1 (by omega) n3 (wf_app (h := []) (fun k hk => absurd hk (by simp))) (by simp)) r1 r2 hx
  have hrow : Own 59 (W.alloc (.cells #[.int .i64 0, .int .i64 0] 59)) W.heap.size (.slice none 0 0) [] := Own.nil _ _ _
  have hlW2 : bt < W.heap.size ∧ w.heap.size < W.heap.size ∧ w.heap.size ≠ bt := by omega
  have HFW := Lib.hid s0.frm
  clear s0 t0 hz HS0 r1 r2 c0 c1 f1
  go_wp2_with (at_builtin; refine wpList_appE (by rfl) (.tmp 39) (.tmp 41) (by rfl) W.heap.size 1 W.heap.size (.slice none 0 0) [] (0, 0) (by rfl) rfl hrow (by rfl) hsrc (by simp) (by simp) ?_)
  intro g cap' w2 hr hg hor
  have hg2 : (W.alloc (.cells #[.int .i64 0, .int .i64 0] 59)).grownBy w2 none := hg
  have hr2 := hr.base (Nat.zero_le _)
  have hgl := hr.lt.1
  have hs := HS.out w2 g cap' hg2 hr2 (by omega) (by omega)
  rw [List.length_singleton] at hs
  have HF : Hid (Frm bt bt bt w (w2.setCell ⟨bt, 0, none⟩ (.slice (some ⟨g, 0, none⟩) 1 cap'))) := ((HFW.out.alloc _).grown (grown_any hg2 bt) (.inl rfl)).setCell (p := ⟨bt, 0, none⟩) (.inl rfl) _
  have e2 : w2.heap[bt]? = W.heap[bt]? := (hg2.block bt (by simp; omega) (by simp)).trans (Below.heap_alloc W _ bt hlW)
  have f2 : w2.frozen? ⟨bt, 0, none⟩ = false := (World.frozen?_of_block (a := ⟨bt, 0, none⟩) e2).trans f0
  have d2 : w2.cell? ⟨bt, 0, none⟩ = some (.slice none 0 0) := (World.cell?_of_block (a := ⟨bt, 0, none⟩) e2).trans d0
  have HG : Hid ((g = bt ∨ w.heap.size ≤ g) ∧ (w.heap.size = bt ∨ w.heap.size ≤ w.heap.size)) := Lib.hid ⟨by omega, by omega⟩
  clear hg hg2 hr hr2 hor hrow hsrc HS hl d0 d1 f0 e2 HFW HZ
  go_wp2_with fail
  refine hs.mono ?_
  intro e w' hd
  obtain ⟨rfl, hd2⟩ := done_of (bm := bt) hd HF.out HG.out.1 HG.out.2
  have HD := Lib.hid hd2
  clear hd hd2 hs
  go_wp2_with fail
  go_end0
  exact ⟨rfl, HD.out⟩

/-- An id is set. -/
theorem set_any (w : World) (bt bh bm : Nat) (m : List E) (o : Lies w bt bh bm m) (hm : m.length ≤ 4000) (x y : Int) (hx : Wf x) :
    Calls Try.prog 10 #[.pointer (some ⟨bt, 0, none⟩), .int .i64 x, .int .i64 y] w fun e w' => e = .returned (.tuple #[]) ∧ Done w bt bh bm (setl m x y) w' := by
  rcases o with ⟨h, rfl, rfl, rfl⟩ | ⟨cap, h, p, N, o, r⟩
  · exact set_zero w _ x y hx h
  · cases hi : p x with
    | none => exact set_new w bt bh bm cap h p N m o r hm x y hx hi
    | some i => exact set_old w bt bh bm cap h p N i m o r x y hx hi
theorem set_nil (w : World) (x y : Int) :
    Calls Try.prog 10 #[.pointer none, .int .i64 x, .int .i64 y] w fun e w' => e = .returned (.tuple #[]) ∧ w = w' := by
  go_enter Try.func10, Try.ntmps10
  go_wp2
  exact bodyPost_ret (v := .tuple #[]) (by simp [results, Try.results10, go_sem]) rfl ⟨rfl, rfl⟩
end Go.Proofs.Ytfhkaedpbandiaa.timer
