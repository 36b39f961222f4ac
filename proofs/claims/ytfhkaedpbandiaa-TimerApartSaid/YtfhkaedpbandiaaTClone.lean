/-
  A clone: one that has the same, in blocks of its own. No condition.
-/
import Derived.Test.YtfhkaedpbandiaaTDue
import Derived.Shelf.SlMaps.Clone
import Derived.Lib.SliceRun
import Derived.Maps.AppendAt
namespace Go.Proofs.Ytfhkaedpbandiaa.timer
open Go.RowKit
attribute [local go_sem ↓] Go.wp_at_zero Go.wp_at_succ

theorem eql_slice (a : Option Addr) (n c : Nat) (w : World) : (binOp .eql 24 (.slice a n c) (.slice none 0 0)).run Try.prog w = .ok (.bool a.isNone) w := Lib.run_eql_slice_nil w 24 _ a n c 0 0 Try.underlying24

theorem mapsClone_any (w : World) (bm N : Nat) (p : Int → Option Nat) (h : MapAt w bm N p) :
    Calls Try.prog 25 #[.map (some bm)] w fun e w' => e = .returned (.map (some w.heap.size)) ∧ MapAt w' w.heap.size N p ∧ Below w.heap.size w w' := by
  obtain ⟨D, ⟨es, clock, hb, F, hs, hD⟩, hr⟩ := h
  have hm : MapAt (w.alloc (.map es clock)) w.heap.size N p := ⟨D, ⟨es, clock, (MapKept.heap_alloc w _).1, F, hs, hD⟩, hr⟩
  have HM := Lib.hid hm
  have HB := Lib.hid ((Below.refl w.heap.size w).alloc (Nat.le_refl _) (.map es clock))
  have hq := eql_map (some bm)
  clear hm F hs hD hr
  go_enter Try.func25, Try.ntmps25
  go_wp2
  rw [run_callFunc_extern Try.func31 (by kernel_rfl) (by kernel_rfl) (by kernel_rfl) (e := Extern.MapsClone.clone) (by kernel_rfl), run_maps_clone_sl w 25 hb]
  simp only [Result.andThen]
  rw [Oper.upon_value]
  go_wp2
  rw [run_typeAssert_map_sl _ 25 20 _ _ _ Try.underlying25]
  simp only [Result.andThen]
  rw [Oper.upon_value]
  go_wp2
  go_ret
  exact ⟨rfl, HM.out, HB.out⟩
theorem mapsClone_nil (w : World) :
    Calls Try.prog 25 #[.map none] w fun e w' => e = .returned (.map none) ∧ w = w' := by
  have hq := eql_map none
  go_enter Try.func25, Try.ntmps25
  go_wp2
  go_ret
  exact ⟨rfl, rfl⟩

theorem sliceClone_nil (w : World) :
    Calls Try.prog 24 #[.slice none 0 0] w fun e w' => e = .returned (.slice none 0 0) ∧ w = w' := by
  have hq := eql_slice none 0 0
  go_enter Try.func24, Try.ntmps24
  go_wp2
  go_ret
  exact ⟨rfl, rfl⟩
theorem sliceClone_any (w : World) (bh cap : Nat) (h : List E) (hr : Row 59 w 0 bh cap h) (hl : h.length ≤ 4096) :
    Calls Try.prog 24 #[.slice (some ⟨bh, 0, none⟩) h.length cap] w fun e w' => ∃ g cap', e = .returned (.slice (some ⟨g, 0, none⟩) h.length cap') ∧ Row 59 w' w.heap.size g cap' h ∧ Below w.heap.size w w' := by
  have hq := eql_slice (some ⟨bh, 0, none⟩) h.length cap
  have hlt := hr.lt
  obtain ⟨i, hi, hz0, hz1, hz2⟩ := info_parts infoE
  have hW : Row 59 (w.alloc (.cells #[] 59)) 0 bh cap h := hr.keep (Below.heap_alloc _ _ _ hlt.2)
  have hN : Row 59 (w.alloc (.cells #[] 59)) w.heap.size w.heap.size 0 [] := Row.nil (heap_alloc_new w _)
  have hc : ∀ (j : Nat) (u : Value), (flat h)[j]? = some u → (w.alloc (.cells #[] 59)).cell? ((⟨bh, 0, none⟩ : Addr).add j) = some u := fun j u hu => World.ownsRow.cells hW (g := bh) rfl j u hu
  have hB := (Below.refl w.heap.size w).alloc (Nat.le_refl _) (.cells #[] 59)
  have HB := Lib.hid hB
  have HL := Lib.hid hl
  clear hr hB hW
  go_enter Try.func24, Try.ntmps24
  go_wp2_with (at_builtin; refine wpList_append_own_at _ (by rfl) (.tmp 5) (.tmp 6) 24 (by rfl) w.heap.size 59 i _ 2 16 Try.underlying24 hi hz0 hz1 hz2 rfl (by omega) (.slice (some ⟨w.heap.size, 0, none⟩) 0 0) 0 [] (by rfl) hN ⟨bh, 0, none⟩ h.length cap (flat h) (by rfl) (flat_length h) hc (flat_oneCell h) (by unfold maxLen; omega) (by omega) (by simp) ?_)
  intro v' w' h1 h2 h3 _
  have HB2 : Hid (Below w.heap.size w w') := HB.out.grown h2 (by simp) (fun k e => by simp [Value.ownBlock] at e; omega)
  have hv : ∃ g cap', v' = .slice (some ⟨g, 0, none⟩) h.length cap' := by
    rcases h1.2 with ⟨rfl, _⟩ | ⟨g, c, _, rfl, _⟩
    · exact absurd rfl h3
    · exact ⟨g, c, rfl⟩
  obtain ⟨g, cap', rfl⟩ := hv
  have HR : Hid (Row 59 w' w.heap.size g cap' h) := h1
  clear h1 h2 h3 hN hc
  go_wp2
  go_ret
  exact ⟨g, cap', rfl, HR.out, HB2.out⟩

/-- Behind a clone: one of its own, beside the other. -/
def Cloned (w : World) (m : List E) (e : Ending) (w' : World) : Prop :=
  ∃ kt kh km, e = .returned (.pointer (some ⟨kt, 0, none⟩)) ∧ Lies w' kt kh km m ∧ Below w.heap.size w w' ∧ w.heap.size ≤ kt ∧ w.heap.size ≤ kh ∧ w.heap.size ≤ km

theorem clone_nil (w : World) :
    Calls Try.prog 16 #[.pointer none] w fun e w' => e = .returned (.pointer none) ∧ w = w' := by
  go_enter Try.func16, Try.ntmps16
  go_wp2
  go_ret
  exact ⟨rfl, rfl⟩

set_option maxHeartbeats 400000 in
theorem clone_zero (w : World) (bt : Nat) (h : w.heap[bt]? = some (.cells #[.slice none 0 0, .map none] 27 (0, 0))) :
    Calls Try.prog 16 #[.pointer (some ⟨bt, 0, none⟩)] w (Cloned w []) := by
  have c0 : w.cell? ⟨bt, 0, none⟩ = some (.slice none 0 0) := by simp [World.cell?, h]
  have c1 : w.cell? ⟨bt, 1, none⟩ = some (.map none) := by simp [World.cell?, h]
  clear h
  go_enter Try.func16, Try.ntmps16
  go_wp2_with fail
  go_region_held3 (fun w' => w'.cell? ⟨bt, 0, none⟩ = some (.slice none 0 0) ∧ w'.cell? ⟨bt, 1, none⟩ = some (.map none)) (go_keep)
    (first
      | (go_at_call 24; refine (sliceClone_nil _).mono ?_; rintro e w' ⟨rfl, rfl⟩)
      | (go_at_call 25; refine (mapsClone_nil _).mono ?_; rintro e w' ⟨rfl, rfl⟩))
  have h1 := heap_alloc_new w (.cells #[.slice none 0 0, .map none] 27)
  have HC : Hid (Cloned w [] (.returned (.pointer (some ⟨w.heap.size, 0, none⟩))) (w.alloc (.cells #[.slice none 0 0, .map none] 27)).drew) :=
    ⟨w.heap.size, w.heap.size, w.heap.size, rfl, .inl ⟨h1, rfl, rfl, rfl⟩, ((Below.refl _ _).alloc (Nat.le_refl _) _).drew, Nat.le_refl _, Nat.le_refl _, Nat.le_refl _⟩
  clear c0 c1 h1
  go_wp2
  go_ret
  exact HC.out

set_option maxHeartbeats 400000 in
theorem clone_has (w : World) (bt bh bm cap : Nat) (h : List E) (p : Int → Option Nat) (N : Nat) (m : List E) (o : Has w bt bh bm cap h p N) (r : Good h p N m) :
    Calls Try.prog 16 #[.pointer (some ⟨bt, 0, none⟩)] w (Cloned w m) := by
  obtain ⟨c0, c1, _, _⟩ := o.cells
  have hlt := o.lt
  have hs24 : ∀ W : World, W.heap = w.heap → Calls Try.prog 24 #[.slice (some ⟨bh, 0, none⟩) h.length cap] W fun e w' =>
      ∃ g cap', e = .returned (.slice (some ⟨g, 0, none⟩) h.length cap') ∧ w'.cell? ⟨bt, 0, none⟩ = some (.slice (some ⟨bh, 0, none⟩) h.length cap) ∧ w'.cell? ⟨bt, 1, none⟩ = some (.map (some bm)) ∧ w'.heap[bm]? = w.heap[bm]? ∧ Hid (Row 59 w' W.heap.size g cap' h ∧ Below W.heap.size W w') := by
    intro W hW
    refine (sliceClone_any W bh cap h (o.row.keep (by rw [hW])) o.len).mono ?_
    rintro e w' ⟨g, cap', rfl, h1, h2⟩
    have e1 : w'.heap[bt]? = w.heap[bt]? := by rw [h2.block bt (by rw [hW]; exact hlt.1), hW]
    refine ⟨g, cap', rfl, (World.cell?_of_block (a := ⟨bt, 0, none⟩) e1).trans c0, (World.cell?_of_block (a := ⟨bt, 1, none⟩) e1).trans c1, ?_, h1, h2⟩
    rw [h2.block bm (by rw [hW]; exact hlt.2.2), hW]
  have hs25 : ∀ W : World, W.heap[bm]? = w.heap[bm]? → W.cell? ⟨bt, 0, none⟩ = some (.slice (some ⟨bh, 0, none⟩) h.length cap) → W.cell? ⟨bt, 1, none⟩ = some (.map (some bm)) → Calls Try.prog 25 #[.map (some bm)] W fun e w' =>
      e = .returned (.map (some W.heap.size)) ∧ w'.cell? ⟨bt, 0, none⟩ = some (.slice (some ⟨bh, 0, none⟩) h.length cap) ∧ w'.cell? ⟨bt, 1, none⟩ = some (.map (some bm)) ∧ Hid (MapAt w' W.heap.size N p ∧ Below W.heap.size W w') := by
    intro W hW k0 k1
    have hl := World.block_lt_of_cell? W _ k0
    exact (mapsClone_any W bm N p (o.map.keep hW)).mono fun e w' ⟨h1, h2, h3⟩ => ⟨h1, (World.cell?_of_block (a := ⟨bt, 0, none⟩) (h3.block bt hl)).trans k0, (World.cell?_of_block (a := ⟨bt, 1, none⟩) (h3.block bt hl)).trans k1, h2, h3⟩
  have HO := Lib.hid o
  have HR := Lib.hid r
  clear o r
  go_enter Try.func16, Try.ntmps16
  go_wp2_with fail
  go_region_held3 (fun w' => w'.cell? ⟨bt, 0, none⟩ = some (.slice (some ⟨bh, 0, none⟩) h.length cap) ∧ w'.cell? ⟨bt, 1, none⟩ = some (.map (some bm))) (go_keep)
    (first
      | (go_at_call 24; refine (hs24 _ ?_).mono ?_; (rfl); rintro e w1 ⟨g1, cap1, rfl, d0, d1, d2, HH⟩)
      | (go_at_call 25; refine (hs25 _ ?_ ?_ ?_).mono ?_; (exact d2); (exact d0); (exact d1); rintro e w2 ⟨rfl, k0, k1, HK⟩))
  have hr1 : Row 59 w1 w.heap.size g1 cap1 h := HH.out.1
  have hb1 : Below w.heap.size w.drew w1 := HH.out.2
  have hm2 := HK.out.1
  have hb2 := HK.out.2
  have l1 := hr1.lt
  have l2 := hm2.lt
  have l3 := hb1.size
  have hnew := heap_alloc_new w2 (.cells #[.slice (some ⟨g1, 0, none⟩) h.length cap1, .map (some w1.heap.size)] 27)
  have HC : Hid (Cloned w m (.returned (.pointer (some ⟨w2.heap.size, 0, none⟩))) (w2.alloc (.cells #[.slice (some ⟨g1, 0, none⟩) h.length cap1, .map (some w1.heap.size)] 27))) := by
    refine ⟨w2.heap.size, g1, w1.heap.size, rfl, .inr ⟨cap1, h, p, N, ⟨hnew, ?_, hm2.keep (Below.heap_alloc _ _ _ l2), by omega, by omega, by omega, HO.out.wf, HO.out.len⟩, HR.out⟩, ?_, ?_, l1.1, ?_⟩
    · exact ((hr1.keep (hb2.block _ l1.2)).keep (Below.heap_alloc _ _ _ (by omega))).base (Nat.zero_le _)
    · have hw : Below w.heap.size w w1 := ⟨hb1.os, hb1.tape, hb1.output, hb1.size, hb1.block⟩
      exact (hw.trans (hb2.mono hb1.size)).alloc (Nat.le_trans hb1.size hb2.size) _
    · exact Nat.le_trans hb1.size hb2.size
    · exact hb1.size
  clear hs24 hs25 hr1 hb1 hm2 hb2 hnew l1 l2 l3 c0 c1 d0 d1 d2 k0 k1 HH HK HO HR
  go_wp2
  go_ret
  exact HC.out

theorem clone_any (w : World) (bt bh bm : Nat) (m : List E) (o : Lies w bt bh bm m) :
    Calls Try.prog 16 #[.pointer (some ⟨bt, 0, none⟩)] w (Cloned w m) := by
  rcases o with ⟨h, rfl, _⟩ | ⟨cap, h, p, N, o, r⟩
  · exact clone_zero w bt h
  · exact clone_has w bt bh bm cap h p N m o r
end Go.Proofs.Ytfhkaedpbandiaa.timer
