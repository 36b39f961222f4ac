/-
  The program's New: of each object that is a cell, one row more (typed over the code of 644c691). No condition.
-/
import Derived.Test.YtdmcmgcecdgegaaCeMake
namespace Go.Proofs.Ytdmcmgcecdgegaa.cel
open Go.RowKit Go.ChangeShapes
open Go.Proofs.Ytdmcmgcecdgegaa.objs (De zero DAt cells3)
open Go.Proofs.Ytdmcmgcecdgegaa.gd (Own GAt step_appG)
open Go.Proofs.Ytdmcmgcecdgegaa.word (low low_any)
set_option linter.unusedVariables false
set_option linter.unusedSimpArgs false

/-- The program's cells while they are made. -/
structure Nw (w : World) (v : Value) (l : List De) (W : World) : Prop where
  box : W.heap[w.heap.size]? = some (ceO v)
  row : Own W (w.heap.size + 1) v l
  below : Below w.heap.size w W
theorem Nw.next {w W W' : World} {v : Value} {l : List De} (h : Nw w v l W) (hb : Below W.heap.size W W') : Nw w v l W' :=
  ⟨(hb.block _ (lt_of_block h.box)).trans h.box, h.row.next hb, h.below.trans (hb.mono h.below.size)⟩
theorem Nw.lt {w W : World} {v : Value} {l : List De} (h : Nw w v l W) : w.heap.size + 1 ≤ W.heap.size := lt_of_block h.box
theorem Nw.app {w W W' : World} {v v2 : Value} {l l2 : List De} (h : Nw w v l W) (hg : W.grownBy W' v.ownBlock) (h2 : Own W' (w.heap.size + 1) v2 l2) :
    W'.heap[w.heap.size]? = some (ceO v) ∧ Nw w v2 l2 (W'.setCell ⟨w.heap.size, 0, none⟩ v2) := by
  have hb : W'.heap[w.heap.size]? = some (ceO v) := (hg.block _ (lt_of_block h.box) (fun e => by have := (h.row.lt e.symm).1; omega)).trans h.box
  have hB := pol.below_grown h.below hg (fun j e => by have := (h.row.lt e).1; omega) h.below.size
  refine ⟨hb, ?_, h2.keep fun b e => ?_, hB.setCell (p := ⟨w.heap.size, 0, none⟩) (Nat.le_refl _) _⟩
  · simp [World.setCell, Array.getElem?_modify, hb, ceO]
  · exact Below.heap_setCell W' ⟨w.heap.size, 0, none⟩ _ b (by have := (h2.lt e).1; show b ≠ w.heap.size; omega)
theorem Nw.made {w W : World} {v : Value} {l : List De} (h : Nw w v l W) (hr : Rising l) (hl : l.length ≤ 4096) : Made w l (.returned (.pointer (some ⟨w.heap.size, 0, none⟩))) W :=
  ⟨w.heap.size, v, rfl, ⟨h.box, h.row.base (Nat.zero_le _), hr, hl⟩, h.below, Nat.le_refl _, fun b e => by have := (h.row.lt e).1; omega⟩
set_option maxHeartbeats 4000000 in
theorem new_any (w : World) (A : Option Addr) (cap : Nat) (d : List De) (hA : DAt w A d) (hl : d.length ≤ 4096) :
    Calls Try.prog 7 #[.slice A d.length cap] w (Made w (cellsOf 0 d)) := by
  have HA := Lib.hid hA
  have HE : Hid (∀ v W, Nw w v (upto d d.length) W → Made w (cellsOf 0 d) (.returned (.pointer (some ⟨w.heap.size, 0, none⟩))) W) := Lib.hid fun v W h => by
    rw [upto_all] at h
    exact h.made (cellsOf_rising d 0) (Nat.le_trans (cellsOf_length d 0) hl)
  have H0 : Hid (∃ v, Nw w v (upto d 0) (w.alloc (ceO (.slice none 0 0)))) := Lib.hid ⟨_, heap_alloc_new w _, Own.nil _ _, (Below.refl _ w).alloc (Nat.le_refl _) _⟩
  unfold ceO at H0
  clear hA
  go_enter Try.func7, Try.ntmps7
  go_wp2
  go_loopw [10] (fun i wr => ∃ k : Nat, i = .int .i64 (k : Int) ∧ k ≤ d.length ∧ Hid (∃ v, Nw w v (upto d k) wr)) (fun i _ => d.length - (intOf i).toNat)
  case atStart => exact ⟨0, rfl, Nat.zero_le _, H0⟩
  case round =>
    obtain ⟨k, rfl, hk, HW⟩ := hrel
    clear H0
    by_cases hlt : k < d.length
    · have HK := Lib.hid hlt
      obtain ⟨v, hv⟩ := HW.out
      obtain ⟨A1, c1, rfl⟩ := hv.row.slice
      have HG := Lib.hid (HA.out.next hv.below)
      obtain ⟨b, off, rfl, _, c0, c1', c2⟩ := HG.out k hlt
      obtain ⟨x, y, z, hy⟩ : ∃ x y z, d.getD k zero = (x, y, z) := ⟨_, _, _, rfl⟩
      rw [hy] at c0 c1' c2
      dsimp only at c0 c1' c2
      have hN1 := hv.next ((Below.refl _ wr).alloc (Nat.le_refl _) (.cells #[.int .i64 x, .int .i64 y, .int .i64 z] 38))
      have hcx := heap_alloc_new wr (.cells #[.int .i64 x, .int .i64 y, .int .i64 z] 38)
      clear HG HW
      by_cases h7 : x = 7
      · subst h7
        have HU : Hid (upto d (k + 1) = upto d k ++ [((k : Int), low y, z)]) := Lib.hid (by rw [upto_yes hlt (by rw [hy]), hy])
        have HLn : Hid ((upto d k).length ≤ 4096) := Lib.hid (Nat.le_trans (upto_length d k) (by omega))
        have HLo := Lib.hid (fun W => low_any y W)
        generalize low y = q at *
        clear hy hlt hk hv HA
        go_upto_region 6 with fail
        generalize wr.alloc (.cells #[.int .i64 7, .int .i64 y, .int .i64 z] 38) = W1 at *
        have hbA : Below W1.heap.size W1 (W1.alloc (.cells #[.int .i64 (k : Int), .int .i64 q, .int .i64 z] 47)) := (Below.refl _ _).alloc (Nat.le_refl _) _
        have hN2 := hN1.next hbA
        obtain ⟨x0, x1⟩ := ce_cell hN1.box
        obtain ⟨u0, u1⟩ := ce_cell hN2.box
        obtain ⟨v0, v1, v2, _, _, _⟩ := cells3 hcx
        obtain ⟨y0, y1, y2, _, _, _⟩ := cells3 ((hbA.block _ (lt_of_block hcx)).trans hcx)
        have hown : Own (W1.alloc (.cells #[.int .i64 (k : Int), .int .i64 q, .int .i64 z] 47)) (w.heap.size + 1) (.slice A1 (upto d k).length c1) (upto d k) := hN2.row
        have hone : GAt (W1.alloc (.cells #[.int .i64 (k : Int), .int .i64 q, .int .i64 z] 47)) (some ⟨W1.heap.size, 0, none⟩) [((k : Int), q, z)] := GAt.one (d := ((k : Int), q, z)) (heap_alloc_new W1 _)
        have hbs := hN2.lt
        have Hap : Hid (∀ v2 W9, (W1.alloc (.cells #[.int .i64 (k : Int), .int .i64 q, .int .i64 z] 47)).grownBy W9 (Value.slice A1 (upto d k).length c1).ownBlock → Own W9 (w.heap.size + 1) v2 (upto d k ++ [((k : Int), q, z)]) → W9.heap[w.heap.size]? = some (ceO (.slice A1 (upto d k).length c1)) ∧ Nw w v2 (upto d (k + 1)) (W9.setCell ⟨w.heap.size, 0, none⟩ v2)) := Lib.hid fun v2 W9 hg h2 => by
          rw [HU.out]
          exact hN2.app hg h2
        have HL1 : Hid ((upto d k ++ [((k : Int), q, z)]).length = (upto d k).length + 1) := Lib.hid (by simp)
        clear HU hN1 hN2 hbA hcx
        go_region_law (first
          | (go_simp; go_at_call 19; refine (HLo.out _).mono ?_; rintro e w' ⟨rfl, rfl⟩)
          | (refine step_appG (w := (W1.alloc (.cells #[.int .i64 (k : Int), .int .i64 q, .int .i64 z] 47)).drew) (by rfl) (.tmp 22) (.tmp 30) (by rfl) (w.heap.size + 1) 1 1 (.slice A1 (upto d k).length c1) (some ⟨W1.heap.size, 0, none⟩) (upto d k) [((k : Int), q, z)] (by rfl) hown (by rfl) rfl (fun h => by cases h) hone (by have := HLn.out; simp; omega) hbs ?_; intro v2 W9 hv2 hg2; have hAp := Hap.out v2 W9 ⟨hg2.os, hg2.tape, hg2.output, hg2.size, hg2.block⟩ hv2; obtain ⟨Av, cv, hve⟩ := hv2.slice; rw [HL1.out] at hve; obtain ⟨z0, z1⟩ := ce_cell hAp.1; have HAp := Lib.hid hAp.2; subst hve; clear hAp hv2 hg2)
          | (refine step_appG (w := W1.drew.alloc (.cells #[.int .i64 (k : Int), .int .i64 q, .int .i64 z] 47)) (by rfl) (.tmp 22) (.tmp 30) (by rfl) (w.heap.size + 1) 1 1 (.slice A1 (upto d k).length c1) (some ⟨W1.heap.size, 0, none⟩) (upto d k) [((k : Int), q, z)] (by rfl) hown (by rfl) rfl (fun h => by cases h) hone (by have := HLn.out; simp; omega) hbs ?_; intro v2 W9 hv2 hg2; have hAp := Hap.out v2 W9 ⟨hg2.os, hg2.tape, hg2.output, hg2.size, hg2.block⟩ hv2; obtain ⟨Av, cv, hve⟩ := hv2.slice; rw [HL1.out] at hve; obtain ⟨z0, z1⟩ := ce_cell hAp.1; have HAp := Lib.hid hAp.2; subst hve; clear hAp hv2 hg2))
        all_goals
          have HD : Hid (∃ v, Nw w v (upto d (k + 1)) (W9.setCell ⟨w.heap.size, 0, none⟩ (.slice Av ((upto d k).length + 1) cv))) := Lib.hid ⟨_, HAp.out⟩
          generalize W9.setCell ⟨w.heap.size, 0, none⟩ (.slice Av ((upto d k).length + 1) cv) = W10 at *
          clear HAp Hap hown hone hbs HLo HLn HL1 x0 x1 u0 u1 v0 v1 v2 y0 y1 y2 z0 z1
          go_wp2_with fail
          go_roundw
          case rel => exact ⟨k + 1, by go_num, HK.out, HD⟩
          case measure => have := HK.out; simp [intOf]; omega
      · have HU : Hid (upto d (k + 1) = upto d k) := Lib.hid (upto_no hlt (by rw [hy]; exact h7))
        have hx : (x == 7) = false := by simpa using h7
        have HD : Hid (∃ v, Nw w v (upto d (k + 1)) (wr.alloc (.cells #[.int .i64 x, .int .i64 y, .int .i64 z] 38))) := Lib.hid ⟨_, by rw [HU.out]; exact hN1⟩
        clear hy hlt hk hv HA hN1 hcx h7 HU
        go_wp2_with fail
        go_roundw
        case rel => exact ⟨k + 1, by go_num, HK.out, HD⟩
        case measure => have := HK.out; simp [intOf]; omega
    · obtain rfl : k = d.length := by omega
      obtain ⟨v, hv⟩ := HW.out
      have HD := Lib.hid (HE.out v wr hv)
      clear HW hv HA
      go_wp2_with fail
      go_ret
      exact HD.out
end Go.Proofs.Ytdmcmgcecdgegaa.cel
