/-
  The program's own reading of one object (typed over the code of 392f5a9): for every text of at most two to the forty-seventh bytes. No other condition.
-/
import Derived.Test.YtaefkkhmhogpeaaDoorDGetPlain
import Derived.Test.YtaefkkhmhogpeaaDoorDRefNum
import Derived.Test.YtaefkkhmhogpeaaDoorInText
import Derived.Test.YtaefkkhmhogpeaaDoorDRefOne
namespace Go.Proofs.YtaefkkhmhogpeaaDoor.objs
open Go.RowKit Go.ChangeShapes
open Go.Proofs.YtaefkkhmhogpeaaDoor.octet (St InAt Frm rdByte rdNum rdInt byteIn_any intIn_any rdNum_ok rdNum_left rdByte_ok)
open Go.Proofs.YtaefkkhmhogpeaaDoor.span (pN num_any)
set_option linter.unusedVariables false

theorem pN_ok {s : St} (h : s.ok) : (pN s).2.ok := rdNum_ok h
theorem pN_left (s : St) : (pN s).2.rest.length ≤ s.rest.length := rdNum_left s
theorem rdByte_left (s : St) : (rdByte s).2.rest.length ≤ s.rest.length := by
  unfold rdByte
  split
  · exact Nat.le_refl _
  · split
    · exact Nat.zero_le _
    · rename_i h; rw [h]; simp
theorem pA_ok {k : Nat} {s : St} (h : s.ok) : (pA k s).2.ok := by
  unfold pA
  split
  · exact pN_ok h
  · split
    · exact rdNum_ok h
    · exact h
theorem pA_left (k : Nat) (s : St) : (pA k s).2.rest.length ≤ s.rest.length := by
  unfold pA
  split
  · exact pN_left s
  · split
    · exact rdNum_left s
    · exact Nat.le_refl _
theorem pB_ok {k : Nat} {s : St} (h : s.ok) : (pB k s).2.ok := by
  unfold pB
  split
  · exact pN_ok h
  · exact h
theorem pB_left (k : Nat) (s : St) : (pB k s).2.rest.length ≤ s.rest.length := by
  unfold pB
  split
  · exact pN_left s
  · exact Nat.le_refl _
theorem pD_ok {s : St} (h : s.ok) : (pD s).2.ok := pB_ok (pA_ok (rdByte_ok h))
theorem pD_left (s : St) : (pD s).2.rest.length ≤ s.rest.length := Nat.le_trans (pB_left _ _) (Nat.le_trans (pA_left _ _) (rdByte_left s))

/-- What get tells, and leaves. -/
def OnePost8 (bi : Nat) (q : De × St) (w : World) (e : Ending) (w' : World) : Prop :=
  e = .returned (.agg #[.int .i64 q.1.1, .int .i64 q.1.2.1, .int .i64 q.1.2.2]) ∧ InAt w' bi q.2 ∧ Frm w.heap.size bi w w'

/-- In the midst of reading: where the reader stands, and what was read. -/
structure Gd (w : World) (bi d : Nat) (k a b : Int) (S : St) (W : World) : Prop where
  inn : InAt W bi S
  b0 : W.heap[w.heap.size]? = some (declBox 0 0 0)
  bd : W.heap[d]? = some (declBox k a b)
  frm : Frm w.heap.size bi w W
  lt : bi < w.heap.size
  h1 : w.heap.size < d
theorem Gd.next {w W W' : World} {bi d : Nat} {k a b : Int} {S S' : St} (h : Gd w bi d k a b S W) (hi : InAt W' bi S') (hf : Frm W.heap.size bi W W') : Gd w bi d k a b S' W' := by
  have e1 := h.lt
  have e2 := h.h1
  have e3 := lt_of_block h.bd
  exact ⟨hi, (hf.block _ (by omega) (by omega)).trans h.b0, (hf.block _ e3 (by omega)).trans h.bd, h.frm.trans (hf.mono h.frm.size), e1, e2⟩
theorem Gd.setA {w W : World} {bi d : Nat} {k a b : Int} {S : St} (h : Gd w bi d k a b S W) (n : Int) : Gd w bi d k n b S (W.setCell ⟨d, 1, none⟩ (.int .i64 n)) := by
  have e1 := h.lt
  have e2 := h.h1
  have hx : ∀ i, i ≠ d → (W.setCell ⟨d, 1, none⟩ (.int .i64 n)).heap[i]? = W.heap[i]? := fun i hi => Below.heap_setCell W ⟨d, 1, none⟩ _ i hi
  refine ⟨(hx bi (by omega)).trans h.inn, (hx _ (by omega)).trans h.b0, ?_, h.frm.setCell (p := ⟨d, 1, none⟩) (.inr (by show w.heap.size ≤ d; omega)) _, e1, e2⟩
  have := h.bd
  unfold declBox at this ⊢
  simp [World.setCell, Array.getElem?_modify, this]
theorem Gd.setB {w W : World} {bi d : Nat} {k a b : Int} {S : St} (h : Gd w bi d k a b S W) (n : Int) : Gd w bi d k a n S (W.setCell ⟨d, 2, none⟩ (.int .i64 n)) := by
  have e1 := h.lt
  have e2 := h.h1
  have hx : ∀ i, i ≠ d → (W.setCell ⟨d, 2, none⟩ (.int .i64 n)).heap[i]? = W.heap[i]? := fun i hi => Below.heap_setCell W ⟨d, 2, none⟩ _ i hi
  refine ⟨(hx bi (by omega)).trans h.inn, (hx _ (by omega)).trans h.b0, ?_, h.frm.setCell (p := ⟨d, 2, none⟩) (.inr (by show w.heap.size ≤ d; omega)) _, e1, e2⟩
  have := h.bd
  unfold declBox at this ⊢
  simp [World.setCell, Array.getElem?_modify, this]
theorem Gd.cells {w W : World} {bi d : Nat} {k a b : Int} {S : St} (h : Gd w bi d k a b S W) :
    (W.cell? ⟨d, 0, none⟩ = some (.int .i64 k) ∧ W.cell? ⟨d, 1, none⟩ = some (.int .i64 a) ∧ W.cell? ⟨d, 2, none⟩ = some (.int .i64 b)) ∧ (W.frozen? ⟨d, 1, none⟩ = false ∧ W.frozen? ⟨d, 2, none⟩ = false) ∧
    (W.cell? ⟨w.heap.size, 0, none⟩ = some (.int .i64 0) ∧ W.cell? ⟨w.heap.size, 1, none⟩ = some (.int .i64 0) ∧ W.cell? ⟨w.heap.size, 2, none⟩ = some (.int .i64 0)) ∧
    (W.frozen? ⟨w.heap.size, 0, none⟩ = false ∧ W.frozen? ⟨w.heap.size, 1, none⟩ = false ∧ W.frozen? ⟨w.heap.size, 2, none⟩ = false) := by
  have h1 := h.bd
  have h2 := h.b0
  unfold declBox at h1 h2
  obtain ⟨x0, x1, x2, _, y1, y2⟩ := cells3 h1
  obtain ⟨v0, v1, v2, z0, z1, z2⟩ := cells3 h2
  exact ⟨⟨x0, x1, x2⟩, ⟨y1, y2⟩, ⟨v0, v1, v2⟩, z0, z1, z2⟩
theorem gd_new {w w2 : World} {bi : Nat} {k : Int} {S : St} (hi : InAt w2 bi S) (hf : Frm (w.alloc (declBox 0 0 0)).heap.size bi (w.alloc (declBox 0 0 0)) w2) (hlt : bi < w.heap.size) : Gd w bi w2.heap.size k 0 0 S (w2.alloc (declBox k 0 0)) := by
  have hz : (w.alloc (declBox 0 0 0)).heap.size = w.heap.size + 1 := World.size_alloc w _
  have hb0 : Below w.heap.size w (w.alloc (declBox 0 0 0)) := (Below.refl _ w).alloc (Nat.le_refl _) _
  have hb : Below w2.heap.size w2 (w2.alloc (declBox k 0 0)) := (Below.refl _ w2).alloc (Nat.le_refl _) _
  have hs := hf.size
  have h0 : w2.heap[w.heap.size]? = some (declBox 0 0 0) := (hf.block _ (by omega) (by omega)).trans (heap_alloc_new w _)
  have hfr : Frm w.heap.size bi w w2 := (Frm.of_below hb0).trans (hf.mono (by omega))
  exact ⟨hi.kept (hb.block _ hi.lt), (hb.block _ (by omega)).trans h0, heap_alloc_new w2 _, hfr.trans (Frm.of_below (hb.mono (by omega))), hlt, by omega⟩

theorem getD_ret {w W : World} {bi d : Nat} {k a b : Int} {S : St} {act : Act} {q : De × St} (hq : q = ((k, a, b), S)) (h2 : act.tmps[2]?.getD undef = .pointer (some ⟨w.heap.size, 0, none⟩)) (hd : act.defers = [])
    (h : Gd w bi d k a b S W) : bodyPost Tryd.prog Tryd.f70 (OnePost8 bi q w) .ret act (put3 W w.heap.size (.int .i64 k) (.int .i64 a) (.int .i64 b)) := by
  subst hq
  have h0 := h.b0
  unfold declBox at h0
  have e1 := h.lt
  obtain ⟨x0, x1, x2, _, _, _⟩ := cells3 (put3_same h0 (.int .i64 k) (.int .i64 a) (.int .i64 b))
  refine bodyPost_ret (v := .agg #[.int .i64 k, .int .i64 a, .int .i64 b]) ?_ hd ⟨rfl, h.inn.kept (put3_far (by omega) _ _ _), ((h.frm.setCell (p := ⟨w.heap.size, 0, none⟩) (.inr (Nat.le_refl _)) _).setCell (p := ⟨w.heap.size, 1, none⟩) (.inr (Nat.le_refl _)) _).setCell (p := ⟨w.heap.size, 2, none⟩) (.inr (Nat.le_refl _)) _⟩
  simp [results, Tryd.results70, go_sem, h2, x0, x1, x2]

set_option maxRecDepth 100000 in
set_option maxHeartbeats 4000000 in
theorem getD_any (w : World) (bi : Nat) (s : St) (hi : InAt w bi s) (hok : s.ok) (hl : s.rest.length ≤ 140737488355328) :
    Calls Tryd.prog 70 #[.pointer (some ⟨bi, 0, none⟩)] w (OnePost8 bi (pD s) w) := by
  have hlt := hi.lt
  have hb1 : Below w.heap.size w (w.alloc (declBox 0 0 0)) := (Below.refl _ w).alloc (Nat.le_refl _) _
  have HB := Lib.hid (byteIn_any _ bi s (hi.kept (hb1.block bi hlt)) hok hl)
  obtain ⟨q, hq⟩ : ∃ q, q = pD s := ⟨_, rfl⟩
  have HQ : Hid (q = ((((rdByte s).1 : Int), (pA (rdByte s).1 (rdByte s).2).1, (pB (rdByte s).1 (pA (rdByte s).1 (rdByte s).2).2).1), (pB (rdByte s).1 (pA (rdByte s).1 (rdByte s).2).2).2)) := Lib.hid hq
  rw [← hq]
  clear hq hb1 hi
  have hok1 := rdByte_ok hok
  have hl1 : (rdByte s).2.rest.length ≤ 140737488355328 := Nat.le_trans (rdByte_left s) hl
  generalize rdByte s = p at *
  obtain ⟨k, S⟩ := p
  dsimp only at HB HQ hok1 hl1
  have hok2 := pA_ok (k := k) hok1
  have hl2 : (pA k S).2.rest.length ≤ 140737488355328 := Nat.le_trans (pA_left k S) hl1
  go_enter Tryd.func70, Tryd.ntmps70
  unfold declBox at HB
  go_wp2_with fail
  refine HB.out.mono ?_
  rintro e w2 ⟨rfl, hi2, hf2⟩
  have HG := Lib.hid (gd_new (k := (k : Int)) hi2 hf2 hlt)
  clear hi2 hf2 HB
  unfold declBox at HG
  go_upto_region 2 with fail
  generalize w2.alloc (.cells #[.int .i64 (k : Int), .int .i64 0, .int .i64 0] 80) = W2 at *
  generalize w2.heap.size = d at *
  obtain ⟨⟨c0, c1, c2⟩, ⟨g1, g2⟩, ⟨e0, e1, e2⟩, f0, f1, f2⟩ := HG.out.cells
  by_cases e3 : k = 3
  · have d3 : ((k : Int) == 3) = true := by simp; omega
    have HA1 : Hid (pA k S = pN S) := Lib.hid (by unfold pA; rw [if_pos (.inl e3)])
    have HB1 : Hid (pB k (pN S).2 = pN (pN S).2) := Lib.hid (by unfold pB; rw [if_pos (.inl e3)])
    rw [HA1.out] at HQ hok2 hl2
    rw [HB1.out] at HQ
    have HN1 := fun W hW => Lib.hid (num_any W bi S hW hok1 hl1)
    have HN2 := fun W hW => Lib.hid (num_any W bi _ hW hok2 hl2)
    clear e3 HA1 HB1 hok2 hl2 hok1 hl1
    generalize pN S = n1 at *
    obtain ⟨x, S1⟩ := n1
    dsimp only at HN1 HN2 HQ
    generalize pN S1 = n2 at *
    obtain ⟨y, S2⟩ := n2
    dsimp only at HN2 HQ
    go_wp2_with fail
    refine (HN1 _ HG.out.inn).out.mono ?_
    rintro e w3 ⟨rfl, hi3, hf3⟩
    have HG3 := Lib.hid (HG.out.next hi3 hf3)
    clear c0 c1 c2 g1 g2 e0 e1 e2 f0 f1 f2 hi3 hf3 HG HN1
    obtain ⟨⟨c0, c1, c2⟩, ⟨g1, g2⟩, ⟨e0, e1, e2⟩, f0, f1, f2⟩ := HG3.out.cells
    go_upto_region 5 with fail
    have HG4 := Lib.hid (HG3.out.setA x)
    clear c0 c1 c2 g1 g2 e0 e1 e2 f0 f1 f2 HG3
    generalize w3.setCell ⟨d, 1, none⟩ (.int .i64 x) = W4 at *
    go_wp2_with fail
    refine (HN2 _ HG4.out.inn).out.mono ?_
    rintro e w5 ⟨rfl, hi5, hf5⟩
    have HG5 := Lib.hid (HG4.out.next hi5 hf5)
    clear hi5 hf5 HG4 HN2
    obtain ⟨⟨c0, c1, c2⟩, ⟨g1, g2⟩, ⟨e0, e1, e2⟩, f0, f1, f2⟩ := HG5.out.cells
    go_upto_region 11 with fail
    have HG6 := Lib.hid (HG5.out.setB y)
    clear c0 c1 c2 g1 g2 e0 e1 e2 f0 f1 f2 HG5
    generalize w5.setCell ⟨d, 2, none⟩ (.int .i64 y) = W6 at *
    obtain ⟨⟨c0, c1, c2⟩, ⟨g1, g2⟩, ⟨e0, e1, e2⟩, f0, f1, f2⟩ := HG6.out.cells
    go_wp2_with fail
    exact getD_ret HQ.out (by rfl) rfl HG6.out
  · have d3 : ((k : Int) == 3) = false := by simp; omega
    by_cases e6 : k = 6
    · have d6 : ((k : Int) == 6) = true := by simp; omega
      have HA1 : Hid (pA k S = pN S) := Lib.hid (by unfold pA; rw [if_pos (.inr e6)])
      have HB1 : Hid (pB k (pN S).2 = (0, (pN S).2)) := Lib.hid (by unfold pB; rw [if_neg (by omega)])
      rw [HA1.out] at HQ hok2 hl2
      rw [HB1.out] at HQ
      have HN1 := fun W hW => Lib.hid (num_any W bi S hW hok1 hl1)
      clear e3 e6 HA1 HB1 hok2 hl2 hok1 hl1
      generalize pN S = n1 at *
      obtain ⟨x, S1⟩ := n1
      dsimp only at HN1 HQ
      go_wp2_with fail
      refine (HN1 _ HG.out.inn).out.mono ?_
      rintro e w3 ⟨rfl, hi3, hf3⟩
      have HG3 := Lib.hid (HG.out.next hi3 hf3)
      clear c0 c1 c2 g1 g2 e0 e1 e2 f0 f1 f2 hi3 hf3 HG HN1
      obtain ⟨⟨c0, c1, c2⟩, ⟨g1, g2⟩, ⟨e0, e1, e2⟩, f0, f1, f2⟩ := HG3.out.cells
      go_upto_region 11 with fail
      have HG4 := Lib.hid (HG3.out.setA x)
      clear c0 c1 c2 g1 g2 e0 e1 e2 f0 f1 f2 HG3
      generalize w3.setCell ⟨d, 1, none⟩ (.int .i64 x) = W4 at *
      obtain ⟨⟨c0, c1, c2⟩, ⟨g1, g2⟩, ⟨e0, e1, e2⟩, f0, f1, f2⟩ := HG4.out.cells
      go_wp2_with fail
      exact getD_ret HQ.out (by rfl) rfl HG4.out
    · have d6 : ((k : Int) == 6) = false := by simp; omega
      by_cases e7 : k = 7
      · have d7 : ((k : Int) == 7) = true := by simp; omega
        have HA1 : Hid (pA k S = rdInt S) := Lib.hid (by unfold pA; rw [if_neg (by omega), if_pos e7])
        have HB1 : Hid (pB k (rdInt S).2 = pN (rdInt S).2) := Lib.hid (by unfold pB; rw [if_pos (.inr e7)])
        rw [HA1.out] at HQ hok2 hl2
        rw [HB1.out] at HQ
        have HN1 := fun W hW => Lib.hid (intIn_any W bi S hW hok1 hl1)
        have HN2 := fun W hW => Lib.hid (num_any W bi _ hW hok2 hl2)
        clear e3 e6 e7 HA1 HB1 hok2 hl2 hok1 hl1
        generalize rdInt S = n1 at *
        obtain ⟨x, S1⟩ := n1
        dsimp only at HN1 HN2 HQ
        generalize pN S1 = n2 at *
        obtain ⟨y, S2⟩ := n2
        dsimp only at HN2 HQ
        go_wp2_with fail
        refine (HN1 _ HG.out.inn).out.mono ?_
        rintro e w3 ⟨rfl, hi3, hf3⟩
        have HG3 := Lib.hid (HG.out.next hi3 hf3)
        clear c0 c1 c2 g1 g2 e0 e1 e2 f0 f1 f2 hi3 hf3 HG HN1
        obtain ⟨⟨c0, c1, c2⟩, ⟨g1, g2⟩, ⟨e0, e1, e2⟩, f0, f1, f2⟩ := HG3.out.cells
        go_upto_region 10 with fail
        have HG4 := Lib.hid (HG3.out.setA x)
        clear c0 c1 c2 g1 g2 e0 e1 e2 f0 f1 f2 HG3
        generalize w3.setCell ⟨d, 1, none⟩ (.int .i64 x) = W4 at *
        go_wp2_with fail
        refine (HN2 _ HG4.out.inn).out.mono ?_
        rintro e w5 ⟨rfl, hi5, hf5⟩
        have HG5 := Lib.hid (HG4.out.next hi5 hf5)
        clear hi5 hf5 HG4 HN2
        obtain ⟨⟨c0, c1, c2⟩, ⟨g1, g2⟩, ⟨e0, e1, e2⟩, f0, f1, f2⟩ := HG5.out.cells
        go_upto_region 11 with fail
        have HG6 := Lib.hid (HG5.out.setB y)
        clear c0 c1 c2 g1 g2 e0 e1 e2 f0 f1 f2 HG5
        generalize w5.setCell ⟨d, 2, none⟩ (.int .i64 y) = W6 at *
        obtain ⟨⟨c0, c1, c2⟩, ⟨g1, g2⟩, ⟨e0, e1, e2⟩, f0, f1, f2⟩ := HG6.out.cells
        go_wp2_with fail
        exact getD_ret HQ.out (by rfl) rfl HG6.out
      · have d7 : ((k : Int) == 7) = false := by simp; omega
        have HA1 : Hid (pA k S = (0, S)) := Lib.hid (by unfold pA; rw [if_neg (by omega), if_neg e7])
        have HB1 : Hid (pB k S = (0, S)) := Lib.hid (by unfold pB; rw [if_neg (by omega)])
        rw [HA1.out] at HQ
        dsimp only at HQ
        rw [HB1.out] at HQ
        clear e3 e6 e7 HA1 HB1 hok2 hl2 hok1 hl1
        dsimp only at HQ
        go_wp2_with fail
        exact getD_ret HQ.out (by rfl) rfl HG.out
end Go.Proofs.YtaefkkhmhogpeaaDoor.objs
