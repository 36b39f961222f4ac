/-
  The program's Turn of at most a hundred frames. No condition. Printed by tools/mkreturn.py out of frame's FMove.
-/
import Derived.Test.YtlkcpplpjjbiaaaFMove
import Derived.Test.YtlkcpplpjjbiaaaFRefTurn
namespace Go.Proofs.Ytlkcpplpjjbiaaa.frames
open Go.RowKit Go.ChangeShapes
open Go.Proofs.Ytlkcpplpjjbiaaa.word (low low_any)
set_option linter.unusedVariables false
set_option linter.unusedSimpArgs false

/-- Frames such as the statements speak of: at most a hundred. -/
def GoodN (l : List Fr) : Prop := l.length ≤ 100 ∧ ∀ f ∈ l, GoodF f
theorem set_set_neN {f : Fr} {i j : Nat} (h : i ≠ j) (x y : Int) : (f.set i x).set j y = (f.set j y).set i x := List.set_comm x y h
theorem turnN_is {l : List Fr} (h : GoodN l) (h0 : l.length ≠ 0) {n : Nat} (hn : cnt (topF l) = (n : Int) + 1) (v : Int) : turnF l v = withF l ((topF l).set (11 + n) (low v)) := by
  obtain ⟨g1, g2, g3⟩ := h.2 _ (top_mem h0)
  have hp : popF l 1 = some (withF l (popped (topF l) 1), valsF (topF l) (cnt (topF l) - 1).toNat (1 : Int).toNat) := by
    unfold popF
    rw [if_neg (by rintro (e | e | e | e) <;> omega)]
  have ht : ∀ f, topF (withF l f) = f := fun f => by
    unfold topF
    rw [with_length h0]
    unfold withF
    rw [List.getD_eq_getElem?_getD, List.getElem?_append_right (by rw [List.length_take]; omega), List.length_take, show l.length - 1 - min (l.length - 1) l.length = 0 by omega]
    rfl
  have e1 : (cnt (topF l) - 1).toNat = n := by omega
  have hc : popped (topF l) 1 = ((topF l).set (11 + n) 0).set 2 (n : Int) := by
    unfold popped
    rw [e1, show (1 : Int).toNat = 1 from rfl, show cnt (topF l) - 1 = (n : Int) by omega]
    rfl
  have hcn : cnt (popped (topF l) 1) = (n : Int) := by rw [hc]; exact cnt_here (by rw [List.length_set]; exact g1) _
  have hps : pushed (popped (topF l) 1) v = (topF l).set (11 + n) (low v) := by
    unfold pushed
    rw [hcn, Int.toNat_natCast, hc, set_set_neN (i := 2) (j := 11 + n) (by omega), List.set_set, List.set_set, set_set_neN (i := 11 + n) (j := 2) (by omega)]
    rw [show (topF l).set 2 ((n : Int) + 1) = topF l by rw [← hn]; exact set_num _ (by omega)]
  have hpu : pushF (withF l (popped (topF l) 1)) v = some (withF l ((topF l).set (11 + n) (low v))) := by
    unfold pushF
    rw [ht, if_neg (by rw [with_length h0, hcn]; rintro (e | e | e) <;> omega), hps]
    unfold withF
    rw [show (l.take (l.length - 1) ++ [popped (topF l) 1]).length - 1 = l.length - 1 by rw [List.length_append, List.length_take, List.length_singleton]; omega, List.take_append_of_le_length (by rw [List.length_take]; omega), List.take_take, Nat.min_self]
  unfold turnF
  rw [hp]
  dsimp only
  rw [hpu]
  rfl
theorem turnN_none {l : List Fr} (h : GoodN l) (hn : l.length = 0 ∨ cnt (topF l) = 0) (v : Int) : turnF l v = l := by
  have hp : popF l 1 = none := by
    unfold popF
    rw [if_pos (by omega)]
  unfold turnF
  rw [hp]

set_option maxRecDepth 100000 in
set_option maxHeartbeats 4000000 in
theorem turnN_any (A : Option Addr) (c : Nat) (l : List Fr) (v : Int) (w : World) (hI : In w A c l) (hg : GoodN l) :
    Calls Try.prog 39 #[.slice A l.length c, .int .i64 v] w (FrsPost (turnF l v) w) := by
  unfold FrsPost
  have HC := fun W h => Lib.hid (clone_frs (W := W) hI h)
  by_cases h0 : l.length = 0
  · rw [turnN_none hg (.inl h0)]
    have HLa := Lib.hid (last_none A c w)
    rw [h0] at HC ⊢
    clear h0 hI hg
    go_enter Try.func39, Try.ntmps39
    go_wp2_with fail
    refine HLa.out.mono ?_
    rintro _ w1 ⟨rfl, hb1⟩
    have hL := lf_new hb1 zeroF
    have HL := Lib.hid hL
    have x2 := cell_block hL.block (k := 2) (by omega)
    rw [show num zeroF 2 = 0 from rfl] at x2
    clear hb1 HLa hL
    go_upto_region 2 with (first | refine wl_alloc rfl rfl ?_ | refine wl_store rfl _ _ rfl w1 zeroF _ rfl rfl rfl ?_)
    try simp only [Act.put, List.setIfInBounds_toArray, List.set_cons_zero, List.set_cons_succ]
    generalize hg0 : w1.heap.size = g at *
    generalize w1.alloc (frB zeroF) = W2 at *
    have HC2 := HC W2 HL.out.below
    go_wp2_with fail
    refine HC2.out.mono ?_
    rintro _ w5 ⟨A5, c5, rfl, HI5⟩
    clear HC2
    go_wp2_with fail
    go_ret
    exact ⟨A5, c5, rfl, HI5.out.1, HI5.out.2⟩
  have HLa := Lib.hid (last_any A c l w hI h0 (hg.2 _ (top_mem h0)))
  obtain ⟨g1, g2, g3⟩ := hg.2 _ (top_mem h0)
  by_cases hz : cnt (topF l) = 0
  · rw [turnN_none hg (.inr hz)]
    have hcn : num (topF l) 2 = 0 := hz
    clear hI h0 g1 g2 g3 hz hg
    generalize topF l = f at *
    generalize hL0 : l.length = L at *
    go_enter Try.func39, Try.ntmps39
    go_wp2_with fail
    refine HLa.out.mono ?_
    rintro _ w1 ⟨rfl, hb1⟩
    have hL := lf_new hb1 f
    have HL := Lib.hid hL
    have x2 := cell_block hL.block (k := 2) (by omega)
    rw [hcn] at x2
    clear hb1 HLa hL hcn
    go_upto_region 2 with (first | refine wl_alloc rfl rfl ?_ | refine wl_store rfl _ _ rfl w1 zeroF _ rfl rfl rfl ?_)
    try simp only [Act.put, List.setIfInBounds_toArray, List.set_cons_zero, List.set_cons_succ]
    generalize hg0 : w1.heap.size = g at *
    generalize w1.alloc (frB f) = W2 at *
    have HC2 := HC W2 HL.out.below
    go_wp2_with fail
    refine HC2.out.mono ?_
    rintro _ w5 ⟨A5, c5, rfl, HI5⟩
    clear HC2
    go_wp2_with fail
    go_ret
    exact ⟨A5, c5, rfl, HI5.out.1, HI5.out.2⟩
  · obtain ⟨n, hn⟩ : ∃ n : Nat, cnt (topF l) = (n : Int) + 1 := ⟨(cnt (topF l) - 1).toNat, by omega⟩
    rw [turnN_is hg h0 hn]
    have HWc := fun W h => Lib.hid (changed_frs (W := W) (f := (topF l).set (11 + n) (low v)) hI h0 (by rw [List.length_set]; exact g1) h)
    have hcn : num (topF l) 2 = (n : Int) + 1 := hn
    have n0 : (0 : Int) ≤ (n : Int) := by omega
    have n1 : (n : Int) < 16 := by omega
    have e0 : (((n : Int) + 1) == 0) = false := by simp; omega
    have hw0 : IntKind.i64.wrap ((n : Int) + 1 - 1) = (n : Int) := by rw [IntKind.wrap_i64]; omega
    have hw1 : IntKind.i64.wrap (n : Int) = (n : Int) := by rw [IntKind.wrap_i64]; omega
    have HLo := fun W => Lib.hid (low_any v W)
    have HG1 := Lib.hid g1
    clear hI h0 hn hz g2 g3 HC hg
    generalize topF l = f at *
    generalize hL0 : l.length = L at *
    go_enter Try.func39, Try.ntmps39
    go_wp2_with fail
    refine HLa.out.mono ?_
    rintro _ w1 ⟨rfl, hb1⟩
    have hL := lf_new hb1 f
    have HL := Lib.hid hL
    have x2 := cell_block hL.block (k := 2) (by omega)
    rw [hcn] at x2
    have x11 := cell_block hL.block (k := 11 + n) (by omega)
    have f11 := free_block hL.block (11 + n)
    clear hb1 HLa hL hcn
    go_upto_region 2 with (first | refine wl_alloc rfl rfl ?_ | refine wl_store rfl _ _ rfl w1 zeroF _ rfl rfl rfl ?_)
    try simp only [Act.put, List.setIfInBounds_toArray, List.set_cons_zero, List.set_cons_succ]
    generalize hg0 : w1.heap.size = g at *
    generalize w1.alloc (frB f) = W2 at *
    go_upto_region 4 with fail
    go_cut [5] (fun t wx => t = .pointer (some ⟨g, 0, none⟩) ∧ Hid (Lf w wx g (f.set (11 + n) (low v))))
    case first =>
      go_region_with (go_at_call 48; refine (HLo _).out.mono ?_; rintro _ _ ⟨rfl, rfl⟩)
      all_goals
        go_wp2_with fail
        go_meet
        exact ⟨rfl, Lib.hid (HL.out.drew.set g1 (by omega) _)⟩
    case rest =>
      obtain ⟨rfl, HP5⟩ := hcut
      clear x2 x11 f11
      have HFp : Hid (FCells wc g 0 (f.set (11 + n) (low v))) := Lib.hid (FCells.of_block HP5.out.block)
      have HC5 := HWc wc HP5.out.below
      go_wp2_with (first | refine wl_load rfl _ rfl g 0 rfl (f.set (11 + n) (low v)) HFp.out ?_)
      refine HC5.out.mono ?_
      rintro _ w5 ⟨A5, c5, rfl, HI5⟩
      clear HC5
      go_wp2_with fail
      go_ret
      exact ⟨A5, c5, rfl, HI5.out.1, HI5.out.2⟩
theorem turnN_len {l : List Fr} (h : GoodN l) (v : Int) : (turnF l v).length = l.length := by
  by_cases h0 : l.length = 0
  · rw [turnN_none h (.inl h0)]
  by_cases hz : cnt (topF l) = 0
  · rw [turnN_none h (.inr hz)]
  have h2 := (h.2 _ (top_mem h0)).2.1
  obtain ⟨n, hn⟩ : ∃ n : Nat, cnt (topF l) = (n : Int) + 1 := ⟨(cnt (topF l) - 1).toNat, by omega⟩
  rw [turnN_is h h0 hn, with_length h0]
end Go.Proofs.Ytlkcpplpjjbiaaa.frames
