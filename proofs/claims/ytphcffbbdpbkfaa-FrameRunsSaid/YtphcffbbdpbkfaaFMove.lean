/-
  The program's own frames at another place, with another local, and with another top value. At most a thousand frames, each of twenty-seven numbers.
-/
import Derived.Test.YtphcffbbdpbkfaaFPush
import Derived.Test.YtphcffbbdpbkfaaWithin
namespace Go.Proofs.Ytphcffbbdpbkfaa.frames
open Go.RowKit Go.ChangeShapes
open Go.Proofs.Ytphcffbbdpbkfaa.word (low low_any)
open Go.Proofs.Ytphcffbbdpbkfaa.within (within_any)
set_option linter.unusedVariables false
set_option linter.unusedSimpArgs false

theorem len0 {l : List Fr} (h : l.length = 0) : l = [] := List.eq_nil_of_length_eq_zero h
set_option maxRecDepth 100000 in
theorem isLocal_any (k : Int) (w : World) : Calls Try.prog 24 #[.int .i64 k] w fun e w' => e = .returned (.bool (decide (0 ≤ k ∧ k ≤ 7))) ∧ w = w' := by
  have HW := Lib.hid (within_any k 0 7 w)
  obtain ⟨b, hb⟩ : ∃ b, b = decide (0 ≤ k ∧ k ≤ 7) := ⟨_, rfl⟩
  rw [← hb] at HW ⊢
  clear hb
  go_enter Try.func24, Try.ntmps24
  go_wp2_with fail
  refine HW.out.mono ?_
  rintro _ _ ⟨rfl, rfl⟩
  go_wp2
  go_ret
  exact ⟨rfl, rfl⟩

set_option maxRecDepth 100000 in
set_option maxHeartbeats 4000000 in
theorem go_any (A : Option Addr) (c : Nat) (l : List Fr) (v : Int) (w : World) (hI : In w A c l) (hg : Good l) :
    Calls Try.prog 12 #[.slice A l.length c, .int .i64 v] w (FrsPost (goF l v) w) := by
  obtain ⟨r, hr⟩ : ∃ r, r = goF l v := ⟨_, rfl⟩
  rw [← hr]
  unfold goF at hr
  have HI := Lib.hid hI
  unfold FrsPost
  by_cases h0 : l.length = 0
  · rw [if_pos h0] at hr
    rw [hr]
    have HLa := Lib.hid (last_none A c w)
    have HC := fun W h => Lib.hid (clone_any A c l W (hI.next h))
    rw [h0] at HC ⊢
    have HL0 := Lib.hid (len0 h0)
    clear h0 hI hr
    go_enter Try.func12, Try.ntmps12
    go_wp2_with fail
    refine HLa.out.mono ?_
    rintro _ w1 ⟨rfl, hb1⟩
    have HL := Lib.hid (lf_new hb1 zeroF)
    clear hb1 HLa
    go_upto_region 2 with (first | refine wl_alloc rfl rfl ?_ | refine wl_store rfl _ _ rfl w1 zeroF _ rfl rfl rfl ?_)
    try simp only [Act.put, List.setIfInBounds_toArray, List.set_cons_zero, List.set_cons_succ]
    generalize hg0 : w1.heap.size = g at *
    generalize w1.alloc (frB zeroF) = W2 at *
    have HC2 := HC W2 HL.out.below
    go_wp2_with fail
    refine HC2.out.mono ?_
    rintro _ w5 ⟨A5, c5, rfl, hO5, hb5⟩
    have HB5 := Lib.hid (HL.out.below.trans (hb5.mono HL.out.below.size))
    have HI5 : Hid (In w5 A5 c5 l) := Lib.hid (Own.ins (by rw [HL0.out] at hO5 ⊢; exact hO5) HI.out.len HI.out.all)
    clear hO5 hb5 HC2
    go_wp2_with fail
    go_ret
    exact ⟨A5, c5, rfl, HI5.out, HB5.out⟩
  · rw [if_neg h0] at hr
    subst hr
    have HLa := Lib.hid (last_any A c l w hI h0 (hg.2 _ (top_mem h0)))
    obtain ⟨g1, g2, g3⟩ := hg.2 _ (top_mem h0)
    have HWc := fun W (h : Below w.heap.size w W) => Lib.hid (changed_any A c l ((topF l).set 1 v) W (hI.next h) h0)
    have HWa := Lib.hid (with_all hI.all (f := (topF l).set 1 v) (by rw [List.length_set]; exact g1))
    have HWl := Lib.hid (with_length (f := (topF l).set 1 v) h0)
    have HLn := Lib.hid hI.len
    have HG1 := Lib.hid g1
    clear hI h0 g2 g3
    generalize topF l = f at *
    generalize hL0 : l.length = L at *
    go_enter Try.func12, Try.ntmps12
    go_wp2_with fail
    refine HLa.out.mono ?_
    rintro _ w1 ⟨rfl, hb1⟩
    have hL := lf_new hb1 f
    have HL := Lib.hid hL
    have x1 := cell_block hL.block (k := 1) (by omega)
    have f1 := free_block hL.block 1
    clear hb1 HLa hL
    go_upto_region 2 with (first | refine wl_alloc rfl rfl ?_ | refine wl_store rfl _ _ rfl w1 zeroF _ rfl rfl rfl ?_)
    try simp only [Act.put, List.setIfInBounds_toArray, List.set_cons_zero, List.set_cons_succ]
    generalize hg0 : w1.heap.size = g at *
    generalize w1.alloc (frB f) = W2 at *
    have HP5 : Hid (Lf w (W2.setCell ⟨g, 1, none⟩ (.int .i64 v)) g (f.set 1 v)) := Lib.hid (HL.out.set HG1.out (by omega) _)
    go_upto_region 5 with fail
    try simp only [Act.put, List.setIfInBounds_toArray, List.set_cons_zero, List.set_cons_succ]
    generalize W2.setCell ⟨g, 1, none⟩ (.int .i64 v) = W5 at *
    clear x1 f1
    have HFp : Hid (FCells W5 g 0 (f.set 1 v)) := Lib.hid (FCells.of_block HP5.out.block)
    have HC5 := HWc W5 HP5.out.below
    go_wp2_with (first | refine wl_load rfl _ rfl g 0 rfl (f.set 1 v) HFp.out ?_)
    refine HC5.out.mono ?_
    rintro _ w5 ⟨A5, c5, rfl, hO5, hb5⟩
    have HB5 := Lib.hid (HP5.out.below.trans (hb5.mono HP5.out.below.size))
    have HI5 := Lib.hid (hO5.ins (by rw [HWl.out]; exact HLn.out) HWa.out)
    clear hO5 hb5 HC5
    go_wp2_with fail
    go_ret
    exact ⟨A5, c5, rfl, HI5.out, HB5.out⟩

/-- Frames are cloned where nothing is turned. -/
theorem clone_frs {A : Option Addr} {c : Nat} {l : List Fr} {w W : World} (hI : In w A c l) (h : Below w.heap.size w W) :
    Calls Try.prog 22 #[.slice A l.length c] W (fun e w' => ∃ A' c', e = .returned (.slice A' l.length c') ∧ Hid (In w' A' c' l ∧ Below w.heap.size w w')) :=
  (clone_any A c l W (hI.next h)).mono fun e w' ⟨A', c', h1, h2, h3⟩ => ⟨A', c', h1, Lib.hid ⟨h2.ins hI.len hI.all, h.trans (h3.mono h.size)⟩⟩
theorem changed_frs {A : Option Addr} {c : Nat} {l : List Fr} {f : Fr} {w W : World} (hI : In w A c l) (h0 : l.length ≠ 0) (hf : f.length = 27) (h : Below w.heap.size w W) :
    Calls Try.prog 19 #[.slice A l.length c, .agg (cellsF f).toArray] W (fun e w' => ∃ A' c', e = .returned (.slice A' (withF l f).length c') ∧ Hid (In w' A' c' (withF l f) ∧ Below w.heap.size w w')) :=
  (changed_any A c l f W (hI.next h) h0).mono fun e w' ⟨A', c', h1, h2, h3⟩ => ⟨A', c', h1, Lib.hid ⟨h2.ins (by rw [with_length h0]; exact hI.len) (with_all hI.all hf), h.trans (h3.mono h.size)⟩⟩

set_option maxRecDepth 100000 in
set_option maxHeartbeats 4000000 in
theorem store_any (A : Option Addr) (c : Nat) (l : List Fr) (k v : Int) (w : World) (hI : In w A c l) (hg : Good l) :
    Calls Try.prog 11 #[.slice A l.length c, .int .i64 k, .int .i64 v] w (FrsPost (storeF l k v) w) := by
  obtain ⟨r, hr⟩ : ∃ r, r = storeF l k v := ⟨_, rfl⟩
  rw [← hr]
  unfold storeF at hr
  have HI := Lib.hid hI
  unfold FrsPost
  by_cases h0 : l.length = 0
  · rw [if_pos (.inl h0)] at hr
    rw [hr]
    have HLa := Lib.hid (last_none A c w)
    have HC := fun W h => Lib.hid (clone_frs (W := W) hI h)
    rw [h0] at HC ⊢
    clear h0 hI hr
    go_enter Try.func11, Try.ntmps11
    go_wp2_with fail
    refine HLa.out.mono ?_
    rintro _ w1 ⟨rfl, hb1⟩
    have HL := Lib.hid (lf_new hb1 zeroF)
    clear hb1 HLa
    go_upto_region 2 with (first | refine wl_alloc rfl rfl ?_ | refine wl_store rfl _ _ rfl w1 zeroF _ rfl rfl rfl ?_)
    try simp only [Act.put, List.setIfInBounds_toArray, List.set_cons_zero, List.set_cons_succ]
    generalize hg0 : w1.heap.size = g at *
    generalize w1.alloc (frB zeroF) = W2 at *
    have HC2 := HC W2 HL.out.below
    go_wp2_with fail
    refine HC2.out.mono ?_
    rintro _ w5 ⟨A5, c5, rfl, HI5⟩
    clear HC2
    go_wp2_with fail
    go_ret
    exact ⟨A5, c5, rfl, HI5.out.1, HI5.out.2⟩
  have HLa := Lib.hid (last_any A c l w hI h0 (hg.2 _ (top_mem h0)))
  obtain ⟨g1, g2, g3⟩ := hg.2 _ (top_mem h0)
  have HIs := Lib.hid (isLocal_any k)
  have HC := fun W h => Lib.hid (clone_frs (W := W) hI h)
  by_cases hk : 0 ≤ k ∧ k ≤ 7
  · rw [if_neg (fun h => by rcases h with h | h | h; exact h0 h; omega; omega)] at hr
    obtain ⟨n, rfl⟩ : ∃ n : Nat, k = (n : Int) := ⟨k.toNat, by omega⟩
    rw [decide_eq_true hk] at HIs
    rw [Int.toNat_natCast] at hr
    have n0 : (0 : Int) ≤ (n : Int) := by omega
    have n1 : (n : Int) < 8 := by omega
    subst hr
    have HWc := fun W h => Lib.hid (changed_frs (W := W) (f := (topF l).set (3 + n) (low v)) hI h0 (by rw [List.length_set]; exact g1) h)
    have HG1 := Lib.hid g1
    have HLo := fun W => Lib.hid (low_any v W)
    clear hI h0 g2 g3 hk HC
    generalize topF l = f at *
    generalize hL0 : l.length = L at *
    go_enter Try.func11, Try.ntmps11
    go_wp2_with fail
    refine HLa.out.mono ?_
    rintro _ w1 ⟨rfl, hb1⟩
    have hL := lf_new hb1 f
    have HL := Lib.hid hL
    have x1 := cell_block hL.block (k := 3 + n) (by omega)
    have f1 := free_block hL.block (3 + n)
    clear hb1 HLa hL
    go_upto_region 2 with (first | refine wl_alloc rfl rfl ?_ | refine wl_store rfl _ _ rfl w1 zeroF _ rfl rfl rfl ?_)
    try simp only [Act.put, List.setIfInBounds_toArray, List.set_cons_zero, List.set_cons_succ]
    generalize hg0 : w1.heap.size = g at *
    generalize w1.alloc (frB f) = W2 at *
    have HP5 : Hid (Lf w (W2.setCell ⟨g, 3 + n, none⟩ (.int .i64 (low v))) g (f.set (3 + n) (low v))) := Lib.hid (HL.out.set HG1.out (by omega) _)
    go_upto_region 5 with (first | (refine (HIs.out _).mono ?_; rintro _ _ ⟨rfl, rfl⟩) | (refine (HLo _).out.mono ?_; rintro _ _ ⟨rfl, rfl⟩))
    try simp only [Act.put, List.setIfInBounds_toArray, List.set_cons_zero, List.set_cons_succ]
    generalize W2.setCell ⟨g, 3 + n, none⟩ (.int .i64 (low v)) = W5 at *
    clear x1 f1
    have HFp : Hid (FCells W5 g 0 (f.set (3 + n) (low v))) := Lib.hid (FCells.of_block HP5.out.block)
    have HC5 := HWc W5 HP5.out.below
    go_wp2_with (first | refine wl_load rfl _ rfl g 0 rfl (f.set (3 + n) (low v)) HFp.out ?_)
    refine HC5.out.mono ?_
    rintro _ w5 ⟨A5, c5, rfl, HI5⟩
    clear HC5
    go_wp2_with fail
    go_ret
    exact ⟨A5, c5, rfl, HI5.out.1, HI5.out.2⟩
  · rw [if_pos (by omega)] at hr
    rw [hr]
    rw [decide_eq_false hk] at HIs
    clear hI h0 hr hk g1 g2 g3
    generalize topF l = f at *
    generalize hL0 : l.length = L at *
    go_enter Try.func11, Try.ntmps11
    go_wp2_with fail
    refine HLa.out.mono ?_
    rintro _ w1 ⟨rfl, hb1⟩
    have HL := Lib.hid (lf_new hb1 f)
    clear hb1 HLa
    go_upto_region 2 with (first | refine wl_alloc rfl rfl ?_ | refine wl_store rfl _ _ rfl w1 zeroF _ rfl rfl rfl ?_)
    try simp only [Act.put, List.setIfInBounds_toArray, List.set_cons_zero, List.set_cons_succ]
    generalize hg0 : w1.heap.size = g at *
    generalize w1.alloc (frB f) = W2 at *
    have HC2 := HC W2 HL.out.below
    go_wp2_with fail
    refine (HIs.out _).mono ?_
    rintro _ _ ⟨rfl, rfl⟩
    go_wp2_with fail
    refine HC2.out.mono ?_
    rintro _ w5 ⟨A5, c5, rfl, HI5⟩
    clear HC2
    go_wp2_with fail
    go_ret
    exact ⟨A5, c5, rfl, HI5.out.1, HI5.out.2⟩

theorem set_set_ne {f : Fr} {i j : Nat} (h : i ≠ j) (x y : Int) : (f.set i x).set j y = (f.set j y).set i x := List.set_comm x y h
theorem turn_is {l : List Fr} (h : Good l) (h0 : l.length ≠ 0) {n : Nat} (hn : cnt (topF l) = (n : Int) + 1) (v : Int) : turnF l v = withF l ((topF l).set (11 + n) (low v)) := by
  obtain ⟨g1, g2, g3⟩ := h.2 _ (top_mem h0)
  have hp : popF l 1 = some (withF l (popped (topF l) 1), valsF (topF l) (cnt (topF l) - 1).toNat (1 : Int).toNat) := by
    unfold popF
    rw [if_neg (by rintro (e | e | e | e) <;> omega)]
  have ht : ∀ f, topF (withF l f) = f := fun f => by
    unfold topF
    rw [with_length h0]
    unfold withF
    rw [List.getD_eq_getElem?_getD, List.getElem?_append_right (by rw [List.length_take]; omega), List.length_take, show l.length - 1 - min (l.length - 1) l.length = 0 by omega]
    rfl
  have e1 : (cnt (topF l) - 1).toNat = n := by omega
  have hc : popped (topF l) 1 = ((topF l).set (11 + n) 0).set 2 (n : Int) := by
    unfold popped
    rw [e1, show (1 : Int).toNat = 1 from rfl, show cnt (topF l) - 1 = (n : Int) by omega]
    rfl
  have hcn : cnt (popped (topF l) 1) = (n : Int) := by rw [hc]; exact cnt_here (by rw [List.length_set]; exact g1) _
  have hps : pushed (popped (topF l) 1) v = (topF l).set (11 + n) (low v) := by
    unfold pushed
    rw [hcn, Int.toNat_natCast, hc, set_set_ne (i := 2) (j := 11 + n) (by omega), List.set_set, List.set_set, set_set_ne (i := 11 + n) (j := 2) (by omega)]
    rw [show (topF l).set 2 ((n : Int) + 1) = topF l by rw [← hn]; exact set_num _ (by omega)]
  have hpu : pushF (withF l (popped (topF l) 1)) v = some (withF l ((topF l).set (11 + n) (low v))) := by
    unfold pushF
    rw [ht, if_neg (by rw [with_length h0, hcn]; rintro (e | e | e) <;> omega), hps]
    unfold withF
    rw [show (l.take (l.length - 1) ++ [popped (topF l) 1]).length - 1 = l.length - 1 by rw [List.length_append, List.length_take, List.length_singleton]; omega, List.take_append_of_le_length (by rw [List.length_take]; omega), List.take_take, Nat.min_self]
  unfold turnF
  rw [hp]
  dsimp only
  rw [hpu]
  rfl
theorem turn_none {l : List Fr} (h : Good l) (hn : l.length = 0 ∨ cnt (topF l) = 0) (v : Int) : turnF l v = l := by
  have hp : popF l 1 = none := by
    unfold popF
    rw [if_pos (by omega)]
  unfold turnF
  rw [hp]

set_option maxRecDepth 100000 in
set_option maxHeartbeats 4000000 in
theorem turn_any (A : Option Addr) (c : Nat) (l : List Fr) (v : Int) (w : World) (hI : In w A c l) (hg : Good l) :
    Calls Try.prog 8 #[.slice A l.length c, .int .i64 v] w (FrsPost (turnF l v) w) := by
  unfold FrsPost
  have HC := fun W h => Lib.hid (clone_frs (W := W) hI h)
  by_cases h0 : l.length = 0
  · rw [turn_none hg (.inl h0)]
    have HLa := Lib.hid (last_none A c w)
    rw [h0] at HC ⊢
    clear h0 hI hg
    go_enter Try.func8, Try.ntmps8
    go_wp2_with fail
    refine HLa.out.mono ?_
    rintro _ w1 ⟨rfl, hb1⟩
    have hL := lf_new hb1 zeroF
    have HL := Lib.hid hL
    have x2 := cell_block hL.block (k := 2) (by omega)
    rw [show num zeroF 2 = 0 from rfl] at x2
    clear hb1 HLa hL
    go_upto_region 2 with (first | refine wl_alloc rfl rfl ?_ | refine wl_store rfl _ _ rfl w1 zeroF _ rfl rfl rfl ?_)
    try simp only [Act.put, List.setIfInBounds_toArray, List.set_cons_zero, List.set_cons_succ]
    generalize hg0 : w1.heap.size = g at *
    generalize w1.alloc (frB zeroF) = W2 at *
    have HC2 := HC W2 HL.out.below
    go_wp2_with fail
    refine HC2.out.mono ?_
    rintro _ w5 ⟨A5, c5, rfl, HI5⟩
    clear HC2
    go_wp2_with fail
    go_ret
    exact ⟨A5, c5, rfl, HI5.out.1, HI5.out.2⟩
  have HLa := Lib.hid (last_any A c l w hI h0 (hg.2 _ (top_mem h0)))
  obtain ⟨g1, g2, g3⟩ := hg.2 _ (top_mem h0)
  by_cases hz : cnt (topF l) = 0
  · rw [turn_none hg (.inr hz)]
    have hcn : num (topF l) 2 = 0 := hz
    clear hI h0 g1 g2 g3 hz hg
    generalize topF l = f at *
    generalize hL0 : l.length = L at *
    go_enter Try.func8, Try.ntmps8
    go_wp2_with fail
    refine HLa.out.mono ?_
    rintro _ w1 ⟨rfl, hb1⟩
    have hL := lf_new hb1 f
    have HL := Lib.hid hL
    have x2 := cell_block hL.block (k := 2) (by omega)
    rw [hcn] at x2
    clear hb1 HLa hL hcn
    go_upto_region 2 with (first | refine wl_alloc rfl rfl ?_ | refine wl_store rfl _ _ rfl w1 zeroF _ rfl rfl rfl ?_)
    try simp only [Act.put, List.setIfInBounds_toArray, List.set_cons_zero, List.set_cons_succ]
    generalize hg0 : w1.heap.size = g at *
    generalize w1.alloc (frB f) = W2 at *
    have HC2 := HC W2 HL.out.below
    go_wp2_with fail
    refine HC2.out.mono ?_
    rintro _ w5 ⟨A5, c5, rfl, HI5⟩
    clear HC2
    go_wp2_with fail
    go_ret
    exact ⟨A5, c5, rfl, HI5.out.1, HI5.out.2⟩
  · obtain ⟨n, hn⟩ : ∃ n : Nat, cnt (topF l) = (n : Int) + 1 := ⟨(cnt (topF l) - 1).toNat, by omega⟩
    rw [turn_is hg h0 hn]
    have HWc := fun W h => Lib.hid (changed_frs (W := W) (f := (topF l).set (11 + n) (low v)) hI h0 (by rw [List.length_set]; exact g1) h)
    have hcn : num (topF l) 2 = (n : Int) + 1 := hn
    have n0 : (0 : Int) ≤ (n : Int) := by omega
    have n1 : (n : Int) < 16 := by omega
    have e0 : (((n : Int) + 1) == 0) = false := by simp; omega
    have hw0 : IntKind.i64.wrap ((n : Int) + 1 - 1) = (n : Int) := by rw [IntKind.wrap_i64]; omega
    have hw1 : IntKind.i64.wrap (n : Int) = (n : Int) := by rw [IntKind.wrap_i64]; omega
    have HLo := fun W => Lib.hid (low_any v W)
    have HG1 := Lib.hid g1
    clear hI h0 hn hz g2 g3 HC hg
    generalize topF l = f at *
    generalize hL0 : l.length = L at *
    go_enter Try.func8, Try.ntmps8
    go_wp2_with fail
    refine HLa.out.mono ?_
    rintro _ w1 ⟨rfl, hb1⟩
    have hL := lf_new hb1 f
    have HL := Lib.hid hL
    have x2 := cell_block hL.block (k := 2) (by omega)
    rw [hcn] at x2
    have x11 := cell_block hL.block (k := 11 + n) (by omega)
    have f11 := free_block hL.block (11 + n)
    clear hb1 HLa hL hcn
    go_upto_region 2 with (first | refine wl_alloc rfl rfl ?_ | refine wl_store rfl _ _ rfl w1 zeroF _ rfl rfl rfl ?_)
    try simp only [Act.put, List.setIfInBounds_toArray, List.set_cons_zero, List.set_cons_succ]
    generalize hg0 : w1.heap.size = g at *
    generalize w1.alloc (frB f) = W2 at *
    go_upto_region 4 with fail
    go_cut [5] (fun t wx => t = .pointer (some ⟨g, 0, none⟩) ∧ Hid (Lf w wx g (f.set (11 + n) (low v))))
    case first =>
      go_region_with (go_at_call 16; refine (HLo _).out.mono ?_; rintro _ _ ⟨rfl, rfl⟩)
      all_goals
        go_wp2_with fail
        go_meet
        exact ⟨rfl, Lib.hid (HL.out.drew.set g1 (by omega) _)⟩
    case rest =>
      obtain ⟨rfl, HP5⟩ := hcut
      clear x2 x11 f11
      have HFp : Hid (FCells wc g 0 (f.set (11 + n) (low v))) := Lib.hid (FCells.of_block HP5.out.block)
      have HC5 := HWc wc HP5.out.below
      go_wp2_with (first | refine wl_load rfl _ rfl g 0 rfl (f.set (11 + n) (low v)) HFp.out ?_)
      refine HC5.out.mono ?_
      rintro _ w5 ⟨A5, c5, rfl, HI5⟩
      clear HC5
      go_wp2_with fail
      go_ret
      exact ⟨A5, c5, rfl, HI5.out.1, HI5.out.2⟩
end Go.Proofs.Ytphcffbbdpbkfaa.frames
