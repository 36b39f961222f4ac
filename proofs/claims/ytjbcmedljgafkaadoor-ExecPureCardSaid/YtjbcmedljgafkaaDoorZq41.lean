/-
  Texts of one claim in one file: FOdd. Each has its own sentence, with its conditions.
-/
import Derived.Test.YtjbcmedljgafkaaDoorZq40
/-
  The program's own frames, of whatever number of values: it is brought to what a frame has room for. At most a thousand frames, each of twenty-seven numbers. Printed by tools/mkodd.py.
-/

namespace Go.Proofs.YtjbcmedljgafkaaDoor.frames
open Go.RowKit Go.ChangeShapes
open Go.Proofs.YtjbcmedljgafkaaDoor.nums (NAt OwnI wpList_appI)
open Go.Proofs.YtjbcmedljgafkaaDoor.word (low low_any)
open Go.Proofs.YtjbcmedljgafkaaDoor.within (within_any)
set_option linter.unusedVariables false
set_option linter.unusedSimpArgs false

def clampF (f : Fr) : Fr := f.set 2 (min (max (cnt f) 0) 16)
/-- The last frame, as the program takes it. -/
def lastO (l : List Fr) : Fr := clampF (topF l)
theorem clamp_good {f : Fr} (h : f.length = 27) : GoodF (clampF f) := by
  unfold clampF
  refine ⟨by rw [List.length_set]; exact h, ?_, ?_⟩ <;> rw [cnt_here h] <;> omega
theorem clamp_same {f : Fr} (h : GoodF f) : clampF f = f := by
  obtain ⟨h1, h2, h3⟩ := h
  unfold clampF
  rw [show min (max (cnt f) 0) 16 = num f 2 from by show _ = cnt f; omega]
  exact set_num f (by omega)
theorem last_good {w : World} {A : Option Addr} {c : Nat} {l : List Fr} (h : In w A c l) (h0 : l.length ≠ 0) : GoodF (lastO l) := clamp_good (h.all _ (top_mem h0))
def pushO (l : List Fr) (v : Int) : Option (List Fr) :=
  if l.length = 0 ∨ 15 < cnt (lastO l) ∨ cnt (lastO l) < 0 then none else some (withF l (pushed (lastO l) v))
def popO (l : List Fr) (n : Int) : Option (List Fr × List Int) :=
  if l.length = 0 ∨ n < 0 ∨ cnt (lastO l) < n ∨ 16 < cnt (lastO l) then none else some (withF l (popped (lastO l) n), valsF (lastO l) (cnt (lastO l) - n).toNat n.toNat)
def storeO (l : List Fr) (k v : Int) : List Fr := if l.length = 0 ∨ k < 0 ∨ 7 < k then l else withF l ((lastO l).set (3 + k.toNat) (low v))
def goO (l : List Fr) (pc : Int) : List Fr := if l.length = 0 then l else withF l ((lastO l).set 1 pc)
def callO (l : List Fr) (fn n : Int) : Option (List Fr) :=
  match popO l n with
  | none => none
  | some (x, args) => if 8 < n ∨ 7 < l.length then none else some (x ++ [newF fn args])
def topO (l : List Fr) : Int := num (lastO l) (11 + (cnt (lastO l) - 1).toNat)
def retO (l : List Fr) : Option (List Fr × Int) :=
  if l.length = 0 ∨ cnt (lastO l) = 0 then none else if l.length = 1 then some ([], topO l)
  else (pushO (l.take (l.length - 1)) (topO l)).map fun x => (x, topO l)
theorem last_same {l : List Fr} (h : Good l) (h0 : l.length ≠ 0) : lastO l = topF l := clamp_same (h.2 _ (top_mem h0))
theorem push_same {l : List Fr} (h : Good l) (v : Int) : pushO l v = pushF l v := by
  unfold pushO pushF
  by_cases h0 : l.length = 0
  · rw [if_pos (.inl h0), if_pos (.inl h0)]
  · rw [last_same h h0]
theorem pop_same {l : List Fr} (h : Good l) (n : Int) : popO l n = popF l n := by
  unfold popO popF
  by_cases h0 : l.length = 0
  · rw [if_pos (.inl h0), if_pos (.inl h0)]
  · rw [last_same h h0]
theorem ret_same {l : List Fr} (h : Good l) : retO l = retF l := by
  unfold retO
  by_cases hn : l.length = 0 ∨ cnt (topF l) = 0
  · rw [ret_none hn]
    by_cases h0 : l.length = 0
    · rw [if_pos (.inl h0)]
    · rw [last_same h h0, if_pos hn]
  · have h0 : l.length ≠ 0 := fun e => hn (.inl e)
    obtain ⟨g1, g2, g3⟩ := h.2 _ (top_mem h0)
    obtain ⟨n, hc⟩ : ∃ n : Nat, cnt (topF l) = (n : Int) + 1 := ⟨(cnt (topF l) - 1).toNat, by
      have : ¬ cnt (topF l) = 0 := fun e => hn (.inr e)
      omega⟩
    unfold topO
    rw [last_same h h0, if_neg hn, ret_some h h0 hc, show (cnt (topF l) - 1).toNat = n by omega, push_same (take_good h _)]
theorem pop_sizes {l x : List Fr} {n : Int} {a : List Int} (h : popO l n = some (x, a)) : x.length = l.length ∧ a.length = n.toNat ∧ 0 ≤ n ∧ n ≤ 16 ∧ l.length ≠ 0 := by
  unfold popO at h
  split at h
  · cases h
  · rename_i hn
    have h0 : l.length ≠ 0 := fun e => hn (.inl e)
    have h1 : ¬ n < 0 := fun e => hn (.inr (.inl e))
    have h2 : ¬ cnt (lastO l) < n := fun e => hn (.inr (.inr (.inl e)))
    have h3 : ¬ 16 < cnt (lastO l) := fun e => hn (.inr (.inr (.inr e)))
    obtain ⟨rfl, rfl⟩ := Prod.mk.inj (Option.some.inj h)
    exact ⟨with_length h0, by unfold valsF; rw [List.length_map, List.length_range], by omega, by omega, h0⟩
theorem pop_all {l x : List Fr} {n : Int} {a : List Int} (h : popO l n = some (x, a)) (ha : ∀ f ∈ l, f.length = 27) : ∀ f ∈ x, f.length = 27 := by
  have hs := pop_sizes h
  unfold popO at h
  split at h
  · cases h
  · obtain ⟨rfl, rfl⟩ := Prod.mk.inj (Option.some.inj h)
    refine with_all ha ?_
    unfold popped
    rw [List.length_set, (clear_keep _ _ _).1]
    unfold lastO clampF
    rw [List.length_set]
    exact ha _ (top_mem hs.2.2.2.2)

set_option maxRecDepth 100000 in
set_option maxHeartbeats 4000000 in
theorem last_odd (A : Option Addr) (c : Nat) (l : List Fr) (w : World) (hI : In w A c l) (h0 : l.length ≠ 0) :
    Calls Tryd.prog 61 #[.slice A l.length c] w fun e w' => e = .returned (.tuple #[.agg (cellsF (lastO l)).toArray, .bool true]) ∧ Below w.heap.size w w' := by
  obtain ⟨b, off, m, rfl, hm, hb, hF, hl27⟩ := hI.top h0
  have hlen := hI.len
  have hcap := hI.cap
  rw [hm] at hlen hcap ⊢
  have e0 : (((m + 1 : Nat) : Int) == 0) = false := by simp; omega
  have k0 : (0 : Int) ≤ (m : Int) := by omega
  have k1 : (m : Int) < ((m + 1 : Nat) : Int) := by omega
  have k2 : (m : Int) < (m : Int) + 1 := by omega
  have hw0 : IntKind.i64.wrap ((m : Int) + 1 - 1) = (m : Int) := by rw [IntKind.wrap_i64]; omega
  have hw1 : IntKind.i64.wrap (m : Int) = (m : Int) := by rw [IntKind.wrap_i64]; omega
  have g1 : (topF l).length = 27 := hl27
  unfold lastO clampF
  have hcn : num (topF l) 2 = cnt (topF l) := rfl
  generalize topF l = f at *
  obtain ⟨x1, hN0⟩ : ∃ x1, max (cnt f) 0 = x1 := ⟨_, rfl⟩
  obtain ⟨M, hN1⟩ : ∃ M, min x1 16 = M := ⟨_, rfl⟩
  rw [hN0, hN1]
  have HX := Lib.hid (heap_alloc_new w (frB zeroF))
  have HZ := Lib.hid (World.size_alloc w (frB zeroF))
  have HB := Lib.hid ((Below.refl w.heap.size w).alloc (Nat.le_refl _) (frB zeroF))
  have HFc : Hid (FCells (w.alloc (frB zeroF)) b (off + m * 27) f) := Lib.hid (hF.keep (Below.heap_alloc _ _ _ hb))
  clear hI h0 hF hb
  generalize cnt f = N at *
  go_enter Tryd.func61, Tryd.ntmps61
  go_upto_region 1 with (first | refine wl_alloc rfl rfl ?_)
  try simp only [Act.put, List.setIfInBounds_toArray, List.set_cons_zero, List.set_cons_succ]
  generalize w.alloc (frB zeroF) = W1 at *
  go_upto_region 4 with (first | refine wl_load rfl _ rfl b (off + m * 27) rfl f HFc.out ?_ | refine wl_alloc rfl rfl ?_ | refine wl_store rfl _ _ rfl W1 zeroF _ rfl rfl rfl ?_)
  try simp only [Act.put, List.setIfInBounds_toArray, List.set_cons_zero, List.set_cons_succ]
  have hB2 := heap_alloc_new W1 (frB f)
  have HX2 := Lib.hid (keepA HX.out (frB f))
  have HB2 := Lib.hid (HB.out.alloc (by rw [HZ.out]; omega) (frB f))
  rw [HZ.out] at hB2
  try rw [HZ.out]
  generalize W1.alloc (frB f) = W2 at *
  have x2 := cell_block hB2 (k := 2) (by omega)
  rw [hcn] at x2
  have f2 := free_block hB2 2
  have HB3 : Hid ((W2.setCell ⟨w.heap.size + 1, 2, none⟩ (.int .i64 M)).heap[w.heap.size + 1]? = some (frB (f.set 2 M)) ∧ (W2.setCell ⟨w.heap.size + 1, 2, none⟩ (.int .i64 M)).heap[w.heap.size]? = some (frB zeroF) ∧ Below w.heap.size w (W2.setCell ⟨w.heap.size + 1, 2, none⟩ (.int .i64 M))) := Lib.hid (by
    have h1 := set_block hB2 g1 (k := 2) (by omega) M
    exact ⟨h1, (Below.heap_setCell W2 ⟨w.heap.size + 1, 2, none⟩ (.int .i64 M) w.heap.size (by show w.heap.size ≠ w.heap.size + 1; omega)).trans HX2.out, HB2.out.setCell (p := ⟨w.heap.size + 1, 2, none⟩) (Nat.le_succ _) _⟩)
  clear hB2 HFc
  go_upto_region 5 with fail
  try simp only [Act.put, List.setIfInBounds_toArray, List.set_cons_zero, List.set_cons_succ]
  clear x2 f2
  generalize W2.setCell ⟨w.heap.size + 1, 2, none⟩ (.int .i64 M) = W3 at *
  have HFp : Hid (FCells W3 (w.heap.size + 1) 0 (f.set 2 M)) := Lib.hid (FCells.of_block HB3.out.1)
  go_wp2_with (first | refine wl_load rfl _ rfl (w.heap.size + 1) 0 rfl (f.set 2 M) HFp.out ?_ | refine wl_storeG rfl _ _ rfl w.heap.size zeroF (f.set 2 M) rfl rfl HB3.out.2.1 ?_)
  exact last_ret rfl rfl rfl (row_same HB3.out.2.1) ⟨rfl, row_below HB3.out.2.2 (Nat.le_refl _) _⟩

set_option maxRecDepth 100000 in
set_option maxHeartbeats 4000000 in
theorem push_odd (A : Option Addr) (c : Nat) (l : List Fr) (v : Int) (w : World) (hI : In w A c l) :
    Calls Tryd.prog 65 #[.slice A l.length c, .int .i64 v] w fun e w' => Below w.heap.size w w' ∧ match pushO l v with
      | none => e = .returned (.tuple #[.slice none 0 0, .bool false])
      | some x => ∃ A c, e = .returned (.tuple #[.slice A x.length c, .bool true]) ∧ In w' A c x := by
  obtain ⟨r, hr⟩ : ∃ r, r = pushO l v := ⟨_, rfl⟩
  rw [← hr]
  unfold pushO at hr
  have HI := Lib.hid hI
  by_cases h0 : l.length = 0
  · rw [if_pos (.inl h0)] at hr
    subst hr
    have HLa := Lib.hid (last_none A c w)
    rw [h0]
    clear h0 hI
    go_enter Tryd.func65, Tryd.ntmps65
    go_wp2_with fail
    refine HLa.out.mono ?_
    rintro _ w1 ⟨rfl, hb1⟩
    have HL := Lib.hid (lf_new hb1 zeroF)
    clear hb1 HLa
    go_upto_region 2 with (first | refine wl_alloc rfl rfl ?_ | refine wl_store rfl _ _ rfl w1 zeroF _ rfl rfl rfl ?_)
    try simp only [Act.put, List.setIfInBounds_toArray, List.set_cons_zero, List.set_cons_succ]
    generalize w1.alloc (frB zeroF) = W2 at *
    go_wp2
    go_ret2
    exact ⟨HL.out.below, rfl⟩
  · have HLa := Lib.hid (last_odd A c l w hI h0)
    obtain ⟨g1, g2, g3⟩ := last_good hI h0
    have hcn : num (lastO l) 2 = cnt (lastO l) := rfl
    have H0 := Lib.hid h0
    have HWc := fun W (h : Below w.heap.size w W) => Lib.hid (changed_any A c l (pushed (lastO l) v) W (hI.next h) h0)
    have HWa := Lib.hid (with_all hI.all (f := pushed (lastO l) v) (by unfold pushed; rw [List.length_set, List.length_set]; exact g1))
    have HWl := Lib.hid (with_length (f := pushed (lastO l) v) h0)
    have HLn := Lib.hid hI.len
    clear hI h0
    generalize hf : lastO l = f at *
    by_cases h1 : 15 < cnt f
    · rw [if_pos (.inr (.inl h1))] at hr
      subst hr
      have q1 : cnt f = 16 := by omega
      rw [q1] at hcn
      clear q1 h1 g2 g3
      generalize l.length = L at *
      go_enter Tryd.func65, Tryd.ntmps65
      go_wp2_with fail
      refine HLa.out.mono ?_
      rintro _ w1 ⟨rfl, hb1⟩
      have hL := lf_new hb1 f
      have HL := Lib.hid hL
      have x2 := cell_block hL.block (k := 2) (by omega)
      rw [hcn] at x2
      clear hb1 HLa hL
      go_upto_region 2 with (first | refine wl_alloc rfl rfl ?_ | refine wl_store rfl _ _ rfl w1 zeroF _ rfl rfl rfl ?_)
      try simp only [Act.put, List.setIfInBounds_toArray, List.set_cons_zero, List.set_cons_succ]
      generalize w1.alloc (frB f) = W2 at *
      go_wp2
      go_ret2
      exact ⟨HL.out.below, rfl⟩
    · rw [if_neg (fun h => by rcases h with h | h | h; exact H0.out h; exact h1 h; omega)] at hr
      subst hr
      obtain ⟨n, hn⟩ : ∃ n : Nat, cnt f = (n : Int) := ⟨(cnt f).toNat, by omega⟩
      rw [hn] at hcn
      have hp : pushed f v = (f.set (11 + n) (low v)).set 2 ((n : Int) + 1) := by unfold pushed; rw [hn, Int.toNat_natCast]
      have HP := Lib.hid hp
      have n0 : (0 : Int) ≤ (n : Int) := by omega
      have n1 : (n : Int) < 16 := by omega
      have e0 : ((n : Int) == 16) = false := by simp; omega
      have hne : 11 + n ≠ 2 := by omega
      have hne2 : 2 ≠ 11 + n := by omega
      have hwn : IntKind.i64.wrap ((n : Int) + 1) = (n : Int) + 1 := by rw [IntKind.wrap_i64]; omega
      have HG1 := Lib.hid g1
      clear hp h1 g2 g3 hn
      have HLo := fun W => Lib.hid (low_any v W)
      generalize hL0 : l.length = L at *
      go_enter Tryd.func65, Tryd.ntmps65
      go_wp2_with fail
      refine HLa.out.mono ?_
      rintro _ w1 ⟨rfl, hb1⟩
      have hL := lf_new hb1 f
      have HL := Lib.hid hL
      have x2 := cell_block hL.block (k := 2) (by omega)
      rw [hcn] at x2
      have x11 := cell_block hL.block (k := 11 + n) (by omega)
      have f11 := free_block hL.block (11 + n)
      have HCn := Lib.hid hcn
      clear hb1 HLa hL hcn
      go_upto_region 2 with (first | refine wl_alloc rfl rfl ?_ | refine wl_store rfl _ _ rfl w1 zeroF _ rfl rfl rfl ?_)
      try simp only [Act.put, List.setIfInBounds_toArray, List.set_cons_zero, List.set_cons_succ]
      generalize hg0 : w1.heap.size = g at *
      generalize w1.alloc (frB f) = W2 at *
      go_upto_region 4 with fail
      go_cut [6] (fun t wx => t = .pointer (some ⟨g, 0, none⟩) ∧ Hid (Lf w wx g (f.set (11 + n) (low v))))
      case first =>
        go_region_with (go_at_call 79; refine (HLo _).out.mono ?_; rintro _ _ ⟨rfl, rfl⟩)
        all_goals
          go_wp2_with fail
          go_meet
          exact ⟨rfl, Lib.hid (HL.out.drew.set g1 (by omega) _)⟩
      case rest =>
        obtain ⟨rfl, HP4⟩ := hcut
        clear x2 x11 f11
        have hl4 : (f.set (11 + n) (low v)).length = 27 := by rw [List.length_set]; exact HG1.out
        have x2 := cell_block HP4.out.block (k := 2) (by omega)
        rw [num_ne (by omega), HCn.out] at x2
        have f2 := free_block HP4.out.block 2
        have HP5 : Hid (Lf w (wc.setCell ⟨g, 2, none⟩ (.int .i64 ((n : Int) + 1))) g (pushed f v)) := Lib.hid (by rw [HP.out]; exact HP4.out.set hl4 (by omega) _)
        clear hl4
        go_upto_region 6 with fail
        try simp only [Act.put, List.setIfInBounds_toArray, List.set_cons_zero, List.set_cons_succ]
        generalize wc.setCell ⟨g, 2, none⟩ (.int .i64 ((n : Int) + 1)) = W5 at *
        clear x2 f2
        have HFp : Hid (FCells W5 g 0 (pushed f v)) := Lib.hid (FCells.of_block HP5.out.block)
        have HC5 := HWc W5 HP5.out.below
        go_wp2_with (first | refine wl_load rfl _ rfl g 0 rfl (pushed f v) HFp.out ?_)
        refine HC5.out.mono ?_
        rintro _ w5 ⟨A5, c5, rfl, hO5, hb5⟩
        have HB5 := Lib.hid (HP5.out.below.trans (hb5.mono HP5.out.below.size))
        have HI5 := Lib.hid (hO5.ins (by rw [HWl.out]; exact HLn.out) HWa.out)
        clear hO5 hb5 HC5
        go_wp2_with fail
        go_ret2
        exact ⟨HB5.out, A5, c5, rfl, HI5.out⟩

set_option maxRecDepth 100000 in
set_option maxHeartbeats 4000000 in
theorem go_odd (A : Option Addr) (c : Nat) (l : List Fr) (v : Int) (w : World) (hI : In w A c l) :
    Calls Tryd.prog 64 #[.slice A l.length c, .int .i64 v] w (FrsPost (goO l v) w) := by
  obtain ⟨r, hr⟩ : ∃ r, r = goO l v := ⟨_, rfl⟩
  rw [← hr]
  unfold goO at hr
  have HI := Lib.hid hI
  unfold FrsPost
  by_cases h0 : l.length = 0
  · rw [if_pos h0] at hr
    rw [hr]
    have HLa := Lib.hid (last_none A c w)
    have HC := fun W h => Lib.hid (clone_any A c l W (hI.next h))
    rw [h0] at HC ⊢
    have HL0 := Lib.hid (len0 h0)
    clear h0 hI hr
    go_enter Tryd.func64, Tryd.ntmps64
    go_wp2_with fail
    refine HLa.out.mono ?_
    rintro _ w1 ⟨rfl, hb1⟩
    have HL := Lib.hid (lf_new hb1 zeroF)
    clear hb1 HLa
    go_upto_region 2 with (first | refine wl_alloc rfl rfl ?_ | refine wl_store rfl _ _ rfl w1 zeroF _ rfl rfl rfl ?_)
    try simp only [Act.put, List.setIfInBounds_toArray, List.set_cons_zero, List.set_cons_succ]
    generalize hg0 : w1.heap.size = g at *
    generalize w1.alloc (frB zeroF) = W2 at *
    have HC2 := HC W2 HL.out.below
    go_wp2_with fail
    refine HC2.out.mono ?_
    rintro _ w5 ⟨A5, c5, rfl, hO5, hb5⟩
    have HB5 := Lib.hid (HL.out.below.trans (hb5.mono HL.out.below.size))
    have HI5 : Hid (In w5 A5 c5 l) := Lib.hid (Own.ins (by rw [HL0.out] at hO5 ⊢; exact hO5) HI.out.len HI.out.all)
    clear hO5 hb5 HC2
    go_wp2_with fail
    go_ret
    exact ⟨A5, c5, rfl, HI5.out, HB5.out⟩
  · rw [if_neg h0] at hr
    subst hr
    have HLa := Lib.hid (last_odd A c l w hI h0)
    obtain ⟨g1, g2, g3⟩ := last_good hI h0
    have HWc := fun W (h : Below w.heap.size w W) => Lib.hid (changed_any A c l ((lastO l).set 1 v) W (hI.next h) h0)
    have HWa := Lib.hid (with_all hI.all (f := (lastO l).set 1 v) (by rw [List.length_set]; exact g1))
    have HWl := Lib.hid (with_length (f := (lastO l).set 1 v) h0)
    have HLn := Lib.hid hI.len
    have HG1 := Lib.hid g1
    clear hI h0 g2 g3
    generalize lastO l = f at *
    generalize hL0 : l.length = L at *
    go_enter Tryd.func64, Tryd.ntmps64
    go_wp2_with fail
    refine HLa.out.mono ?_
    rintro _ w1 ⟨rfl, hb1⟩
    have hL := lf_new hb1 f
    have HL := Lib.hid hL
    have x1 := cell_block hL.block (k := 1) (by omega)
    have f1 := free_block hL.block 1
    clear hb1 HLa hL
    go_upto_region 2 with (first | refine wl_alloc rfl rfl ?_ | refine wl_store rfl _ _ rfl w1 zeroF _ rfl rfl rfl ?_)
    try simp only [Act.put, List.setIfInBounds_toArray, List.set_cons_zero, List.set_cons_succ]
    generalize hg0 : w1.heap.size = g at *
    generalize w1.alloc (frB f) = W2 at *
    have HP5 : Hid (Lf w (W2.setCell ⟨g, 1, none⟩ (.int .i64 v)) g (f.set 1 v)) := Lib.hid (HL.out.set HG1.out (by omega) _)
    go_upto_region 5 with fail
    try simp only [Act.put, List.setIfInBounds_toArray, List.set_cons_zero, List.set_cons_succ]
    generalize W2.setCell ⟨g, 1, none⟩ (.int .i64 v) = W5 at *
    clear x1 f1
    have HFp : Hid (FCells W5 g 0 (f.set 1 v)) := Lib.hid (FCells.of_block HP5.out.block)
    have HC5 := HWc W5 HP5.out.below
    go_wp2_with (first | refine wl_load rfl _ rfl g 0 rfl (f.set 1 v) HFp.out ?_)
    refine HC5.out.mono ?_
    rintro _ w5 ⟨A5, c5, rfl, hO5, hb5⟩
    have HB5 := Lib.hid (HP5.out.below.trans (hb5.mono HP5.out.below.size))
    have HI5 := Lib.hid (hO5.ins (by rw [HWl.out]; exact HLn.out) HWa.out)
    clear hO5 hb5 HC5
    go_wp2_with fail
    go_ret
    exact ⟨A5, c5, rfl, HI5.out, HB5.out⟩

set_option maxRecDepth 100000 in
set_option maxHeartbeats 4000000 in
theorem store_odd (A : Option Addr) (c : Nat) (l : List Fr) (k v : Int) (w : World) (hI : In w A c l) :
    Calls Tryd.prog 67 #[.slice A l.length c, .int .i64 k, .int .i64 v] w (FrsPost (storeO l k v) w) := by
  obtain ⟨r, hr⟩ : ∃ r, r = storeO l k v := ⟨_, rfl⟩
  rw [← hr]
  unfold storeO at hr
  have HI := Lib.hid hI
  unfold FrsPost
  by_cases h0 : l.length = 0
  · rw [if_pos (.inl h0)] at hr
    rw [hr]
    have HLa := Lib.hid (last_none A c w)
    have HC := fun W h => Lib.hid (clone_frs (W := W) hI h)
    rw [h0] at HC ⊢
    clear h0 hI hr
    go_enter Tryd.func67, Tryd.ntmps67
    go_wp2_with fail
    refine HLa.out.mono ?_
    rintro _ w1 ⟨rfl, hb1⟩
    have HL := Lib.hid (lf_new hb1 zeroF)
    clear hb1 HLa
    go_upto_region 2 with (first | refine wl_alloc rfl rfl ?_ | refine wl_store rfl _ _ rfl w1 zeroF _ rfl rfl rfl ?_)
    try simp only [Act.put, List.setIfInBounds_toArray, List.set_cons_zero, List.set_cons_succ]
    generalize hg0 : w1.heap.size = g at *
    generalize w1.alloc (frB zeroF) = W2 at *
    have HC2 := HC W2 HL.out.below
    go_wp2_with fail
    refine HC2.out.mono ?_
    rintro _ w5 ⟨A5, c5, rfl, HI5⟩
    clear HC2
    go_wp2_with fail
    go_ret
    exact ⟨A5, c5, rfl, HI5.out.1, HI5.out.2⟩
  have HLa := Lib.hid (last_odd A c l w hI h0)
  obtain ⟨g1, g2, g3⟩ := last_good hI h0
  have HIs := Lib.hid (isLocal_any k)
  have HC := fun W h => Lib.hid (clone_frs (W := W) hI h)
  by_cases hk : 0 ≤ k ∧ k ≤ 7
  · rw [if_neg (fun h => by rcases h with h | h | h; exact h0 h; omega; omega)] at hr
    obtain ⟨n, rfl⟩ : ∃ n : Nat, k = (n : Int) := ⟨k.toNat, by omega⟩
    rw [decide_eq_true hk] at HIs
    rw [Int.toNat_natCast] at hr
    have n0 : (0 : Int) ≤ (n : Int) := by omega
    have n1 : (n : Int) < 8 := by omega
    subst hr
    have HWc := fun W h => Lib.hid (changed_frs (W := W) (f := (lastO l).set (3 + n) (low v)) hI h0 (by rw [List.length_set]; exact g1) h)
    have HG1 := Lib.hid g1
    have HLo := fun W => Lib.hid (low_any v W)
    clear hI h0 g2 g3 hk HC
    generalize lastO l = f at *
    generalize hL0 : l.length = L at *
    go_enter Tryd.func67, Tryd.ntmps67
    go_wp2_with fail
    refine HLa.out.mono ?_
    rintro _ w1 ⟨rfl, hb1⟩
    have hL := lf_new hb1 f
    have HL := Lib.hid hL
    have x1 := cell_block hL.block (k := 3 + n) (by omega)
    have f1 := free_block hL.block (3 + n)
    clear hb1 HLa hL
    go_upto_region 2 with (first | refine wl_alloc rfl rfl ?_ | refine wl_store rfl _ _ rfl w1 zeroF _ rfl rfl rfl ?_)
    try simp only [Act.put, List.setIfInBounds_toArray, List.set_cons_zero, List.set_cons_succ]
    generalize hg0 : w1.heap.size = g at *
    generalize w1.alloc (frB f) = W2 at *
    have HP5 : Hid (Lf w (W2.setCell ⟨g, 3 + n, none⟩ (.int .i64 (low v))) g (f.set (3 + n) (low v))) := Lib.hid (HL.out.set HG1.out (by omega) _)
    go_upto_region 5 with (first | (refine (HIs.out _).mono ?_; rintro _ _ ⟨rfl, rfl⟩) | (refine (HLo _).out.mono ?_; rintro _ _ ⟨rfl, rfl⟩))
    try simp only [Act.put, List.setIfInBounds_toArray, List.set_cons_zero, List.set_cons_succ]
    generalize W2.setCell ⟨g, 3 + n, none⟩ (.int .i64 (low v)) = W5 at *
    clear x1 f1
    have HFp : Hid (FCells W5 g 0 (f.set (3 + n) (low v))) := Lib.hid (FCells.of_block HP5.out.block)
    have HC5 := HWc W5 HP5.out.below
    go_wp2_with (first | refine wl_load rfl _ rfl g 0 rfl (f.set (3 + n) (low v)) HFp.out ?_)
    refine HC5.out.mono ?_
    rintro _ w5 ⟨A5, c5, rfl, HI5⟩
    clear HC5
    go_wp2_with fail
    go_ret
    exact ⟨A5, c5, rfl, HI5.out.1, HI5.out.2⟩
  · rw [if_pos (by omega)] at hr
    rw [hr]
    rw [decide_eq_false hk] at HIs
    clear hI h0 hr hk g1 g2 g3
    generalize lastO l = f at *
    generalize hL0 : l.length = L at *
    go_enter Tryd.func67, Tryd.ntmps67
    go_wp2_with fail
    refine HLa.out.mono ?_
    rintro _ w1 ⟨rfl, hb1⟩
    have HL := Lib.hid (lf_new hb1 f)
    clear hb1 HLa
    go_upto_region 2 with (first | refine wl_alloc rfl rfl ?_ | refine wl_store rfl _ _ rfl w1 zeroF _ rfl rfl rfl ?_)
    try simp only [Act.put, List.setIfInBounds_toArray, List.set_cons_zero, List.set_cons_succ]
    generalize hg0 : w1.heap.size = g at *
    generalize w1.alloc (frB f) = W2 at *
    have HC2 := HC W2 HL.out.below
    go_wp2_with fail
    refine (HIs.out _).mono ?_
    rintro _ _ ⟨rfl, rfl⟩
    go_wp2_with fail
    refine HC2.out.mono ?_
    rintro _ w5 ⟨A5, c5, rfl, HI5⟩
    clear HC2
    go_wp2_with fail
    go_ret
    exact ⟨A5, c5, rfl, HI5.out.1, HI5.out.2⟩

set_option maxRecDepth 100000 in
set_option maxHeartbeats 8000000 in
theorem pop_odd (A : Option Addr) (c : Nat) (l : List Fr) (k : Int) (w : World) (hI : In w A c l) :
    Calls Tryd.prog 41 #[.slice A l.length c, .int .i64 k] w (PopPost (popO l k) w) := by
  obtain ⟨r, hr⟩ : ∃ r, r = popO l k := ⟨_, rfl⟩
  rw [← hr]
  unfold popO at hr
  unfold PopPost
  have HI := Lib.hid hI
  by_cases h0 : l.length = 0
  · rw [if_pos (.inl h0)] at hr
    subst hr
    have HLa := Lib.hid (last_none A c w)
    rw [h0]
    clear h0 hI
    go_enter Tryd.func41, Tryd.ntmps41
    go_wp2_with fail
    refine HLa.out.mono ?_
    rintro _ w1 ⟨rfl, hb1⟩
    have HL := Lib.hid (lf_new hb1 zeroF)
    clear hb1 HLa
    go_upto_region 2 with (first | refine wl_alloc rfl rfl ?_ | refine wl_store rfl _ _ rfl w1 zeroF _ rfl rfl rfl ?_)
    try simp only [Act.put, List.setIfInBounds_toArray, List.set_cons_zero, List.set_cons_succ]
    generalize hg0 : w1.heap.size = g at *
    generalize w1.alloc (frB zeroF) = W2 at *
    go_wp2
    go_ret3
    exact ⟨HL.out.below, rfl⟩
  have HLa := Lib.hid (last_odd A c l w hI h0)
  obtain ⟨g1, g2, g3⟩ := last_good hI h0
  have hcn : num (lastO l) 2 = cnt (lastO l) := rfl
  have H0 := Lib.hid h0
  by_cases hk : 0 ≤ k ∧ k ≤ cnt (lastO l)
  · rw [if_neg (by rintro (e | e | e | e) <;> omega)] at hr
    obtain ⟨n, rfl⟩ : ∃ n : Nat, k = (n : Int) := ⟨k.toNat, by omega⟩
    obtain ⟨q, hq⟩ : ∃ q : Nat, cnt (lastO l) = (q : Int) := ⟨(cnt (lastO l)).toNat, by omega⟩
    obtain ⟨p, hp⟩ : ∃ p : Nat, q = p + n := ⟨q - n, by omega⟩
    have hpn : p + n ≤ 16 := by omega
    have HPn := Lib.hid hpn
    have e1 : (cnt (lastO l) - (n : Int)).toNat = p := by omega
    have hpop : popped (lastO l) (n : Int) = (clearF (lastO l) p n).set 2 (p : Int) := by
      unfold popped
      rw [e1, Int.toNat_natCast, show cnt (lastO l) - (n : Int) = (p : Int) by omega]
    rw [hpop, e1, Int.toNat_natCast] at hr
    rw [hq] at hcn
    have HWi := Lib.hid (within_any (n : Int) 0 (q : Int))
    rw [show decide (0 ≤ (n : Int) ∧ (n : Int) ≤ (q : Int)) = true from decide_eq_true (by omega)] at HWi
    have hws : IntKind.i64.wrap ((q : Int) - (n : Int)) = (p : Int) := by rw [IntKind.wrap_i64]; omega
    have hl27 : ((clearF (lastO l) p n).set 2 (p : Int)).length = 27 := by rw [List.length_set, (clear_keep _ p n).1]; exact g1
    have HWc := fun W (h : Below w.heap.size w W) => Lib.hid (changed_any A c l ((clearF (lastO l) p n).set 2 (p : Int)) W (hI.next h) h0)
    have HWa := Lib.hid (with_all hI.all hl27)
    have HWl := Lib.hid (with_length (f := (clearF (lastO l) p n).set 2 (p : Int)) h0)
    have HVl : Hid ((valsF (lastO l) p n).length = n) := Lib.hid (by unfold valsF; rw [List.length_map, List.length_range])
    have HLn := Lib.hid hI.len
    have HG1 := Lib.hid g1
    obtain ⟨ft, hft⟩ : ∃ ft, ft = (clearF (lastO l) p n).set 2 (p : Int) := ⟨_, rfl⟩
    have HFt := Lib.hid hft
    rw [← hft] at hr HWc HWa HWl
    subst hr
    clear hI h0 g2 g3 hk hq e1 hpop hl27 hft
    generalize lastO l = f at *
    generalize hL0 : l.length = L at *
    have HQ := Lib.hid hp
    have HCn := Lib.hid hcn
    clear hp
    go_enter Tryd.func41, Tryd.ntmps41
    go_wp2_with fail
    refine HLa.out.mono ?_
    rintro _ w1 ⟨rfl, hb1⟩
    have hL := lf_new hb1 f
    have HL := Lib.hid hL
    have x2 := cell_block hL.block (k := 2) (by omega)
    rw [hcn] at x2
    clear hb1 HLa hL hcn
    go_upto_region 2 with (first | refine wl_alloc rfl rfl ?_ | refine wl_store rfl _ _ rfl w1 zeroF _ rfl rfl rfl ?_)
    try simp only [Act.put, List.setIfInBounds_toArray, List.set_cons_zero, List.set_cons_succ]
    generalize hg0 : w1.heap.size = g at *
    generalize w1.alloc (frB f) = W2 at *
    obtain ⟨Ad, hAd, hsl⟩ := slice_top g p q (by have := HQ.out; omega) (by have := HQ.out; omega)
    rw [show q - p = n by have := HQ.out; omega] at hAd hsl
    have HAd := Lib.hid hAd
    clear hAd hpn
    have HCl := Lib.hid (cloneI_any Ad (16 - p) n (valsF f p n) HVl.out.symm W2 (top_nums HL.out.block HPn.out HAd.out) (by rw [HVl.out]; have := HPn.out; omega))
    go_wp2_with (first | (refine (HWi.out _).mono ?_; rintro _ _ ⟨rfl, rfl⟩))
    refine HCl.out.mono ?_
    rintro _ w3 ⟨B, d, rfl, hO3, hb3⟩
    have hgW : g < W2.heap.size := lt_of_block HL.out.block
    have HL3 : Hid (Lf w w3 g f) := Lib.hid ⟨(hb3.block g hgW).trans HL.out.block, HL.out.far, HL.out.below.trans (hb3.mono HL.out.below.size)⟩
    have HO4 := Lib.hid (owni_cells hO3 hgW (11 + p) (List.replicate n (.int .i64 0)))
    have HL4 := Lib.hid (HL3.out.clear HG1.out n HPn.out)
    have HgW := Lib.hid hgW
    clear x2 hsl HCl hO3 hb3 hgW
    go_upto_region 7 with (first | refine wl_clear rfl _ rfl (.slice (some Ad) n (16 - p)) _ rfl (fun ty => clear_run HL3.out HPn.out ty Ad HAd.out (16 - p)) ?_)
    generalize w3.setCells g (11 + p) (List.replicate n (.int .i64 0)) = W4 at *
    have x2 : W4.cell? ⟨g, 2, none⟩ = some (.int .i64 (q : Int)) := (cell_block HL4.out.block (k := 2) (by omega)).trans (by rw [show num (clearF f p n) 2 = cnt (clearF f p n) from rfl, (clear_keep f p n).2, show cnt f = num f 2 from rfl, HCn.out])
    have f2 := free_block HL4.out.block 2
    have HL5 : Hid (Lf w (W4.setCell ⟨g, 2, none⟩ (.int .i64 (p : Int))) g ft) := Lib.hid (by rw [HFt.out]; exact HL4.out.set (by rw [(clear_keep f p n).1]; exact HG1.out) (by omega) _)
    have HO5 : Hid (OwnI (W4.setCell ⟨g, 2, none⟩ (.int .i64 (p : Int))) W2.heap.size (.slice B n d) (valsF f p n)) := Lib.hid (HO4.out.keep fun k hk => Below.heap_setCell _ _ _ _ (by have := (HO4.out.lt hk).1; have := HgW.out; show k ≠ g; omega))
    go_upto_region 8 with fail
    try simp only [Act.put, List.setIfInBounds_toArray, List.set_cons_zero, List.set_cons_succ]
    generalize W4.setCell ⟨g, 2, none⟩ (.int .i64 (p : Int)) = W5 at *
    have HN5 := Lib.hid HO5.out.at
    clear x2 f2
    have HFp : Hid (FCells W5 g 0 ft) := Lib.hid (FCells.of_block HL5.out.block)
    have HC5 := HWc W5 HL5.out.below
    go_wp2_with (first | refine wl_load rfl _ rfl g 0 rfl ft HFp.out ?_)
    refine HC5.out.mono ?_
    rintro _ w5 ⟨A5, c5, rfl, hO6, hb6⟩
    have HB6 := Lib.hid (HL5.out.below.trans (hb6.mono HL5.out.below.size))
    have HO6 := Lib.hid (hO6.base HL5.out.below.size)
    have HI6 := Lib.hid (hO6.ins (by rw [HWl.out]; exact HLn.out) HWa.out)
    have HN6 := Lib.hid (HN5.out.next hb6)
    clear hO6 hb6 HC5
    go_wp2_with fail
    go_ret3
    exact ⟨HB6.out, A5, c5, B, d, by rw [HVl.out]; rfl, HI6.out, HN6.out, HO6.out⟩
  · rw [if_pos (by
      by_cases e : k < 0
      · exact .inr (.inl e)
      · exact .inr (.inr (.inl (by omega))))] at hr
    subst hr
    have HWi := Lib.hid (within_any k 0 (cnt (lastO l)))
    rw [decide_eq_false hk] at HWi
    clear hI h0 g1 g2 g3 hk
    generalize lastO l = f at *
    generalize hL0 : l.length = L at *
    generalize cnt f = N at *
    go_enter Tryd.func41, Tryd.ntmps41
    go_wp2_with fail
    refine HLa.out.mono ?_
    rintro _ w1 ⟨rfl, hb1⟩
    have hL := lf_new hb1 f
    have HL := Lib.hid hL
    have x2 := cell_block hL.block (k := 2) (by omega)
    rw [hcn] at x2
    clear hb1 HLa hL hcn
    go_upto_region 2 with (first | refine wl_alloc rfl rfl ?_ | refine wl_store rfl _ _ rfl w1 zeroF _ rfl rfl rfl ?_)
    try simp only [Act.put, List.setIfInBounds_toArray, List.set_cons_zero, List.set_cons_succ]
    generalize hg0 : w1.heap.size = g at *
    generalize w1.alloc (frB f) = W2 at *
    go_wp2_with (first | (refine (HWi.out _).mono ?_; rintro _ _ ⟨rfl, rfl⟩))
    go_ret3
    exact ⟨HL.out.below, rfl⟩

/-- Frames, and true; or none, and false. -/
def YesPostN (x : Option (List Fr)) (w : World) (e : Ending) (w' : World) : Prop :=
  Below w.heap.size w w' ∧ match x with
  | none => e = .returned (.tuple #[.slice none 0 0, .bool false])
  | some l => ∃ A c, e = .returned (.tuple #[.slice A l.length c, .bool true]) ∧ In w' A c l
set_option maxRecDepth 100000 in
set_option maxHeartbeats 4000000 in
theorem call_odd (A : Option Addr) (c : Nat) (l : List Fr) (v k : Int) (w : World) (hI : In w A c l) :
    Calls Tryd.prog 59 #[.slice A l.length c, .int .i64 v, .int .i64 k] w (YesPostN (callO l v k) w) := by
  have HP := Lib.hid (pop_odd A c l k w hI)
  have HLl := Lib.hid hI.len
  unfold PopPost at HP
  obtain ⟨r, hr⟩ : ∃ r, r = callO l v k := ⟨_, rfl⟩
  rw [← hr]
  unfold callO at hr
  unfold YesPostN
  by_cases h8 : 8 < k
  · have hn : r = none := by
      rw [hr]
      split
      · rfl
      · rw [if_pos (.inl h8)]
    subst hn
    have q1 : decide (k > 8) = true := decide_eq_true h8
    clear hr HP hI h8
    go_enter Tryd.func59, Tryd.ntmps59
    go_wp2
    go_ret2
    exact ⟨Below.refl _ _, rfl⟩
  have q1 : decide (k > 8) = false := decide_eq_false h8
  by_cases h7 : 7 < l.length
  · have hn : r = none := by
      rw [hr]
      split
      · rfl
      · rw [if_pos (.inr h7)]
    subst hn
    have q2 : decide ((l.length : Int) ≥ 8) = true := decide_eq_true (by omega)
    have q3 : decide (8 ≤ l.length) = true := decide_eq_true (by omega)
    clear hr HP hI h8
    go_enter Tryd.func59, Tryd.ntmps59
    go_wp2
    go_ret2
    exact ⟨Below.refl _ _, rfl⟩
  have q2 : decide ((l.length : Int) ≥ 8) = false := decide_eq_false (by omega)
  have q3 : decide (8 ≤ l.length) = false := decide_eq_false (by omega)
  cases hp : popO l k with
  | none =>
    rw [hp] at hr HP
    dsimp only at hr HP
    subst hr
    clear hp hI h8 h7
    go_enter Tryd.func59, Tryd.ntmps59
    go_wp2_with fail
    refine HP.out.mono ?_
    rintro _ w1 ⟨hb1, rfl⟩
    have HB1 := Lib.hid hb1
    clear hb1
    go_wp2
    go_ret2
    exact ⟨HB1.out, rfl⟩
  | some xa =>
    obtain ⟨x, a⟩ := xa
    obtain ⟨hx2, hx3, hx4, hx5, hx6⟩ := pop_sizes hp
    have hx1 := pop_all hp hI.all
    rw [hp] at hr HP
    dsimp only at hr HP
    rw [if_neg (by rintro (h | h) <;> omega)] at hr
    subst hr
    have HXl : Hid (x.length ≤ 8) := Lib.hid (by omega)
    have HXa := Lib.hid hx1
    have HAl : Hid (a.length ≤ 1000) := Lib.hid (by omega)
    clear hp hI h8 h7 hx1 hx2 hx3 hx4 hx5 hx6
    go_enter Tryd.func59, Tryd.ntmps59
    go_wp2_with fail
    refine HP.out.mono ?_
    rintro _ w1 ⟨hb1, A1, c1, B1, d1, rfl, hI1, hN1, hO1⟩
    have HB1 := Lib.hid hb1
    have HO1 := Lib.hid hO1
    have HNw := Lib.hid (new_any v B1 d1 a HAl.out w1 hN1)
    clear hb1 hI1 hN1 hO1 HP
    go_wp2_with fail
    refine HNw.out.mono ?_
    rintro _ w2 ⟨A2, c2, rfl, hF2, hb2, hc2, hn2⟩
    have HO2 := Lib.hid (HO1.out.next hb2)
    have HB2 := Lib.hid (HB1.out.trans (hb2.mono HB1.out.size))
    have HF2 := Lib.hid hF2
    have HA2 := Lib.hid hn2
    clear hF2 hb2 hc2 hn2 HNw HO1
    go_wp2_with (at_builtin; refine wpList_appF (by rfl) (.tmp 27) (.tmp 30) (by rfl) w.heap.size 1 c2 (.slice A1 x.length c1) A2 x [newF v a] (by rfl) HO2.out (by rfl) rfl (fun h => absurd h HA2.out) HF2.out (by have := HXl.out; simp; omega) HB2.out.size ?_)
    intro v3 w3 hO3 hg3
    have HB3 := Lib.hid (HB2.out.grown hg3 HB2.out.size (fun k e => (HO2.out.lt e).1))
    obtain ⟨A3, c3, rfl⟩ := hO3.slice
    have HI3 := Lib.hid (hO3.ins (by have := HXl.out; simp; omega) (fun f hf => by
      rcases List.mem_append.1 hf with h | h
      · exact HXa.out f h
      · rw [List.mem_singleton.1 h]; exact (new_good _ _).1))
    clear hO3 hg3 HO2
    go_wp2_with fail
    go_ret2
    exact ⟨HB3.out, A3, c3, by simp, HI3.out⟩

set_option maxRecDepth 100000 in
set_option maxHeartbeats 4000000 in
theorem top_yes (A : Option Addr) (c : Nat) (l : List Fr) (w : World) (hI : In w A c l) (h0 : l.length ≠ 0) (hn : cnt (lastO l) ≠ 0) :
    Calls Tryd.prog 78 #[.slice A l.length c] w fun e w' => e = .returned (.tuple #[.int .i64 (topO l), .bool true]) ∧ Below w.heap.size w w' := by
  have HLa := Lib.hid (last_odd A c l w hI h0)
  obtain ⟨v, hv⟩ : ∃ v, v = topO l := ⟨_, rfl⟩
  rw [← hv]
  unfold topO at hv
  have hg := last_good hI h0
  generalize lastO l = f at *
  obtain ⟨g1, g2, g3⟩ := hg
  obtain ⟨n, hn'⟩ : ∃ n : Nat, cnt f = (n : Int) + 1 := ⟨(cnt f - 1).toNat, by omega⟩
  have e1 : (cnt f - 1).toNat = n := by omega
  rw [e1] at hv
  have hcn : num f 2 = cnt f := rfl
  rw [hn'] at hcn
  have n0 : (0 : Int) ≤ (n : Int) := by omega
  have n1 : (n : Int) < 16 := by omega
  have e0 : (((n : Int) + 1) == 0) = false := by simp; omega
  have hw0 : IntKind.i64.wrap ((n : Int) + 1 - 1) = (n : Int) := by rw [IntKind.wrap_i64]; omega
  have hw1 : IntKind.i64.wrap (n : Int) = (n : Int) := by rw [IntKind.wrap_i64]; omega
  clear hI h0 hn
  generalize l.length = L at *
  go_enter Tryd.func78, Tryd.ntmps78
  go_wp2_with fail
  refine HLa.out.mono ?_
  rintro _ w1 ⟨rfl, hb1⟩
  have hL := lf_new hb1 f
  have HL := Lib.hid hL
  have x2 := cell_block hL.block (k := 2) (by omega)
  rw [hcn] at x2
  have x11 := cell_block hL.block (k := 11 + n) (by omega)
  rw [← hv] at x11
  clear hL hb1 HLa g1 g2 g3 hn' e1 hv hcn
  go_upto_region 2 with (first | refine wl_alloc rfl rfl ?_ | refine wl_store rfl _ _ rfl w1 zeroF _ rfl rfl rfl ?_)
  try simp only [Act.put, List.setIfInBounds_toArray, List.set_cons_zero, List.set_cons_succ]
  generalize w1.alloc (frB f) = W2 at *
  go_wp2
  go_ret2
  exact ⟨rfl, HL.out.below⟩

set_option maxRecDepth 100000 in
set_option maxHeartbeats 4000000 in
theorem top_no (A : Option Addr) (c : Nat) (l : List Fr) (w : World) (hI : In w A c l) (hn : l.length = 0 ∨ cnt (lastO l) = 0) :
    Calls Tryd.prog 78 #[.slice A l.length c] w fun e w' => e = .returned (.tuple #[.int .i64 0, .bool false]) ∧ Below w.heap.size w w' := by
  have HLa : Hid (∃ f b, num f 2 = 0 ∧ Calls Tryd.prog 61 #[.slice A l.length c] w fun e w' => e = .returned (.tuple #[.agg (cellsF f).toArray, .bool b]) ∧ Below w.heap.size w w') := Lib.hid (by
    by_cases h0 : l.length = 0
    · rw [h0]; exact ⟨zeroF, false, rfl, last_none A c w⟩
    · exact ⟨lastO l, true, (show cnt (lastO l) = 0 by omega), last_odd A c l w hI h0⟩)
  obtain ⟨f, b, hcn, hLa⟩ := HLa.out
  have HLb := Lib.hid hLa
  clear hLa HLa hI hn
  generalize l.length = L at *
  go_enter Tryd.func78, Tryd.ntmps78
  go_wp2_with fail
  refine HLb.out.mono ?_
  rintro _ w1 ⟨rfl, hb1⟩
  have hL := lf_new hb1 f
  have HL := Lib.hid hL
  have x2 := cell_block hL.block (k := 2) (by omega)
  rw [hcn] at x2
  clear hL hb1 HLb hcn
  go_upto_region 2 with (first | refine wl_alloc rfl rfl ?_ | refine wl_store rfl _ _ rfl w1 zeroF _ rfl rfl rfl ?_)
  try simp only [Act.put, List.setIfInBounds_toArray, List.set_cons_zero, List.set_cons_succ]
  generalize w1.alloc (frB f) = W2 at *
  go_wp2
  go_ret2
  exact ⟨rfl, HL.out.below⟩

set_option maxRecDepth 100000 in
set_option maxHeartbeats 4000000 in
theorem ret_odd (A : Option Addr) (c : Nat) (l : List Fr) (w : World) (hI : In w A c l) :
    Calls Tryd.prog 60 #[.slice A l.length c] w fun e w' => Below w.heap.size w w' ∧ match retO l with
      | none => ∃ z, e = .returned (.tuple #[.slice none 0 0, .int .i64 z, .bool false])
      | some (x, v) => ∃ A c, e = .returned (.tuple #[.slice A x.length c, .int .i64 v, .bool true]) ∧ In w' A c x := by
  obtain ⟨r, hr⟩ : ∃ r, r = retO l := ⟨_, rfl⟩
  rw [← hr]
  unfold retO at hr
  by_cases hn : l.length = 0 ∨ cnt (lastO l) = 0
  · rw [if_pos hn] at hr
    obtain rfl : r = none := hr
    have HT := Lib.hid (top_no A c l w hI hn)
    clear hI hn
    generalize l.length = L at *
    go_enter Tryd.func60, Tryd.ntmps60
    go_wp2_with fail
    refine HT.out.mono ?_
    rintro _ w1 ⟨rfl, hb1⟩
    have HB1 := Lib.hid hb1
    clear hb1
    go_wp2
    go_ret3
    exact ⟨HB1.out, _, rfl⟩
  have h0 : l.length ≠ 0 := fun e => hn (.inl e)
  obtain ⟨g1, g2, g3⟩ := last_good hI h0
  obtain ⟨n, hc⟩ : ∃ n : Nat, cnt (lastO l) = (n : Int) + 1 := ⟨(cnt (lastO l) - 1).toNat, by
    have : ¬ cnt (lastO l) = 0 := fun e => hn (.inr e)
    omega⟩
  rw [if_neg hn] at hr
  obtain ⟨b, off, m, rfl, hm, hb, -, -⟩ := hI.top h0
  have HT : Hid (Calls Tryd.prog 78 #[.slice (some ⟨b, off, none⟩) l.length c] w fun e w' => e = .returned (.tuple #[.int .i64 (topO l), .bool true]) ∧ Below w.heap.size w w') := Lib.hid (top_yes (some ⟨b, off, none⟩) c l w hI h0 (fun e => hn (.inr e)))
  have hlen := hI.len
  have hcap := hI.cap
  have HIt := Lib.hid (hI.take m (by omega))
  have HLt : Hid ((l.take m).length = m) := Lib.hid (by rw [List.length_take]; omega)
  rw [show l.length - 1 = m by omega] at hr
  rw [hm] at hr hlen hcap HT ⊢
  have k0 : (0 : Int) ≤ (m : Int) := by omega
  have k1 : (m : Int) ≤ (c : Int) := by omega
  have hw0 : IntKind.i64.wrap ((m : Int) + 1 - 1) = (m : Int) := by rw [IntKind.wrap_i64]; omega
  have hw1 : IntKind.i64.wrap (m : Int) = (m : Int) := by rw [IntKind.wrap_i64]; omega
  generalize topO l = v at *
  clear hI h0 hn g1 g2 g3 hc hb
  by_cases h1 : m = 0
  · subst h1
    rw [if_pos rfl] at hr
    obtain rfl : r = some ([], v) := hr
    have q1 : (((0 + 1 : Nat) : Int) == 1) = true := by decide
    go_enter Tryd.func60, Tryd.ntmps60
    go_wp2_with fail
    refine HT.out.mono ?_
    rintro _ w1 ⟨rfl, hb1⟩
    have HB1 := Lib.hid hb1
    clear hb1
    go_wp2
    go_ret3
    exact ⟨HB1.out, none, 0, rfl, in_nil _⟩
  · rw [if_neg (by omega)] at hr
    have q1 : (((m + 1 : Nat) : Int) == 1) = false := by simp; omega
    have HQ := fun W (h : Below w.heap.size w W) => Lib.hid (push_odd (some ⟨b, off, none⟩) c (l.take m) v W (HIt.out.next h))
    rw [HLt.out] at HQ
    cases hq : pushO (l.take m) v with
    | none =>
      rw [hq] at hr HQ
      obtain rfl : r = none := hr
      clear hq
      go_enter Tryd.func60, Tryd.ntmps60
      go_wp2_with fail
      refine HT.out.mono ?_
      rintro _ w1 ⟨rfl, hb1⟩
      have HB1 := Lib.hid hb1
      have HQ1 := HQ w1 hb1
      clear hb1 HQ
      go_wp2_with fail
      refine HQ1.out.mono ?_
      rintro _ w2 ⟨hb2, rfl⟩
      have HB2 := Lib.hid (HB1.out.trans (hb2.mono HB1.out.size))
      clear hb2
      go_wp2
      go_ret3
      exact ⟨HB2.out, _, rfl⟩
    | some y =>
      rw [hq] at hr HQ
      obtain rfl : r = some (y, v) := hr
      clear hq
      go_enter Tryd.func60, Tryd.ntmps60
      go_wp2_with fail
      refine HT.out.mono ?_
      rintro _ w1 ⟨rfl, hb1⟩
      have HB1 := Lib.hid hb1
      have HQ1 := HQ w1 hb1
      clear hb1 HQ
      go_wp2_with fail
      refine HQ1.out.mono ?_
      rintro _ w2 ⟨hb2, A2, c2, rfl, hI2⟩
      have HB2 := Lib.hid (HB1.out.trans (hb2.mono HB1.out.size))
      have HI2 := Lib.hid hI2
      clear hb2 hI2
      go_wp2
      go_ret3
      exact ⟨HB2.out, A2, c2, rfl, HI2.out⟩

end Go.Proofs.YtjbcmedljgafkaaDoor.frames
