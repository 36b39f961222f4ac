/-
  The program's own frames with a call, behind a return; all of the program's calls are what the statement asks of them. At most eight frames, each of twenty-seven numbers.
-/
import Derived.Test.YtphcffbbdpbkfaaFSame
import Derived.Test.YtphcffbbdpbkfaaFRefRet
namespace Go.Proofs.Ytphcffbbdpbkfaa.frames
open Go.RowKit Go.ChangeShapes
open Go.Proofs.Ytphcffbbdpbkfaa.nums (NAt)
set_option linter.unusedVariables false
set_option linter.unusedSimpArgs false

set_option maxRecDepth 100000 in
set_option maxHeartbeats 4000000 in
theorem call_any (A : Option Addr) (c : Nat) (l : List Fr) (v k : Int) (w : World) (hI : In w A c l) (hg : Good l) :
    Calls Try.prog 9 #[.slice A l.length c, .int .i64 v, .int .i64 k] w (YesPost (callF l v k) w) := by
  have HP := Lib.hid (pop_any A c l k w hI hg)
  have HLl := Lib.hid hI.len
  unfold PopPost at HP
  obtain ⟨r, hr⟩ : ∃ r, r = callF l v k := ⟨_, rfl⟩
  rw [← hr]
  unfold callF at hr
  unfold YesPost
  by_cases h8 : 8 < k
  · have hn : r = none := by
      rw [hr]
      split
      · rfl
      · rw [if_pos (.inl h8)]
    subst hn
    have q1 : decide (k > 8) = true := decide_eq_true h8
    clear hr HP hI h8
    go_enter Try.func9, Try.ntmps9
    go_wp2
    go_ret2
    exact ⟨Below.refl _ _, _, rfl⟩
  have q1 : decide (k > 8) = false := decide_eq_false h8
  by_cases h7 : 7 < l.length
  · have hn : r = none := by
      rw [hr]
      split
      · rfl
      · rw [if_pos (.inr h7)]
    subst hn
    have q2 : decide ((l.length : Int) ≥ 8) = true := decide_eq_true (by omega)
    have q3 : decide (8 ≤ l.length) = true := decide_eq_true (by omega)
    clear hr HP hI h8
    go_enter Try.func9, Try.ntmps9
    go_wp2
    go_ret2
    exact ⟨Below.refl _ _, _, rfl⟩
  have q2 : decide ((l.length : Int) ≥ 8) = false := decide_eq_false (by omega)
  have q3 : decide (8 ≤ l.length) = false := decide_eq_false (by omega)
  cases hp : popF l k with
  | none =>
    rw [hp] at hr HP
    dsimp only at hr HP
    subst hr
    clear hp hI h8 h7
    go_enter Try.func9, Try.ntmps9
    go_wp2_with fail
    refine HP.out.mono ?_
    rintro _ w1 ⟨hb1, rfl⟩
    have HB1 := Lib.hid hb1
    clear hb1
    go_wp2
    go_ret2
    exact ⟨HB1.out, _, rfl⟩
  | some xa =>
    obtain ⟨x, a⟩ := xa
    obtain ⟨hx1, hx2, hx3, hx4, hx5, hx6⟩ := pop_good hg hp
    rw [hp] at hr HP
    dsimp only at hr HP
    rw [if_neg (by rintro (h | h) <;> omega)] at hr
    subst hr
    have HXl : Hid (x.length ≤ 8) := Lib.hid hx1.1
    have HXa := Lib.hid (fun f hf => (hx1.2 f hf).1)
    have HAl : Hid (a.length ≤ 1000) := Lib.hid (by omega)
    clear hp hI h8 h7 hx1 hx2 hx3 hx4 hx5 hx6 hg
    go_enter Try.func9, Try.ntmps9
    go_wp2_with fail
    refine HP.out.mono ?_
    rintro _ w1 ⟨hb1, A1, c1, B1, d1, rfl, hI1, hN1, hO1⟩
    have HB1 := Lib.hid hb1
    have HO1 := Lib.hid hO1
    have HNw := Lib.hid (new_any v B1 d1 a HAl.out w1 hN1)
    clear hb1 hI1 hN1 hO1 HP
    go_wp2_with fail
    refine HNw.out.mono ?_
    rintro _ w2 ⟨A2, c2, rfl, hF2, hb2, hc2, hn2⟩
    have HO2 := Lib.hid (HO1.out.next hb2)
    have HB2 := Lib.hid (HB1.out.trans (hb2.mono HB1.out.size))
    have HF2 := Lib.hid hF2
    have HA2 := Lib.hid hn2
    clear hF2 hb2 hc2 hn2 HNw HO1
    go_wp2_with (at_builtin; refine wpList_appF (by rfl) (.tmp 27) (.tmp 30) (by rfl) w.heap.size 1 c2 (.slice A1 x.length c1) A2 x [newF v a] (by rfl) HO2.out (by rfl) rfl (fun h => absurd h HA2.out) HF2.out (by have := HXl.out; simp; omega) HB2.out.size ?_)
    intro v3 w3 hO3 hg3
    have HB3 := Lib.hid (HB2.out.grown hg3 HB2.out.size (fun k e => (HO2.out.lt e).1))
    obtain ⟨A3, c3, rfl⟩ := hO3.slice
    have HI3 := Lib.hid (hO3.ins (by have := HXl.out; simp; omega) (fun f hf => by
      rcases List.mem_append.1 hf with h | h
      · exact HXa.out f h
      · rw [List.mem_singleton.1 h]; exact (new_good _ _).1))
    clear hO3 hg3 HO2
    go_wp2_with fail
    go_ret2
    exact ⟨HB3.out, A3, c3, by simp, HI3.out⟩

set_option maxRecDepth 100000 in
set_option maxHeartbeats 4000000 in
theorem top_none (A : Option Addr) (c : Nat) (l : List Fr) (w : World) (hI : In w A c l) (hg : Good l) (hn : l.length = 0 ∨ cnt (topF l) = 0) :
    Calls Try.prog 23 #[.slice A l.length c] w fun e w' => e = .returned (.tuple #[.int .i64 0, .bool false]) ∧ Below w.heap.size w w' := by
  have HLa : Hid (∃ f b, num f 2 = 0 ∧ Calls Try.prog 18 #[.slice A l.length c] w fun e w' => e = .returned (.tuple #[.agg (cellsF f).toArray, .bool b]) ∧ Below w.heap.size w w') := Lib.hid (by
    by_cases h0 : l.length = 0
    · rw [h0]; exact ⟨zeroF, false, rfl, last_none A c w⟩
    · exact ⟨topF l, true, by have : cnt (topF l) = 0 := by omega
                              exact this, last_any A c l w hI h0 (hg.2 _ (top_mem h0))⟩)
  obtain ⟨f, b, hcn, hLa⟩ := HLa.out
  have HLb := Lib.hid hLa
  clear hLa HLa hI hg hn
  generalize l.length = L at *
  go_enter Try.func23, Try.ntmps23
  go_wp2_with fail
  refine HLb.out.mono ?_
  rintro _ w1 ⟨rfl, hb1⟩
  have hL := lf_new hb1 f
  have HL := Lib.hid hL
  have x2 := cell_block hL.block (k := 2) (by omega)
  rw [hcn] at x2
  clear hL hb1 HLb hcn
  go_upto_region 2 with (first | refine wl_alloc rfl rfl ?_ | refine wl_store rfl _ _ rfl w1 zeroF _ rfl rfl rfl ?_)
  try simp only [Act.put, List.setIfInBounds_toArray, List.set_cons_zero, List.set_cons_succ]
  generalize w1.alloc (frB f) = W2 at *
  go_wp2
  go_ret2
  exact ⟨rfl, HL.out.below⟩

theorem ret_none {l : List Fr} (hn : l.length = 0 ∨ cnt (topF l) = 0) : retF l = none := by
  have hp : popF l 1 = none := by
    unfold popF
    rw [if_pos (by omega)]
  unfold retF
  rw [hp]
theorem ret_some {l : List Fr} (hg : Good l) (h0 : l.length ≠ 0) {n : Nat} (hn : cnt (topF l) = (n : Int) + 1) : retF l = if l.length = 1 then some ([], num (topF l) (11 + n)) else (pushF (l.take (l.length - 1)) (num (topF l) (11 + n))).map fun x => (x, num (topF l) (11 + n)) := by
  obtain ⟨g1, g2, g3⟩ := hg.2 _ (top_mem h0)
  have hp : popF l 1 = some (withF l (popped (topF l) 1), [num (topF l) (11 + n)]) := by
    unfold popF
    rw [if_neg (by rintro (e | e | e | e) <;> omega)]
    unfold valsF
    rw [show (cnt (topF l) - 1).toNat = n by omega]
    rfl
  unfold retF
  rw [hp]
  dsimp only
  rw [show [num (topF l) (11 + n)].getD 0 0 = num (topF l) (11 + n) from rfl]
  split
  · rfl
  · cases pushF (l.take (l.length - 1)) (num (topF l) (11 + n)) <;> rfl

set_option maxRecDepth 100000 in
set_option maxHeartbeats 4000000 in
theorem ret_any (A : Option Addr) (c : Nat) (l : List Fr) (w : World) (hI : In w A c l) (hg : Good l) :
    Calls Try.prog 10 #[.slice A l.length c] w (YesPost3 ((retF l).map (·.1)) w) := by
  obtain ⟨r, hr⟩ : ∃ r, r = (retF l).map (·.1) := ⟨_, rfl⟩
  rw [← hr]
  unfold YesPost3
  by_cases hn : l.length = 0 ∨ cnt (topF l) = 0
  · rw [ret_none hn] at hr
    obtain rfl : r = none := hr
    have HT := Lib.hid (top_none A c l w hI hg hn)
    clear hI hg hn
    generalize l.length = L at *
    go_enter Try.func10, Try.ntmps10
    go_wp2_with fail
    refine HT.out.mono ?_
    rintro _ w1 ⟨rfl, hb1⟩
    have HB1 := Lib.hid hb1
    clear hb1
    go_wp2
    go_ret3
    exact ⟨HB1.out, _, _, rfl⟩
  have h0 : l.length ≠ 0 := fun e => hn (.inl e)
  obtain ⟨g1, g2, g3⟩ := hg.2 _ (top_mem h0)
  obtain ⟨n, hc⟩ : ∃ n : Nat, cnt (topF l) = (n : Int) + 1 := ⟨(cnt (topF l) - 1).toNat, by
    have : ¬ cnt (topF l) = 0 := fun e => hn (.inr e)
    omega⟩
  rw [ret_some hg h0 hc] at hr
  obtain ⟨b, off, m, rfl, hm, hb, -, -⟩ := hI.top h0
  have hl := top_last hm
  have HT : Hid (Calls Try.prog 23 #[.slice (some ⟨b, off, none⟩) l.length c] w fun e w' => e = .returned (.tuple #[.int .i64 (num (topF l) (11 + n)), .bool true]) ∧ Below w.heap.size w w') := Lib.hid (by
    have h1 := top_any (some ⟨b, off, none⟩) c (l.take m) (topF l) (num (topF l) (11 + n)) w (by rw [← hl]; exact hI) ⟨g1, g2, g3⟩ (by omega) (by rw [show (cnt (topF l) - 1).toNat = n by omega])
    rw [← hl] at h1
    exact h1)
  have hlen := hI.len
  have hcap := hI.cap
  have HIt := Lib.hid (hI.take m (by omega))
  have HGt := Lib.hid (take_good hg m)
  have HLt : Hid ((l.take m).length = m) := Lib.hid (by rw [List.length_take]; omega)
  rw [show l.length - 1 = m by omega] at hr
  rw [hm] at hr hlen hcap HT ⊢
  have k0 : (0 : Int) ≤ (m : Int) := by omega
  have k1 : (m : Int) ≤ (c : Int) := by omega
  have hw0 : IntKind.i64.wrap ((m : Int) + 1 - 1) = (m : Int) := by rw [IntKind.wrap_i64]; omega
  have hw1 : IntKind.i64.wrap (m : Int) = (m : Int) := by rw [IntKind.wrap_i64]; omega
  generalize num (topF l) (11 + n) = v at *
  clear hI h0 hn hg g1 g2 g3 hc hl hb
  by_cases h1 : m = 0
  · subst h1
    rw [if_pos rfl] at hr
    obtain rfl : r = some [] := hr
    have q1 : (((0 + 1 : Nat) : Int) == 1) = true := by decide
    go_enter Try.func10, Try.ntmps10
    go_wp2_with fail
    refine HT.out.mono ?_
    rintro _ w1 ⟨rfl, hb1⟩
    have HB1 := Lib.hid hb1
    clear hb1
    go_wp2
    go_ret3
    exact ⟨HB1.out, none, 0, _, rfl, in_nil _⟩
  · rw [if_neg (by omega)] at hr
    have q1 : (((m + 1 : Nat) : Int) == 1) = false := by simp; omega
    have HQ := fun W (h : Below w.heap.size w W) => Lib.hid (push_any (some ⟨b, off, none⟩) c (l.take m) v W (HIt.out.next h) HGt.out)
    rw [HLt.out] at HQ
    cases hq : pushF (l.take m) v with
    | none =>
      rw [hq] at hr HQ
      obtain rfl : r = none := hr
      clear hq
      go_enter Try.func10, Try.ntmps10
      go_wp2_with fail
      refine HT.out.mono ?_
      rintro _ w1 ⟨rfl, hb1⟩
      have HB1 := Lib.hid hb1
      have HQ1 := HQ w1 hb1
      clear hb1 HQ
      go_wp2_with fail
      refine HQ1.out.mono ?_
      rintro _ w2 ⟨hb2, rfl⟩
      have HB2 := Lib.hid (HB1.out.trans (hb2.mono HB1.out.size))
      clear hb2
      go_wp2
      go_ret3
      exact ⟨HB2.out, _, _, rfl⟩
    | some y =>
      rw [hq] at hr HQ
      obtain rfl : r = some y := hr
      clear hq
      go_enter Try.func10, Try.ntmps10
      go_wp2_with fail
      refine HT.out.mono ?_
      rintro _ w1 ⟨rfl, hb1⟩
      have HB1 := Lib.hid hb1
      have HQ1 := HQ w1 hb1
      clear hb1 HQ
      go_wp2_with fail
      refine HQ1.out.mono ?_
      rintro _ w2 ⟨hb2, A2, c2, rfl, hI2⟩
      have HB2 := Lib.hid (HB1.out.trans (hb2.mono HB1.out.size))
      have HI2 := Lib.hid hI2
      clear hb2 hI2
      go_wp2
      go_ret3
      exact ⟨HB2.out, A2, c2, _, rfl, HI2.out⟩

theorem keeps : Keeps where
  new := fun fn B c args w hB hl hc hn hf => (new_any fn B c args (by omega) w hB).mono fun e w' ⟨A, c', h1, h2, h3, h4, h5⟩ =>
    ⟨A, c', h1, ⟨h2, h4, by simp, fun f hf => by rw [List.mem_singleton.1 hf]; exact (new_good _ _).1, fun h => absurd h h5⟩, h3⟩
  push := fun A c l v w hI hg _ => (push_any A c l v w hI hg).mono fun e w' ⟨hb, h⟩ => ⟨hb, by
    cases hp : pushF l v with
    | none => rw [hp] at h; exact ⟨_, h⟩
    | some x => rw [hp] at h; exact h⟩
  pop := fun A c l k w hI hg _ => (pop_any A c l k w hI hg).mono fun e w' ⟨hb, h⟩ => ⟨hb, by
    cases hp : popF l k with
    | none => rw [hp] at h; exact ⟨_, _, h⟩
    | some x =>
      rw [hp] at h
      obtain ⟨A', c', B, d, h1, h2, _⟩ := h
      exact ⟨A', c', _, h1, h2⟩⟩
  turn := fun A c l v w hI hg _ => turn_any A c l v w hI hg
  call := fun A c l v k w hI hg _ _ => call_any A c l v k w hI hg
  ret := fun A c l w hI hg => ret_any A c l w hI hg
  store := fun A c l k v w hI hg _ _ => store_any A c l k v w hI hg
  go := fun A c l v w hI hg _ => go_any A c l v w hI hg
  top := fun A c l f v w hI hg hn hv => top_any A c l f v w hI hg hn hv
  same := fun A B c d l w hA hB hg => same_yes A B c d l w hA.at' hB.at' hA.len
end Go.Proofs.Ytphcffbbdpbkfaa.frames
