/-
  The document's own frames with another top value, with a call, behind a return, and behind any call. At most a thousand frames, each of twenty-seven numbers.
-/
import Derived.Test.YtphcffbbdpbkfaaFRefPop
import Derived.Test.YtphcffbbdpbkfaaFRefNew
import Derived.Deep.RegionWith
namespace Go.Proofs.Ytphcffbbdpbkfaa.frames
open Go.RowKit Go.ChangeShapes
open Go.Proofs.Ytphcffbbdpbkfaa.nums (NAt)
set_option linter.unusedVariables false
set_option linter.unusedSimpArgs false

theorem in_nil (w : World) : In w none 0 [] := ⟨FsAt.nil _ _, Nat.zero_le _, Nat.zero_le _, (by intro f hf; cases hf), fun _ => ⟨rfl, rfl⟩⟩
theorem pushed_len {f : Fr} (h : f.length = 27) (v : Int) : (pushed f v).length = 27 := by unfold pushed; rw [List.length_set, List.length_set]; exact h
theorem In.take {w : World} {A : Option Addr} {c : Nat} {l : List Fr} (h : In w A c l) (n : Nat) (hn : n ≤ l.length) : In w A c (l.take n) :=
  ⟨h.at'.take n, by rw [List.length_take]; have := h.cap; omega, by rw [List.length_take]; have := h.len; omega, fun f hf => h.all f (mem_take_any hf), fun e => by
    obtain ⟨h1, h2⟩ := h.nil e
    subst h1
    exact ⟨List.take_nil, h2⟩⟩

set_option maxRecDepth 100000 in
set_option maxHeartbeats 4000000 in
theorem refTurn_any (A : Option Addr) (c : Nat) (l : List Fr) (v : Int) (w : World) (hI : In w A c l) :
    Calls Try.prog 27 #[.slice A l.length c, .int .i64 v] w (FrsPost (turnF l v) w) := by
  have HP := Lib.hid (refPop_any A c l 1 w hI)
  have HI := Lib.hid hI
  unfold PopPost at HP
  obtain ⟨r, hr⟩ : ∃ r, r = turnF l v := ⟨_, rfl⟩
  rw [← hr]
  unfold turnF at hr
  unfold FrsPost
  cases hp : popF l 1 with
  | none =>
    rw [hp] at hr HP
    dsimp only at hr HP
    rw [hr]
    clear hr hp hI
    go_enter Try.func27, Try.ntmps27
    go_wp2_with fail
    refine HP.out.mono ?_
    rintro _ w1 ⟨hb1, rfl⟩
    have HB1 := Lib.hid hb1
    have HI1 := Lib.hid (HI.out.next hb1)
    clear hb1
    go_wp2
    go_ret
    exact ⟨A, c, rfl, HI1.out, HB1.out⟩
  | some xa =>
    obtain ⟨x, a⟩ := xa
    rw [hp] at hr HP
    dsimp only at hr HP
    clear hp hI
    go_enter Try.func27, Try.ntmps27
    go_wp2_with fail
    refine HP.out.mono ?_
    rintro _ w1 ⟨hb1, A1, c1, B1, d1, rfl, hI1, hN1, hO1⟩
    have HB1 := Lib.hid hb1
    have HQ := Lib.hid (refPush_any A1 c1 x v w1 hI1)
    unfold ListPost at HQ
    clear hb1 hI1 hN1 hO1
    cases hq : pushF x v with
    | none =>
      rw [hq] at hr HQ
      dsimp only at hr HQ
      obtain rfl : r = [] := hr
      clear hq
      go_wp2_with fail
      refine HQ.out.mono ?_
      rintro _ w2 ⟨hb2, rfl⟩
      have HB2 := Lib.hid (HB1.out.trans (hb2.mono HB1.out.size))
      clear hb2
      go_wp2
      go_ret
      exact ⟨none, 0, rfl, in_nil _, HB2.out⟩
    | some y =>
      rw [hq] at hr HQ
      dsimp only at hr HQ
      obtain rfl : r = y := hr
      clear hq
      go_wp2_with fail
      refine HQ.out.mono ?_
      rintro _ w2 ⟨hb2, A2, c2, rfl, hI2⟩
      have HB2 := Lib.hid (HB1.out.trans (hb2.mono HB1.out.size))
      have HI2 := Lib.hid hI2
      clear hb2 hI2
      go_wp2
      go_ret
      exact ⟨A2, c2, rfl, HI2.out, HB2.out⟩

set_option maxRecDepth 100000 in
set_option maxHeartbeats 4000000 in
theorem refCall_any (A : Option Addr) (c : Nat) (l : List Fr) (fn n : Int) (w : World) (hI : In w A c l) (hl : l.length ≤ 900) :
    Calls Try.prog 28 #[.slice A l.length c, .int .i64 fn, .int .i64 n] w (ListPost (callF l fn n) w) := by
  have HP := Lib.hid (refPop_any A c l n w hI)
  unfold PopPost at HP
  obtain ⟨r, hr⟩ : ∃ r, r = callF l fn n := ⟨_, rfl⟩
  rw [← hr]
  unfold callF at hr
  unfold ListPost
  cases hp : popF l n with
  | none =>
    rw [hp] at hr HP
    dsimp only at hr HP
    subst hr
    clear hp hI
    go_enter Try.func28, Try.ntmps28
    go_wp2_with fail
    refine HP.out.mono ?_
    rintro _ w1 ⟨hb1, rfl⟩
    have HB1 := Lib.hid hb1
    clear hb1
    go_wp2
    go_ret2
    exact ⟨HB1.out, rfl⟩
  | some xa =>
    obtain ⟨x, a⟩ := xa
    have hxl : x.length = l.length ∧ (n ≤ 8 → a.length ≤ 1000) := by
      unfold popF at hp
      split at hp
      · cases hp
      · rename_i hc
        have h1 := Option.some.inj hp
        have hx1 := congrArg Prod.fst h1
        have ha1 := congrArg Prod.snd h1
        dsimp only at hx1 ha1
        subst hx1 ha1
        refine ⟨with_length (fun e => hc (.inl e)), fun h8 => ?_⟩
        unfold valsF
        rw [List.length_map, List.length_range]
        omega
    rw [hp] at hr HP
    dsimp only at hr HP
    have HXL := Lib.hid hxl
    clear hp hI hxl
    go_enter Try.func28, Try.ntmps28
    go_wp2_with fail
    refine HP.out.mono ?_
    rintro _ w1 ⟨hb1, A1, c1, B1, d1, rfl, hI1, hN1, hO1⟩
    have HB1 := Lib.hid hb1
    by_cases h8 : 8 < n
    · rw [if_pos (.inl h8)] at hr
      subst hr
      have q1 : decide (n > 8) = true := decide_eq_true h8
      clear hb1 hI1 hN1 hO1
      go_wp2
      go_ret2
      exact ⟨HB1.out, rfl⟩
    have q1 : decide (n > 8) = false := decide_eq_false h8
    by_cases h7 : 7 < l.length
    · rw [if_pos (.inr h7)] at hr
      subst hr
      have q2 : decide ((l.length : Int) > 7) = true := decide_eq_true (by omega)
      clear hb1 hI1 hN1 hO1
      go_wp2
      go_ret2
      exact ⟨HB1.out, rfl⟩
    have q2 : decide ((l.length : Int) > 7) = false := decide_eq_false (by omega)
    rw [if_neg (fun h => by rcases h with h | h; exact h8 h; exact h7 h)] at hr
    subst hr
    have HN := Lib.hid (refNew_any fn B1 d1 a (HXL.out.2 (by omega)) w1 hN1)
    have HO1 := Lib.hid hO1
    have HI1 := Lib.hid hI1
    clear hb1 hI1 hN1 hO1
    go_upto_region 4 with fail
    go_wp2_with fail
    refine HN.out.mono ?_
    rintro _ w2 ⟨A2, c2, rfl, hF2, hb2⟩
    have HO2 := Lib.hid (HO1.out.next hb2)
    have HB2 := Lib.hid (HB1.out.trans (hb2.mono HB1.out.size))
    have HF2 := Lib.hid hF2
    have hA2 : A2 ≠ none := fun e => by
      obtain ⟨b, off, h4, _⟩ := hF2 0 (by simp)
      rw [e] at h4
      cases h4
    have HA2 := Lib.hid hA2
    clear hF2 hb2 hA2
    go_wp2_with (first | (at_builtin; refine wpList_appF rfl _ _ rfl w.heap.size 1 c2 (.slice A1 x.length c1) A2 x [newF fn a] rfl HO2.out rfl rfl (fun h => absurd h HA2.out) HF2.out (by have := HXL.out.1; simp; omega) (by have := HB2.out.size; omega) ?_; intro v3 w3 hv3 hg3))
    obtain ⟨A3, c3, rfl⟩ := hv3.slice
    have HI3 : Hid (In w3 A3 c3 (x ++ [newF fn a])) := Lib.hid ⟨Own.at hv3, Own.cap hv3, by have := HXL.out.1; simp; omega, fun f hf => by
      rcases List.mem_append.1 hf with hf | hf
      · exact HI1.out.all f hf
      · rw [List.mem_singleton.1 hf]; exact (new_good fn a).1, fun e => by
        obtain ⟨b, off, h4, _⟩ := Own.at hv3 0 (by simp)
        rw [e] at h4
        cases h4⟩
    have HB3 : Hid (Below w.heap.size w w3) := Lib.hid (HB2.out.grown hg3 (HB2.out.size) (fun k e => (HO2.out.lt e).1))
    clear hv3 hg3
    go_wp2_with fail
    go_ret2
    exact ⟨HB3.out, A3, c3, by (try simp only [List.length_append, List.length_cons, List.length_nil, Nat.zero_add]); rfl, HI3.out⟩
end Go.Proofs.Ytphcffbbdpbkfaa.frames
