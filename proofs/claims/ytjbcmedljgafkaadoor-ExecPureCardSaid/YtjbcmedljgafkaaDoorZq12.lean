/-
  Texts of one claim in one file: FRefStore, FRefPop, FRefNew, FRefTurn, FRefRet, FRow. Each has its own sentence, with its conditions.
-/
import Derived.Test.YtjbcmedljgafkaaDoorZq11
import Derived.Test.YtjbcmedljgafkaaDoorZq6
import Derived.Test.YtjbcmedljgafkaaDoorZq10
import Derived.Test.YtjbcmedljgafkaaDoorZq2
import Derived.Deep.RegionWith
import Derived.StillTailTactics
import Derived.BigQuiet
import Derived.Deep.QuietTactic
/-
  The document's own frames with another local, or at another place. At most a thousand frames, each of twenty-seven numbers.
-/

namespace Go.Proofs.YtjbcmedljgafkaaDoor.frames
open Go.RowKit Go.ChangeShapes
open Go.Proofs.YtjbcmedljgafkaaDoor.word (low refLow_any)
set_option linter.unusedVariables false
set_option linter.unusedSimpArgs false

/-- Frames. -/
def FrsPost (x : List Fr) (w : World) (e : Ending) (w' : World) : Prop :=
  ∃ A c, e = .returned (.slice A x.length c) ∧ In w' A c x ∧ Below w.heap.size w w'

set_option maxRecDepth 100000 in
set_option maxHeartbeats 4000000 in
theorem refStore_any (A : Option Addr) (c : Nat) (l : List Fr) (k v : Int) (w : World) (hI : In w A c l) :
    Calls Tryd.prog 28 #[.slice A l.length c, .int .i64 k, .int .i64 v] w (FrsPost (storeF l k v) w) := by
  obtain ⟨r, hr⟩ : ∃ r, r = storeF l k v := ⟨_, rfl⟩
  rw [← hr]
  unfold storeF at hr
  unfold FrsPost
  have HI := Lib.hid hI
  by_cases h0 : l.length = 0
  · rw [if_pos (.inl h0)] at hr
    rw [hr]
    obtain rfl := List.eq_nil_of_length_eq_zero h0
    clear h0 hI hr
    go_enter Tryd.func28, Tryd.ntmps28
    go_wp2
    go_ret
    exact ⟨A, c, rfl, HI.out, Below.refl _ _⟩
  · obtain ⟨b, off, m, rfl, hm, hb, hF, hl27⟩ := hI.top h0
    have hlen := hI.len
    have hcap := hI.cap
    have e0 : (((m + 1 : Nat) : Int) == 0) = false := by simp; omega
    have H0 := Lib.hid h0
    rw [hm] at hlen hcap
    have k0 : (0 : Int) ≤ (m : Int) := by omega
    have k1 : (m : Int) < ((m + 1 : Nat) : Int) := by omega
    have k2 : (m : Int) < (m : Int) + 1 := by omega
    have hw0 : IntKind.i64.wrap ((m : Int) + 1 - 1) = (m : Int) := by rw [IntKind.wrap_i64]; omega
    have hw1 : IntKind.i64.wrap (m : Int) = (m : Int) := by rw [IntKind.wrap_i64]; omega
    have HFc := Lib.hid hF
    by_cases h1 : k < 0
    · rw [if_pos (.inr (.inl h1))] at hr
      rw [hr]
      have q1 : decide (k < 0) = true := decide_eq_true h1
      clear hI h0 hF
      rw [hm]
      go_enter Tryd.func28, Tryd.ntmps28
      go_wp2
      go_ret
      exact ⟨_, c, rfl, HI.out, Below.refl _ _⟩
    have q1 : decide (k < 0) = false := decide_eq_false h1
    by_cases h2 : 7 < k
    · rw [if_pos (.inr (.inr h2))] at hr
      rw [hr]
      have q2 : decide (k > 7) = true := decide_eq_true h2
      clear hI h0 hF
      rw [hm]
      go_enter Tryd.func28, Tryd.ntmps28
      go_wp2
      go_ret
      exact ⟨_, c, rfl, HI.out, Below.refl _ _⟩
    have q2 : decide (k > 7) = false := decide_eq_false h2
    rw [if_neg (fun h => by rcases h with h | h | h; exact h0 h; exact h1 h; exact h2 h)] at hr
    obtain ⟨n, rfl⟩ : ∃ n : Nat, k = (n : Int) := ⟨k.toNat, by omega⟩
    rw [Int.toNat_natCast] at hr
    have n0 : (0 : Int) ≤ (n : Int) := by omega
    have n1 : (n : Int) < 8 := by omega
    subst hr
    have HW := fun W h1 h2 => Lib.hid (refWith_any (some ⟨b, off, none⟩) c l ((topF l).set (3 + n) (low v)) hI.len h0 W h1 h2)
    have HWi := fun (W : World) (A' : Option Addr) (c' : Nat) h1 h2 => Lib.hid (with_in (w := W) (A' := A') (c' := c') (f := (topF l).set (3 + n) (low v)) hI h0 (by rw [List.length_set]; exact hl27) h1 h2)
    have HLen : Hid ((withF l ((topF l).set (3 + n) (low v))).length = m + 1) := Lib.hid (by rw [with_length h0, hm])
    rw [hm] at HW
    rw [hm]
    clear hI h0 hF
    generalize hf : topF l = f at *
    go_enter Tryd.func28, Tryd.ntmps28
    go_upto_region 4 with (first | refine wl_load rfl _ rfl b (off + m * 27) rfl f HFc.out ?_ | refine wl_alloc rfl rfl ?_ | refine wl_store rfl _ _ rfl w zeroF _ rfl rfl rfl ?_)
    try simp only [Act.put, List.setIfInBounds_toArray, List.set_cons_zero, List.set_cons_succ]
    have hB1 := heap_alloc_new w (frB f)
    have hb1 : Below w.heap.size w (w.alloc (frB f)) := (Below.refl _ w).alloc (Nat.le_refl _) _
    generalize w.alloc (frB f) = W1 at *
    have xk := cell_block hB1 (k := 3 + n) (by omega)
    have fk := free_block hB1 (3 + n)
    have HP : Hid ((W1.setCell ⟨w.heap.size, 3 + n, none⟩ (.int .i64 (low v))).heap[w.heap.size]? = some (frB (f.set (3 + n) (low v))) ∧ Below w.heap.size w (W1.setCell ⟨w.heap.size, 3 + n, none⟩ (.int .i64 (low v)))) := Lib.hid ⟨set_block hB1 hl27 (by omega) _, hb1.setCell (p := ⟨w.heap.size, 3 + n, none⟩) (Nat.le_refl _) _⟩
    have HW2 := HW _ (HI.out.next HP.out.2).at' hcap
    clear hB1 hb1 HFc HW
    have HLo := fun W => Lib.hid (refLow_any v W)
    go_upto_region 5 with (first | (refine (HLo _).out.mono ?_; rintro _ _ ⟨rfl, rfl⟩))
    try simp only [Act.put, List.setIfInBounds_toArray, List.set_cons_zero, List.set_cons_succ]
    have HFp : Hid (FCells (W1.setCell ⟨w.heap.size, 3 + n, none⟩ (.int .i64 (low v))) w.heap.size 0 (f.set (3 + n) (low v))) := Lib.hid (FCells.of_block HP.out.1)
    generalize W1.setCell ⟨w.heap.size, 3 + n, none⟩ (.int .i64 (low v)) = W2 at *
    clear xk fk
    go_wp2_with (first | refine wl_load rfl _ rfl w.heap.size 0 rfl (f.set (3 + n) (low v)) HFp.out ?_)
    refine HW2.out.mono ?_
    rintro _ w5 ⟨A5, c5, rfl, hA5, hc5, hb5, hO5⟩
    have HB5 := Lib.hid (HP.out.2.trans (hb5.mono HP.out.2.size))
    have HI5 := Lib.hid (HWi w5 A5 c5 hA5 (by rw [hm]; exact hc5)).out
    clear hA5 hc5 hb5 hO5 HW2 HWi
    go_wp2_with fail
    go_ret
    exact ⟨A5, c5, by rw [HLen.out]; rfl, HI5.out, HB5.out⟩

set_option maxRecDepth 100000 in
set_option maxHeartbeats 4000000 in
theorem refGo_any (A : Option Addr) (c : Nat) (l : List Fr) (pc : Int) (w : World) (hI : In w A c l) :
    Calls Tryd.prog 23 #[.slice A l.length c, .int .i64 pc] w (FrsPost (goF l pc) w) := by
  obtain ⟨r, hr⟩ : ∃ r, r = goF l pc := ⟨_, rfl⟩
  rw [← hr]
  unfold goF at hr
  unfold FrsPost
  have HI := Lib.hid hI
  by_cases h0 : l.length = 0
  · rw [if_pos h0] at hr
    rw [hr]
    obtain rfl := List.eq_nil_of_length_eq_zero h0
    clear h0 hI hr
    go_enter Tryd.func23, Tryd.ntmps23
    go_wp2
    go_ret
    exact ⟨A, c, rfl, HI.out, Below.refl _ _⟩
  · obtain ⟨b, off, m, rfl, hm, hb, hF, hl27⟩ := hI.top h0
    have hlen := hI.len
    have hcap := hI.cap
    have e0 : (((m + 1 : Nat) : Int) == 0) = false := by simp; omega
    have H0 := Lib.hid h0
    rw [hm] at hlen hcap
    have k0 : (0 : Int) ≤ (m : Int) := by omega
    have k1 : (m : Int) < ((m + 1 : Nat) : Int) := by omega
    have k2 : (m : Int) < (m : Int) + 1 := by omega
    have hw0 : IntKind.i64.wrap ((m : Int) + 1 - 1) = (m : Int) := by rw [IntKind.wrap_i64]; omega
    have hw1 : IntKind.i64.wrap (m : Int) = (m : Int) := by rw [IntKind.wrap_i64]; omega
    have HFc := Lib.hid hF
    rw [if_neg h0] at hr
    subst hr
    have HW := fun W h1 h2 => Lib.hid (refWith_any (some ⟨b, off, none⟩) c l ((topF l).set 1 pc) hI.len h0 W h1 h2)
    have HWi := fun (W : World) (A' : Option Addr) (c' : Nat) h1 h2 => Lib.hid (with_in (w := W) (A' := A') (c' := c') (f := (topF l).set 1 pc) hI h0 (by rw [List.length_set]; exact hl27) h1 h2)
    have HLen : Hid ((withF l ((topF l).set 1 pc)).length = m + 1) := Lib.hid (by rw [with_length h0, hm])
    rw [hm] at HW
    rw [hm]
    clear hI h0 hF
    generalize hf : topF l = f at *
    go_enter Tryd.func23, Tryd.ntmps23
    go_upto_region 4 with (first | refine wl_load rfl _ rfl b (off + m * 27) rfl f HFc.out ?_ | refine wl_alloc rfl rfl ?_ | refine wl_store rfl _ _ rfl w zeroF _ rfl rfl rfl ?_)
    try simp only [Act.put, List.setIfInBounds_toArray, List.set_cons_zero, List.set_cons_succ]
    have hB1 := heap_alloc_new w (frB f)
    have hb1 : Below w.heap.size w (w.alloc (frB f)) := (Below.refl _ w).alloc (Nat.le_refl _) _
    generalize w.alloc (frB f) = W1 at *
    have xk := cell_block hB1 (k := 1) (by omega)
    have fk := free_block hB1 (1)
    have HP : Hid ((W1.setCell ⟨w.heap.size, 1, none⟩ (.int .i64 (pc))).heap[w.heap.size]? = some (frB (f.set (1) (pc))) ∧ Below w.heap.size w (W1.setCell ⟨w.heap.size, 1, none⟩ (.int .i64 (pc)))) := Lib.hid ⟨set_block hB1 hl27 (by omega) _, hb1.setCell (p := ⟨w.heap.size, 1, none⟩) (Nat.le_refl _) _⟩
    have HW2 := HW _ (HI.out.next HP.out.2).at' hcap
    clear hB1 hb1 HFc HW
    go_upto_region 5 with fail
    try simp only [Act.put, List.setIfInBounds_toArray, List.set_cons_zero, List.set_cons_succ]
    have HFp : Hid (FCells (W1.setCell ⟨w.heap.size, 1, none⟩ (.int .i64 (pc))) w.heap.size 0 (f.set (1) (pc))) := Lib.hid (FCells.of_block HP.out.1)
    generalize W1.setCell ⟨w.heap.size, 1, none⟩ (.int .i64 (pc)) = W2 at *
    clear xk fk
    go_wp2_with (first | refine wl_load rfl _ rfl w.heap.size 0 rfl (f.set (1) (pc)) HFp.out ?_)
    refine HW2.out.mono ?_
    rintro _ w5 ⟨A5, c5, rfl, hA5, hc5, hb5, hO5⟩
    have HB5 := Lib.hid (HP.out.2.trans (hb5.mono HP.out.2.size))
    have HI5 := Lib.hid (HWi w5 A5 c5 hA5 (by rw [hm]; exact hc5)).out
    clear hA5 hc5 hb5 hO5 HW2 HWi
    go_wp2_with fail
    go_ret
    exact ⟨A5, c5, by rw [HLen.out]; rfl, HI5.out, HB5.out⟩
end Go.Proofs.YtjbcmedljgafkaaDoor.frames

/-
  The document's own frames without the top values, and these. At most a thousand frames, each of twenty-seven numbers.
-/

namespace Go.Proofs.YtjbcmedljgafkaaDoor.frames
open Go.RowKit Go.ChangeShapes
open Go.Proofs.YtjbcmedljgafkaaDoor.nums (NAt OwnI wpList_appI)
set_option linter.unusedVariables false
set_option linter.unusedSimpArgs false

/-- Frames, what was taken, and true; nil, nil and false: there are none. -/
def PopPost (x : Option (List Fr × List Int)) (w : World) (e : Ending) (w' : World) : Prop :=
  Below w.heap.size w w' ∧ match x with
  | none => e = .returned (.tuple #[.slice none 0 0, .slice none 0 0, .bool false])
  | some (l, a) => ∃ A c B d, e = .returned (.tuple #[.slice A l.length c, .slice B a.length d, .bool true]) ∧ In w' A c l ∧ NAt w' B a ∧ Own w' w.heap.size (.slice A l.length c) l
/-- The same, and that what was taken lies in memory of its own. -/
def PopPostB (x : Option (List Fr × List Int)) (w : World) (e : Ending) (w' : World) : Prop :=
  Below w.heap.size w w' ∧ match x with
  | none => e = .returned (.tuple #[.slice none 0 0, .slice none 0 0, .bool false])
  | some (l, a) => ∃ A c B d, e = .returned (.tuple #[.slice A l.length c, .slice B a.length d, .bool true]) ∧ In w' A c l ∧ NAt w' B a ∧ Own w' w.heap.size (.slice A l.length c) l ∧ ∀ b off, B = some ⟨b, off, none⟩ → w.heap.size ≤ b
theorem own_ne {w : World} {base x g : Nat} {v : Value} {l : List Int} {f : Fr} (h : OwnI w base v l) (hv : v.ownBlock = some x) (hf : w.heap[g]? = some (frB f)) : x ≠ g := by
  rintro rfl
  rcases h.2 with ⟨rfl, _⟩ | ⟨g', c, cur, rfl, _, hh, _⟩
  · cases hv
  · have e : g' = x := Option.some.inj hv
    subst e
    rw [hh] at hf
    unfold frB at hf
    have := (Obj.cells.inj (Option.some.inj hf)).2.1
    exact absurd this (by decide)
theorem clear_num (f : Fr) (i : Nat) : ∀ k j, i + k ≤ j → num (clearF f i k) (11 + j) = num f (11 + j) := by
  intro k
  induction k with
  | zero => intro j _; rfl
  | succ k ih =>
    intro j hj
    unfold clearF
    rw [num_ne (by omega), ih j (by omega)]
theorem vals_next (f : Fr) (i k : Nat) : valsF f i (k + 1) = valsF f i k ++ [num f (11 + (i + k))] := by
  unfold valsF
  rw [List.range_succ, List.map_append]
  rfl

theorem int_one {W : World} {g : Nat} {x : Int} (h : W.heap[g]? = some (.cells #[.int .i64 x] 3)) : NAt W (some ⟨g, 0, none⟩) [x] := fun j hj => by
  obtain rfl : j = 0 := by simpa using hj
  refine ⟨g, 0, rfl, lt_of_block h, ?_⟩
  unfold World.cell?
  rw [h]
  rfl

set_option maxRecDepth 100000 in
set_option maxHeartbeats 8000000 in
theorem refPopB_any (A : Option Addr) (c : Nat) (l : List Fr) (k : Int) (w : World) (hI : In w A c l) :
    Calls Tryd.prog 26 #[.slice A l.length c, .int .i64 k] w (PopPostB (popF l k) w) := by
  obtain ⟨r, hr⟩ : ∃ r, r = popF l k := ⟨_, rfl⟩
  rw [← hr]
  unfold popF at hr
  unfold PopPostB
  have HI := Lib.hid hI
  by_cases h0 : l.length = 0
  · rw [if_pos (.inl h0)] at hr
    subst hr
    obtain rfl := List.eq_nil_of_length_eq_zero h0
    clear h0 hI
    go_enter Tryd.func26, Tryd.ntmps26
    go_wp2
    go_ret3
    exact ⟨Below.refl _ _, rfl⟩
  · obtain ⟨b, off, m, rfl, hm, hb, hF, hl27⟩ := hI.top h0
    have hlen := hI.len
    have hcap := hI.cap
    have e0 : (((m + 1 : Nat) : Int) == 0) = false := by simp; omega
    have H0 := Lib.hid h0
    rw [hm] at hlen hcap
    have k0 : (0 : Int) ≤ (m : Int) := by omega
    have k1 : (m : Int) < ((m + 1 : Nat) : Int) := by omega
    have k2 : (m : Int) < (m : Int) + 1 := by omega
    have hw0 : IntKind.i64.wrap ((m : Int) + 1 - 1) = (m : Int) := by rw [IntKind.wrap_i64]; omega
    have hw1 : IntKind.i64.wrap (m : Int) = (m : Int) := by rw [IntKind.wrap_i64]; omega
    have HFc := Lib.hid hF
    have xN := hF 2 (by omega)
    have hcN : num (topF l) 2 = cnt (topF l) := rfl
    rw [hcN] at xN
    have HW := fun f W h1 h2 => Lib.hid (refWith_any (some ⟨b, off, none⟩) c l f hI.len h0 W h1 h2)
    have HWi := fun (f : Fr) (W : World) (A' : Option Addr) (c' : Nat) hf h1 h2 => Lib.hid (with_in (w := W) (A' := A') (c' := c') (f := f) hI h0 hf h1 h2)
    have HLen := fun f => Lib.hid (show (withF l f).length = m + 1 by rw [with_length h0, hm])
    rw [hm] at HW
    rw [hm]
    clear hI h0 hF hcN
    generalize hf : topF l = f at *
    generalize hcn : cnt f = N at *
    go_enter Tryd.func26, Tryd.ntmps26
    by_cases h1 : k < 0
    · rw [if_pos (.inr (.inl h1))] at hr
      subst hr
      have q1 : decide (k < 0) = true := decide_eq_true h1
      go_wp2
      go_ret3
      exact ⟨Below.refl _ _, rfl⟩
    have q1 : decide (k < 0) = false := decide_eq_false h1
    by_cases h2 : N < k
    · rw [if_pos (.inr (.inr (.inl h2)))] at hr
      subst hr
      have q2 : decide (k > N) = true := decide_eq_true h2
      go_wp2
      go_ret3
      exact ⟨Below.refl _ _, rfl⟩
    have q2 : decide (k > N) = false := decide_eq_false h2
    by_cases h3 : 16 < N
    · rw [if_pos (.inr (.inr (.inr h3)))] at hr
      subst hr
      have q3 : decide (N > 16) = true := decide_eq_true h3
      go_wp2
      go_ret3
      exact ⟨Below.refl _ _, rfl⟩
    have q3 : decide (N > 16) = false := decide_eq_false h3
    rw [if_neg (fun h => by rcases h with h | h | h | h; exact H0.out h; exact h1 h; exact h2 h; exact h3 h)] at hr
    subst hr
    go_upto_region 4 with (first | refine wl_load rfl _ rfl b (off + m * 27) rfl f HFc.out ?_ | refine wl_alloc rfl rfl ?_ | refine wl_store rfl _ _ rfl (w.alloc (.cells #[] 3)) zeroF _ rfl rfl rfl ?_)
    try simp only [Act.put, List.setIfInBounds_toArray, List.set_cons_zero, List.set_cons_succ]
    clear q1 q2 q3 xN
    obtain ⟨n, rfl⟩ : ∃ n : Nat, k = (n : Int) := ⟨k.toNat, by omega⟩
    obtain ⟨p, rfl⟩ : ∃ p : Nat, N = (p : Int) + (n : Int) := ⟨(N - n).toNat, by omega⟩
    have e1 : ((p : Int) + (n : Int) - (n : Int)).toNat = p := by omega
    have HPo : Hid (popped f (n : Int) = (clearF f p n).set 2 (p : Int)) := Lib.hid (by
      unfold popped
      rw [hcn, e1, Int.toNat_natCast, show (p : Int) + (n : Int) - (n : Int) = (p : Int) by omega])
    have HE1 := Lib.hid e1
    clear e1
    try simp only [World.size_alloc]
    have hB1 := heap_alloc_new (w.alloc (.cells #[] 3)) (frB f)
    rw [World.size_alloc] at hB1
    have hV1 : OwnI ((w.alloc (.cells #[] 3)).alloc (frB f)) w.heap.size (.slice (some ⟨w.heap.size, 0, none⟩) 0 0) [] := OwnI.empty (keepA (heap_alloc_new w _) _)
    have hb1 : Below w.heap.size w ((w.alloc (.cells #[] 3)).alloc (frB f)) := ((Below.refl _ w).alloc (Nat.le_refl _) _).alloc (by rw [World.size_alloc]; omega) _
    generalize (w.alloc (.cells #[] 3)).alloc (frB f) = W1 at *
    have hp16 : p + n ≤ 16 := by omega
    have x2 : W1.cell? ⟨w.heap.size + 1, 2, none⟩ = some (.int .i64 ((p : Int) + (n : Int))) := (cell_block hB1 (k := 2) (by omega)).trans (by rw [show num f 2 = cnt f from rfl, hcn])
    have HP0 : Hid (W1.heap[w.heap.size + 1]? = some (frB (clearF f p 0)) ∧ OwnI W1 w.heap.size (.slice (some ⟨w.heap.size, 0, none⟩) 0 0) (valsF f p 0) ∧ Below w.heap.size w W1) := Lib.hid ⟨hB1, hV1, hb1⟩
    have hws : IntKind.i64.wrap ((p : Int) + (n : Int) - (n : Int)) = (p : Int) := by rw [IntKind.wrap_i64]; omega
    have hws2 : IntKind.i64.wrap (p : Int) = (p : Int) := by rw [IntKind.wrap_i64]; omega
    clear hB1 hV1 hb1 h1 h2 h3 HFc
    go_upto_region 5 with fail
    clear x2 hws
    go_loopw [8, 9] (fun v i wr => ∃ q : Nat, p ≤ q ∧ q ≤ p + n ∧ i = .int .i64 (q : Int) ∧ Hid (wr.heap[w.heap.size + 1]? = some (frB (clearF f p (q - p))) ∧ OwnI wr w.heap.size v (valsF f p (q - p)) ∧ Below w.heap.size w wr)) (fun _ i _ => p + n - (intOf i).toNat)
    case atStart => exact ⟨p, Nat.le_refl _, by omega, rfl, by rw [Nat.sub_self]; exact HP0⟩
    case round =>
      clear HP0
      obtain ⟨q, hq1, hq2, rfl, HP⟩ := hrel
      have x2 : wr.cell? ⟨w.heap.size + 1, 2, none⟩ = some (.int .i64 ((p : Int) + (n : Int))) := (cell_block HP.out.1 (k := 2) (by omega)).trans (by rw [show num (clearF f p (q - p)) 2 = cnt (clearF f p (q - p)) from rfl, (clear_keep f p (q - p)).2, hcn])
      by_cases hlt : q < p + n
      · have t0 : decide ((q : Int) < (p : Int) + (n : Int)) = true := decide_eq_true (by omega)
        have xq : wr.cell? ⟨w.heap.size + 1, 11 + q, none⟩ = some (.int .i64 (num f (11 + q))) := (cell_block HP.out.1 (k := 11 + q) (by omega)).trans (by rw [clear_num f p (q - p) q (by omega)])
        have HVn : Hid (valsF f p (q + 1 - p) = valsF f p (q - p) ++ [num f (11 + q)]) := Lib.hid (by rw [show q + 1 - p = (q - p) + 1 by omega, vals_next, show p + (q - p) = q by omega])
        have HCn : Hid (clearF f p (q + 1 - p) = (clearF f p (q - p)).set (11 + q) 0) := Lib.hid (by rw [show q + 1 - p = (q - p) + 1 by omega, show clearF f p ((q - p) + 1) = (clearF f p (q - p)).set (11 + (p + (q - p))) 0 from rfl, show p + (q - p) = q by omega])
        have HLv : Hid ((valsF f p (q - p)).length = q - p ∧ (clearF f p (q - p)).length = 27) := Lib.hid ⟨by unfold valsF; rw [List.length_map, List.length_range], by rw [(clear_keep f p (q - p)).1]; exact hl27⟩
        generalize num f (11 + q) = x at *
        generalize valsF f p (q - p) = vs at *
        generalize clearF f p (q - p) = cf at *
        have q0 : (0 : Int) ≤ (q : Int) := by omega
        have q1 : (q : Int) < 16 := by omega
        have HA1 := Lib.hid (HP.out.2.1.next ((Below.refl wr.heap.size wr).alloc (Nat.le_refl _) (.cells #[.int .i64 x] 3)))
        have HO1 := Lib.hid (heap_alloc_new wr (.cells #[.int .i64 x] 3))
        have HZ1 := Lib.hid HP.out.2.2.size
        go_wp2_with (first | (at_builtin; refine wpList_appI rfl _ _ rfl w.heap.size 1 1 u8 (some ⟨wr.heap.size, 0, none⟩) vs [x] rfl HA1.out rfl rfl (fun h => by cases h) (int_one HO1.out) (by have := HLv.out.1; simp; omega) (by have := HZ1.out; simp; omega) ?_; intro v2 w2 hv2 hg2; have hb2 := keepG (keepA HP.out.1 _) hg2 (fun e => own_ne HA1.out e.symm (keepA HP.out.1 _) rfl); have x3 := cell_block hb2 (k := 11 + q) (by omega); have f3 := free_block hb2 (11 + q)))
        go_roundw
        case rel =>
          have hw2 : Below w.heap.size w w2 := (HP.out.2.2.alloc HZ1.out _).grown hg2 (by have := HZ1.out; simp; omega) (fun k e => (HA1.out.lt e).1)
          have hk : (w2.setCell ⟨w.heap.size + 1, 11 + q, none⟩ (.int .i64 0)).heap[w.heap.size + 1]? = some (frB (cf.set (11 + q) 0)) := set_block hb2 HLv.out.2 (by omega) 0
          refine ⟨q + 1, by omega, by omega, by go_num, Lib.hid ⟨by rw [HCn.out]; exact hk, ?_, hw2.setCell (p := ⟨w.heap.size + 1, 11 + q, none⟩) (Nat.le_succ _) _⟩⟩
          rw [HVn.out]
          exact hv2.keep fun g hg => Below.heap_setCell _ _ _ _ (own_ne hv2 hg hb2)
        case measure => simp [intOf]; omega
      · obtain rfl : q = p + n := by omega
        have t0 : decide (((p + n : Nat) : Int) < (p : Int) + (n : Int)) = false := decide_eq_false (by omega)
        have hpn : p + n - p = n := by omega
        have hP := HP.out
        rw [hpn] at hP
        have f2 := free_block hP.1 2
        have hl : (clearF f p n).length = 27 := by rw [(clear_keep f p n).1]; exact hl27
        have HPf : Hid ((wr.setCell ⟨w.heap.size + 1, 2, none⟩ (.int .i64 (p : Int))).heap[w.heap.size + 1]? = some (frB (popped f (n : Int))) ∧ Below w.heap.size w (wr.setCell ⟨w.heap.size + 1, 2, none⟩ (.int .i64 (p : Int)))) := Lib.hid ⟨by rw [HPo.out]; exact set_block hP.1 hl (by omega) _, hP.2.2.setCell (p := ⟨w.heap.size + 1, 2, none⟩) (Nat.le_succ _) _⟩
        have hO : OwnI (wr.setCell ⟨w.heap.size + 1, 2, none⟩ (.int .i64 (p : Int))) w.heap.size u8 (valsF f p n) := hP.2.1.keep fun g hg => Below.heap_setCell _ _ _ _ (own_ne hP.2.1 hg hP.1)
        obtain ⟨B, d, rfl⟩ := hO.slice
        have HNt := Lib.hid hO.at
        have HBf := Lib.hid (fun b off (e : B = some ⟨b, off, none⟩) => (hO.lt (g := b) (by rw [e]; rfl)).1)
        have HW2 := HW (popped f (n : Int)) _ (HI.out.next HPf.out.2).at' hcap
        have HFp : Hid (FCells (wr.setCell ⟨w.heap.size + 1, 2, none⟩ (.int .i64 (p : Int))) (w.heap.size + 1) 0 (popped f (n : Int))) := Lib.hid (FCells.of_block HPf.out.1)
        have hw3 : IntKind.i64.wrap ((p : Int) + (n : Int) - (n : Int)) = (p : Int) := by rw [IntKind.wrap_i64]; omega
        have HPl : Hid ((popped f (n : Int)).length = 27) := Lib.hid (by rw [HPo.out, List.length_set]; exact hl)
        clear hP hO hl HP HW hpn
        go_upto_region 9 with fail
        try simp only [Act.put, List.setIfInBounds_toArray, List.set_cons_zero, List.set_cons_succ]
        generalize wr.setCell ⟨w.heap.size + 1, 2, none⟩ (.int .i64 (p : Int)) = W3 at *
        clear x2 f2
        go_wp2_with (first | refine wl_load rfl _ rfl (w.heap.size + 1) 0 rfl (popped f (n : Int)) HFp.out ?_)
        refine HW2.out.mono ?_
        rintro _ w5 ⟨A5, c5, rfl, hA5, hc5, hb5, hO5⟩
        have HB5 := Lib.hid (HPf.out.2.trans (hb5.mono HPf.out.2.size))
        have HI5 := Lib.hid (HWi (popped f (n : Int)) w5 A5 c5 HPl.out hA5 (by rw [hm]; exact hc5)).out
        have HN5 := Lib.hid (HNt.out.next hb5)
        have HOw := Lib.hid (hO5.base HPf.out.2.size)
        clear hA5 hc5 hb5 hO5 HW2 HWi
        go_wp2_with fail
        go_ret3
        refine ⟨HB5.out, A5, c5, B, ⟨d, ?_⟩, HI5.out, HN5.out, ?_, HBf.out⟩
        · rw [(HLen _).out]
          rfl
        · rw [(HLen _).out]
          exact HOw.out
theorem refPop_any (A : Option Addr) (c : Nat) (l : List Fr) (k : Int) (w : World) (hI : In w A c l) :
    Calls Tryd.prog 26 #[.slice A l.length c, .int .i64 k] w (PopPost (popF l k) w) :=
  (refPopB_any A c l k w hI).mono fun e w' ⟨hb, h⟩ => ⟨hb, by
    cases hp : popF l k with
    | none => rw [hp] at h; exact h
    | some x =>
      rw [hp] at h
      obtain ⟨A', c', B, d, h1, h2, h3, h4, _⟩ := h
      exact ⟨A', c', B, d, h1, h2, h3, h4⟩⟩
end Go.Proofs.YtjbcmedljgafkaaDoor.frames

/-
  The document's own first frame. At most a thousand arguments.
-/

namespace Go.Proofs.YtjbcmedljgafkaaDoor.frames
open Go.RowKit Go.ChangeShapes
open Go.Proofs.YtjbcmedljgafkaaDoor.nums (NAt)
open Go.Proofs.YtjbcmedljgafkaaDoor.word (low refLow_any)
set_option linter.unusedVariables false

set_option maxRecDepth 100000 in
set_option maxHeartbeats 4000000 in
theorem refNew_row (fn : Int) (B : Option Addr) (c : Nat) (args : List Int) (hl : args.length ≤ 1000) (w : World) (hB : NAt w B args) :
    Calls Tryd.prog 37 #[.int .i64 fn, .slice B args.length c] w fun e w' => ∃ A' c', e = .returned (.slice A' 1 c') ∧ FsAt w' A' [newF fn args] ∧ Below w.heap.size w w' ∧ 1 ≤ c' ∧ A' ≠ none := by
  have HB := Lib.hid hB
  have HN : Hid (newF fn args = argsF args (zeroF.set 0 fn) (min args.length 8)) := Lib.hid rfl
  have hb0 : Below w.heap.size w (w.alloc (frB (zeroF.set 0 fn))) := (Below.refl _ w).alloc (Nat.le_refl _) _
  have hx0 := heap_alloc_new w (frB (zeroF.set 0 fn))
  have H0 := Lib.hid (And.intro hx0 hb0)
  clear hB hb0 hx0
  go_enter Tryd.func37, Tryd.ntmps37
  go_upto_region 2 with (first | refine wl_build rfl _ rfl fn rfl ?_ | refine wl_alloc rfl rfl ?_ | refine wl_store rfl _ _ rfl w zeroF _ rfl rfl rfl ?_)
  generalize w.alloc (frB (zeroF.set 0 fn)) = W1 at *
  go_wp2_with fail
  go_loopw [6] (fun i wr => ∃ k : Nat, k ≤ min args.length 8 ∧ i = .int .i64 (k : Int) ∧ Hid (wr.heap[w.heap.size]? = some (frB (argsF args (zeroF.set 0 fn) k)) ∧ Below w.heap.size w wr)) (fun i _ => 8 - (intOf i).toNat)
  case atStart => exact ⟨0, Nat.zero_le _, rfl, H0⟩
  case round =>
    clear H0
    obtain ⟨k, hk, rfl, HH⟩ := hrel
    by_cases h1 : k < args.length
    · have q1 : decide ((k : Int) < (args.length : Int)) = true := decide_eq_true (by omega)
      by_cases h2 : k < 8
      · have q2 : decide ((k : Int) < 8) = true := decide_eq_true (by omega)
        obtain ⟨b, off, rfl, hb, c0'⟩ := HB.out k h1
        have c0 := (HH.out.2.cell (p := ⟨b, off + k, none⟩) hb).trans c0'
        have HLo := fun W => Lib.hid (refLow_any (args.getD k 0) W)
        have hx := cell_block HH.out.1 (k := 3 + k) (by omega)
        have hf := free_block HH.out.1 (3 + k)
        have HK : Hid (argsF args (zeroF.set 0 fn) (k + 1) = (argsF args (zeroF.set 0 fn) k).set (3 + k) (low (args.getD k 0))) := Lib.hid rfl
        have HS := Lib.hid (set_block HH.out.1 (by rw [(args_keep args (zeroF.set 0 fn) k).1, List.length_set]; rfl) (k := 3 + k) (by omega) (low (args.getD k 0)))
        have HB2 : Hid (∀ v : Value, Below w.heap.size w (wr.setCell ⟨w.heap.size, 3 + k, none⟩ v)) := Lib.hid fun v => HH.out.2.setCell (p := ⟨w.heap.size, 3 + k, none⟩) (Nat.le_refl _) v
        generalize args.getD k 0 = x at *
        have k0 : (0 : Int) ≤ (k : Int) := by omega
        have k1 : (k : Int) < (args.length : Int) := by omega
        have k2 : (k : Int) < 8 := by omega
        clear HH c0' hk
        go_wp2_with fail
        refine (HLo _).out.mono ?_
        rintro _ _ ⟨rfl, rfl⟩
        go_wp2_with fail
        go_roundw
        case rel => exact ⟨k + 1, by omega, by go_num, Lib.hid ⟨by rw [HK.out]; exact HS.out, HB2.out _⟩⟩
        case measure => simp [intOf]; omega
      · obtain rfl : k = 8 := by omega
        have q2 : decide (((8 : Nat) : Int) < 8) = false := decide_eq_false (by omega)
        have HF : Hid (FCells wr w.heap.size 0 (newF fn args)) := Lib.hid (FCells.of_block (by rw [HN.out, show min args.length 8 = 8 by omega]; exact HH.out.1))
        go_wp2_with (first | refine wl_load rfl _ rfl w.heap.size 0 rfl (newF fn args) HF.out ?_ | refine wl_row rfl _ rfl (newF fn args) rfl ?_)
        go_ret
        exact ⟨_, _, rfl, FsAt.one (heap_alloc_new wr _), HH.out.2.alloc HH.out.2.size _, Nat.le_refl 1, fun e => by cases e⟩
    · have q1 : decide ((k : Int) < (args.length : Int)) = false := decide_eq_false (by omega)
      have HF : Hid (FCells wr w.heap.size 0 (newF fn args)) := Lib.hid (FCells.of_block (by rw [HN.out, show min args.length 8 = k by omega]; exact HH.out.1))
      go_wp2_with (first | refine wl_load rfl _ rfl w.heap.size 0 rfl (newF fn args) HF.out ?_ | refine wl_row rfl _ rfl (newF fn args) rfl ?_)
      go_ret
      exact ⟨_, _, rfl, FsAt.one (heap_alloc_new wr _), HH.out.2.alloc HH.out.2.size _, Nat.le_refl 1, fun e => by cases e⟩
theorem refNew_any (fn : Int) (B : Option Addr) (c : Nat) (args : List Int) (hl : args.length ≤ 1000) (w : World) (hB : NAt w B args) :
    Calls Tryd.prog 37 #[.int .i64 fn, .slice B args.length c] w fun e w' => ∃ A' c', e = .returned (.slice A' 1 c') ∧ FsAt w' A' [newF fn args] ∧ Below w.heap.size w w' :=
  (refNew_row fn B c args hl w hB).mono fun e w' ⟨A', c', h1, h2, h3, _⟩ => ⟨A', c', h1, h2, h3⟩
end Go.Proofs.YtjbcmedljgafkaaDoor.frames

/-
  The document's own frames with another top value, with a call, behind a return, and behind any call. At most a thousand frames, each of twenty-seven numbers.
-/

namespace Go.Proofs.YtjbcmedljgafkaaDoor.frames
open Go.RowKit Go.ChangeShapes
open Go.Proofs.YtjbcmedljgafkaaDoor.nums (NAt)
set_option linter.unusedVariables false
set_option linter.unusedSimpArgs false

theorem in_nil (w : World) : In w none 0 [] := ⟨FsAt.nil _ _, Nat.zero_le _, Nat.zero_le _, (by intro f hf; cases hf), fun _ => ⟨rfl, rfl⟩⟩
theorem In.take {w : World} {A : Option Addr} {c : Nat} {l : List Fr} (h : In w A c l) (n : Nat) (hn : n ≤ l.length) : In w A c (l.take n) :=
  ⟨h.at'.take n, by rw [List.length_take]; have := h.cap; omega, by rw [List.length_take]; have := h.len; omega, fun f hf => h.all f (mem_take_any hf), fun e => by
    obtain ⟨h1, h2⟩ := h.nil e
    subst h1
    exact ⟨List.take_nil, h2⟩⟩

set_option maxRecDepth 100000 in
set_option maxHeartbeats 4000000 in
theorem refCall_any (A : Option Addr) (c : Nat) (l : List Fr) (fn n : Int) (w : World) (hI : In w A c l) (hl : l.length ≤ 900) :
    Calls Tryd.prog 24 #[.slice A l.length c, .int .i64 fn, .int .i64 n] w (ListPost (callF l fn n) w) := by
  have HP := Lib.hid (refPop_any A c l n w hI)
  unfold PopPost at HP
  obtain ⟨r, hr⟩ : ∃ r, r = callF l fn n := ⟨_, rfl⟩
  rw [← hr]
  unfold callF at hr
  unfold ListPost
  cases hp : popF l n with
  | none =>
    rw [hp] at hr HP
    dsimp only at hr HP
    subst hr
    clear hp hI
    go_enter Tryd.func24, Tryd.ntmps24
    go_wp2_with fail
    refine HP.out.mono ?_
    rintro _ w1 ⟨hb1, rfl⟩
    have HB1 := Lib.hid hb1
    clear hb1
    go_wp2
    go_ret2
    exact ⟨HB1.out, rfl⟩
  | some xa =>
    obtain ⟨x, a⟩ := xa
    have hxl : x.length = l.length ∧ (n ≤ 8 → a.length ≤ 1000) := by
      unfold popF at hp
      split at hp
      · cases hp
      · rename_i hc
        have h1 := Option.some.inj hp
        have hx1 := congrArg Prod.fst h1
        have ha1 := congrArg Prod.snd h1
        dsimp only at hx1 ha1
        subst hx1 ha1
        refine ⟨with_length (fun e => hc (.inl e)), fun h8 => ?_⟩
        unfold valsF
        rw [List.length_map, List.length_range]
        omega
    rw [hp] at hr HP
    dsimp only at hr HP
    have HXL := Lib.hid hxl
    clear hp hI hxl
    go_enter Tryd.func24, Tryd.ntmps24
    go_wp2_with fail
    refine HP.out.mono ?_
    rintro _ w1 ⟨hb1, A1, c1, B1, d1, rfl, hI1, hN1, hO1⟩
    have HB1 := Lib.hid hb1
    by_cases h8 : 8 < n
    · rw [if_pos (.inl h8)] at hr
      subst hr
      have q1 : decide (n > 8) = true := decide_eq_true h8
      clear hb1 hI1 hN1 hO1
      go_wp2
      go_ret2
      exact ⟨HB1.out, rfl⟩
    have q1 : decide (n > 8) = false := decide_eq_false h8
    by_cases h7 : 7 < l.length
    · rw [if_pos (.inr h7)] at hr
      subst hr
      have q2 : decide ((l.length : Int) > 7) = true := decide_eq_true (by omega)
      clear hb1 hI1 hN1 hO1
      go_wp2
      go_ret2
      exact ⟨HB1.out, rfl⟩
    have q2 : decide ((l.length : Int) > 7) = false := decide_eq_false (by omega)
    rw [if_neg (fun h => by rcases h with h | h; exact h8 h; exact h7 h)] at hr
    subst hr
    have HN := Lib.hid (refNew_any fn B1 d1 a (HXL.out.2 (by omega)) w1 hN1)
    have HO1 := Lib.hid hO1
    have HI1 := Lib.hid hI1
    clear hb1 hI1 hN1 hO1
    go_upto_region 4 with fail
    go_wp2_with fail
    refine HN.out.mono ?_
    rintro _ w2 ⟨A2, c2, rfl, hF2, hb2⟩
    have HO2 := Lib.hid (HO1.out.next hb2)
    have HB2 := Lib.hid (HB1.out.trans (hb2.mono HB1.out.size))
    have HF2 := Lib.hid hF2
    have hA2 : A2 ≠ none := fun e => by
      obtain ⟨b, off, h4, _⟩ := hF2 0 (by simp)
      rw [e] at h4
      cases h4
    have HA2 := Lib.hid hA2
    clear hF2 hb2 hA2
    go_wp2_with (first | (at_builtin; refine wpList_appF rfl _ _ rfl w.heap.size 1 c2 (.slice A1 x.length c1) A2 x [newF fn a] rfl HO2.out rfl rfl (fun h => absurd h HA2.out) HF2.out (by have := HXL.out.1; simp; omega) (by have := HB2.out.size; omega) ?_; intro v3 w3 hv3 hg3))
    obtain ⟨A3, c3, rfl⟩ := hv3.slice
    have HI3 : Hid (In w3 A3 c3 (x ++ [newF fn a])) := Lib.hid ⟨Own.at hv3, Own.cap hv3, by have := HXL.out.1; simp; omega, fun f hf => by
      rcases List.mem_append.1 hf with hf | hf
      · exact HI1.out.all f hf
      · rw [List.mem_singleton.1 hf]; exact (new_good fn a).1, fun e => by
        obtain ⟨b, off, h4, _⟩ := Own.at hv3 0 (by simp)
        rw [e] at h4
        cases h4⟩
    have HB3 : Hid (Below w.heap.size w w3) := Lib.hid (HB2.out.grown hg3 (HB2.out.size) (fun k e => (HO2.out.lt e).1))
    clear hv3 hg3
    go_wp2_with fail
    go_ret2
    exact ⟨HB3.out, A3, c3, by (try simp only [List.length_append, List.length_cons, List.length_nil, Nat.zero_add]); rfl, HI3.out⟩
end Go.Proofs.YtjbcmedljgafkaaDoor.frames

/-
  The document's own frames behind a return, and behind any call. At most nine hundred frames, each of twenty-seven numbers.
-/

namespace Go.Proofs.YtjbcmedljgafkaaDoor.frames
open Go.RowKit Go.ChangeShapes
open Go.Proofs.YtjbcmedljgafkaaDoor.nums (NAt)
set_option linter.unusedVariables false
set_option linter.unusedSimpArgs false

/-- Frames, what was returned, and true; nil, 0 and false: there are none. -/
def RetPost (x : Option (List Fr × Int)) (w : World) (e : Ending) (w' : World) : Prop :=
  Below w.heap.size w w' ∧ match x with
  | none => e = .returned (.tuple #[.slice none 0 0, .int .i64 0, .bool false])
  | some (l, v) => ∃ A c, e = .returned (.tuple #[.slice A l.length c, .int .i64 v, .bool true]) ∧ In w' A c l
theorem below_drewN' {B : Nat} {a w : World} (h : Below B a w) (n : Nat) : Below B a (w.drewN n) := ⟨h.os, h.tape, h.output, h.size, h.block⟩
theorem pop_one {l x : List Fr} {a : List Int} (h : popF l 1 = some (x, a)) : l.length ≠ 0 ∧ ∃ v, a = [v] := by
  unfold popF at h
  split at h
  · cases h
  · rename_i hc
    have ha := congrArg Prod.snd (Option.some.inj h)
    dsimp only at ha
    exact ⟨fun e => hc (.inl e), _, ha.symm⟩

set_option maxRecDepth 100000 in
set_option maxHeartbeats 4000000 in
theorem refRet_any (A : Option Addr) (c : Nat) (l : List Fr) (w : World) (hI : In w A c l) :
    Calls Tryd.prog 25 #[.slice A l.length c] w (RetPost (retF l) w) := by
  have HP := Lib.hid (refPop_any A c l 1 w hI)
  have HI := Lib.hid hI
  unfold PopPost at HP
  obtain ⟨r, hr⟩ : ∃ r, r = retF l := ⟨_, rfl⟩
  rw [← hr]
  unfold retF at hr
  unfold RetPost
  cases hp : popF l 1 with
  | none =>
    rw [hp] at hr HP
    dsimp only at hr HP
    subst hr
    clear hp hI
    go_enter Tryd.func25, Tryd.ntmps25
    go_wp2_with fail
    refine HP.out.mono ?_
    rintro _ w1 ⟨hb1, rfl⟩
    have HB1 := Lib.hid hb1
    clear hb1
    go_wp2
    go_ret3
    exact ⟨HB1.out, rfl⟩
  | some xa =>
    obtain ⟨x, a⟩ := xa
    obtain ⟨h0, v, rfl⟩ := pop_one hp
    have h00 := h0
    obtain ⟨b, off, m, rfl, hm, hb, -, -⟩ := hI.top h0
    have hlen := hI.len
    have hcap := hI.cap
    rw [hp] at hr HP
    dsimp only at hr HP
    rw [show [v].getD 0 0 = v from rfl] at hr
    have HT := Lib.hid (hI.take m (by omega))
    have HLt : Hid ((l.take m).length = m) := Lib.hid (by rw [List.length_take]; omega)
    rw [show l.length - 1 = m by omega] at hr
    rw [hm] at hr hlen hcap ⊢
    have k0 : (0 : Int) ≤ (m : Int) := by omega
    have k1 : (m : Int) ≤ (c : Int) := by omega
    have hw0 : IntKind.i64.wrap ((m : Int) + 1 - 1) = (m : Int) := by rw [IntKind.wrap_i64]; omega
    have hw1 : IntKind.i64.wrap (m : Int) = (m : Int) := by rw [IntKind.wrap_i64]; omega
    clear hp hI h0
    go_enter Tryd.func25, Tryd.ntmps25
    rw [hm] at HP
    go_wp2_with fail
    refine HP.out.mono ?_
    rintro _ w1 ⟨hb1, A1, c1, B1, d1, rfl, hI1, hN1, hO1⟩
    have HB1 := Lib.hid hb1
    obtain ⟨b2, o2, rfl, hb2, cv⟩ := hN1 0 (by simp)
    rw [show [v].getD 0 0 = v from rfl, Nat.add_zero] at cv
    have HT1 := Lib.hid (HT.out.next hb1)
    have HCv := Lib.hid cv
    have HNb := Lib.hid hb2
    have d0 : (0 : Int) < 1 := by decide
    clear hb1 hI1 hN1 hO1 HT hb2
    by_cases h1 : m = 0
    · subst h1
      rw [if_pos rfl] at hr
      subst hr
      have q1 : (((0 + 1 : Nat) : Int) == 1) = true := by decide
      go_upto_region 5 with fail
      go_quiet (fail)
      go_wp2
      go_ret3
      exact ⟨below_drewN' HB1.out _, none, 0, rfl, in_nil _⟩
    · rw [if_neg (by omega)] at hr
      have q1 : (((m + 1 : Nat) : Int) == 1) = false := by simp; omega
      have HQ := Lib.hid (refPush_any (some ⟨b, off, none⟩) c (l.take m) v w1.drew (HT1.out.next (Below.refl _ _).drew))
      rw [HLt.out] at HQ
      unfold ListPost at HQ
      go_upto_region 6 with fail
      cases hq : pushF (l.take m) v with
      | none =>
        rw [hq] at hr HQ
        dsimp only at hr HQ
        subst hr
        have HQ2 : Hid (Calls Tryd.prog 31 #[.slice (some ⟨b, off, none⟩) m c, .int .i64 v] w1.drew fun e w' => e = .returned (.tuple #[.slice none 0 0, .bool false]) ∧ w'.cell? ⟨b2, o2, none⟩ = some (.int .i64 v) ∧ Hid (Below w.heap.size w w')) := Lib.hid (HQ.out.mono fun e w' ⟨hb2, he⟩ => ⟨he, (hb2.cell (p := ⟨b2, o2, none⟩) HNb.out).trans HCv.out, Lib.hid (HB1.out.drew.trans (hb2.mono HB1.out.size))⟩)
        clear hq HQ
        go_region_held3 (fun w' => w'.cell? ⟨b2, o2, none⟩ = some (.int .i64 v)) (go_keep)
          (first | (go_at_call 31; refine HQ2.out.mono ?_; rintro _ w2 ⟨rfl, cv2, HB2⟩))
        all_goals
          go_wp2
          go_ret3
          exact ⟨HB2.out, rfl⟩
      | some y =>
        rw [hq] at hr HQ
        dsimp only at hr HQ
        subst hr
        have HQ2 : Hid (Calls Tryd.prog 31 #[.slice (some ⟨b, off, none⟩) m c, .int .i64 v] w1.drew fun e w' => ∃ A2 c2, e = .returned (.tuple #[.slice A2 y.length c2, .bool true]) ∧ w'.cell? ⟨b2, o2, none⟩ = some (.int .i64 v) ∧ Hid (Below w.heap.size w w' ∧ In w' A2 c2 y)) := Lib.hid (HQ.out.mono fun e w' ⟨hb2, A2, c2, he, hI2⟩ => ⟨A2, c2, he, (hb2.cell (p := ⟨b2, o2, none⟩) HNb.out).trans HCv.out, Lib.hid ⟨HB1.out.drew.trans (hb2.mono HB1.out.size), hI2⟩⟩)
        clear hq HQ
        go_region_held3 (fun w' => w'.cell? ⟨b2, o2, none⟩ = some (.int .i64 v)) (go_keep)
          (first | (go_at_call 31; refine HQ2.out.mono ?_; rintro _ w2 ⟨A2, c2, rfl, cv2, HB2⟩))
        all_goals
          clear cv
          go_upto_region 9 with fail
          go_quiet (fail)
          go_wp2
          go_ret3
          exact ⟨below_drewN' HB2.out.1 _, A2, c2, rfl, HB2.out.2.next (below_drewN' (Below.refl _ _) _)⟩
end Go.Proofs.YtjbcmedljgafkaaDoor.frames

/-
  A frame that is made, and stored, in a region that draws its order; what a row's store leaves. No condition.
-/

namespace Go.Proofs.YtjbcmedljgafkaaDoor.frames
open Go.RowKit Go.ChangeShapes
set_option linter.unusedVariables false

section
variable {ops : Array Oper} {o : Oper} {a : Act} {w : World} {Q : Exit → Act → World → Prop} {K : Act → World → Prop} {E : Prop}
theorem step_alloc (hgd : o.guard = none) (ho : o.op = .alloc 45)
    (h : K (a.put o.dst (.pointer (some ⟨w.heap.size, 0, none⟩))) (w.alloc (frB zeroF))) : if Region.wanted o (yielded ops a.tmps) = true then Oper.wp Tryd.prog o a w K Q else E := by
  have hw : Region.wanted o (yielded ops a.tmps) = true := by simp [Region.wanted, hgd]
  rw [if_pos hw]
  have hr : (execOp a.eval o).run Tryd.prog w = .ok (.value (.pointer (some ⟨w.heap.size, 0, none⟩))) (w.alloc (frB zeroF)) := by
    unfold execOp
    simp only [ho, Instr.alloc, Sem.run_bind, zeroF_run, Result.andThen_ok, newVar, newRow, Sem.run_pure, Value.cells]
    rfl
  unfold Oper.wp
  rw [hr, Oper.upon_value]
  exact h
theorem step_store (hgd : o.guard = none) (x y : Operand) (ho : o.op = .store 45 x y) (g : Nat) (f0 f : Fr) (hx : a.eval x = .pointer (some ⟨g, 0, none⟩)) (hy : a.eval y = .agg (cellsF f).toArray) (hg : w.heap[g]? = some (frB f0))
    (h : K (a.put o.dst undef) (w.setRow g (cellsF f).toArray)) : if Region.wanted o (yielded ops a.tmps) = true then Oper.wp Tryd.prog o a w K Q else E := by
  have hw : Region.wanted o (yielded ops a.tmps) = true := by simp [Region.wanted, hgd]
  rw [if_pos hw]
  exact wp_store_row _ x y ho g (cellsF f).toArray hx hy 45 (cellsF f0).toArray hg (sizeF (cellsF_size f)) (by rw [cellsF_size, cellsF_size]) (cellsF_all f) h
end
theorem row_same {w : World} {g : Nat} {f0 f : Fr} (h : w.heap[g]? = some (frB f0)) : (w.setRow g (cellsF f).toArray).heap[g]? = some (frB f) := by
  unfold frB at h ⊢
  simp [World.setRow, Array.getElem?_modify, h]
theorem row_far {w : World} {g b : Nat} (cs : Array Value) (h : b ≠ g) : (w.setRow g cs).heap[b]? = w.heap[b]? := by
  simp [World.setRow, Array.getElem?_modify, Ne.symm h]
theorem row_below {B : Nat} {a w : World} {g : Nat} (h : Below B a w) (hg : B ≤ g) (cs : Array Value) : Below B a (w.setRow g cs) :=
  ⟨h.os, h.tape, h.output, by simp only [World.setRow, Array.size_modify]; exact h.size, fun k hk => (row_far cs (by omega)).trans (h.block k hk)⟩
end Go.Proofs.YtjbcmedljgafkaaDoor.frames
