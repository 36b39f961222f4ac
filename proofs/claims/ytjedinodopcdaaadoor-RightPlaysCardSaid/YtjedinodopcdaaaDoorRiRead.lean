/-
  The program's rights, as they lie in memory: a struct of one map, nil or a block of its own; who has a right, all that one has, all who have one (typed over the code of 93b5486). No condition.
-/
import Derived.Test.YtjedinodopcdaaaDoorRiMap
import Derived.Test.YtjedinodopcdaaaDoorBBit
import Derived.Below
import Derived.LoopTactic
import Derived.OwnWalk
import Derived.Deep.LoopGhost
namespace Go.Proofs.YtjedinodopcdaaaDoor.rig
open Go.RowKit Go.ChangeShapes Go.WideShapes
open Go.Proofs.YtjedinodopcdaaaDoor.obj (I64 U64)
open Go.Proofs.YtjedinodopcdaaaDoor.bits (Is64 hasB wth with_any)
set_option linter.unusedVariables false
set_option linter.unusedSimpArgs false

/-- Of the blocks that were there only the struct and its map have turned. -/
structure Turn (g : Nat) (B : Option Nat) (w w' : World) : Prop where
  os : w'.os = w.os
  tape : w'.tape = w.tape
  output : w'.output = w.output
  size : w.heap.size ≤ w'.heap.size
  block : ∀ k, k < w.heap.size → k ≠ g → B ≠ some k → w'.heap[k]? = w.heap[k]?
theorem Turn.of_below {g : Nat} {B : Option Nat} {w w' : World} (h : Below w.heap.size w w') : Turn g B w w' := ⟨h.os, h.tape, h.output, h.size, fun k hk _ _ => h.block k hk⟩
theorem Turn.refl (g : Nat) (B : Option Nat) (w : World) : Turn g B w w := ⟨rfl, rfl, rfl, Nat.le_refl _, fun _ _ _ _ => rfl⟩
/-- Where a map lies behind a call: where it lay, or in a block that is new. -/
def Grow (w : World) (B B' : Option Nat) : Prop := ∀ b, B' = some b → B = some b ∨ w.heap.size ≤ b
theorem Turn.trans {g : Nat} {B B' : Option Nat} {w w' w'' : World} (h : Turn g B w w') (h2 : Turn g B' w' w'') (hg : Grow w B B') : Turn g B w w'' :=
  ⟨h2.os.trans h.os, h2.tape.trans h.tape, h2.output.trans h.output, Nat.le_trans h.size h2.size, fun k hk h1 h3 => (h2.block k (Nat.lt_of_lt_of_le hk h.size) h1 (fun e => by
    rcases hg k e with h4 | h4
    · exact h3 h4
    · omega)).trans (h.block k hk h1 h3)⟩
theorem Grow.refl (w : World) (B : Option Nat) : Grow w B B := fun b h => .inl h
theorem Grow.trans {w w' : World} {B B' B'' : Option Nat} (h : Grow w B B') (h2 : Grow w' B' B'') (hs : w.heap.size ≤ w'.heap.size) : Grow w B B'' := fun b hb => by
  rcases h2 b hb with h1 | h1
  · exact h b h1
  · exact .inr (Nat.le_trans hs h1)
theorem Turn.below {A g : Nat} {B : Option Nat} {a w w' : World} (h : Below A a w) (ht : Turn g B w w') (hg : A ≤ g) (hB : ∀ b, B = some b → A ≤ b) (hs : A ≤ w.heap.size) : Below A a w' :=
  ⟨ht.os.trans h.os, ht.tape.trans h.tape, ht.output.trans h.output, Nat.le_trans h.size ht.size, fun k hk => (ht.block k (by omega) (by omega) (fun e => by have := hB k e; omega)).trans (h.block k hk)⟩

def riO (B : Option Nat) : Obj := .cells #[.map B] 40 (0, 0)
/-- Rights as the program keeps them: B is the map's block, where there is one. -/
def AtM (w : World) (g : Nat) (B : Option Nat) (l : List Nat) : Prop :=
  w.heap[g]? = some (riO B) ∧ Fine l ∧ (B = none → ∀ t, rv l t = 0) ∧ ∀ b, B = some b → MapS w b l
theorem ri_cell {w : World} {g : Nat} {B : Option Nat} (h : w.heap[g]? = some (riO B)) : w.cell? ⟨g, 0, none⟩ = some (.map B) := by
  simp [World.cell?, h, riO]
theorem AtM.lt {w : World} {g : Nat} {B : Option Nat} {l : List Nat} (h : AtM w g B l) : g < w.heap.size ∧ ∀ b, B = some b → b < w.heap.size :=
  ⟨lt_of_block h.1, fun b hb => (h.2.2.2 b hb).lt⟩
theorem AtM.same {w w' : World} {g : Nat} {B : Option Nat} {l : List Nat} (h : AtM w g B l) (hg : w'.heap[g]? = w.heap[g]?) (hb : ∀ b, B = some b → w'.heap[b]? = w.heap[b]?) : AtM w' g B l :=
  ⟨hg.trans h.1, h.2.1, h.2.2.1, fun b e => (h.2.2.2 b e).same (hb b e)⟩
theorem AtM.next {w w' : World} {g : Nat} {B : Option Nat} {l : List Nat} (h : AtM w g B l) (hb : Below w.heap.size w w') : AtM w' g B l :=
  h.same (hb.block _ h.lt.1) (fun b e => hb.block _ (h.lt.2 b e))
theorem AtM.apart {w : World} {g b : Nat} {l : List Nat} (h : AtM w g (some b) l) : g ≠ b := by
  intro e
  obtain ⟨es, c, h1⟩ := (h.2.2.2 b rfl).isMap
  rw [← e, h.1] at h1
  cases h1

set_option maxHeartbeats 1000000 in
theorem has_nil (w : World) (t o : Int) : Calls Tryd.prog 15 #[.pointer none, .int .i64 t, .int .i64 o] w fun e w' => e = .returned (.bool false) ∧ w = w' := by
  go_enter Tryd.func15, Tryd.ntmps15
  go_wp2
  go_ret
  exact ⟨rfl, rfl⟩
set_option maxHeartbeats 1000000 in
theorem has_any (w : World) (g : Nat) (B : Option Nat) (l : List Nat) (t o : Int) (ha : AtM w g B l) (ht : I64 t) (ho : I64 o) :
    Calls Tryd.prog 15 #[.pointer (some ⟨g, 0, none⟩), .int .i64 t, .int .i64 o] w fun e w' => e = .returned (.bool (hasB (rv l t) o)) ∧ Below w.heap.size w w' := by
  have hc := ri_cell ha.1
  have hkey := key_is ht ho
  unfold keyV at hkey
  cases B with
  | none =>
    have hn := Maps.look_nil (w := w) true kLaw Tryd.underlying38 (unitZ w) hkey
    rw [ha.2.2.1 rfl t, hasB_zero]
    clear ha ht ho hkey
    go_enter Tryd.func15, Tryd.ntmps15
    go_wp2
    go_ret
    exact ⟨rfl, (Below.refl _ w).alloc (Nat.le_refl _) _⟩
  | some b =>
    obtain ⟨D, hown, hD⟩ := ha.2.2.2 b rfl
    rw [← hD t o ht ho]
    clear ha ht ho hD
    go_enter Tryd.func15, Tryd.ntmps15
    go_wp2_with (first
      | (at_lookup; refine wpList_lookup_own_unit _ rfl _ _ 38 rfl 54 55 kLaw Tryd.underlying38 (unitZ _) b 2048 D rfl hown _ _ rfl hkey ?_)
      | go_in)
    go_ret
    exact ⟨rfl, (Below.refl _ w).alloc (Nat.le_refl _) _⟩

theorem upto_yes {p : Nat → Bool} {k : Nat} (h : p k = true) : upto p (k + 1) = wth (upto p k) (k : Int) := by
  show (if p k then _ else _) = _
  rw [if_pos h]
theorem upto_no {p : Nat → Bool} {k : Nat} (h : p k = false) : upto p (k + 1) = upto p k := by
  show (if p k then _ else _) = _
  rw [h]
  rfl
set_option maxHeartbeats 2000000 in
theorem of_any (w : World) (g : Nat) (B : Option Nat) (l : List Nat) (t : Int) (ha : AtM w g B l) (ht : I64 t) :
    Calls Tryd.prog 11 #[.pointer (some ⟨g, 0, none⟩), .int .i64 t] w fun e w' => e = .returned (.int .u64 ((rv l t : Nat) : Int)) ∧ Below w.heap.size w w' := by
  rw [← of_upto (rv_lt ha.2.1 t)]
  obtain ⟨p, hp⟩ : ∃ p : Nat → Bool, p = fun (o : Nat) => hasB (rv l t) (o : Int) := ⟨_, rfl⟩
  have hpk : ∀ k : Nat, hasB (rv l t) (k : Int) = p k := fun k => by rw [hp]
  rw [← hp]
  have HP := Lib.hid hpk
  have HA := Lib.hid ha
  have HT := Lib.hid ht
  clear hp hpk ha ht
  go_enter Tryd.func11, Tryd.ntmps11
  go_wp2
  go_loopw [5, 7] (fun s i wr => ∃ k : Nat, k ≤ 32 ∧ s = .int .u64 ((upto p k : Nat) : Int) ∧ i = .int .i64 (k : Int) ∧ Below w.heap.size w wr) (fun _ i _ => 32 - (intOf i).toNat)
  case atStart => exact ⟨0, by omega, rfl, rfl, Below.refl _ w⟩
  case round =>
    obtain ⟨k, hk, rfl, rfl, hb⟩ := hrel
    have HB := Lib.hid hb
    have HU := Lib.hid (upto_lt p k (by omega))
    by_cases hlk : k < 32
    · have d0 : decide ((k : Int) < 32) = true := decide_eq_true (by omega)
      have hc := has_any wr g B l t (k : Int) (HA.out.next hb) HT.out (by unfold I64; omega)
      rw [HP.out] at hc
      have HK := Lib.hid hlk
      cases hb1 : p k with
      | true =>
        rw [hb1] at hc
        have HE := Lib.hid (upto_yes hb1)
        clear hb hk hlk hb1
        go_wp2_with fail
        refine hc.mono ?_
        rintro _ w1 ⟨rfl, hb1⟩
        have HB1 := Lib.hid (HB.out.trans (hb1.mono HB.out.size))
        clear hb1 hc HB
        have C := Lib.hid (with_any (upto p k) HU.out (k : Int) w1)
        go_wp2_with fail
        refine C.out.mono ?_
        rintro _ w2 ⟨rfl, rfl⟩
        clear C
        go_wp2
        have hk := HK.out
        have hw : wrap64 ((k : Int) + 1) = ((k + 1 : Nat) : Int) := by unfold wrap64; omega
        go_roundw
        case rel => exact ⟨k + 1, by omega, by rw [HE.out], by rw [hw], HB1.out⟩
        case measure => rw [hw]; simp only [intOf]; omega
      | false =>
        rw [hb1] at hc
        have HE := Lib.hid (upto_no hb1)
        clear hb hk hlk hb1
        go_wp2_with fail
        refine hc.mono ?_
        rintro _ w1 ⟨rfl, hb1⟩
        have HB1 := Lib.hid (HB.out.trans (hb1.mono HB.out.size))
        clear hb1 hc HB
        go_wp2
        have hk := HK.out
        have hw : wrap64 ((k : Int) + 1) = ((k + 1 : Nat) : Int) := by unfold wrap64; omega
        go_roundw
        case rel => exact ⟨k + 1, by omega, by rw [HE.out], by rw [hw], HB1.out⟩
        case measure => rw [hw]; simp only [intOf]; omega
    · obtain rfl : k = 32 := by omega
      clear hb hk hlk
      go_wp2
      go_ret
      exact ⟨rfl, HB.out⟩
set_option maxHeartbeats 2000000 in
theorem who_any (w : World) (g : Nat) (B : Option Nat) (l : List Nat) (o : Int) (ha : AtM w g B l) (ho : I64 o) :
    Calls Tryd.prog 13 #[.pointer (some ⟨g, 0, none⟩), .int .i64 o] w fun e w' => e = .returned (.int .u64 ((whoR l o : Nat) : Int)) ∧ Below w.heap.size w w' := by
  unfold whoR
  obtain ⟨p, hp⟩ : ∃ p : Nat → Bool, p = fun t => hasB (l.getD t 0) o := ⟨_, rfl⟩
  have hpk : ∀ k : Nat, k < 64 → hasB (rv l (k : Int)) o = p k := fun k hk => by rw [hp, rv_nat l hk]
  rw [← hp]
  have HP := Lib.hid hpk
  have HA := Lib.hid ha
  have HT := Lib.hid ho
  clear hp hpk ha ho
  go_enter Tryd.func13, Tryd.ntmps13
  go_wp2
  go_loopw [5, 7] (fun s i wr => ∃ k : Nat, k ≤ 64 ∧ s = .int .u64 ((upto p k : Nat) : Int) ∧ i = .int .i64 (k : Int) ∧ Below w.heap.size w wr) (fun _ i _ => 64 - (intOf i).toNat)
  case atStart => exact ⟨0, by omega, rfl, rfl, Below.refl _ w⟩
  case round =>
    obtain ⟨k, hk, rfl, rfl, hb⟩ := hrel
    have HB := Lib.hid hb
    have HU := Lib.hid (upto_lt p k (by omega))
    by_cases hlk : k < 64
    · have d0 : decide ((k : Int) < 64) = true := decide_eq_true (by omega)
      have hc := has_any wr g B l (k : Int) o (HA.out.next hb) (by unfold I64; omega) HT.out
      rw [HP.out k hlk] at hc
      have HK := Lib.hid hlk
      cases hb1 : p k with
      | true =>
        rw [hb1] at hc
        have HE := Lib.hid (upto_yes hb1)
        clear hb hk hlk hb1
        go_wp2_with fail
        refine hc.mono ?_
        rintro _ w1 ⟨rfl, hb1⟩
        have HB1 := Lib.hid (HB.out.trans (hb1.mono HB.out.size))
        clear hb1 hc HB
        have C := Lib.hid (with_any (upto p k) HU.out (k : Int) w1)
        go_wp2_with fail
        refine C.out.mono ?_
        rintro _ w2 ⟨rfl, rfl⟩
        clear C
        go_wp2
        have hk := HK.out
        have hw : wrap64 ((k : Int) + 1) = ((k + 1 : Nat) : Int) := by unfold wrap64; omega
        go_roundw
        case rel => exact ⟨k + 1, by omega, by rw [HE.out], by rw [hw], HB1.out⟩
        case measure => rw [hw]; simp only [intOf]; omega
      | false =>
        rw [hb1] at hc
        have HE := Lib.hid (upto_no hb1)
        clear hb hk hlk hb1
        go_wp2_with fail
        refine hc.mono ?_
        rintro _ w1 ⟨rfl, hb1⟩
        have HB1 := Lib.hid (HB.out.trans (hb1.mono HB.out.size))
        clear hb1 hc HB
        go_wp2
        have hk := HK.out
        have hw : wrap64 ((k : Int) + 1) = ((k + 1 : Nat) : Int) := by unfold wrap64; omega
        go_roundw
        case rel => exact ⟨k + 1, by omega, by rw [HE.out], by rw [hw], HB1.out⟩
        case measure => rw [hw]; simp only [intOf]; omega
    · obtain rfl : k = 64 := by omega
      clear hb hk hlk
      go_wp2
      go_ret
      exact ⟨rfl, HB.out⟩
set_option maxHeartbeats 2000000 in
theorem of_nil (w : World) (t : Int) : Calls Tryd.prog 11 #[.pointer none, .int .i64 t] w fun e w' => e = .returned (.int .u64 0) ∧ w = w' := by
  go_enter Tryd.func11, Tryd.ntmps11
  go_wp2
  go_loop [5, 7] (fun s i => ∃ k : Nat, k ≤ 32 ∧ s = .int .u64 0 ∧ i = .int .i64 (k : Int)) (fun _ i => 32 - (intOf i).toNat)
  case atStart => exact ⟨0, by omega, rfl, rfl⟩
  case round =>
    obtain ⟨k, hk, rfl, rfl⟩ := hrel
    have HC := Lib.hid (has_nil w t (k : Int))
    by_cases hlk : k < 32
    · have HK := Lib.hid hlk
      have d0 : decide ((k : Int) < 32) = true := decide_eq_true (by omega)
      clear hk hlk
      go_wp2_with fail
      refine HC.out.mono ?_
      rintro _ w1 ⟨rfl, rfl⟩
      clear HC
      go_wp2
      have hk := HK.out
      have hw : wrap64 ((k : Int) + 1) = ((k + 1 : Nat) : Int) := by unfold wrap64; omega
      go_roundw
      case rel => exact ⟨k + 1, by omega, rfl, by rw [hw]⟩
      case measure => rw [hw]; simp only [intOf]; omega
    · obtain rfl : k = 32 := by omega
      clear hk hlk HC
      go_wp2
      go_ret
      exact ⟨rfl, rfl⟩
set_option maxHeartbeats 2000000 in
theorem who_nil (w : World) (t : Int) : Calls Tryd.prog 13 #[.pointer none, .int .i64 t] w fun e w' => e = .returned (.int .u64 0) ∧ w = w' := by
  go_enter Tryd.func13, Tryd.ntmps13
  go_wp2
  go_loop [5, 7] (fun s i => ∃ k : Nat, k ≤ 64 ∧ s = .int .u64 0 ∧ i = .int .i64 (k : Int)) (fun _ i => 64 - (intOf i).toNat)
  case atStart => exact ⟨0, by omega, rfl, rfl⟩
  case round =>
    obtain ⟨k, hk, rfl, rfl⟩ := hrel
    have HC := Lib.hid (has_nil w (k : Int) t)
    by_cases hlk : k < 64
    · have HK := Lib.hid hlk
      have d0 : decide ((k : Int) < 64) = true := decide_eq_true (by omega)
      clear hk hlk
      go_wp2_with fail
      refine HC.out.mono ?_
      rintro _ w1 ⟨rfl, rfl⟩
      clear HC
      go_wp2
      have hk := HK.out
      have hw : wrap64 ((k : Int) + 1) = ((k + 1 : Nat) : Int) := by unfold wrap64; omega
      go_roundw
      case rel => exact ⟨k + 1, by omega, rfl, by rw [hw]⟩
      case measure => rw [hw]; simp only [intOf]; omega
    · obtain rfl : k = 64 := by omega
      clear hk hlk HC
      go_wp2
      go_ret
      exact ⟨rfl, rfl⟩
theorem new_any (w : World) : Calls Tryd.prog 7 #[] w fun e w' => e = .returned (.pointer (some ⟨w.heap.size, 0, none⟩)) ∧ w' = w.alloc (riO none) := by
  go_enter Tryd.func7, Tryd.ntmps7
  go_wp2
  go_ret
  exact ⟨rfl, rfl⟩
theorem at_zero (w : World) : AtM (w.alloc (riO none)) w.heap.size none zerosR := ⟨heap_alloc_new w _, zero_fine, fun _ t => rv_zeros t, fun b e => by cases e⟩
end Go.Proofs.YtjedinodopcdaaaDoor.rig
