/-
  What is in any set, with a number and without it, how many, and which are the least, the next and the one with so many below it; and the set of any list: for every set, number and list, under no condition. The table of math/bits lies where its initialiser lays it: the card ties that to the program's text.
-/
import Derived.Test.YthpkndiegnhnbaaDoorBRefList
import Derived.Test.YthpkndiegnhnbaaDoorBSame
import Derived.Test.YthpkndiegnhnbaaDoorBClose
import Derived.Test.YthpkndiegnhnbaaDoorCards
import Derived.Test.YthpkndiegnhnbaaDoorTie
import Derived.SevenTiedAt
import Derived.SizedLaws
import Derived.Laws.OwnMore
namespace Go.Proofs.YthpkndiegnhnbaaDoor.bitsTells
open Go.ChangeShapes Go.WideShapes Go.ChangeAt Go.RowKit Go.Proofs.YthpkndiegnhnbaaDoor.bits
set_option linter.unusedVariables false

def zcells (l : List Int) : List Value := l.map fun n => Value.int .i64 n
theorem zcells_length (l : List Int) : (zcells l).length = l.length := by simp [zcells]
theorem zcells_one (l : List Int) : ∀ u ∈ zcells l, u.oneCell' = true := by
  intro u hu
  obtain ⟨n, _, rfl⟩ := List.mem_map.1 hu
  rfl
theorem zcells_get {l : List Int} {j : Nat} {u : Value} (h : (zcells l)[j]? = some u) : ∃ hj : j < l.length, u = .int .i64 l[j] := by
  unfold zcells at h
  rw [List.getElem?_map, Option.map_eq_some_iff] at h
  obtain ⟨n, h1, rfl⟩ := h
  obtain ⟨hj, rfl⟩ := List.getElem?_eq_some_iff.1 h1
  exact ⟨hj, rfl⟩
/-- A list of the call's own, read where it lies. -/
theorem rowAt_of {w : World} {base n g cap : Nat} {l : List Int} (h : w.ownsRow base 3 1 (.slice (some ⟨g, 0, none⟩) n cap) n (zcells l)) : RowAt w g 0 l := by
  intro j hj
  have h1 := World.ownsRow.cells h (g := g) rfl j (.int .i64 l[j]) (by unfold zcells; rw [List.getElem?_map, List.getElem?_eq_getElem hj]; rfl)
  rw [add_plain] at h1
  exact h1

section
variable {P : Program} {ops : Array Oper} {rest : List Oper} {o : Oper} {a : Act} {w : World} {Q : Exit → Act → World → Prop}
/-- An operation under a guard that holds. -/
theorem wpList_wanted (hw : Region.wanted o (yielded ops a.tmps) = true) (h : ∀ K : Act → World → Prop, (∀ a w, wpList P ops Q rest a w → K a w) → o.wp P a w K Q) : wpList P ops Q (o :: rest) a w :=
  wpList_step fun K hK => by
    rw [if_pos hw]
    exact h K hK
/-- Nothing appended to what the call owns. -/
theorem wp_append_nothing {K : Act → World → Prop} (s x : Operand) (t e : TypeId) (base size n : Nat) (i : TypeInfo) (xs : List Value) (v : Value)
    (ho : o.op = .call { callee := .builtin .append, args := #[s, x], argTypes := #[t, t] }) (ht : P.underlying t = some (.slice e)) (hi : P.info? e = some i)
    (hs : a.eval s = v) (hx : a.eval x = .slice none 0 0) (hown : w.ownsRow base e size v n xs) (h : K (a.put o.dst v) w) : o.wp P a w K Q := by
  have hr := run_append_owned_none (P := P) (w := w) base t o.type e i size ht hi v n xs hown
  unfold Oper.wp
  simp [execOp, ho, resolve, invoke, builtin, hs, hx, hr, Result.andThen]
  exact h
end

/-- No list at all. -/
theorem refOf_none (A : Option Addr) (cap : Nat) (w : World) : Calls Tryd.prog 23 #[.slice A 0 cap] w fun e w' => e = .returned (.int .u64 ((ofI 0 [] : Nat) : Int)) ∧ w = w' := by
  go_enter Tryd.func23, Tryd.ntmps23
  go_wp2
  go_loop [3, 4] (fun t i => i = .int .i64 0 ∧ t = .int .u64 0) (fun _ _ => 0)
  case atStart => exact ⟨rfl, rfl⟩
  case round =>
    obtain ⟨rfl, rfl⟩ := hrel
    go_wp2
    go_ret
    exact ⟨rfl, rfl⟩

set_option maxRecDepth 100000 in
set_option maxHeartbeats 2000000 in
theorem walk_none_neg (s : Nat) (hs : Is64 s) (n : Int) (hn : n < 0) (w : World) (hT : Tab w) (hg : 0 < w.heap.size) :
    Calls Tryd.prog 3 #[.int .u64 (s : Int), .int .i64 n, .slice none 0 0] w fun e w' => e = .returned (.bool true) ∧ Below w.heap.size w w' := by
  have HT := Lib.hid hT
  clear hT
  obtain ⟨i0, hi, hz0, hz1, hz2⟩ := info_parts infoInt
  have hlen := els_length_le s
  have HP := fun v (hv : Tab v) => Lib.hid (pick_any s hs n v hv)
  rw [if_pos hn] at HP
  have HNS := Lib.hid (next_start s (n := -1) (by omega))
  go_enter Tryd.func3, Tryd.ntmps3
  go_wp2_with fail
  refine (refList_any s hs _).mono ?_
  rintro e w1 ⟨g1, cap1, rfl, hl1, hb1, hg1⟩
  have HL1 := Lib.hid hl1
  have HB1 := Lib.hid hb1
  have HT1 := Lib.hid (HT.out.below hb1 hg)
  clear hl1 hb1 hg1
  go_wp2_with fail
  refine (has_any s hs _ _).mono ?_
  rintro e w2 ⟨rfl, rfl⟩
  go_wp2_with fail
  refine (refHas_any s hs _ _).mono ?_
  rintro e w2 ⟨rfl, rfl⟩
  go_wp2_with fail
  refine (with_any s hs _ _).mono ?_
  rintro e w2 ⟨rfl, rfl⟩
  go_wp2_with fail
  refine (refWith_any s hs _ _).mono ?_
  rintro e w2 ⟨rfl, rfl⟩
  go_wp2_with fail
  refine (without_any s hs _ _).mono ?_
  rintro e w2 ⟨rfl, rfl⟩
  go_wp2_with fail
  refine (refWithout_any s hs _ _).mono ?_
  rintro e w2 ⟨rfl, rfl⟩
  go_wp2_with fail
  refine (count_any s hs _).mono ?_
  rintro e w2 ⟨rfl, rfl⟩
  go_wp2_with fail
  refine (first_any s hs _ HT1.out).mono ?_
  rintro e w2 ⟨rfl, rfl⟩
  go_wp2_with fail
  refine (refNext_any s hs (-1) _).mono ?_
  rw [HNS.out]
  rintro e w2 ⟨rfl, hb2⟩
  have HB2 := Lib.hid (HB1.out.trans (hb2.mono HB1.out.size))
  have HL2 := Lib.hid (HL1.out.below hb2 HL1.out.lt)
  have HT2 := Lib.hid (HT.out.below HB2.out hg)
  clear hb2
  go_wp2_with fail
  refine (next_any s hs _ _ HT2.out).mono ?_
  rintro e w3 ⟨rfl, rfl⟩
  go_wp2_with fail
  refine (refNext_any s hs _ _).mono ?_
  rintro e w3 ⟨rfl, hb3⟩
  have HB3 := Lib.hid (HB2.out.trans (hb3.mono HB2.out.size))
  have HL3 := Lib.hid (HL2.out.below hb3 HL2.out.lt)
  have HT3 := Lib.hid (HT.out.below HB3.out hg)
  clear hb3
  go_wp2_with fail
  refine (HP _ HT3.out).out.mono ?_
  rintro e w4 ⟨rfl, rfl⟩
  go_wp2_with fail
  refine (list_lies s hs _ HT3.out (by have := HB3.out.size; omega)).mono ?_
  rintro e w4 ⟨rfl, hl4, hb4⟩
  have HB4 := Lib.hid (HB3.out.trans (hb4.mono HB3.out.size))
  have HL4 := Lib.hid (HL3.out.below hb4 HL3.out.lt)
  have HM4 := Lib.hid hl4
  clear hb4 hl4
  go_wp2_with fail
  refine (same_any (els s) hlen _ _ _ _ _ HM4.out HL4.out).mono ?_
  rintro e w5 ⟨rfl, hb5⟩
  have HB5 := Lib.hid (HB4.out.trans (hb5.mono HB4.out.size))
  have hz5 := HB5.out.size
  have HO5 : Hid ((w5.alloc (.cells #[] 3)).ownsRow w5.heap.size 3 1 (.slice (some ⟨w5.heap.size, 0, none⟩) 0 0) 0 []) := Lib.hid (World.ownsRow_made w5 #[] 0 (Nat.le_refl _) (by unfold maxLen; omega) rfl)
  have HB6 := Lib.hid (HB5.out.alloc HB5.out.size (.cells #[] 3))
  clear hb5
  go_wp2_with (
    at_builtin
    refine wpList_wanted rfl fun K hK => wp_append_nothing (.tmp 90) (.tmp 91) 23 3 w5.heap.size 1 0 i0 [] _ rfl Tryd.underlying23 hi rfl rfl HO5.out (hK _ _ ?_))
  go_wp2_with fail
  refine (of_any w5.heap.size 0 0 [] (by simp) _ (fun j h => by simp at h)).mono ?_
  rintro e w6 ⟨rfl, rfl⟩
  go_wp2_with fail
  refine (refOf_none _ _ _).mono ?_
  rintro e w6 ⟨rfl, rfl⟩
  go_wp2_with fail
  refine (lives_any _ (HT.out.below HB6.out hg) (by have := HB6.out.size; omega)).mono ?_
  rintro e w7 ⟨rfl, hb7⟩
  go_wp2
  go_ret
  exact ⟨rfl, HB6.out.trans (hb7.mono HB6.out.size)⟩

set_option maxRecDepth 100000 in
set_option maxHeartbeats 2000000 in
theorem walk_none_some (s : Nat) (hs : Is64 s) (k : Nat) (hk : k < (els s).length) (w : World) (hT : Tab w) (hg : 0 < w.heap.size) :
    Calls Tryd.prog 3 #[.int .u64 (s : Int), .int .i64 (k : Int), .slice none 0 0] w fun e w' => e = .returned (.bool true) ∧ Below w.heap.size w w' := by
  have HT := Lib.hid hT
  clear hT
  obtain ⟨i0, hi, hz0, hz1, hz2⟩ := info_parts infoInt
  have hlen := els_length_le s
  have HP := fun v (hv : Tab v) => Lib.hid (pick_any s hs (k : Int) v hv)
  obtain ⟨x, hx⟩ : ∃ x : Nat, (els s)[k]? = some x := ⟨_, List.getElem?_eq_getElem hk⟩
  have HX := Lib.hid hx
  rw [if_neg (by omega), Int.toNat_natCast, atI_some hx] at HP
  clear hx
  have HNS := Lib.hid (next_start s (n := -1) (by omega))
  go_enter Tryd.func3, Tryd.ntmps3
  go_wp2_with fail
  refine (refList_any s hs _).mono ?_
  rintro e w1 ⟨g1, cap1, rfl, hl1, hb1, hg1⟩
  have hc := hl1.cell HX.out
  have HL1 := Lib.hid hl1
  have HB1 := Lib.hid hb1
  have HT1 := Lib.hid (HT.out.below hb1 hg)
  clear hl1 hb1 hg1
  go_wp2_with fail
  refine (has_any s hs _ _).mono ?_
  rintro e w2 ⟨rfl, rfl⟩
  go_wp2_with fail
  refine (refHas_any s hs _ _).mono ?_
  rintro e w2 ⟨rfl, rfl⟩
  go_wp2_with fail
  refine (with_any s hs _ _).mono ?_
  rintro e w2 ⟨rfl, rfl⟩
  go_wp2_with fail
  refine (refWith_any s hs _ _).mono ?_
  rintro e w2 ⟨rfl, rfl⟩
  go_wp2_with fail
  refine (without_any s hs _ _).mono ?_
  rintro e w2 ⟨rfl, rfl⟩
  go_wp2_with fail
  refine (refWithout_any s hs _ _).mono ?_
  rintro e w2 ⟨rfl, rfl⟩
  go_wp2_with fail
  refine (count_any s hs _).mono ?_
  rintro e w2 ⟨rfl, rfl⟩
  go_wp2_with fail
  refine (first_any s hs _ HT1.out).mono ?_
  rintro e w2 ⟨rfl, rfl⟩
  go_wp2_with fail
  refine (refNext_any s hs (-1) _).mono ?_
  rw [HNS.out]
  rintro e w2 ⟨rfl, hb2⟩
  have HB2 := Lib.hid (HB1.out.trans (hb2.mono HB1.out.size))
  have HL2 := Lib.hid (HL1.out.below hb2 HL1.out.lt)
  have HT2 := Lib.hid (HT.out.below HB2.out hg)
  clear hb2
  go_wp2_with fail
  refine (next_any s hs _ _ HT2.out).mono ?_
  rintro e w3 ⟨rfl, rfl⟩
  go_wp2_with fail
  refine (refNext_any s hs _ _).mono ?_
  rintro e w3 ⟨rfl, hb3⟩
  have HB3 := Lib.hid (HB2.out.trans (hb3.mono HB2.out.size))
  have HL3 := Lib.hid (HL2.out.below hb3 HL2.out.lt)
  have HT3 := Lib.hid (HT.out.below HB3.out hg)
  clear hb3
  go_wp2_with fail
  refine (HP _ HT3.out).out.mono ?_
  rintro e w4 ⟨rfl, rfl⟩
  go_wp2_with fail
  refine (list_lies s hs _ HT3.out (by have := HB3.out.size; omega)).mono ?_
  rintro e w4 ⟨rfl, hl4, hb4⟩
  have HB4 := Lib.hid (HB3.out.trans (hb4.mono HB3.out.size))
  have HL4 := Lib.hid (HL3.out.below hb4 HL3.out.lt)
  have HM4 := Lib.hid hl4
  clear hb4 hl4
  go_wp2_with fail
  refine (same_any (els s) hlen _ _ _ _ _ HM4.out HL4.out).mono ?_
  rintro e w5 ⟨rfl, hb5⟩
  have HB5 := Lib.hid (HB4.out.trans (hb5.mono HB4.out.size))
  have hz5 := HB5.out.size
  have HO5 : Hid ((w5.alloc (.cells #[] 3)).ownsRow w5.heap.size 3 1 (.slice (some ⟨w5.heap.size, 0, none⟩) 0 0) 0 []) := Lib.hid (World.ownsRow_made w5 #[] 0 (Nat.le_refl _) (by unfold maxLen; omega) rfl)
  have HB6 := Lib.hid (HB5.out.alloc HB5.out.size (.cells #[] 3))
  clear hb5
  go_wp2_with (
    at_builtin
    refine wpList_wanted rfl fun K hK => wp_append_nothing (.tmp 90) (.tmp 91) 23 3 w5.heap.size 1 0 i0 [] _ rfl Tryd.underlying23 hi rfl rfl HO5.out (hK _ _ ?_))
  go_wp2_with fail
  refine (of_any w5.heap.size 0 0 [] (by simp) _ (fun j h => by simp at h)).mono ?_
  rintro e w6 ⟨rfl, rfl⟩
  go_wp2_with fail
  refine (refOf_none _ _ _).mono ?_
  rintro e w6 ⟨rfl, rfl⟩
  go_wp2_with fail
  refine (lives_any _ (HT.out.below HB6.out hg) (by have := HB6.out.size; omega)).mono ?_
  rintro e w7 ⟨rfl, hb7⟩
  go_wp2
  go_ret
  exact ⟨rfl, HB6.out.trans (hb7.mono HB6.out.size)⟩

set_option maxRecDepth 100000 in
set_option maxHeartbeats 2000000 in
theorem walk_none_out (s : Nat) (hs : Is64 s) (k : Nat) (hk : (els s).length ≤ k) (w : World) (hT : Tab w) (hg : 0 < w.heap.size) :
    Calls Tryd.prog 3 #[.int .u64 (s : Int), .int .i64 (k : Int), .slice none 0 0] w fun e w' => e = .returned (.bool true) ∧ Below w.heap.size w w' := by
  have HT := Lib.hid hT
  clear hT
  obtain ⟨i0, hi, hz0, hz1, hz2⟩ := info_parts infoInt
  have hlen := els_length_le s
  have HP := fun v (hv : Tab v) => Lib.hid (pick_any s hs (k : Int) v hv)
  rw [if_neg (by omega), Int.toNat_natCast, atI_none hk] at HP
  have hd : decide (k < (els s).length) = false := by simp; omega
  have hd2 : decide ((k : Int) < ((els s).length : Int)) = false := by simp; omega
  clear hk
  have HNS := Lib.hid (next_start s (n := -1) (by omega))
  go_enter Tryd.func3, Tryd.ntmps3
  go_wp2_with fail
  refine (refList_any s hs _).mono ?_
  rintro e w1 ⟨g1, cap1, rfl, hl1, hb1, hg1⟩
  have HL1 := Lib.hid hl1
  have HB1 := Lib.hid hb1
  have HT1 := Lib.hid (HT.out.below hb1 hg)
  clear hl1 hb1 hg1
  go_wp2_with fail
  refine (has_any s hs _ _).mono ?_
  rintro e w2 ⟨rfl, rfl⟩
  go_wp2_with fail
  refine (refHas_any s hs _ _).mono ?_
  rintro e w2 ⟨rfl, rfl⟩
  go_wp2_with fail
  refine (with_any s hs _ _).mono ?_
  rintro e w2 ⟨rfl, rfl⟩
  go_wp2_with fail
  refine (refWith_any s hs _ _).mono ?_
  rintro e w2 ⟨rfl, rfl⟩
  go_wp2_with fail
  refine (without_any s hs _ _).mono ?_
  rintro e w2 ⟨rfl, rfl⟩
  go_wp2_with fail
  refine (refWithout_any s hs _ _).mono ?_
  rintro e w2 ⟨rfl, rfl⟩
  go_wp2_with fail
  refine (count_any s hs _).mono ?_
  rintro e w2 ⟨rfl, rfl⟩
  go_wp2_with fail
  refine (first_any s hs _ HT1.out).mono ?_
  rintro e w2 ⟨rfl, rfl⟩
  go_wp2_with fail
  refine (refNext_any s hs (-1) _).mono ?_
  rw [HNS.out]
  rintro e w2 ⟨rfl, hb2⟩
  have HB2 := Lib.hid (HB1.out.trans (hb2.mono HB1.out.size))
  have HL2 := Lib.hid (HL1.out.below hb2 HL1.out.lt)
  have HT2 := Lib.hid (HT.out.below HB2.out hg)
  clear hb2
  go_wp2_with fail
  refine (next_any s hs _ _ HT2.out).mono ?_
  rintro e w3 ⟨rfl, rfl⟩
  go_wp2_with fail
  refine (refNext_any s hs _ _).mono ?_
  rintro e w3 ⟨rfl, hb3⟩
  have HB3 := Lib.hid (HB2.out.trans (hb3.mono HB2.out.size))
  have HL3 := Lib.hid (HL2.out.below hb3 HL2.out.lt)
  have HT3 := Lib.hid (HT.out.below HB3.out hg)
  clear hb3
  go_wp2_with fail
  refine (HP _ HT3.out).out.mono ?_
  rintro e w4 ⟨rfl, rfl⟩
  go_wp2_with fail
  refine (list_lies s hs _ HT3.out (by have := HB3.out.size; omega)).mono ?_
  rintro e w4 ⟨rfl, hl4, hb4⟩
  have HB4 := Lib.hid (HB3.out.trans (hb4.mono HB3.out.size))
  have HL4 := Lib.hid (HL3.out.below hb4 HL3.out.lt)
  have HM4 := Lib.hid hl4
  clear hb4 hl4
  go_wp2_with fail
  refine (same_any (els s) hlen _ _ _ _ _ HM4.out HL4.out).mono ?_
  rintro e w5 ⟨rfl, hb5⟩
  have HB5 := Lib.hid (HB4.out.trans (hb5.mono HB4.out.size))
  have hz5 := HB5.out.size
  have HO5 : Hid ((w5.alloc (.cells #[] 3)).ownsRow w5.heap.size 3 1 (.slice (some ⟨w5.heap.size, 0, none⟩) 0 0) 0 []) := Lib.hid (World.ownsRow_made w5 #[] 0 (Nat.le_refl _) (by unfold maxLen; omega) rfl)
  have HB6 := Lib.hid (HB5.out.alloc HB5.out.size (.cells #[] 3))
  clear hb5
  go_wp2_with (
    at_builtin
    refine wpList_wanted rfl fun K hK => wp_append_nothing (.tmp 90) (.tmp 91) 23 3 w5.heap.size 1 0 i0 [] _ rfl Tryd.underlying23 hi rfl rfl HO5.out (hK _ _ ?_))
  go_wp2_with fail
  refine (of_any w5.heap.size 0 0 [] (by simp) _ (fun j h => by simp at h)).mono ?_
  rintro e w6 ⟨rfl, rfl⟩
  go_wp2_with fail
  refine (refOf_none _ _ _).mono ?_
  rintro e w6 ⟨rfl, rfl⟩
  go_wp2_with fail
  refine (lives_any _ (HT.out.below HB6.out hg) (by have := HB6.out.size; omega)).mono ?_
  rintro e w7 ⟨rfl, hb7⟩
  go_wp2
  go_ret
  exact ⟨rfl, HB6.out.trans (hb7.mono HB6.out.size)⟩

set_option maxRecDepth 100000 in
set_option maxHeartbeats 2000000 in
theorem walk_zero_neg (s : Nat) (hs : Is64 s) (n : Int) (hn : n < 0) (w : World) (hT : Tab w) (hg : 0 < w.heap.size) (ad : Addr) (cap : Nat) :
    Calls Tryd.prog 3 #[.int .u64 (s : Int), .int .i64 n, .slice (some ad) 0 cap] w fun e w' => e = .returned (.bool true) ∧ Below w.heap.size w w' := by
  have HT := Lib.hid hT
  clear hT
  obtain ⟨i0, hi, hz0, hz1, hz2⟩ := info_parts infoInt
  have hlen := els_length_le s
  have HP := fun v (hv : Tab v) => Lib.hid (pick_any s hs n v hv)
  rw [if_pos hn] at HP
  have HNS := Lib.hid (next_start s (n := -1) (by omega))
  go_enter Tryd.func3, Tryd.ntmps3
  go_wp2_with fail
  refine (refList_any s hs _).mono ?_
  rintro e w1 ⟨g1, cap1, rfl, hl1, hb1, hg1⟩
  have HL1 := Lib.hid hl1
  have HB1 := Lib.hid hb1
  have HT1 := Lib.hid (HT.out.below hb1 hg)
  clear hl1 hb1 hg1
  go_wp2_with fail
  refine (has_any s hs _ _).mono ?_
  rintro e w2 ⟨rfl, rfl⟩
  go_wp2_with fail
  refine (refHas_any s hs _ _).mono ?_
  rintro e w2 ⟨rfl, rfl⟩
  go_wp2_with fail
  refine (with_any s hs _ _).mono ?_
  rintro e w2 ⟨rfl, rfl⟩
  go_wp2_with fail
  refine (refWith_any s hs _ _).mono ?_
  rintro e w2 ⟨rfl, rfl⟩
  go_wp2_with fail
  refine (without_any s hs _ _).mono ?_
  rintro e w2 ⟨rfl, rfl⟩
  go_wp2_with fail
  refine (refWithout_any s hs _ _).mono ?_
  rintro e w2 ⟨rfl, rfl⟩
  go_wp2_with fail
  refine (count_any s hs _).mono ?_
  rintro e w2 ⟨rfl, rfl⟩
  go_wp2_with fail
  refine (first_any s hs _ HT1.out).mono ?_
  rintro e w2 ⟨rfl, rfl⟩
  go_wp2_with fail
  refine (refNext_any s hs (-1) _).mono ?_
  rw [HNS.out]
  rintro e w2 ⟨rfl, hb2⟩
  have HB2 := Lib.hid (HB1.out.trans (hb2.mono HB1.out.size))
  have HL2 := Lib.hid (HL1.out.below hb2 HL1.out.lt)
  have HT2 := Lib.hid (HT.out.below HB2.out hg)
  clear hb2
  go_wp2_with fail
  refine (next_any s hs _ _ HT2.out).mono ?_
  rintro e w3 ⟨rfl, rfl⟩
  go_wp2_with fail
  refine (refNext_any s hs _ _).mono ?_
  rintro e w3 ⟨rfl, hb3⟩
  have HB3 := Lib.hid (HB2.out.trans (hb3.mono HB2.out.size))
  have HL3 := Lib.hid (HL2.out.below hb3 HL2.out.lt)
  have HT3 := Lib.hid (HT.out.below HB3.out hg)
  clear hb3
  go_wp2_with fail
  refine (HP _ HT3.out).out.mono ?_
  rintro e w4 ⟨rfl, rfl⟩
  go_wp2_with fail
  refine (list_lies s hs _ HT3.out (by have := HB3.out.size; omega)).mono ?_
  rintro e w4 ⟨rfl, hl4, hb4⟩
  have HB4 := Lib.hid (HB3.out.trans (hb4.mono HB3.out.size))
  have HL4 := Lib.hid (HL3.out.below hb4 HL3.out.lt)
  have HM4 := Lib.hid hl4
  clear hb4 hl4
  go_wp2_with fail
  refine (same_any (els s) hlen _ _ _ _ _ HM4.out HL4.out).mono ?_
  rintro e w5 ⟨rfl, hb5⟩
  have HB5 := Lib.hid (HB4.out.trans (hb5.mono HB4.out.size))
  have hz5 := HB5.out.size
  have HO5 : Hid ((w5.alloc (.cells #[] 3)).ownsRow w5.heap.size 3 1 (.slice (some ⟨w5.heap.size, 0, none⟩) 0 0) 0 []) := Lib.hid (World.ownsRow_made w5 #[] 0 (Nat.le_refl _) (by unfold maxLen; omega) rfl)
  have HB6 := Lib.hid (HB5.out.alloc HB5.out.size (.cells #[] 3))
  clear hb5
  go_wp2_with (
    at_builtin
    refine wpList_wanted rfl fun K hK => wp_append_own _ (.tmp 90) (.tmp 91) 23 rfl w5.heap.size 3 i0 _ 1 8 Tryd.underlying23 hi hz0 hz1 hz2 rfl (by omega) _ 0 _ rfl HO5.out
      ad 0 cap [] rfl ?c0 ?c1 ?c2 ?c3 ?c4 ?c5 fun v7 w7 hown7 hg7 hv7 => hK _ _ ?_)
  case c0 => rfl
  case c1 => intro j u hu; simp at hu
  case c2 => intro u hu; simp at hu
  case c3 => unfold maxLen; omega
  case c4 => omega
  case c5 => simp
  obtain ⟨g7, cap7, rfl⟩ : ∃ g7 cap7, v7 = .slice (some ⟨g7, 0, none⟩) 0 cap7 := by
    rcases hown7.2 with ⟨h, _⟩ | ⟨g7, cap7, _, h, _⟩
    · have h2 := (hv7.1 h).1
      cases h2
    · exact ⟨g7, cap7, h⟩
  have HB7 := Lib.hid (HB6.out.grown hg7 HB6.out.size (fun j hj => by cases hj; exact hz5))
  clear hown7 hg7 hv7
  go_wp2_with fail
  refine (of_any g7 0 cap7 [] (by simp) _ (fun j h => by simp at h)).mono ?_
  rintro e w8 ⟨rfl, rfl⟩
  go_wp2_with fail
  refine (refOf_none _ _ _).mono ?_
  rintro e w8 ⟨rfl, rfl⟩
  go_wp2_with fail
  refine (lives_any _ (HT.out.below HB7.out hg) (by have := HB7.out.size; omega)).mono ?_
  rintro e w8 ⟨rfl, hb8⟩
  go_wp2
  go_ret
  exact ⟨rfl, HB7.out.trans (hb8.mono HB7.out.size)⟩

set_option maxRecDepth 100000 in
set_option maxHeartbeats 2000000 in
theorem walk_zero_some (s : Nat) (hs : Is64 s) (k : Nat) (hk : k < (els s).length) (w : World) (hT : Tab w) (hg : 0 < w.heap.size) (ad : Addr) (cap : Nat) :
    Calls Tryd.prog 3 #[.int .u64 (s : Int), .int .i64 (k : Int), .slice (some ad) 0 cap] w fun e w' => e = .returned (.bool true) ∧ Below w.heap.size w w' := by
  have HT := Lib.hid hT
  clear hT
  obtain ⟨i0, hi, hz0, hz1, hz2⟩ := info_parts infoInt
  have hlen := els_length_le s
  have HP := fun v (hv : Tab v) => Lib.hid (pick_any s hs (k : Int) v hv)
  obtain ⟨x, hx⟩ : ∃ x : Nat, (els s)[k]? = some x := ⟨_, List.getElem?_eq_getElem hk⟩
  have HX := Lib.hid hx
  rw [if_neg (by omega), Int.toNat_natCast, atI_some hx] at HP
  clear hx
  have HNS := Lib.hid (next_start s (n := -1) (by omega))
  go_enter Tryd.func3, Tryd.ntmps3
  go_wp2_with fail
  refine (refList_any s hs _).mono ?_
  rintro e w1 ⟨g1, cap1, rfl, hl1, hb1, hg1⟩
  have hc := hl1.cell HX.out
  have HL1 := Lib.hid hl1
  have HB1 := Lib.hid hb1
  have HT1 := Lib.hid (HT.out.below hb1 hg)
  clear hl1 hb1 hg1
  go_wp2_with fail
  refine (has_any s hs _ _).mono ?_
  rintro e w2 ⟨rfl, rfl⟩
  go_wp2_with fail
  refine (refHas_any s hs _ _).mono ?_
  rintro e w2 ⟨rfl, rfl⟩
  go_wp2_with fail
  refine (with_any s hs _ _).mono ?_
  rintro e w2 ⟨rfl, rfl⟩
  go_wp2_with fail
  refine (refWith_any s hs _ _).mono ?_
  rintro e w2 ⟨rfl, rfl⟩
  go_wp2_with fail
  refine (without_any s hs _ _).mono ?_
  rintro e w2 ⟨rfl, rfl⟩
  go_wp2_with fail
  refine (refWithout_any s hs _ _).mono ?_
  rintro e w2 ⟨rfl, rfl⟩
  go_wp2_with fail
  refine (count_any s hs _).mono ?_
  rintro e w2 ⟨rfl, rfl⟩
  go_wp2_with fail
  refine (first_any s hs _ HT1.out).mono ?_
  rintro e w2 ⟨rfl, rfl⟩
  go_wp2_with fail
  refine (refNext_any s hs (-1) _).mono ?_
  rw [HNS.out]
  rintro e w2 ⟨rfl, hb2⟩
  have HB2 := Lib.hid (HB1.out.trans (hb2.mono HB1.out.size))
  have HL2 := Lib.hid (HL1.out.below hb2 HL1.out.lt)
  have HT2 := Lib.hid (HT.out.below HB2.out hg)
  clear hb2
  go_wp2_with fail
  refine (next_any s hs _ _ HT2.out).mono ?_
  rintro e w3 ⟨rfl, rfl⟩
  go_wp2_with fail
  refine (refNext_any s hs _ _).mono ?_
  rintro e w3 ⟨rfl, hb3⟩
  have HB3 := Lib.hid (HB2.out.trans (hb3.mono HB2.out.size))
  have HL3 := Lib.hid (HL2.out.below hb3 HL2.out.lt)
  have HT3 := Lib.hid (HT.out.below HB3.out hg)
  clear hb3
  go_wp2_with fail
  refine (HP _ HT3.out).out.mono ?_
  rintro e w4 ⟨rfl, rfl⟩
  go_wp2_with fail
  refine (list_lies s hs _ HT3.out (by have := HB3.out.size; omega)).mono ?_
  rintro e w4 ⟨rfl, hl4, hb4⟩
  have HB4 := Lib.hid (HB3.out.trans (hb4.mono HB3.out.size))
  have HL4 := Lib.hid (HL3.out.below hb4 HL3.out.lt)
  have HM4 := Lib.hid hl4
  clear hb4 hl4
  go_wp2_with fail
  refine (same_any (els s) hlen _ _ _ _ _ HM4.out HL4.out).mono ?_
  rintro e w5 ⟨rfl, hb5⟩
  have HB5 := Lib.hid (HB4.out.trans (hb5.mono HB4.out.size))
  have hz5 := HB5.out.size
  have HO5 : Hid ((w5.alloc (.cells #[] 3)).ownsRow w5.heap.size 3 1 (.slice (some ⟨w5.heap.size, 0, none⟩) 0 0) 0 []) := Lib.hid (World.ownsRow_made w5 #[] 0 (Nat.le_refl _) (by unfold maxLen; omega) rfl)
  have HB6 := Lib.hid (HB5.out.alloc HB5.out.size (.cells #[] 3))
  clear hb5
  go_wp2_with (
    at_builtin
    refine wpList_wanted rfl fun K hK => wp_append_own _ (.tmp 90) (.tmp 91) 23 rfl w5.heap.size 3 i0 _ 1 8 Tryd.underlying23 hi hz0 hz1 hz2 rfl (by omega) _ 0 _ rfl HO5.out
      ad 0 cap [] rfl ?c0 ?c1 ?c2 ?c3 ?c4 ?c5 fun v7 w7 hown7 hg7 hv7 => hK _ _ ?_)
  case c0 => rfl
  case c1 => intro j u hu; simp at hu
  case c2 => intro u hu; simp at hu
  case c3 => unfold maxLen; omega
  case c4 => omega
  case c5 => simp
  obtain ⟨g7, cap7, rfl⟩ : ∃ g7 cap7, v7 = .slice (some ⟨g7, 0, none⟩) 0 cap7 := by
    rcases hown7.2 with ⟨h, _⟩ | ⟨g7, cap7, _, h, _⟩
    · have h2 := (hv7.1 h).1
      cases h2
    · exact ⟨g7, cap7, h⟩
  have HB7 := Lib.hid (HB6.out.grown hg7 HB6.out.size (fun j hj => by cases hj; exact hz5))
  clear hown7 hg7 hv7
  go_wp2_with fail
  refine (of_any g7 0 cap7 [] (by simp) _ (fun j h => by simp at h)).mono ?_
  rintro e w8 ⟨rfl, rfl⟩
  go_wp2_with fail
  refine (refOf_none _ _ _).mono ?_
  rintro e w8 ⟨rfl, rfl⟩
  go_wp2_with fail
  refine (lives_any _ (HT.out.below HB7.out hg) (by have := HB7.out.size; omega)).mono ?_
  rintro e w8 ⟨rfl, hb8⟩
  go_wp2
  go_ret
  exact ⟨rfl, HB7.out.trans (hb8.mono HB7.out.size)⟩

set_option maxRecDepth 100000 in
set_option maxHeartbeats 2000000 in
theorem walk_zero_out (s : Nat) (hs : Is64 s) (k : Nat) (hk : (els s).length ≤ k) (w : World) (hT : Tab w) (hg : 0 < w.heap.size) (ad : Addr) (cap : Nat) :
    Calls Tryd.prog 3 #[.int .u64 (s : Int), .int .i64 (k : Int), .slice (some ad) 0 cap] w fun e w' => e = .returned (.bool true) ∧ Below w.heap.size w w' := by
  have HT := Lib.hid hT
  clear hT
  obtain ⟨i0, hi, hz0, hz1, hz2⟩ := info_parts infoInt
  have hlen := els_length_le s
  have HP := fun v (hv : Tab v) => Lib.hid (pick_any s hs (k : Int) v hv)
  rw [if_neg (by omega), Int.toNat_natCast, atI_none hk] at HP
  have hd : decide (k < (els s).length) = false := by simp; omega
  have hd2 : decide ((k : Int) < ((els s).length : Int)) = false := by simp; omega
  clear hk
  have HNS := Lib.hid (next_start s (n := -1) (by omega))
  go_enter Tryd.func3, Tryd.ntmps3
  go_wp2_with fail
  refine (refList_any s hs _).mono ?_
  rintro e w1 ⟨g1, cap1, rfl, hl1, hb1, hg1⟩
  have HL1 := Lib.hid hl1
  have HB1 := Lib.hid hb1
  have HT1 := Lib.hid (HT.out.below hb1 hg)
  clear hl1 hb1 hg1
  go_wp2_with fail
  refine (has_any s hs _ _).mono ?_
  rintro e w2 ⟨rfl, rfl⟩
  go_wp2_with fail
  refine (refHas_any s hs _ _).mono ?_
  rintro e w2 ⟨rfl, rfl⟩
  go_wp2_with fail
  refine (with_any s hs _ _).mono ?_
  rintro e w2 ⟨rfl, rfl⟩
  go_wp2_with fail
  refine (refWith_any s hs _ _).mono ?_
  rintro e w2 ⟨rfl, rfl⟩
  go_wp2_with fail
  refine (without_any s hs _ _).mono ?_
  rintro e w2 ⟨rfl, rfl⟩
  go_wp2_with fail
  refine (refWithout_any s hs _ _).mono ?_
  rintro e w2 ⟨rfl, rfl⟩
  go_wp2_with fail
  refine (count_any s hs _).mono ?_
  rintro e w2 ⟨rfl, rfl⟩
  go_wp2_with fail
  refine (first_any s hs _ HT1.out).mono ?_
  rintro e w2 ⟨rfl, rfl⟩
  go_wp2_with fail
  refine (refNext_any s hs (-1) _).mono ?_
  rw [HNS.out]
  rintro e w2 ⟨rfl, hb2⟩
  have HB2 := Lib.hid (HB1.out.trans (hb2.mono HB1.out.size))
  have HL2 := Lib.hid (HL1.out.below hb2 HL1.out.lt)
  have HT2 := Lib.hid (HT.out.below HB2.out hg)
  clear hb2
  go_wp2_with fail
  refine (next_any s hs _ _ HT2.out).mono ?_
  rintro e w3 ⟨rfl, rfl⟩
  go_wp2_with fail
  refine (refNext_any s hs _ _).mono ?_
  rintro e w3 ⟨rfl, hb3⟩
  have HB3 := Lib.hid (HB2.out.trans (hb3.mono HB2.out.size))
  have HL3 := Lib.hid (HL2.out.below hb3 HL2.out.lt)
  have HT3 := Lib.hid (HT.out.below HB3.out hg)
  clear hb3
  go_wp2_with fail
  refine (HP _ HT3.out).out.mono ?_
  rintro e w4 ⟨rfl, rfl⟩
  go_wp2_with fail
  refine (list_lies s hs _ HT3.out (by have := HB3.out.size; omega)).mono ?_
  rintro e w4 ⟨rfl, hl4, hb4⟩
  have HB4 := Lib.hid (HB3.out.trans (hb4.mono HB3.out.size))
  have HL4 := Lib.hid (HL3.out.below hb4 HL3.out.lt)
  have HM4 := Lib.hid hl4
  clear hb4 hl4
  go_wp2_with fail
  refine (same_any (els s) hlen _ _ _ _ _ HM4.out HL4.out).mono ?_
  rintro e w5 ⟨rfl, hb5⟩
  have HB5 := Lib.hid (HB4.out.trans (hb5.mono HB4.out.size))
  have hz5 := HB5.out.size
  have HO5 : Hid ((w5.alloc (.cells #[] 3)).ownsRow w5.heap.size 3 1 (.slice (some ⟨w5.heap.size, 0, none⟩) 0 0) 0 []) := Lib.hid (World.ownsRow_made w5 #[] 0 (Nat.le_refl _) (by unfold maxLen; omega) rfl)
  have HB6 := Lib.hid (HB5.out.alloc HB5.out.size (.cells #[] 3))
  clear hb5
  go_wp2_with (
    at_builtin
    refine wpList_wanted rfl fun K hK => wp_append_own _ (.tmp 90) (.tmp 91) 23 rfl w5.heap.size 3 i0 _ 1 8 Tryd.underlying23 hi hz0 hz1 hz2 rfl (by omega) _ 0 _ rfl HO5.out
      ad 0 cap [] rfl ?c0 ?c1 ?c2 ?c3 ?c4 ?c5 fun v7 w7 hown7 hg7 hv7 => hK _ _ ?_)
  case c0 => rfl
  case c1 => intro j u hu; simp at hu
  case c2 => intro u hu; simp at hu
  case c3 => unfold maxLen; omega
  case c4 => omega
  case c5 => simp
  obtain ⟨g7, cap7, rfl⟩ : ∃ g7 cap7, v7 = .slice (some ⟨g7, 0, none⟩) 0 cap7 := by
    rcases hown7.2 with ⟨h, _⟩ | ⟨g7, cap7, _, h, _⟩
    · have h2 := (hv7.1 h).1
      cases h2
    · exact ⟨g7, cap7, h⟩
  have HB7 := Lib.hid (HB6.out.grown hg7 HB6.out.size (fun j hj => by cases hj; exact hz5))
  clear hown7 hg7 hv7
  go_wp2_with fail
  refine (of_any g7 0 cap7 [] (by simp) _ (fun j h => by simp at h)).mono ?_
  rintro e w8 ⟨rfl, rfl⟩
  go_wp2_with fail
  refine (refOf_none _ _ _).mono ?_
  rintro e w8 ⟨rfl, rfl⟩
  go_wp2_with fail
  refine (lives_any _ (HT.out.below HB7.out hg) (by have := HB7.out.size; omega)).mono ?_
  rintro e w8 ⟨rfl, hb8⟩
  go_wp2
  go_ret
  exact ⟨rfl, HB7.out.trans (hb8.mono HB7.out.size)⟩

set_option maxRecDepth 100000 in
set_option maxHeartbeats 2000000 in
theorem walk_le_neg (s : Nat) (hs : Is64 s) (n : Int) (hn : n < 0) (w : World) (hT : Tab w) (hg : 0 < w.heap.size) (b off len cap : Nat) (l : List Int) (hl : l.length = len) (h200 : len ≤ 200) (hcap : len ≤ cap) (hbW : b < w.heap.size) (hrow : RowAt w b off l) :
    Calls Tryd.prog 3 #[.int .u64 (s : Int), .int .i64 n, .slice (some ⟨b, off, none⟩) len cap] w fun e w' => e = .returned (.bool true) ∧ Below w.heap.size w w' := by
  have HT := Lib.hid hT
  clear hT
  obtain ⟨i0, hi, hz0, hz1, hz2⟩ := info_parts infoInt
  have hlen := els_length_le s
  have HR := Lib.hid hrow
  have HBW := Lib.hid hbW
  have HLL := Lib.hid hl
  clear hrow hl
  have HP := fun v (hv : Tab v) => Lib.hid (pick_any s hs n v hv)
  rw [if_pos hn] at HP
  have HNS := Lib.hid (next_start s (n := -1) (by omega))
  go_enter Tryd.func3, Tryd.ntmps3
  go_wp2_with fail
  refine (refList_any s hs _).mono ?_
  rintro e w1 ⟨g1, cap1, rfl, hl1, hb1, hg1⟩
  have HL1 := Lib.hid hl1
  have HB1 := Lib.hid hb1
  have HT1 := Lib.hid (HT.out.below hb1 hg)
  clear hl1 hb1 hg1
  go_wp2_with fail
  refine (has_any s hs _ _).mono ?_
  rintro e w2 ⟨rfl, rfl⟩
  go_wp2_with fail
  refine (refHas_any s hs _ _).mono ?_
  rintro e w2 ⟨rfl, rfl⟩
  go_wp2_with fail
  refine (with_any s hs _ _).mono ?_
  rintro e w2 ⟨rfl, rfl⟩
  go_wp2_with fail
  refine (refWith_any s hs _ _).mono ?_
  rintro e w2 ⟨rfl, rfl⟩
  go_wp2_with fail
  refine (without_any s hs _ _).mono ?_
  rintro e w2 ⟨rfl, rfl⟩
  go_wp2_with fail
  refine (refWithout_any s hs _ _).mono ?_
  rintro e w2 ⟨rfl, rfl⟩
  go_wp2_with fail
  refine (count_any s hs _).mono ?_
  rintro e w2 ⟨rfl, rfl⟩
  go_wp2_with fail
  refine (first_any s hs _ HT1.out).mono ?_
  rintro e w2 ⟨rfl, rfl⟩
  go_wp2_with fail
  refine (refNext_any s hs (-1) _).mono ?_
  rw [HNS.out]
  rintro e w2 ⟨rfl, hb2⟩
  have HB2 := Lib.hid (HB1.out.trans (hb2.mono HB1.out.size))
  have HL2 := Lib.hid (HL1.out.below hb2 HL1.out.lt)
  have HT2 := Lib.hid (HT.out.below HB2.out hg)
  clear hb2
  go_wp2_with fail
  refine (next_any s hs _ _ HT2.out).mono ?_
  rintro e w3 ⟨rfl, rfl⟩
  go_wp2_with fail
  refine (refNext_any s hs _ _).mono ?_
  rintro e w3 ⟨rfl, hb3⟩
  have HB3 := Lib.hid (HB2.out.trans (hb3.mono HB2.out.size))
  have HL3 := Lib.hid (HL2.out.below hb3 HL2.out.lt)
  have HT3 := Lib.hid (HT.out.below HB3.out hg)
  clear hb3
  go_wp2_with fail
  refine (HP _ HT3.out).out.mono ?_
  rintro e w4 ⟨rfl, rfl⟩
  go_wp2_with fail
  refine (list_lies s hs _ HT3.out (by have := HB3.out.size; omega)).mono ?_
  rintro e w4 ⟨rfl, hl4, hb4⟩
  have HB4 := Lib.hid (HB3.out.trans (hb4.mono HB3.out.size))
  have HL4 := Lib.hid (HL3.out.below hb4 HL3.out.lt)
  have HM4 := Lib.hid hl4
  clear hb4 hl4
  go_wp2_with fail
  refine (same_any (els s) hlen _ _ _ _ _ HM4.out HL4.out).mono ?_
  rintro e w5 ⟨rfl, hb5⟩
  have HB5 := Lib.hid (HB4.out.trans (hb5.mono HB4.out.size))
  have hz5 := HB5.out.size
  have HO5 : Hid ((w5.alloc (.cells #[] 3)).ownsRow w5.heap.size 3 1 (.slice (some ⟨w5.heap.size, 0, none⟩) 0 0) 0 []) := Lib.hid (World.ownsRow_made w5 #[] 0 (Nat.le_refl _) (by unfold maxLen; omega) rfl)
  have HB6 := Lib.hid (HB5.out.alloc HB5.out.size (.cells #[] 3))
  clear hb5
  have HRS := Lib.hid (HR.out.below HB6.out hbW)
  go_wp2_with (
    at_builtin
    refine wpList_wanted rfl fun K hK => wp_append_own _ (.tmp 90) (.tmp 91) 23 rfl w5.heap.size 3 i0 _ 1 8 Tryd.underlying23 hi hz0 hz1 hz2 rfl (by omega) _ 0 _ rfl HO5.out
      ⟨b, off, none⟩ len cap (zcells l) rfl ?c0 ?c1 ?c2 ?c3 ?c4 ?c5 fun v7 w7 hown7 hg7 hv7 => hK _ _ ?_)
  case c0 => rw [zcells_length, HLL.out] <;> omega
  case c1 =>
    intro j u hu
    obtain ⟨hj, rfl⟩ := zcells_get hu
    rw [add_plain]
    exact HRS.out j hj
  case c2 => exact zcells_one l
  case c3 => unfold maxLen; omega
  case c4 => omega
  case c5 => simp
  obtain ⟨g7, cap7, rfl⟩ : ∃ g7 cap7, v7 = .slice (some ⟨g7, 0, none⟩) len cap7 := by
    rcases hown7.2 with ⟨h, _⟩ | ⟨g7, cap7, _, h, _⟩
    · have h2 := (hv7.1 h).1
      cases h2
    · rw [Nat.zero_add] at h
      exact ⟨g7, cap7, h⟩
  rw [Nat.zero_add, List.nil_append] at hown7
  have HW7 := Lib.hid (rowAt_of hown7)
  have HB7 := Lib.hid (HB6.out.grown hg7 HB6.out.size (fun j hj => by cases hj; exact hz5))
  have HR7 := Lib.hid (HR.out.below HB7.out hbW)
  clear hown7 hg7 hv7
  have HOF := Lib.hid (of_any g7 0 cap7 l (by rw [HLL.out]; omega) w7 HW7.out)
  have HRF := Lib.hid (refOf_any b off cap l (by rw [HLL.out]; omega) w7 HR7.out)
  rw [HLL.out] at HOF HRF
  go_wp2_with fail
  refine HOF.out.mono ?_
  rintro e w8 ⟨rfl, rfl⟩
  go_wp2_with fail
  refine HRF.out.mono ?_
  rintro e w8 ⟨rfl, rfl⟩
  go_wp2_with fail
  refine (lives_any _ (HT.out.below HB7.out hg) (by have := HB7.out.size; omega)).mono ?_
  rintro e w8 ⟨rfl, hb8⟩
  go_wp2
  go_ret
  exact ⟨rfl, HB7.out.trans (hb8.mono HB7.out.size)⟩

set_option maxRecDepth 100000 in
set_option maxHeartbeats 2000000 in
theorem walk_le_some (s : Nat) (hs : Is64 s) (k : Nat) (hk : k < (els s).length) (w : World) (hT : Tab w) (hg : 0 < w.heap.size) (b off len cap : Nat) (l : List Int) (hl : l.length = len) (h200 : len ≤ 200) (hcap : len ≤ cap) (hbW : b < w.heap.size) (hrow : RowAt w b off l) :
    Calls Tryd.prog 3 #[.int .u64 (s : Int), .int .i64 (k : Int), .slice (some ⟨b, off, none⟩) len cap] w fun e w' => e = .returned (.bool true) ∧ Below w.heap.size w w' := by
  have HT := Lib.hid hT
  clear hT
  obtain ⟨i0, hi, hz0, hz1, hz2⟩ := info_parts infoInt
  have hlen := els_length_le s
  have HR := Lib.hid hrow
  have HBW := Lib.hid hbW
  have HLL := Lib.hid hl
  clear hrow hl
  have HP := fun v (hv : Tab v) => Lib.hid (pick_any s hs (k : Int) v hv)
  obtain ⟨x, hx⟩ : ∃ x : Nat, (els s)[k]? = some x := ⟨_, List.getElem?_eq_getElem hk⟩
  have HX := Lib.hid hx
  rw [if_neg (by omega), Int.toNat_natCast, atI_some hx] at HP
  clear hx
  have HNS := Lib.hid (next_start s (n := -1) (by omega))
  go_enter Tryd.func3, Tryd.ntmps3
  go_wp2_with fail
  refine (refList_any s hs _).mono ?_
  rintro e w1 ⟨g1, cap1, rfl, hl1, hb1, hg1⟩
  have hc := hl1.cell HX.out
  have HL1 := Lib.hid hl1
  have HB1 := Lib.hid hb1
  have HT1 := Lib.hid (HT.out.below hb1 hg)
  clear hl1 hb1 hg1
  go_wp2_with fail
  refine (has_any s hs _ _).mono ?_
  rintro e w2 ⟨rfl, rfl⟩
  go_wp2_with fail
  refine (refHas_any s hs _ _).mono ?_
  rintro e w2 ⟨rfl, rfl⟩
  go_wp2_with fail
  refine (with_any s hs _ _).mono ?_
  rintro e w2 ⟨rfl, rfl⟩
  go_wp2_with fail
  refine (refWith_any s hs _ _).mono ?_
  rintro e w2 ⟨rfl, rfl⟩
  go_wp2_with fail
  refine (without_any s hs _ _).mono ?_
  rintro e w2 ⟨rfl, rfl⟩
  go_wp2_with fail
  refine (refWithout_any s hs _ _).mono ?_
  rintro e w2 ⟨rfl, rfl⟩
  go_wp2_with fail
  refine (count_any s hs _).mono ?_
  rintro e w2 ⟨rfl, rfl⟩
  go_wp2_with fail
  refine (first_any s hs _ HT1.out).mono ?_
  rintro e w2 ⟨rfl, rfl⟩
  go_wp2_with fail
  refine (refNext_any s hs (-1) _).mono ?_
  rw [HNS.out]
  rintro e w2 ⟨rfl, hb2⟩
  have HB2 := Lib.hid (HB1.out.trans (hb2.mono HB1.out.size))
  have HL2 := Lib.hid (HL1.out.below hb2 HL1.out.lt)
  have HT2 := Lib.hid (HT.out.below HB2.out hg)
  clear hb2
  go_wp2_with fail
  refine (next_any s hs _ _ HT2.out).mono ?_
  rintro e w3 ⟨rfl, rfl⟩
  go_wp2_with fail
  refine (refNext_any s hs _ _).mono ?_
  rintro e w3 ⟨rfl, hb3⟩
  have HB3 := Lib.hid (HB2.out.trans (hb3.mono HB2.out.size))
  have HL3 := Lib.hid (HL2.out.below hb3 HL2.out.lt)
  have HT3 := Lib.hid (HT.out.below HB3.out hg)
  clear hb3
  go_wp2_with fail
  refine (HP _ HT3.out).out.mono ?_
  rintro e w4 ⟨rfl, rfl⟩
  go_wp2_with fail
  refine (list_lies s hs _ HT3.out (by have := HB3.out.size; omega)).mono ?_
  rintro e w4 ⟨rfl, hl4, hb4⟩
  have HB4 := Lib.hid (HB3.out.trans (hb4.mono HB3.out.size))
  have HL4 := Lib.hid (HL3.out.below hb4 HL3.out.lt)
  have HM4 := Lib.hid hl4
  clear hb4 hl4
  go_wp2_with fail
  refine (same_any (els s) hlen _ _ _ _ _ HM4.out HL4.out).mono ?_
  rintro e w5 ⟨rfl, hb5⟩
  have HB5 := Lib.hid (HB4.out.trans (hb5.mono HB4.out.size))
  have hz5 := HB5.out.size
  have HO5 : Hid ((w5.alloc (.cells #[] 3)).ownsRow w5.heap.size 3 1 (.slice (some ⟨w5.heap.size, 0, none⟩) 0 0) 0 []) := Lib.hid (World.ownsRow_made w5 #[] 0 (Nat.le_refl _) (by unfold maxLen; omega) rfl)
  have HB6 := Lib.hid (HB5.out.alloc HB5.out.size (.cells #[] 3))
  clear hb5
  have HRS := Lib.hid (HR.out.below HB6.out hbW)
  go_wp2_with (
    at_builtin
    refine wpList_wanted rfl fun K hK => wp_append_own _ (.tmp 90) (.tmp 91) 23 rfl w5.heap.size 3 i0 _ 1 8 Tryd.underlying23 hi hz0 hz1 hz2 rfl (by omega) _ 0 _ rfl HO5.out
      ⟨b, off, none⟩ len cap (zcells l) rfl ?c0 ?c1 ?c2 ?c3 ?c4 ?c5 fun v7 w7 hown7 hg7 hv7 => hK _ _ ?_)
  case c0 => rw [zcells_length, HLL.out] <;> omega
  case c1 =>
    intro j u hu
    obtain ⟨hj, rfl⟩ := zcells_get hu
    rw [add_plain]
    exact HRS.out j hj
  case c2 => exact zcells_one l
  case c3 => unfold maxLen; omega
  case c4 => omega
  case c5 => simp
  obtain ⟨g7, cap7, rfl⟩ : ∃ g7 cap7, v7 = .slice (some ⟨g7, 0, none⟩) len cap7 := by
    rcases hown7.2 with ⟨h, _⟩ | ⟨g7, cap7, _, h, _⟩
    · have h2 := (hv7.1 h).1
      cases h2
    · rw [Nat.zero_add] at h
      exact ⟨g7, cap7, h⟩
  rw [Nat.zero_add, List.nil_append] at hown7
  have HW7 := Lib.hid (rowAt_of hown7)
  have HB7 := Lib.hid (HB6.out.grown hg7 HB6.out.size (fun j hj => by cases hj; exact hz5))
  have HR7 := Lib.hid (HR.out.below HB7.out hbW)
  clear hown7 hg7 hv7
  have HOF := Lib.hid (of_any g7 0 cap7 l (by rw [HLL.out]; omega) w7 HW7.out)
  have HRF := Lib.hid (refOf_any b off cap l (by rw [HLL.out]; omega) w7 HR7.out)
  rw [HLL.out] at HOF HRF
  go_wp2_with fail
  refine HOF.out.mono ?_
  rintro e w8 ⟨rfl, rfl⟩
  go_wp2_with fail
  refine HRF.out.mono ?_
  rintro e w8 ⟨rfl, rfl⟩
  go_wp2_with fail
  refine (lives_any _ (HT.out.below HB7.out hg) (by have := HB7.out.size; omega)).mono ?_
  rintro e w8 ⟨rfl, hb8⟩
  go_wp2
  go_ret
  exact ⟨rfl, HB7.out.trans (hb8.mono HB7.out.size)⟩

set_option maxRecDepth 100000 in
set_option maxHeartbeats 2000000 in
theorem walk_le_out (s : Nat) (hs : Is64 s) (k : Nat) (hk : (els s).length ≤ k) (w : World) (hT : Tab w) (hg : 0 < w.heap.size) (b off len cap : Nat) (l : List Int) (hl : l.length = len) (h200 : len ≤ 200) (hcap : len ≤ cap) (hbW : b < w.heap.size) (hrow : RowAt w b off l) :
    Calls Tryd.prog 3 #[.int .u64 (s : Int), .int .i64 (k : Int), .slice (some ⟨b, off, none⟩) len cap] w fun e w' => e = .returned (.bool true) ∧ Below w.heap.size w w' := by
  have HT := Lib.hid hT
  clear hT
  obtain ⟨i0, hi, hz0, hz1, hz2⟩ := info_parts infoInt
  have hlen := els_length_le s
  have HR := Lib.hid hrow
  have HBW := Lib.hid hbW
  have HLL := Lib.hid hl
  clear hrow hl
  have HP := fun v (hv : Tab v) => Lib.hid (pick_any s hs (k : Int) v hv)
  rw [if_neg (by omega), Int.toNat_natCast, atI_none hk] at HP
  have hd : decide (k < (els s).length) = false := by simp; omega
  have hd2 : decide ((k : Int) < ((els s).length : Int)) = false := by simp; omega
  clear hk
  have HNS := Lib.hid (next_start s (n := -1) (by omega))
  go_enter Tryd.func3, Tryd.ntmps3
  go_wp2_with fail
  refine (refList_any s hs _).mono ?_
  rintro e w1 ⟨g1, cap1, rfl, hl1, hb1, hg1⟩
  have HL1 := Lib.hid hl1
  have HB1 := Lib.hid hb1
  have HT1 := Lib.hid (HT.out.below hb1 hg)
  clear hl1 hb1 hg1
  go_wp2_with fail
  refine (has_any s hs _ _).mono ?_
  rintro e w2 ⟨rfl, rfl⟩
  go_wp2_with fail
  refine (refHas_any s hs _ _).mono ?_
  rintro e w2 ⟨rfl, rfl⟩
  go_wp2_with fail
  refine (with_any s hs _ _).mono ?_
  rintro e w2 ⟨rfl, rfl⟩
  go_wp2_with fail
  refine (refWith_any s hs _ _).mono ?_
  rintro e w2 ⟨rfl, rfl⟩
  go_wp2_with fail
  refine (without_any s hs _ _).mono ?_
  rintro e w2 ⟨rfl, rfl⟩
  go_wp2_with fail
  refine (refWithout_any s hs _ _).mono ?_
  rintro e w2 ⟨rfl, rfl⟩
  go_wp2_with fail
  refine (count_any s hs _).mono ?_
  rintro e w2 ⟨rfl, rfl⟩
  go_wp2_with fail
  refine (first_any s hs _ HT1.out).mono ?_
  rintro e w2 ⟨rfl, rfl⟩
  go_wp2_with fail
  refine (refNext_any s hs (-1) _).mono ?_
  rw [HNS.out]
  rintro e w2 ⟨rfl, hb2⟩
  have HB2 := Lib.hid (HB1.out.trans (hb2.mono HB1.out.size))
  have HL2 := Lib.hid (HL1.out.below hb2 HL1.out.lt)
  have HT2 := Lib.hid (HT.out.below HB2.out hg)
  clear hb2
  go_wp2_with fail
  refine (next_any s hs _ _ HT2.out).mono ?_
  rintro e w3 ⟨rfl, rfl⟩
  go_wp2_with fail
  refine (refNext_any s hs _ _).mono ?_
  rintro e w3 ⟨rfl, hb3⟩
  have HB3 := Lib.hid (HB2.out.trans (hb3.mono HB2.out.size))
  have HL3 := Lib.hid (HL2.out.below hb3 HL2.out.lt)
  have HT3 := Lib.hid (HT.out.below HB3.out hg)
  clear hb3
  go_wp2_with fail
  refine (HP _ HT3.out).out.mono ?_
  rintro e w4 ⟨rfl, rfl⟩
  go_wp2_with fail
  refine (list_lies s hs _ HT3.out (by have := HB3.out.size; omega)).mono ?_
  rintro e w4 ⟨rfl, hl4, hb4⟩
  have HB4 := Lib.hid (HB3.out.trans (hb4.mono HB3.out.size))
  have HL4 := Lib.hid (HL3.out.below hb4 HL3.out.lt)
  have HM4 := Lib.hid hl4
  clear hb4 hl4
  go_wp2_with fail
  refine (same_any (els s) hlen _ _ _ _ _ HM4.out HL4.out).mono ?_
  rintro e w5 ⟨rfl, hb5⟩
  have HB5 := Lib.hid (HB4.out.trans (hb5.mono HB4.out.size))
  have hz5 := HB5.out.size
  have HO5 : Hid ((w5.alloc (.cells #[] 3)).ownsRow w5.heap.size 3 1 (.slice (some ⟨w5.heap.size, 0, none⟩) 0 0) 0 []) := Lib.hid (World.ownsRow_made w5 #[] 0 (Nat.le_refl _) (by unfold maxLen; omega) rfl)
  have HB6 := Lib.hid (HB5.out.alloc HB5.out.size (.cells #[] 3))
  clear hb5
  have HRS := Lib.hid (HR.out.below HB6.out hbW)
  go_wp2_with (
    at_builtin
    refine wpList_wanted rfl fun K hK => wp_append_own _ (.tmp 90) (.tmp 91) 23 rfl w5.heap.size 3 i0 _ 1 8 Tryd.underlying23 hi hz0 hz1 hz2 rfl (by omega) _ 0 _ rfl HO5.out
      ⟨b, off, none⟩ len cap (zcells l) rfl ?c0 ?c1 ?c2 ?c3 ?c4 ?c5 fun v7 w7 hown7 hg7 hv7 => hK _ _ ?_)
  case c0 => rw [zcells_length, HLL.out] <;> omega
  case c1 =>
    intro j u hu
    obtain ⟨hj, rfl⟩ := zcells_get hu
    rw [add_plain]
    exact HRS.out j hj
  case c2 => exact zcells_one l
  case c3 => unfold maxLen; omega
  case c4 => omega
  case c5 => simp
  obtain ⟨g7, cap7, rfl⟩ : ∃ g7 cap7, v7 = .slice (some ⟨g7, 0, none⟩) len cap7 := by
    rcases hown7.2 with ⟨h, _⟩ | ⟨g7, cap7, _, h, _⟩
    · have h2 := (hv7.1 h).1
      cases h2
    · rw [Nat.zero_add] at h
      exact ⟨g7, cap7, h⟩
  rw [Nat.zero_add, List.nil_append] at hown7
  have HW7 := Lib.hid (rowAt_of hown7)
  have HB7 := Lib.hid (HB6.out.grown hg7 HB6.out.size (fun j hj => by cases hj; exact hz5))
  have HR7 := Lib.hid (HR.out.below HB7.out hbW)
  clear hown7 hg7 hv7
  have HOF := Lib.hid (of_any g7 0 cap7 l (by rw [HLL.out]; omega) w7 HW7.out)
  have HRF := Lib.hid (refOf_any b off cap l (by rw [HLL.out]; omega) w7 HR7.out)
  rw [HLL.out] at HOF HRF
  go_wp2_with fail
  refine HOF.out.mono ?_
  rintro e w8 ⟨rfl, rfl⟩
  go_wp2_with fail
  refine HRF.out.mono ?_
  rintro e w8 ⟨rfl, rfl⟩
  go_wp2_with fail
  refine (lives_any _ (HT.out.below HB7.out hg) (by have := HB7.out.size; omega)).mono ?_
  rintro e w8 ⟨rfl, hb8⟩
  go_wp2
  go_ret
  exact ⟨rfl, HB7.out.trans (hb8.mono HB7.out.size)⟩

set_option maxRecDepth 100000 in
set_option maxHeartbeats 2000000 in
theorem walk_gt_neg (s : Nat) (hs : Is64 s) (n : Int) (hn : n < 0) (w : World) (hT : Tab w) (hg : 0 < w.heap.size) (b off len cap : Nat) (l : List Int) (hl : l.length = 200) (h200 : 200 < len) (hcap : len ≤ cap) (hmax : cap ≤ 9223372036854775807) (hbW : b < w.heap.size) (hrow : RowAt w b off l) :
    Calls Tryd.prog 3 #[.int .u64 (s : Int), .int .i64 n, .slice (some ⟨b, off, none⟩) len cap] w fun e w' => e = .returned (.bool true) ∧ Below w.heap.size w w' := by
  have HT := Lib.hid hT
  clear hT
  obtain ⟨i0, hi, hz0, hz1, hz2⟩ := info_parts infoInt
  have hlen := els_length_le s
  have HR := Lib.hid hrow
  have HBW := Lib.hid hbW
  have HLL := Lib.hid hl
  clear hrow hl
  have HP := fun v (hv : Tab v) => Lib.hid (pick_any s hs n v hv)
  rw [if_pos hn] at HP
  have HNS := Lib.hid (next_start s (n := -1) (by omega))
  go_enter Tryd.func3, Tryd.ntmps3
  go_wp2_with fail
  refine (refList_any s hs _).mono ?_
  rintro e w1 ⟨g1, cap1, rfl, hl1, hb1, hg1⟩
  have HL1 := Lib.hid hl1
  have HB1 := Lib.hid hb1
  have HT1 := Lib.hid (HT.out.below hb1 hg)
  clear hl1 hb1 hg1
  go_wp2_with fail
  refine (has_any s hs _ _).mono ?_
  rintro e w2 ⟨rfl, rfl⟩
  go_wp2_with fail
  refine (refHas_any s hs _ _).mono ?_
  rintro e w2 ⟨rfl, rfl⟩
  go_wp2_with fail
  refine (with_any s hs _ _).mono ?_
  rintro e w2 ⟨rfl, rfl⟩
  go_wp2_with fail
  refine (refWith_any s hs _ _).mono ?_
  rintro e w2 ⟨rfl, rfl⟩
  go_wp2_with fail
  refine (without_any s hs _ _).mono ?_
  rintro e w2 ⟨rfl, rfl⟩
  go_wp2_with fail
  refine (refWithout_any s hs _ _).mono ?_
  rintro e w2 ⟨rfl, rfl⟩
  go_wp2_with fail
  refine (count_any s hs _).mono ?_
  rintro e w2 ⟨rfl, rfl⟩
  go_wp2_with fail
  refine (first_any s hs _ HT1.out).mono ?_
  rintro e w2 ⟨rfl, rfl⟩
  go_wp2_with fail
  refine (refNext_any s hs (-1) _).mono ?_
  rw [HNS.out]
  rintro e w2 ⟨rfl, hb2⟩
  have HB2 := Lib.hid (HB1.out.trans (hb2.mono HB1.out.size))
  have HL2 := Lib.hid (HL1.out.below hb2 HL1.out.lt)
  have HT2 := Lib.hid (HT.out.below HB2.out hg)
  clear hb2
  go_wp2_with fail
  refine (next_any s hs _ _ HT2.out).mono ?_
  rintro e w3 ⟨rfl, rfl⟩
  go_wp2_with fail
  refine (refNext_any s hs _ _).mono ?_
  rintro e w3 ⟨rfl, hb3⟩
  have HB3 := Lib.hid (HB2.out.trans (hb3.mono HB2.out.size))
  have HL3 := Lib.hid (HL2.out.below hb3 HL2.out.lt)
  have HT3 := Lib.hid (HT.out.below HB3.out hg)
  clear hb3
  go_wp2_with fail
  refine (HP _ HT3.out).out.mono ?_
  rintro e w4 ⟨rfl, rfl⟩
  go_wp2_with fail
  refine (list_lies s hs _ HT3.out (by have := HB3.out.size; omega)).mono ?_
  rintro e w4 ⟨rfl, hl4, hb4⟩
  have HB4 := Lib.hid (HB3.out.trans (hb4.mono HB3.out.size))
  have HL4 := Lib.hid (HL3.out.below hb4 HL3.out.lt)
  have HM4 := Lib.hid hl4
  clear hb4 hl4
  go_wp2_with fail
  refine (same_any (els s) hlen _ _ _ _ _ HM4.out HL4.out).mono ?_
  rintro e w5 ⟨rfl, hb5⟩
  have HB5 := Lib.hid (HB4.out.trans (hb5.mono HB4.out.size))
  have hz5 := HB5.out.size
  have HO5 : Hid ((w5.alloc (.cells #[] 3)).ownsRow w5.heap.size 3 1 (.slice (some ⟨w5.heap.size, 0, none⟩) 0 0) 0 []) := Lib.hid (World.ownsRow_made w5 #[] 0 (Nat.le_refl _) (by unfold maxLen; omega) rfl)
  have HB6 := Lib.hid (HB5.out.alloc HB5.out.size (.cells #[] 3))
  clear hb5
  have HRS := Lib.hid (HR.out.below HB6.out hbW)
  go_wp2_with (
    at_builtin
    refine wpList_wanted rfl fun K hK => wp_append_own _ (.tmp 90) (.tmp 91) 23 rfl w5.heap.size 3 i0 _ 1 8 Tryd.underlying23 hi hz0 hz1 hz2 rfl (by omega) _ 0 _ rfl HO5.out
      ⟨b, off, none⟩ 200 cap (zcells l) rfl ?c0 ?c1 ?c2 ?c3 ?c4 ?c5 fun v7 w7 hown7 hg7 hv7 => hK _ _ ?_)
  case c0 => rw [zcells_length, HLL.out] <;> omega
  case c1 =>
    intro j u hu
    obtain ⟨hj, rfl⟩ := zcells_get hu
    rw [add_plain]
    exact HRS.out j hj
  case c2 => exact zcells_one l
  case c3 => unfold maxLen; omega
  case c4 => omega
  case c5 => simp
  obtain ⟨g7, cap7, rfl⟩ : ∃ g7 cap7, v7 = .slice (some ⟨g7, 0, none⟩) 200 cap7 := by
    rcases hown7.2 with ⟨h, _⟩ | ⟨g7, cap7, _, h, _⟩
    · have h2 := (hv7.1 h).1
      cases h2
    · rw [Nat.zero_add] at h
      exact ⟨g7, cap7, h⟩
  rw [Nat.zero_add, List.nil_append] at hown7
  have HW7 := Lib.hid (rowAt_of hown7)
  have HB7 := Lib.hid (HB6.out.grown hg7 HB6.out.size (fun j hj => by cases hj; exact hz5))
  have HR7 := Lib.hid (HR.out.below HB7.out hbW)
  clear hown7 hg7 hv7
  have HOF := Lib.hid (of_any g7 0 cap7 l (by rw [HLL.out]; omega) w7 HW7.out)
  have HRF := Lib.hid (refOf_any b off cap l (by rw [HLL.out]; omega) w7 HR7.out)
  rw [HLL.out] at HOF HRF
  go_wp2_with fail
  refine HOF.out.mono ?_
  rintro e w8 ⟨rfl, rfl⟩
  go_wp2_with fail
  refine HRF.out.mono ?_
  rintro e w8 ⟨rfl, rfl⟩
  go_wp2_with fail
  refine (lives_any _ (HT.out.below HB7.out hg) (by have := HB7.out.size; omega)).mono ?_
  rintro e w8 ⟨rfl, hb8⟩
  go_wp2
  go_ret
  exact ⟨rfl, HB7.out.trans (hb8.mono HB7.out.size)⟩

set_option maxRecDepth 100000 in
set_option maxHeartbeats 2000000 in
theorem walk_gt_some (s : Nat) (hs : Is64 s) (k : Nat) (hk : k < (els s).length) (w : World) (hT : Tab w) (hg : 0 < w.heap.size) (b off len cap : Nat) (l : List Int) (hl : l.length = 200) (h200 : 200 < len) (hcap : len ≤ cap) (hmax : cap ≤ 9223372036854775807) (hbW : b < w.heap.size) (hrow : RowAt w b off l) :
    Calls Tryd.prog 3 #[.int .u64 (s : Int), .int .i64 (k : Int), .slice (some ⟨b, off, none⟩) len cap] w fun e w' => e = .returned (.bool true) ∧ Below w.heap.size w w' := by
  have HT := Lib.hid hT
  clear hT
  obtain ⟨i0, hi, hz0, hz1, hz2⟩ := info_parts infoInt
  have hlen := els_length_le s
  have HR := Lib.hid hrow
  have HBW := Lib.hid hbW
  have HLL := Lib.hid hl
  clear hrow hl
  have HP := fun v (hv : Tab v) => Lib.hid (pick_any s hs (k : Int) v hv)
  obtain ⟨x, hx⟩ : ∃ x : Nat, (els s)[k]? = some x := ⟨_, List.getElem?_eq_getElem hk⟩
  have HX := Lib.hid hx
  rw [if_neg (by omega), Int.toNat_natCast, atI_some hx] at HP
  clear hx
  have HNS := Lib.hid (next_start s (n := -1) (by omega))
  go_enter Tryd.func3, Tryd.ntmps3
  go_wp2_with fail
  refine (refList_any s hs _).mono ?_
  rintro e w1 ⟨g1, cap1, rfl, hl1, hb1, hg1⟩
  have hc := hl1.cell HX.out
  have HL1 := Lib.hid hl1
  have HB1 := Lib.hid hb1
  have HT1 := Lib.hid (HT.out.below hb1 hg)
  clear hl1 hb1 hg1
  go_wp2_with fail
  refine (has_any s hs _ _).mono ?_
  rintro e w2 ⟨rfl, rfl⟩
  go_wp2_with fail
  refine (refHas_any s hs _ _).mono ?_
  rintro e w2 ⟨rfl, rfl⟩
  go_wp2_with fail
  refine (with_any s hs _ _).mono ?_
  rintro e w2 ⟨rfl, rfl⟩
  go_wp2_with fail
  refine (refWith_any s hs _ _).mono ?_
  rintro e w2 ⟨rfl, rfl⟩
  go_wp2_with fail
  refine (without_any s hs _ _).mono ?_
  rintro e w2 ⟨rfl, rfl⟩
  go_wp2_with fail
  refine (refWithout_any s hs _ _).mono ?_
  rintro e w2 ⟨rfl, rfl⟩
  go_wp2_with fail
  refine (count_any s hs _).mono ?_
  rintro e w2 ⟨rfl, rfl⟩
  go_wp2_with fail
  refine (first_any s hs _ HT1.out).mono ?_
  rintro e w2 ⟨rfl, rfl⟩
  go_wp2_with fail
  refine (refNext_any s hs (-1) _).mono ?_
  rw [HNS.out]
  rintro e w2 ⟨rfl, hb2⟩
  have HB2 := Lib.hid (HB1.out.trans (hb2.mono HB1.out.size))
  have HL2 := Lib.hid (HL1.out.below hb2 HL1.out.lt)
  have HT2 := Lib.hid (HT.out.below HB2.out hg)
  clear hb2
  go_wp2_with fail
  refine (next_any s hs _ _ HT2.out).mono ?_
  rintro e w3 ⟨rfl, rfl⟩
  go_wp2_with fail
  refine (refNext_any s hs _ _).mono ?_
  rintro e w3 ⟨rfl, hb3⟩
  have HB3 := Lib.hid (HB2.out.trans (hb3.mono HB2.out.size))
  have HL3 := Lib.hid (HL2.out.below hb3 HL2.out.lt)
  have HT3 := Lib.hid (HT.out.below HB3.out hg)
  clear hb3
  go_wp2_with fail
  refine (HP _ HT3.out).out.mono ?_
  rintro e w4 ⟨rfl, rfl⟩
  go_wp2_with fail
  refine (list_lies s hs _ HT3.out (by have := HB3.out.size; omega)).mono ?_
  rintro e w4 ⟨rfl, hl4, hb4⟩
  have HB4 := Lib.hid (HB3.out.trans (hb4.mono HB3.out.size))
  have HL4 := Lib.hid (HL3.out.below hb4 HL3.out.lt)
  have HM4 := Lib.hid hl4
  clear hb4 hl4
  go_wp2_with fail
  refine (same_any (els s) hlen _ _ _ _ _ HM4.out HL4.out).mono ?_
  rintro e w5 ⟨rfl, hb5⟩
  have HB5 := Lib.hid (HB4.out.trans (hb5.mono HB4.out.size))
  have hz5 := HB5.out.size
  have HO5 : Hid ((w5.alloc (.cells #[] 3)).ownsRow w5.heap.size 3 1 (.slice (some ⟨w5.heap.size, 0, none⟩) 0 0) 0 []) := Lib.hid (World.ownsRow_made w5 #[] 0 (Nat.le_refl _) (by unfold maxLen; omega) rfl)
  have HB6 := Lib.hid (HB5.out.alloc HB5.out.size (.cells #[] 3))
  clear hb5
  have HRS := Lib.hid (HR.out.below HB6.out hbW)
  go_wp2_with (
    at_builtin
    refine wpList_wanted rfl fun K hK => wp_append_own _ (.tmp 90) (.tmp 91) 23 rfl w5.heap.size 3 i0 _ 1 8 Tryd.underlying23 hi hz0 hz1 hz2 rfl (by omega) _ 0 _ rfl HO5.out
      ⟨b, off, none⟩ 200 cap (zcells l) rfl ?c0 ?c1 ?c2 ?c3 ?c4 ?c5 fun v7 w7 hown7 hg7 hv7 => hK _ _ ?_)
  case c0 => rw [zcells_length, HLL.out] <;> omega
  case c1 =>
    intro j u hu
    obtain ⟨hj, rfl⟩ := zcells_get hu
    rw [add_plain]
    exact HRS.out j hj
  case c2 => exact zcells_one l
  case c3 => unfold maxLen; omega
  case c4 => omega
  case c5 => simp
  obtain ⟨g7, cap7, rfl⟩ : ∃ g7 cap7, v7 = .slice (some ⟨g7, 0, none⟩) 200 cap7 := by
    rcases hown7.2 with ⟨h, _⟩ | ⟨g7, cap7, _, h, _⟩
    · have h2 := (hv7.1 h).1
      cases h2
    · rw [Nat.zero_add] at h
      exact ⟨g7, cap7, h⟩
  rw [Nat.zero_add, List.nil_append] at hown7
  have HW7 := Lib.hid (rowAt_of hown7)
  have HB7 := Lib.hid (HB6.out.grown hg7 HB6.out.size (fun j hj => by cases hj; exact hz5))
  have HR7 := Lib.hid (HR.out.below HB7.out hbW)
  clear hown7 hg7 hv7
  have HOF := Lib.hid (of_any g7 0 cap7 l (by rw [HLL.out]; omega) w7 HW7.out)
  have HRF := Lib.hid (refOf_any b off cap l (by rw [HLL.out]; omega) w7 HR7.out)
  rw [HLL.out] at HOF HRF
  go_wp2_with fail
  refine HOF.out.mono ?_
  rintro e w8 ⟨rfl, rfl⟩
  go_wp2_with fail
  refine HRF.out.mono ?_
  rintro e w8 ⟨rfl, rfl⟩
  go_wp2_with fail
  refine (lives_any _ (HT.out.below HB7.out hg) (by have := HB7.out.size; omega)).mono ?_
  rintro e w8 ⟨rfl, hb8⟩
  go_wp2
  go_ret
  exact ⟨rfl, HB7.out.trans (hb8.mono HB7.out.size)⟩

set_option maxRecDepth 100000 in
set_option maxHeartbeats 2000000 in
theorem walk_gt_out (s : Nat) (hs : Is64 s) (k : Nat) (hk : (els s).length ≤ k) (w : World) (hT : Tab w) (hg : 0 < w.heap.size) (b off len cap : Nat) (l : List Int) (hl : l.length = 200) (h200 : 200 < len) (hcap : len ≤ cap) (hmax : cap ≤ 9223372036854775807) (hbW : b < w.heap.size) (hrow : RowAt w b off l) :
    Calls Tryd.prog 3 #[.int .u64 (s : Int), .int .i64 (k : Int), .slice (some ⟨b, off, none⟩) len cap] w fun e w' => e = .returned (.bool true) ∧ Below w.heap.size w w' := by
  have HT := Lib.hid hT
  clear hT
  obtain ⟨i0, hi, hz0, hz1, hz2⟩ := info_parts infoInt
  have hlen := els_length_le s
  have HR := Lib.hid hrow
  have HBW := Lib.hid hbW
  have HLL := Lib.hid hl
  clear hrow hl
  have HP := fun v (hv : Tab v) => Lib.hid (pick_any s hs (k : Int) v hv)
  rw [if_neg (by omega), Int.toNat_natCast, atI_none hk] at HP
  have hd : decide (k < (els s).length) = false := by simp; omega
  have hd2 : decide ((k : Int) < ((els s).length : Int)) = false := by simp; omega
  clear hk
  have HNS := Lib.hid (next_start s (n := -1) (by omega))
  go_enter Tryd.func3, Tryd.ntmps3
  go_wp2_with fail
  refine (refList_any s hs _).mono ?_
  rintro e w1 ⟨g1, cap1, rfl, hl1, hb1, hg1⟩
  have HL1 := Lib.hid hl1
  have HB1 := Lib.hid hb1
  have HT1 := Lib.hid (HT.out.below hb1 hg)
  clear hl1 hb1 hg1
  go_wp2_with fail
  refine (has_any s hs _ _).mono ?_
  rintro e w2 ⟨rfl, rfl⟩
  go_wp2_with fail
  refine (refHas_any s hs _ _).mono ?_
  rintro e w2 ⟨rfl, rfl⟩
  go_wp2_with fail
  refine (with_any s hs _ _).mono ?_
  rintro e w2 ⟨rfl, rfl⟩
  go_wp2_with fail
  refine (refWith_any s hs _ _).mono ?_
  rintro e w2 ⟨rfl, rfl⟩
  go_wp2_with fail
  refine (without_any s hs _ _).mono ?_
  rintro e w2 ⟨rfl, rfl⟩
  go_wp2_with fail
  refine (refWithout_any s hs _ _).mono ?_
  rintro e w2 ⟨rfl, rfl⟩
  go_wp2_with fail
  refine (count_any s hs _).mono ?_
  rintro e w2 ⟨rfl, rfl⟩
  go_wp2_with fail
  refine (first_any s hs _ HT1.out).mono ?_
  rintro e w2 ⟨rfl, rfl⟩
  go_wp2_with fail
  refine (refNext_any s hs (-1) _).mono ?_
  rw [HNS.out]
  rintro e w2 ⟨rfl, hb2⟩
  have HB2 := Lib.hid (HB1.out.trans (hb2.mono HB1.out.size))
  have HL2 := Lib.hid (HL1.out.below hb2 HL1.out.lt)
  have HT2 := Lib.hid (HT.out.below HB2.out hg)
  clear hb2
  go_wp2_with fail
  refine (next_any s hs _ _ HT2.out).mono ?_
  rintro e w3 ⟨rfl, rfl⟩
  go_wp2_with fail
  refine (refNext_any s hs _ _).mono ?_
  rintro e w3 ⟨rfl, hb3⟩
  have HB3 := Lib.hid (HB2.out.trans (hb3.mono HB2.out.size))
  have HL3 := Lib.hid (HL2.out.below hb3 HL2.out.lt)
  have HT3 := Lib.hid (HT.out.below HB3.out hg)
  clear hb3
  go_wp2_with fail
  refine (HP _ HT3.out).out.mono ?_
  rintro e w4 ⟨rfl, rfl⟩
  go_wp2_with fail
  refine (list_lies s hs _ HT3.out (by have := HB3.out.size; omega)).mono ?_
  rintro e w4 ⟨rfl, hl4, hb4⟩
  have HB4 := Lib.hid (HB3.out.trans (hb4.mono HB3.out.size))
  have HL4 := Lib.hid (HL3.out.below hb4 HL3.out.lt)
  have HM4 := Lib.hid hl4
  clear hb4 hl4
  go_wp2_with fail
  refine (same_any (els s) hlen _ _ _ _ _ HM4.out HL4.out).mono ?_
  rintro e w5 ⟨rfl, hb5⟩
  have HB5 := Lib.hid (HB4.out.trans (hb5.mono HB4.out.size))
  have hz5 := HB5.out.size
  have HO5 : Hid ((w5.alloc (.cells #[] 3)).ownsRow w5.heap.size 3 1 (.slice (some ⟨w5.heap.size, 0, none⟩) 0 0) 0 []) := Lib.hid (World.ownsRow_made w5 #[] 0 (Nat.le_refl _) (by unfold maxLen; omega) rfl)
  have HB6 := Lib.hid (HB5.out.alloc HB5.out.size (.cells #[] 3))
  clear hb5
  have HRS := Lib.hid (HR.out.below HB6.out hbW)
  go_wp2_with (
    at_builtin
    refine wpList_wanted rfl fun K hK => wp_append_own _ (.tmp 90) (.tmp 91) 23 rfl w5.heap.size 3 i0 _ 1 8 Tryd.underlying23 hi hz0 hz1 hz2 rfl (by omega) _ 0 _ rfl HO5.out
      ⟨b, off, none⟩ 200 cap (zcells l) rfl ?c0 ?c1 ?c2 ?c3 ?c4 ?c5 fun v7 w7 hown7 hg7 hv7 => hK _ _ ?_)
  case c0 => rw [zcells_length, HLL.out] <;> omega
  case c1 =>
    intro j u hu
    obtain ⟨hj, rfl⟩ := zcells_get hu
    rw [add_plain]
    exact HRS.out j hj
  case c2 => exact zcells_one l
  case c3 => unfold maxLen; omega
  case c4 => omega
  case c5 => simp
  obtain ⟨g7, cap7, rfl⟩ : ∃ g7 cap7, v7 = .slice (some ⟨g7, 0, none⟩) 200 cap7 := by
    rcases hown7.2 with ⟨h, _⟩ | ⟨g7, cap7, _, h, _⟩
    · have h2 := (hv7.1 h).1
      cases h2
    · rw [Nat.zero_add] at h
      exact ⟨g7, cap7, h⟩
  rw [Nat.zero_add, List.nil_append] at hown7
  have HW7 := Lib.hid (rowAt_of hown7)
  have HB7 := Lib.hid (HB6.out.grown hg7 HB6.out.size (fun j hj => by cases hj; exact hz5))
  have HR7 := Lib.hid (HR.out.below HB7.out hbW)
  clear hown7 hg7 hv7
  have HOF := Lib.hid (of_any g7 0 cap7 l (by rw [HLL.out]; omega) w7 HW7.out)
  have HRF := Lib.hid (refOf_any b off cap l (by rw [HLL.out]; omega) w7 HR7.out)
  rw [HLL.out] at HOF HRF
  go_wp2_with fail
  refine HOF.out.mono ?_
  rintro e w8 ⟨rfl, rfl⟩
  go_wp2_with fail
  refine HRF.out.mono ?_
  rintro e w8 ⟨rfl, rfl⟩
  go_wp2_with fail
  refine (lives_any _ (HT.out.below HB7.out hg) (by have := HB7.out.size; omega)).mono ?_
  rintro e w8 ⟨rfl, hb8⟩
  go_wp2
  go_ret
  exact ⟨rfl, HB7.out.trans (hb8.mono HB7.out.size)⟩

theorem cases_of (s : Nat) (n : Int) : n < 0 ∨ (∃ k : Nat, n = (k : Int) ∧ k < (els s).length) ∨ (∃ k : Nat, n = (k : Int) ∧ (els s).length ≤ k) := by
  by_cases h0 : n < 0
  · exact .inl h0
  · right
    by_cases h1 : n.toNat < (els s).length
    · exact .inl ⟨n.toNat, by omega, h1⟩
    · exact .inr ⟨n.toNat, by omega, by omega⟩
theorem laidOut : laidOutB Tryd.prog = true := by kernel_rfl
theorem cells3 : Tryd.prog.cellsOf 3 = 1 := by kernel_rfl

set_option maxRecDepth 100000 in
theorem lifted (os : Os) (started : os.Started) (H : Type) (enc : TypeId × Value → H) :
    ReturnsInHanded {} Tryd.checked os 3 .any (fun w args => (Rows.bitsTellsSpec.pre enc Tryd.prog Tryd.f3 [] false w args ∧ laidMetH Tryd.prog laid3 w) ∧ sizedMet enc Tryd.prog Tryd.f3 (OpenSpec.ofChange Rows.bitsTellsSpec) false w args)
      (Rows.bitsTellsSpec.post enc Tryd.prog Tryd.f3 false true false false) := by
  refine returnsInHanded_of_change_and (C := Tryd.checked) (X := fun w _ => laidMetH Tryd.prog laid3 w) (fun _ _ _ hh h => h.of_heap hh) own started (by kernel_rfl) Tryd.func3
    (ChangeSpec.witness_shaped (enc := enc) (C := Tryd.checked) (os := os) (X := fun w _ => laidMetH Tryd.prog laid3 w) false (World.doorLaid Tryd.prog 62 os) #[.int .u64 0, .int .i64 0, .slice none 0 0] 8 rfl (World.shaped_of_RefB (by kernel_rfl) (by kernel_rfl)) (by kernel_rfl) (by kernel_rfl) (by kernel_rfl) (door_met os _)) ?_
  intro W base args ds gs before hval0 hW _ hsz0 hL _
  have hval : ∀ (j : Nat) t v, Tryd.f3.params[j]? = some t → args[j]? = some v → Value.okWide Tryd.prog W .any base t v := hval0
  have hsz : (DataW.weightsEach Tryd.prog (Tryd.f3.params.toList ++ Rows.bitsTellsSpec.plain.varTypes Tryd.prog) (ds ++ gs)).all (· ≤ reachBytes) = true := hsz0
  have hW' := hW
  obtain ⟨p, q, hA0, hV, rfl, hfz, hnd⟩ := hW
  have hA : DataW.TrodAll enc Tryd.prog W 0 (fun _ => true) true Tryd.f3.params.toList args.toList ds p := hA0
  rw [Tryd.params3] at hA hval hsz
  obtain ⟨v0, vs0, d0, ds0, p0, q0, hargs, rfl, rfl, h0, r0⟩ := trodAll_cons hA
  obtain ⟨v1, vs1, d1, ds1, p1, q1, rfl, rfl, rfl, h1, r1⟩ := trodAll_cons r0
  obtain ⟨v2, vs2, d2, ds2, p2, q2, rfl, rfl, rfl, h2, r2⟩ := trodAll_cons r1
  obtain ⟨rfl, rfl, rfl⟩ := trodAll_nil r2
  obtain rfl : args = #[v0, v1, v2] := by cases args; simp_all
  obtain ⟨rfl, rfl⟩ := trodVars_none hV
  obtain ⟨n0', rfl, rfl, rfl, w0⟩ := open_int Tryd.underlying22 (hval 0 22 v0 rfl rfl) h0
  obtain ⟨a1, rfl, rfl, rfl, w1⟩ := open_int Tryd.underlying3 (hval 1 3 v1 rfl rfl) h1
  obtain ⟨a0, len, cap, rfl⟩ := okWide_slice Tryd.underlying23 (hval 2 23 v2 rfl rfl)
  obtain ⟨n0, rfl, hn0⟩ := fits_of n0' w0
  have h2k := h2
  obtain ⟨fuel, hf⟩ := h2
  clear hA0 hval0
  obtain ⟨hT, hg⟩ := of_laid hL
  simp only [List.append_nil, List.nil_append] at hW'
  have hlt : ∀ x ∈ p2, x.block < W.heap.size := fun x hx => by simpa using hW'.lt x hx
  have hwalk : Calls Tryd.prog 3 #[.int .u64 (n0 : Int), .int .i64 a1, .slice a0 len cap] W fun e w' => e = .returned (.bool true) ∧ Below W.heap.size W w' := by
    rcases open_ints Tryd.underlying23 Tryd.underlying3 cells3 hf with ⟨hcs, hx⟩ | ⟨a, len', cap', zs, hcs, _, hl, hm, hz, hx, hcell, hwz⟩
    · simp [Value.cells] at hcs
      obtain ⟨rfl, rfl, rfl⟩ := hcs
      rcases cases_of n0 a1 with h | ⟨k, rfl, h⟩ | ⟨k, rfl, h⟩
      · exact walk_none_neg n0 hn0 a1 h W hT hg
      · exact walk_none_some n0 hn0 k h W hT hg
      · exact walk_none_out n0 hn0 k h W hT hg
    · simp [Value.cells] at hcs
      obtain ⟨rfl, rfl, rfl⟩ := hcs
      simp only [Prod.mk.injEq] at hx
      obtain ⟨rfl, rfl⟩ := hx
      simp only [if_true] at hz
      by_cases hl0 : cap = 0
      · obtain rfl : len = 0 := by omega
        subst hl0
        rcases cases_of n0 a1 with h | ⟨k, rfl, h⟩ | ⟨k, rfl, h⟩
        · exact walk_zero_neg n0 hn0 a1 h W hT hg a 0
        · exact walk_zero_some n0 hn0 k h W hT hg a 0
        · exact walk_zero_out n0 hn0 k h W hT hg a 0
      · obtain ⟨b, off, spot⟩ := a
        have hspot : spot = none := by simpa [Addr.add] using World.cell?_spot (hcell 0 (by omega))
        subst hspot
        have hbW : b < W.heap.size := hlt (.cell b off) (MemPlace.mem_row.2 ⟨0, by omega, by simp⟩)
        have hm' : cap ≤ 9223372036854775807 := by simpa [maxLen] using hm
        have hrow : RowAt W b off zs := fun j hj => by
          rw [← add_plain, hcell j hj]
          simp [List.getD, List.getElem?_eq_getElem hj]
        have htake : ∀ m, RowAt W b off (zs.take m) := fun m j hj => by
          have h1 := hrow j (by rw [List.length_take] at hj; omega)
          rw [h1, List.getElem_take]
        by_cases h200 : len ≤ 200
        · rcases cases_of n0 a1 with h | ⟨k, rfl, h⟩ | ⟨k, rfl, h⟩
          · exact walk_le_neg n0 hn0 a1 h W hT hg b off len cap (zs.take len) (by rw [List.length_take]; omega) h200 hl hbW (htake len)
          · exact walk_le_some n0 hn0 k h W hT hg b off len cap (zs.take len) (by rw [List.length_take]; omega) h200 hl hbW (htake len)
          · exact walk_le_out n0 hn0 k h W hT hg b off len cap (zs.take len) (by rw [List.length_take]; omega) h200 hl hbW (htake len)
        · rcases cases_of n0 a1 with h | ⟨k, rfl, h⟩ | ⟨k, rfl, h⟩
          · exact walk_gt_neg n0 hn0 a1 h W hT hg b off len cap (zs.take 200) (by rw [List.length_take]; omega) (by omega) hl hm' hbW (htake 200)
          · exact walk_gt_some n0 hn0 k h W hT hg b off len cap (zs.take 200) (by rw [List.length_take]; omega) (by omega) hl hm' hbW (htake 200)
          · exact walk_gt_out n0 hn0 k h W hT hg b off len cap (zs.take 200) (by rw [List.length_take]; omega) (by omega) hl hm' hbW (htake 200)
  refine (hwalk).mono fun e W' ⟨he, hb⟩ => ?_
  subst he
  exact ⟨_, rfl, post_below (pa := p2) (pv := []) hW' (fun _ _ _ => (trodAll_cons_mk (shut_bool Tryd.underlying4 _) trodAll_mk0)) (fun sp hsp => by
    have h := trodAll_cons_mk (shut_int (enc := enc) (w := W') (base := 0) (spare := sp) (held := true) Tryd.underlying22 w0) (trodAll_cons_mk (shut_int Tryd.underlying3 w1) (trodAll_cons_mk (WideElems.Trod_stays laidOut (by kernel_rfl) (of_decide_eq_true (by kernel_rfl)) h2k (fun x hx => hb.same (hlt x hx)) (fun x hx => hsp x hx)) trodAll_mk0))
    rw [List.append_nil] at h
    exact h) (fun _ _ => rfl) (by simp)
    hb (ok_one (by kernel_rfl) rfl (okWide_bool_mk Tryd.underlying4 _))⟩

theorem said : Rows.BitsTellsSaid :=
  OpenClaim.holds_of_wide 3 Tryd.f3 rfl rfl rfl rfl rfl rfl rfl ⟨rfl, rfl, rfl, rfl, rfl⟩ rfl rfl rfl rfl rfl (by kernel_rfl) Tryd.func3 (by kernel_rfl)
    (of_decide_eq_true (by kernel_rfl)) (by unfold Func.isWrapper; first | (rw [if_pos (by decide +kernel)]; kernel_rfl) | (rw [if_neg (by decide +kernel)]; exact ⟨rfl, rfl⟩))
    (fun os started H enc _ => lifted os started H enc)

theorem proved : Rows.BitsTellsCardSaid :=
  Claim7.holds_tied_plain_at .later [] [.data, .data, .data] true Rows.bitsTellsCard.stood.harness true
    said (fun _ h => by cases h) (by kernel_rfl) (fun _ h => by cases h) bitsTells_row_tie rfl ⟨rfl, rfl⟩ (by kernel_rfl) rfl
    (fun f fn hf hfn => by
      obtain rfl : f = 3 := Option.some.inj ((show Tryd.prog.funcNamed "logjam/logjamlaw02.BitsTells" = some 3 by kernel_rfl).symm.trans hf) |>.symm
      obtain rfl : fn = Tryd.f3 := (Option.some.inj (Tryd.func3.symm.trans hfn)).symm
      exact ⟨by kernel_rfl, fun j t ht => by
        rw [Tryd.params3] at ht
        have hm : t ∈ [22, 3, 23] := by simpa using Array.mem_of_getElem? ht
        have hall : ([22, 3, 23].all fun u => !Tryd.prog.wantsStandIn u) = true := by kernel_rfl
        exact (show Tryd.prog.wantsStandIn t = false by simpa using List.all_eq_true.1 hall t hm)⟩)
    (by kernel_rfl)
end Go.Proofs.YthpkndiegnhnbaaDoor.bitsTells
