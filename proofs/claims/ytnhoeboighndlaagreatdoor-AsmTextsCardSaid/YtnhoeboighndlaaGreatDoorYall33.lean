/-
  Texts of one claim in one file: DFit, DOne, DCheck, ECheck, GChk. Each has its own sentence, with its conditions.
-/
import Derived.Test.YtnhoeboighndlaaGreatDoorYall11
import Derived.Test.YtnhoeboighndlaaGreatDoorYall9
import Derived.Test.YtnhoeboighndlaaGreatDoorYall8
import Derived.Test.YtnhoeboighndlaaGreatDoorYall14
import Derived.Test.YtnhoeboighndlaaGreatDoorYall13
import Derived.Test.YtnhoeboighndlaaGreatDoorYall22
import Derived.Test.YtnhoeboighndlaaGreatDoorYall16
import Derived.Test.YtnhoeboighndlaaGreatDoorYall30
/-
  The program's own answer whether an object is of a kind that a letter stands for (typed over the code of 392f5a9). No condition but that a list is no longer than an int can say.
-/
namespace Go.Proofs.YtnhoeboighndlaaGreatDoor.objs
open Go.RowKit Go.ChangeShapes
set_option linter.unusedVariables false

theorem fits_out {l : List De} {c : UInt8} {o : Int} (h : ¬ (0 ≤ o ∧ o < (l.length : Int))) : fits l c o = false := by
  unfold fits
  rw [decide_eq_false h, Bool.false_and]
theorem u8_of {c k : UInt8} (h : ((c.toNat : Int) == (k.toNat : Int)) = true) : c = k := by
  have h1 := eq_of_beq h
  exact UInt8.toNat_inj.1 (by omega)
theorem u8_not {c k : UInt8} (h : ((c.toNat : Int) == (k.toNat : Int)) = false) : c ≠ k := fun e => by
  subst e
  simp at h
theorem kinds_rest {c : UInt8} {x : Int} (h0 : ((c.toNat : Int) == 117) = false) (h1 : ((c.toNat : Int) == 115) = false) (h2 : ((c.toNat : Int) == 112) = false) (h3 : ((c.toNat : Int) == 99) = false) (h4 : ((c.toNat : Int) == 109) = false) (h5 : ((c.toNat : Int) == 98) = false) (h6 : ((c.toNat : Int) == 118) = false) (h7 : ((c.toNat : Int) == 113) = false) :
    (kindsOf c).contains x = false := by
  unfold kindsOf
  rw [if_neg (u8_not (k := 117) h0), if_neg (u8_not (k := 115) h1), if_neg (u8_not (k := 112) h2), if_neg (u8_not (k := 99) h3), if_neg (u8_not (k := 109) h4), if_neg (u8_not (k := 98) h5), if_neg (u8_not (k := 118) h6), if_neg (u8_not (k := 113) h7)]
  rfl
theorem kinds_one {c : UInt8} {x m : Int} (h : kindsOf c = [m]) : (x == m) = (kindsOf c).contains x := by rw [h, List.contains_cons, List.contains_nil, Bool.or_false]
theorem kinds_two {c : UInt8} {x m n : Int} (h : kindsOf c = [m, n]) : (x == m || x == n) = (kindsOf c).contains x := by rw [h, List.contains_cons, List.contains_cons, List.contains_nil, Bool.or_false]

set_option maxRecDepth 100000 in
set_option maxHeartbeats 2000000 in
theorem fit_any (A : Option Addr) (cap : Nat) (l : List De) (c : UInt8) (o : Int) (hl : l.length ≤ 9223372036854775807) (w : World) (hA : DAt w A l) :
    Calls Tryz.prog 101 #[.slice A l.length cap, .int .u8 (c.toNat : Int), .int .i64 o] w fun e w' => e = .returned (.bool (fits l c o)) ∧ w = w' := by
  by_cases h0 : o < 0
  · have HE : Hid (fits l c o = false) := Lib.hid (fits_out (by omega))
    rw [HE.out]
    have hd : decide (o < 0) = true := by simpa using h0
    clear hA h0
    go_enter Tryz.func101, Tryz.ntmps101
    go_wp2_with fail
    go_ret
    exact ⟨rfl, rfl⟩
  · have hd : decide (o < 0) = false := by simpa using h0
    by_cases h1 : (l.length : Int) ≤ o
    · have HE : Hid (fits l c o = false) := Lib.hid (fits_out (by omega))
      rw [HE.out]
      have hd2 : decide ((l.length : Int) ≤ o) = true := by simpa using h1
      clear hA h0 h1
      go_enter Tryz.func101, Tryz.ntmps101
      go_wp2_with fail
      go_ret
      exact ⟨rfl, rfl⟩
    · obtain ⟨m, rfl⟩ : ∃ m : Nat, o = (m : Int) := ⟨o.toNat, by omega⟩
      have hm : m < l.length := by omega
      have hd2 : decide ((l.length : Int) ≤ (m : Int)) = false := by simpa using h1
      have hm2 : (m : Int) < (l.length : Int) := by omega
      have hm0 : (0 : Int) ≤ (m : Int) := by omega
      have HF : Hid (fits l c m = (kindsOf c).contains (l.getD m zero).1) := Lib.hid (by unfold fits; rw [decide_eq_true (by omega), Bool.true_and, Int.toNat_natCast])
      rw [HF.out]
      obtain ⟨b, off, rfl, hb, c0, _, _⟩ := hA m hm
      generalize (l.getD m zero).1 = x at *
      clear hA h0 h1 HF
      go_enter Tryz.func101, Tryz.ntmps101
      go_wp2
      all_goals go_ret
      all_goals refine ⟨ret_bool ?_, rfl⟩
      all_goals first
        | exact (kinds_rest ‹_› ‹_› ‹_› ‹_› ‹_› ‹_› ‹_› ‹_›).symm
        | (have hq : c = 117 := u8_of (k := 117) ‹((c.toNat : Int) == 117) = true›; subst hq; first | exact kinds_one rfl | exact kinds_two rfl | (rw [← kinds_two (x := x) (m := 1) (n := 2) rfl]; simp [*]))
        | (have hq : c = 115 := u8_of (k := 115) ‹((c.toNat : Int) == 115) = true›; subst hq; exact kinds_one rfl)
        | (have hq : c = 112 := u8_of (k := 112) ‹((c.toNat : Int) == 112) = true›; subst hq; exact kinds_one rfl)
        | (have hq : c = 99 := u8_of (k := 99) ‹((c.toNat : Int) == 99) = true›; subst hq; exact kinds_one rfl)
        | (have hq : c = 109 := u8_of (k := 109) ‹((c.toNat : Int) == 109) = true›; subst hq; exact kinds_one rfl)
        | (have hq : c = 98 := u8_of (k := 98) ‹((c.toNat : Int) == 98) = true›; subst hq; exact kinds_one rfl)
        | (have hq : c = 118 := u8_of (k := 118) ‹((c.toNat : Int) == 118) = true›; subst hq; exact kinds_one rfl)
        | (have hq : c = 113 := u8_of (k := 113) ‹((c.toNat : Int) == 113) = true›; subst hq; first | exact kinds_two rfl | (rw [← kinds_two (x := x) (m := 1) (n := 6) rfl]; simp [*]))
end Go.Proofs.YtnhoeboighndlaaGreatDoor.objs

/-
  The program's own answer what is wrong with an object (typed over the code of 392f5a9): for every object. The table of names must lie where its initialiser lays it.
-/
namespace Go.Proofs.YtnhoeboighndlaaGreatDoor.objs
open Go.RowKit Go.ChangeShapes
open Go.Proofs.YtnhoeboighndlaaGreatDoor.word (Word)
open Go.Proofs.YtnhoeboighndlaaGreatDoor.span (within_any)
set_option linter.unusedVariables false

/-- May the numbers be that an object's kind has? -/
def rng (l : List De) (d : De) : Bool :=
  if d.1 = 3 then decide (1 ≤ d.2.2 ∧ d.2.2 ≤ 1000) && decide (0 ≤ d.2.1 ∧ d.2.1 ≤ d.2.2) else if d.1 = 6 then decide (1 ≤ d.2.1 ∧ d.2.1 ≤ 1000) else if d.1 = 7 then decide (Word d.2.1) && fits l 117 d.2.2 else true
/-- Has it a number that its kind has not? -/
def more (d : De) : Bool := if d.1 = 3 ∨ d.1 = 7 then false else if d.1 = 6 then d.2.2 != 0 else (d.2.1 != 0 || d.2.2 != 0)
theorem one_6 {l : List De} {d : De} (h : ¬ (1 ≤ d.1 ∧ d.1 ≤ 7)) : one l d = 6 := by unfold one; rw [if_pos (by omega)]
theorem one_parts {l : List De} {d : De} (h : 1 ≤ d.1 ∧ d.1 ≤ 7) : one l d = if rng l d = false then 1 else if more d = true then 2 else 0 := by
  obtain ⟨k, a, b⟩ := d
  dsimp only at h
  unfold one rng more
  dsimp only
  rw [if_neg (by omega)]
  by_cases h3 : k = 3
  · subst h3
    simp only [true_and, if_true, true_or, Bool.false_eq_true, if_false]
    by_cases hr : b < 1 ∨ 1000 < b ∨ a < 0 ∨ b < a
    · rw [if_pos hr, if_pos]
      rw [← Bool.decide_and, decide_eq_false_iff_not]
      omega
    · rw [if_neg hr, if_neg (by omega), if_neg (by omega), if_neg (by omega), if_neg]
      rw [← Bool.decide_and, decide_eq_false_iff_not]
      omega
  · by_cases h6 : k = 6
    · subst h6
      rw [if_neg (by omega), if_neg (by omega : ¬ ((6 : Int) = 3)), if_pos rfl, if_neg (by omega : ¬ ((6 : Int) = 3 ∨ (6 : Int) = 7)), if_pos rfl]
      by_cases hr : a < 1 ∨ 1000 < a
      · rw [if_pos ⟨rfl, hr⟩, if_pos (by rw [decide_eq_false_iff_not]; omega)]
      · have hd : decide (1 ≤ a ∧ a ≤ 1000) = true := by rw [decide_eq_true_iff]; omega
        rw [if_neg (fun h => hr h.2), if_neg (fun h => by omega), hd]
        by_cases hb : b = 0
        · subst hb
          rw [if_neg (by omega)]
          rfl
        · rw [if_pos (by omega), if_neg (by decide : ¬ true = false), if_pos (by simpa using hb)]
    · by_cases h7 : k = 7
      · subst h7
        rw [if_neg (by omega), if_neg (by omega), if_neg (by omega : ¬ ((7 : Int) = 3)), if_neg (by omega : ¬ ((7 : Int) = 6)), if_pos rfl, if_pos (by omega : (7 : Int) = 3 ∨ (7 : Int) = 7)]
        by_cases hw : Word a
        · rw [decide_eq_true hw, Bool.true_and]
          cases hf : fits l 117 b with
          | true =>
            rw [if_neg (by rintro ⟨_, h | h⟩; exact h hw; cases h), if_neg (by omega), if_neg (by decide), if_neg (by decide)]
          | false => rw [if_pos ⟨rfl, .inr rfl⟩, if_pos rfl]
        · rw [decide_eq_false hw, Bool.false_and, if_pos ⟨rfl, .inl hw⟩, if_pos rfl]
      · rw [if_neg (h3 : ¬ k = 3), if_neg (h6 : ¬ k = 6), if_neg (h7 : ¬ k = 7), if_neg (by omega : ¬ (k = 3 ∨ k = 7)), if_neg (fun h => h3 h.1), if_neg (fun h => h6 h.1), if_neg (fun h => h7 h.1), if_neg (by decide : ¬ true = false), if_neg h6]
        by_cases ha : a = 0
        · by_cases hb : b = 0
          · subst ha hb
            rw [if_neg (by omega)]
            rfl
          · rw [if_pos (by omega), if_pos]
            rw [Bool.or_eq_true]
            exact .inr (by simpa using hb)
        · rw [if_pos (by omega), if_pos]
          rw [Bool.or_eq_true]
          exact .inl (by simpa using ha)

set_option maxHeartbeats 1000000 in
theorem range_sem (A : Option Addr) (cap : Nat) (l : List De) (a b : Int) (w : World) :
    Calls Tryz.prog 86 #[.slice A l.length cap, .agg #[.int .i64 3, .int .i64 a, .int .i64 b]] w fun e w' => e = .returned (.bool (rng l (3, a, b))) ∧ Below w.heap.size w w' := by
  have HB := Lib.hid (box_below w 3 a b)
  have H1 := fun W => Lib.hid (within_any b 1 1000 W)
  have H2 := fun W => Lib.hid (within_any a 0 b W)
  have HE : Hid (rng l (3, a, b) = (decide (1 ≤ b ∧ b ≤ 1000) && decide (0 ≤ a ∧ a ≤ b))) := Lib.hid rfl
  rw [HE.out]
  unfold declBox at HB
  generalize decide (1 ≤ b ∧ b ≤ 1000) = p at *
  generalize decide (0 ≤ a ∧ a ≤ b) = q at *
  clear HE
  cases p with
  | true =>
    go_enter Tryz.func86, Tryz.ntmps86
    go_wp2_with fail
    refine (H1 _).out.mono ?_
    rintro e w1 ⟨rfl, rfl⟩
    go_wp2_with fail
    refine (H2 _).out.mono ?_
    rintro e w1 ⟨rfl, rfl⟩
    go_wp2
    go_ret
    exact ⟨rfl, HB.out⟩
  | false =>
    go_enter Tryz.func86, Tryz.ntmps86
    go_wp2_with fail
    refine (H1 _).out.mono ?_
    rintro e w1 ⟨rfl, rfl⟩
    go_wp2
    go_ret
    exact ⟨rfl, HB.out⟩
set_option maxHeartbeats 1000000 in
theorem range_pool (A : Option Addr) (cap : Nat) (l : List De) (a b : Int) (w : World) :
    Calls Tryz.prog 86 #[.slice A l.length cap, .agg #[.int .i64 6, .int .i64 a, .int .i64 b]] w fun e w' => e = .returned (.bool (rng l (6, a, b))) ∧ Below w.heap.size w w' := by
  have HB := Lib.hid (box_below w 6 a b)
  have H1 := fun W => Lib.hid (within_any a 1 1000 W)
  have HE : Hid (rng l (6, a, b) = decide (1 ≤ a ∧ a ≤ 1000)) := Lib.hid rfl
  rw [HE.out]
  unfold declBox at HB
  generalize decide (1 ≤ a ∧ a ≤ 1000) = p at *
  clear HE
  go_enter Tryz.func86, Tryz.ntmps86
  go_wp2_with fail
  refine (H1 _).out.mono ?_
  rintro e w1 ⟨rfl, rfl⟩
  go_wp2
  go_ret
  exact ⟨rfl, HB.out⟩
set_option maxHeartbeats 1000000 in
theorem range_cell (A : Option Addr) (cap : Nat) (l : List De) (a b : Int) (hl : l.length ≤ 9223372036854775807) (w : World) (hA : DAt w A l) :
    Calls Tryz.prog 86 #[.slice A l.length cap, .agg #[.int .i64 7, .int .i64 a, .int .i64 b]] w fun e w' => e = .returned (.bool (rng l (7, a, b))) ∧ Below w.heap.size w w' := by
  have hb0 := box_below w 7 a b
  have HB := Lib.hid hb0
  have H1 := fun W => Lib.hid (Go.Proofs.YtnhoeboighndlaaGreatDoor.word.fits_any a W)
  have H2 := Lib.hid (fit_any A cap l 117 b hl _ (hA.next hb0))
  rw [show (((117 : UInt8).toNat : Nat) : Int) = 117 from rfl] at H2
  have HE : Hid (rng l (7, a, b) = (decide (Word a) && fits l 117 b)) := Lib.hid rfl
  rw [HE.out]
  unfold declBox at HB H2
  generalize decide (Word a) = p at *
  generalize fits l 117 b = q at *
  clear HE hA hb0
  cases p with
  | true =>
    go_enter Tryz.func86, Tryz.ntmps86
    go_wp2_with fail
    refine (H1 _).out.mono ?_
    rintro e w1 ⟨rfl, rfl⟩
    go_wp2_with fail
    refine H2.out.mono ?_
    rintro e w1 ⟨rfl, rfl⟩
    go_wp2
    go_ret
    exact ⟨rfl, HB.out⟩
  | false =>
    go_enter Tryz.func86, Tryz.ntmps86
    go_wp2_with fail
    refine (H1 _).out.mono ?_
    rintro e w1 ⟨rfl, rfl⟩
    go_wp2
    go_ret
    exact ⟨rfl, HB.out⟩
set_option maxHeartbeats 1000000 in
theorem range_bare (A : Option Addr) (cap : Nat) (l : List De) (k a b : Int) (h3 : k ≠ 3) (h6 : k ≠ 6) (h7 : k ≠ 7) (w : World) :
    Calls Tryz.prog 86 #[.slice A l.length cap, .agg #[.int .i64 k, .int .i64 a, .int .i64 b]] w fun e w' => e = .returned (.bool (rng l (k, a, b))) ∧ Below w.heap.size w w' := by
  have HB := Lib.hid (box_below w k a b)
  have HE : Hid (rng l (k, a, b) = true) := Lib.hid (by unfold rng; rw [if_neg h3, if_neg h6, if_neg h7])
  rw [HE.out]
  have e3 : (k == 3) = false := by simpa using h3
  have e6 : (k == 6) = false := by simpa using h6
  have e7 : (k == 7) = false := by simpa using h7
  clear HE h3 h6 h7
  go_enter Tryz.func86, Tryz.ntmps86
  go_wp2
  go_ret
  exact ⟨rfl, HB.out⟩
theorem range_any (A : Option Addr) (cap : Nat) (l : List De) (d : De) (hl : l.length ≤ 9223372036854775807) (w : World) (hA : DAt w A l) :
    Calls Tryz.prog 86 #[.slice A l.length cap, .agg #[.int .i64 d.1, .int .i64 d.2.1, .int .i64 d.2.2]] w fun e w' => e = .returned (.bool (rng l d)) ∧ Below w.heap.size w w' := by
  obtain ⟨k, a, b⟩ := d
  dsimp only
  by_cases h3 : k = 3
  · subst h3; exact range_sem A cap l a b w
  · by_cases h6 : k = 6
    · subst h6; exact range_pool A cap l a b w
    · by_cases h7 : k = 7
      · subst h7; exact range_cell A cap l a b hl w hA
      · exact range_bare A cap l k a b h3 h6 h7 w

set_option maxHeartbeats 1000000 in
theorem more_any (d : De) (w : World) :
    Calls Tryz.prog 87 #[.agg #[.int .i64 d.1, .int .i64 d.2.1, .int .i64 d.2.2]] w fun e w' => e = .returned (.bool (more d)) ∧ Below w.heap.size w w' := by
  obtain ⟨k, a, b⟩ := d
  dsimp only
  have HB := Lib.hid (box_below w k a b)
  unfold declBox at HB
  by_cases h : k = 3 ∨ k = 7
  · have HE : Hid (more (k, a, b) = false) := Lib.hid (by unfold more; rw [if_pos h])
    rw [HE.out]
    rcases h with rfl | rfl
    all_goals
      go_enter Tryz.func87, Tryz.ntmps87
      go_wp2
      go_ret
      exact ⟨rfl, HB.out⟩
  · have e3 : (k == 3) = false := by simp; omega
    have e7 : (k == 7) = false := by simp; omega
    by_cases h6 : k = 6
    · subst h6
      have HE : Hid (more (6, a, b) = (b != 0)) := Lib.hid (by unfold more; rw [if_neg h, if_pos rfl])
      rw [HE.out]
      clear h
      go_enter Tryz.func87, Tryz.ntmps87
      go_wp2
      go_ret
      exact ⟨rfl, HB.out⟩
    · have HE : Hid (more (k, a, b) = (a != 0 || b != 0)) := Lib.hid (by unfold more; rw [if_neg h, if_neg h6])
      rw [HE.out]
      have e6 : (k == 6) = false := by simpa using h6
      clear h h6 HE
      cases ha : (a != 0) with
      | true =>
        rw [Bool.true_or]
        go_enter Tryz.func87, Tryz.ntmps87
        go_wp2
        go_ret
        exact ⟨rfl, HB.out⟩
      | false =>
        rw [Bool.false_or]
        go_enter Tryz.func87, Tryz.ntmps87
        go_wp2
        go_ret
        exact ⟨rfl, HB.out⟩

/-- An object that came in, in a block of its own. -/
structure Bx (w : World) (A : Option Addr) (l : List De) (d : De) (W : World) : Prop where
  below : Below w.heap.size w W
  blk : W.heap[w.heap.size]? = some (.cells #[.int .i64 d.1, .int .i64 d.2.1, .int .i64 d.2.2] 44 (0, 0))
  list : DAt W A l
  ok : Okd W
theorem bx_new {w : World} {A : Option Addr} {l : List De} (d : De) (hA : DAt w A l) (hw : Okd w) : Bx w A l d (w.alloc (.cells #[.int .i64 d.1, .int .i64 d.2.1, .int .i64 d.2.2] 44)) :=
  have hb : Below w.heap.size w (w.alloc (.cells #[.int .i64 d.1, .int .i64 d.2.1, .int .i64 d.2.2] 44)) := (Below.refl _ _).alloc (Nat.le_refl _) _
  ⟨hb, heap_alloc_new w _, hA.next hb, hw.next hb⟩
theorem Bx.next {w W W' : World} {A : Option Addr} {l : List De} {d : De} (h : Bx w A l d W) (hb : Below W.heap.size W W') : Bx w A l d W' := by
  have h1 := lt_of_block h.blk
  exact ⟨h.below.trans (hb.mono (Nat.le_of_lt h1)), (hb.block _ h1).trans h.blk, h.list.next hb, h.ok.next hb⟩
theorem Bx.cells {w W : World} {A : Option Addr} {l : List De} {d : De} (h : Bx w A l d W) : W.cell? ⟨w.heap.size, 0, none⟩ = some (.int .i64 d.1) ∧ W.cell? ⟨w.heap.size, 1, none⟩ = some (.int .i64 d.2.1) ∧ W.cell? ⟨w.heap.size, 2, none⟩ = some (.int .i64 d.2.2) := by
  unfold World.cell?
  rw [h.blk]
  exact ⟨rfl, rfl, rfl⟩

set_option maxHeartbeats 2000000 in
theorem one_any (A : Option Addr) (cap : Nat) (l : List De) (d : De) (hl : l.length ≤ 9223372036854775807) (w : World) (hA : DAt w A l) (hw : Okd w) :
    Calls Tryz.prog 65 #[.slice A l.length cap, .agg #[.int .i64 d.1, .int .i64 d.2.1, .int .i64 d.2.2]] w (OnePost l d w) := by
  have HX := Lib.hid (bx_new d hA hw)
  have HK := fun W hW => Lib.hid (known_any d.1 W hW)
  have HR := fun W hW => Lib.hid (range_any A cap l d hl W hW)
  have HM := fun W => Lib.hid (more_any d W)
  have H6 := fun h => Lib.hid (one_6 (l := l) (d := d) h)
  have HP := fun h => Lib.hid (one_parts (l := l) (d := d) h)
  clear hA hw
  unfold OnePost
  generalize one l d = v at *
  generalize rng l d = r at *
  generalize more d = m at *
  obtain ⟨k, a, b⟩ := d
  dsimp only at HX HK HR HM H6 HP ⊢
  obtain ⟨c0, c1, c2⟩ := HX.out.cells
  by_cases hk : 1 ≤ k ∧ k ≤ 7
  · rw [decide_eq_true hk] at HK
    have HV := HP hk
    clear H6 HP hk
    go_enter Tryz.func65, Tryz.ntmps65
    go_wp2_with fail
    refine (HK _ HX.out.ok).out.mono ?_
    rintro e w1 ⟨rfl, rfl⟩
    go_wp2_with fail
    refine (HR _ HX.out.list).out.mono ?_
    rintro e w1 ⟨rfl, hb1⟩
    have HX1 := Lib.hid (HX.out.next hb1)
    clear c0 c1 c2 hb1 HX HR HK
    obtain ⟨c0, c1, c2⟩ := HX1.out.cells
    cases r with
    | false =>
      go_wp2
      go_ret
      exact ⟨ret_int (by rw [HV.out]; rfl), HX1.out.below⟩
    | true =>
      go_wp2_with fail
      refine (HM _).out.mono ?_
      rintro e w1 ⟨rfl, hb1⟩
      have HX2 := Lib.hid (HX1.out.next hb1)
      clear c0 c1 c2 hb1 HX1 HM
      cases m with
      | true =>
        go_wp2
        go_ret
        exact ⟨ret_int (by rw [HV.out]; rfl), HX2.out.below⟩
      | false =>
        go_wp2
        go_ret
        exact ⟨ret_int (by rw [HV.out]; rfl), HX2.out.below⟩
  · rw [decide_eq_false hk] at HK
    have HV := H6 hk
    clear H6 HP hk HR HM
    go_enter Tryz.func65, Tryz.ntmps65
    go_wp2_with fail
    refine (HK _ HX.out.ok).out.mono ?_
    rintro e w1 ⟨rfl, rfl⟩
    go_wp2
    go_ret
    exact ⟨ret_int (by rw [HV.out]; rfl), HX.out.below⟩
end Go.Proofs.YtnhoeboighndlaaGreatDoor.objs

/-
  The program's own answer where the first object stands that may not be, and why (typed over the code of 392f5a9): for every list that an int can count. The table of names must lie where its initialiser lays it.
-/
namespace Go.Proofs.YtnhoeboighndlaaGreatDoor.objs
open Go.RowKit Go.ChangeShapes
set_option linter.unusedVariables false

/-- Between two objects. -/
structure Cs (w : World) (A : Option Addr) (l : List De) (W : World) : Prop where
  below : Below w.heap.size w W
  list : DAt W A l
  ok : Okd W
theorem Cs.next {w W W' : World} {A : Option Addr} {l : List De} (h : Cs w A l W) (hb : Below W.heap.size W W') : Cs w A l W' := ⟨h.below.trans (hb.mono h.below.size), h.list.next hb, h.ok.next hb⟩
theorem Cs.box {w W : World} {A : Option Addr} {l : List De} (h : Cs w A l W) (d : De) : Cs w A l (W.alloc (declBox d.1 d.2.1 d.2.2)) := h.next ((Below.refl _ _).alloc (Nat.le_refl _) _)
theorem box_at (W : World) (d : De) : (W.alloc (declBox d.1 d.2.1 d.2.2)).cell? ⟨W.heap.size, 0, none⟩ = some (.int .i64 d.1) ∧ (W.alloc (declBox d.1 d.2.1 d.2.2)).cell? ⟨W.heap.size, 1, none⟩ = some (.int .i64 d.2.1) ∧ (W.alloc (declBox d.1 d.2.1 d.2.2)).cell? ⟨W.heap.size, 2, none⟩ = some (.int .i64 d.2.2) := by
  unfold World.cell?
  rw [heap_alloc_new W _]
  exact ⟨rfl, rfl, rfl⟩

set_option maxHeartbeats 1000000 in
theorem check_long (A : Option Addr) (cap n : Nat) (hn : 32 < n) (w : World) :
    Calls Tryz.prog 39 #[.slice A n cap] w (ChkPost (0, 4) w) := by
  unfold ChkPost
  have hd : decide ((32 : Int) < (n : Int)) = true := by simp; omega
  clear hn
  go_enter Tryz.func39, Tryz.ntmps39
  go_wp2_with fail
  go_ret2
  exact ⟨rfl, Below.refl _ _⟩
set_option maxRecDepth 100000 in
set_option maxHeartbeats 4000000 in
theorem check_any (A : Option Addr) (cap : Nat) (l : List De) (hl : l.length ≤ 9223372036854775807) (w : World) (hA : DAt w A l) (hw : Okd w) :
    Calls Tryz.prog 39 #[.slice A l.length cap] w (ChkPost (chk l) w) := by
  by_cases h32 : 32 < l.length
  · rw [chk_long h32]
    exact check_long A cap l.length h32 w
  · obtain ⟨p, hp⟩ : ∃ p, p = chk l := ⟨_, rfl⟩
    have HP := Lib.hid hp
    rw [← hp]
    unfold ChkPost
    have hd : decide ((32 : Int) < (l.length : Int)) = false := by simp; omega
    have HC0 : Hid (Cs w A l w) := Lib.hid ⟨Below.refl _ _, hA, hw⟩
    have H32 := Lib.hid h32
    clear hA hw h32 hp
    go_enter Tryz.func39, Tryz.ntmps39
    go_wp2_with fail
    go_loopw [12] (fun i wr => ∃ j : Nat, j ≤ l.length ∧ i = .int .i64 (j : Int) ∧ Hid (j ≤ bad l) ∧ Hid (Cs w A l wr)) (fun i _ => l.length - (intOf i).toNat)
    case atStart => exact ⟨0, Nat.zero_le _, rfl, Lib.hid (Nat.zero_le _), HC0⟩
    case round =>
      obtain ⟨j, hj, rfl, HJ, HS⟩ := hrel
      by_cases hlt : j < l.length
      · have HO := fun W (hW : Cs w A l W) => Lib.hid (one_any A cap l (l.getD j zero) hl W hW.list hW.ok)
        obtain ⟨b, off, rfl, hb, c0, c1, c2⟩ := HS.out.list j hlt
        have hlt' : (j : Int) < (l.length : Int) := by omega
        unfold OnePost at HO
        have HBad := fun h => Lib.hid (chk_bad H32.out HJ.out hlt h)
        have HNx := fun h => Lib.hid (bad_next HJ.out hlt h)
        generalize l.getD j zero = d at *
        generalize one l d = q at *
        have HS1 := Lib.hid (HS.out.box d)
        have hbx := box_at wr d
        obtain ⟨k, x, y⟩ := d
        unfold declBox at HS1 hbx
        dsimp only at HO c0 c1 c2 HS1 hbx
        clear HS
        go_upto_region 6 with fail
        clear c0 c1 c2
        generalize wr.alloc (.cells #[.int .i64 k, .int .i64 x, .int .i64 y] 44) = W1 at *
        generalize wr.heap.size = g at *
        obtain ⟨c0, c1, c2⟩ := hbx
        by_cases hq : q = 0
        · subst hq
          have HE := HNx rfl
          clear HBad HNx
          go_wp2_with fail
          refine (HO _ HS1.out).out.mono ?_
          rintro e w1 ⟨rfl, hb1⟩
          have HS2 := Lib.hid (HS1.out.next hb1)
          clear hb1 c0 c1 c2
          go_wp2
          go_roundw
          case rel => exact ⟨j + 1, by omega, by go_num, HE, HS2⟩
          case measure => simp [intOf]; omega
        · have HE := HBad hq
          have hq' : ((q : Int) != 0) = true := by simpa using hq
          clear HBad HNx hq
          go_wp2_with fail
          refine (HO _ HS1.out).out.mono ?_
          rintro e w1 ⟨rfl, hb1⟩
          have HS2 := Lib.hid (HS1.out.next hb1)
          clear hb1 c0 c1 c2
          go_wp2
          go_ret2
          exact ⟨by rw [HP.out, HE.out]; rfl, HS2.out.below⟩
      · obtain rfl : j = l.length := by omega
        have HE := Lib.hid (chk_fine H32.out HJ.out)
        go_wp2_with fail
        go_ret2
        exact ⟨by rw [HP.out, HE.out]; rfl, HS.out.below⟩
end Go.Proofs.YtnhoeboighndlaaGreatDoor.objs

/-
  The program's own answer what is wrong with a wait (typed over the code of 5ef5b61): of objects of which there are no more than a set has numbers. The tables must lie where their initialisers lay them.
-/
namespace Go.Proofs.YtnhoeboighndlaaGreatDoor.need
open Go.RowKit Go.ChangeShapes
open Go.Proofs.YtnhoeboighndlaaGreatDoor.objs (De zero CellsAt DAt)
open Go.Proofs.YtnhoeboighndlaaGreatDoor.bits (may)
set_option linter.unusedVariables false

theorem oneN_kind {d : List De} {n : De} (h : ¬ (1 ≤ n.1 ∧ n.1 ≤ 5)) : oneN d n = 6 := by unfold oneN; rw [if_pos (by omega)]
theorem oneN_known {d : List De} {n : De} (h : 1 ≤ n.1 ∧ n.1 ≤ 5) (h0 : oneN d n ≠ 0) : oneN d n = 1 := by
  unfold oneN at h0 ⊢
  rw [if_neg (by omega)] at h0 ⊢
  split
  · rfl
  · split
    · rfl
    · rename_i h1 h2
      rw [if_neg h1, if_neg h2] at h0
      exact absurd rfl h0
theorem ones_may {d l : List De} (hd : d.length ≤ 64) (h : ones d l = 0) : ∀ n ∈ l, may n.2.1 := fun n hn => by
  obtain ⟨_, h2, _⟩ := oneN_zero (ones_zero h n hn)
  unfold may
  omega

/-- Between two needs. -/
structure Ws (w : World) (A B : Option Addr) (d l : List De) (W : World) : Prop where
  below : Below w.heap.size w W
  objs : DAt W A d
  way : DAt W B l
  ok : Oka W
theorem Ws.next {w W W' : World} {A B : Option Addr} {d l : List De} (h : Ws w A B d l W) (hb : Below W.heap.size W W') : Ws w A B d l W' := ⟨h.below.trans (hb.mono h.below.size), h.objs.next hb, h.way.next hb, h.ok.next hb⟩
theorem Ws.box {w W : World} {A B : Option Addr} {d l : List De} (h : Ws w A B d l W) (k o m : Int) : Ws w A B d l (W.alloc (needBox k o m)) := h.next (nbox_below W k o m)

set_option maxRecDepth 100000 in
set_option maxHeartbeats 4000000 in
theorem way_any (A B : Option Addr) (capd cap : Nat) (d l : List De) (hd : d.length ≤ 64) (w : World) (hA : DAt w A d) (hB : DAt w B l) (hw : Oka w) :
    Calls Tryz.prog 88 #[.slice A d.length capd, .slice B l.length cap] w (ChkPost9 (chkWay d l) w) := by
  have HM := Lib.hid (many_any l.length w)
  unfold ChkPost9
  unfold manyC at HM
  by_cases h0 : l.length = 0
  · rw [if_pos h0] at HM
    have HV := Lib.hid (chkWay_2 (d := d) h0)
    clear hA hB hw h0
    go_enter Tryz.func88, Tryz.ntmps88
    go_wp2_with fail
    refine HM.out.mono ?_
    rintro e w1 ⟨rfl, rfl⟩
    go_wp2
    go_ret
    exact ⟨ret_int (by rw [HV.out]; rfl), Below.refl _ _⟩
  · rw [if_neg h0] at HM
    by_cases h4 : 4 < l.length
    · rw [if_pos h4] at HM
      have HV := Lib.hid (chkWay_4 (d := d) h4)
      clear hA hB hw h0 h4
      go_enter Tryz.func88, Tryz.ntmps88
      go_wp2_with fail
      refine HM.out.mono ?_
      rintro e w1 ⟨rfl, rfl⟩
      go_wp2
      go_ret
      exact ⟨ret_int (by rw [HV.out]; rfl), Below.refl _ _⟩
    · rw [if_neg h4] at HM
      have HV1 := fun h1 => Lib.hid (chkWay_bad (d := d) h0 h4 h1)
      have HV2 := fun h1 h2 => Lib.hid (chkWay_twice (d := d) h0 h4 h1 h2)
      have HV3 := fun h1 h2 => Lib.hid (chkWay_fine (d := d) h0 h4 h1 h2)
      obtain ⟨v, hv⟩ : ∃ v, v = chkWay d l := ⟨_, rfl⟩
      rw [← hv] at HV1 HV2 HV3 ⊢
      have hl4 : l.length ≤ 4 := by omega
      have HS0 : Hid (Ws w A B d l w) := Lib.hid ⟨Below.refl _ _, hA, hB, hw⟩
      have HD := Lib.hid hd
      clear hA hB hw h0 h4 hv hd
      go_enter Tryz.func88, Tryz.ntmps88
      go_wp2_with fail
      refine HM.out.mono ?_
      rintro e w1 ⟨rfl, rfl⟩
      go_wp2_with fail
      go_loopw [16] (fun i wr => ∃ j : Nat, j ≤ l.length ∧ i = .int .i64 (j : Int) ∧ Hid (ones d l = ones d (l.drop j)) ∧ Hid (Ws w A B d l wr)) (fun i _ => l.length - (intOf i).toNat)
      case atStart => exact ⟨0, Nat.zero_le _, rfl, Lib.hid (by simp), HS0⟩
      case round =>
        obtain ⟨j, hj, rfl, HJ, HS⟩ := hrel
        by_cases hlt : j < l.length
        · have HNx := Lib.hid (ones_drop (d := d) hlt)
          obtain ⟨b0, off, hBe, hbl, c0, c1, c2⟩ := HS.out.way j hlt
          have hlt' : (j : Int) < (l.length : Int) := by omega
          have hj0 : (0 : Int) ≤ (j : Int) := by omega
          have HR := fun (hk : 1 ≤ (l.getD j zero).1 ∧ (l.getD j zero).1 ≤ 5) W (hW : Ws w A B d l W) => Lib.hid (range_any A capd d (l.getD j zero) hk (by have := HD.out; omega) W hW.objs hW.ok)
          have HX6 := fun h => Lib.hid (oneN_kind (d := d) (n := l.getD j zero) h)
          have HX1 := fun h1 h2 => Lib.hid (oneN_known (d := d) (n := l.getD j zero) h1 h2)
          generalize l.getD j zero = n at *
          have HS1 := Lib.hid (HS.out.box n.1 n.2.1 n.2.2)
          have hbx := nbox_at wr n.1 n.2.1 n.2.2
          have HK := fun W => Lib.hid (known_any n.1 W)
          generalize oneN d n = q at *
          obtain ⟨k, o, m⟩ := n
          unfold needBox at HS1 hbx
          dsimp only at HR HX6 HX1 HS1 hbx HK c0 c1 c2
          clear HS
          subst hBe
          go_upto_region 7 with fail
          clear c0 c1 c2
          generalize wr.alloc (.cells #[.int .i64 k, .int .i64 o, .int .i64 m] 79) = W1 at *
          generalize wr.heap.size = g at *
          obtain ⟨c0, c1, c2⟩ := hbx
          by_cases hk : 1 ≤ k ∧ k ≤ 5
          · rw [decide_eq_true hk] at HK
            have HR1 := HR hk W1 HS1.out
            have HX := HX1 hk
            clear HR HX6 HX1 hk
            by_cases hq : q = 0
            · have HE : Hid (ones d l = ones d (l.drop (j + 1))) := Lib.hid (by rw [HJ.out, HNx.out, if_neg (by simp [hq])])
              rw [decide_eq_true hq] at HR1
              clear hq HX
              go_wp2_with fail
              refine (HK _).out.mono ?_
              rintro e w2 ⟨rfl, rfl⟩
              go_wp2_with fail
              refine HR1.out.mono ?_
              rintro e w2 ⟨rfl, hb2⟩
              have HS2 := Lib.hid (HS1.out.next hb2)
              clear hb2 HS1 HR1 c0 c1 c2
              go_wp2
              go_roundw
              case rel => exact ⟨j + 1, by omega, by go_num, HE, HS2⟩
              case measure => simp [intOf]; omega
            · have hq1 := (HX hq).out
              have HE : Hid (ones d l = 1) := Lib.hid (by rw [HJ.out, HNx.out, if_pos hq, hq1])
              have HV : Hid (v = 1) := Lib.hid (by rw [(HV1 (by rw [HE.out]; decide)).out, HE.out])
              rw [decide_eq_false hq] at HR1
              clear hq HX hq1
              go_wp2_with fail
              refine (HK _).out.mono ?_
              rintro e w2 ⟨rfl, rfl⟩
              go_wp2_with fail
              refine HR1.out.mono ?_
              rintro e w2 ⟨rfl, hb2⟩
              have HS2 := Lib.hid (HS1.out.next hb2)
              clear hb2 HS1 HR1 c0 c1 c2
              go_wp2
              go_ret
              exact ⟨ret_int (by rw [HV.out]; rfl), HS2.out.below⟩
          · rw [decide_eq_false hk] at HK
            have hq1 := (HX6 hk).out
            have HE : Hid (ones d l = 6) := Lib.hid (by rw [HJ.out, HNx.out, hq1, if_pos (by decide)])
            have HV : Hid (v = 6) := Lib.hid (by rw [(HV1 (by rw [HE.out]; decide)).out, HE.out])
            clear HR HX6 HX1 hk hq1
            go_wp2_with fail
            refine (HK _).out.mono ?_
            rintro e w2 ⟨rfl, rfl⟩
            go_wp2
            go_ret
            exact ⟨ret_int (by rw [HV.out]; rfl), HS1.out.below⟩
        · obtain rfl : j = l.length := by omega
          have h1 : ones d l = 0 := by rw [HJ.out, List.drop_length]; rfl
          have HC := Lib.hid (clashes_any B cap l hl4 (ones_may HD.out h1) wr HS.out.way)
          have HV2' := fun h2 => HV2 h1 h2
          have HV3' := fun h2 => HV3 h1 h2
          clear HV1 HV2 HV3 h1 HJ
          generalize twiceTo l l.length = t at *
          cases t with
          | true =>
            have HV := HV2' rfl
            go_wp2_with fail
            refine HC.out.mono ?_
            rintro e w2 ⟨rfl, hb2⟩
            have HS2 := Lib.hid (HS.out.next hb2)
            clear hb2 HS HC
            go_wp2
            go_ret
            exact ⟨ret_int (by rw [HV.out]; rfl), HS2.out.below⟩
          | false =>
            have HV := HV3' rfl
            go_wp2_with fail
            refine HC.out.mono ?_
            rintro e w2 ⟨rfl, hb2⟩
            have HS2 := Lib.hid (HS.out.next hb2)
            clear hb2 HS HC
            go_wp2
            go_ret
            exact ⟨ret_int (by rw [HV.out]; rfl), HS2.out.below⟩

/-- Between two ways. -/
structure Vs (w : World) (A B : Option Addr) (d : List De) (l : List (List De)) (W : World) : Prop where
  below : Below w.heap.size w W
  objs : DAt W A d
  ways : WAt W B l
  ok : Oka W
theorem Vs.next {w W W' : World} {A B : Option Addr} {d : List De} {l : List (List De)} (h : Vs w A B d l W) (hb : Below W.heap.size W W') : Vs w A B d l W' := ⟨h.below.trans (hb.mono h.below.size), h.objs.next hb, h.ways.next hb, h.ok.next hb⟩

set_option maxRecDepth 100000 in
set_option maxHeartbeats 4000000 in
theorem check_any (A B : Option Addr) (capd cap : Nat) (d : List De) (l : List (List De)) (hd : d.length ≤ 64) (w : World) (hA : DAt w A d) (hB : WAt w B l) (hw : Oka w) :
    Calls Tryz.prog 66 #[.slice A d.length capd, .slice B l.length cap] w (ChkPost9 (chkW d l) w) := by
  have HM := Lib.hid (many_any l.length w)
  unfold ChkPost9
  unfold manyC at HM
  obtain ⟨v, hv⟩ : ∃ v, v = chkW d l := ⟨_, rfl⟩
  rw [← hv]
  by_cases h0 : l.length = 0
  · rw [if_pos h0] at HM
    have HV : Hid (v = 2) := Lib.hid (by rw [hv]; unfold chkW; rw [if_pos h0])
    clear hA hB hw h0 hv
    go_enter Tryz.func66, Tryz.ntmps66
    go_wp2_with fail
    refine HM.out.mono ?_
    rintro e w1 ⟨rfl, rfl⟩
    go_wp2
    go_ret
    exact ⟨ret_int (by rw [HV.out]; rfl), Below.refl _ _⟩
  · rw [if_neg h0] at HM
    by_cases h4 : 4 < l.length
    · rw [if_pos h4] at HM
      have HV : Hid (v = 4) := Lib.hid (by rw [hv]; unfold chkW; rw [if_neg h0, if_pos h4])
      clear hA hB hw h0 h4 hv
      go_enter Tryz.func66, Tryz.ntmps66
      go_wp2_with fail
      refine HM.out.mono ?_
      rintro e w1 ⟨rfl, rfl⟩
      go_wp2
      go_ret
      exact ⟨ret_int (by rw [HV.out]; rfl), Below.refl _ _⟩
    · rw [if_neg h4] at HM
      have HV : Hid (v = ways d l) := Lib.hid (by rw [hv]; unfold chkW; rw [if_neg h0, if_neg h4])
      have hl4 : l.length ≤ 4 := by omega
      have HS0 : Hid (Vs w A B d l w) := Lib.hid ⟨Below.refl _ _, hA, hB, hw⟩
      have HD := Lib.hid hd
      clear hA hB hw h0 h4 hv hd
      go_enter Tryz.func66, Tryz.ntmps66
      go_wp2_with fail
      refine HM.out.mono ?_
      rintro e w1 ⟨rfl, rfl⟩
      go_wp2_with fail
      go_loopw [17] (fun i wr => ∃ j : Nat, j ≤ l.length ∧ i = .int .i64 (j : Int) ∧ Hid (v = ways d (l.drop j)) ∧ Hid (Vs w A B d l wr)) (fun i _ => l.length - (intOf i).toNat)
      case atStart => exact ⟨0, Nat.zero_le _, rfl, by simpa using HV, HS0⟩
      case round =>
        obtain ⟨j, hj, rfl, HJ, HS⟩ := hrel
        by_cases hlt : j < l.length
        · have HNx := Lib.hid (ways_drop (d := d) hlt)
          obtain ⟨b0, off, Aj, cj, hBe, hbl, hc, hdj⟩ := HS.out.ways j hlt
          have hlt' : (j : Int) < (l.length : Int) := by omega
          have hj0 : (0 : Int) ≤ (j : Int) := by omega
          have HC := Lib.hid (way_any A Aj capd cj d (l.getD j []) HD.out wr HS.out.objs hdj HS.out.ok)
          unfold ChkPost9 at HC
          generalize l.getD j [] = lj at *
          generalize chkWay d lj = q at *
          subst hBe
          clear hdj
          by_cases hq : q = 0
          · have HE : Hid (v = ways d (l.drop (j + 1))) := Lib.hid (by rw [HJ.out, HNx.out, if_neg (by simp [hq])])
            have hq' : ((q : Int) != 0) = false := by simp [hq]
            clear hq
            go_wp2_with fail
            refine HC.out.mono ?_
            rintro e w2 ⟨rfl, hb2⟩
            have HS2 := Lib.hid (HS.out.next hb2)
            clear hb2 HS HC hc
            go_wp2
            go_roundw
            case rel => exact ⟨j + 1, by omega, by go_num, HE, HS2⟩
            case measure => simp [intOf]; omega
          · have HE : Hid (v = q) := Lib.hid (by rw [HJ.out, HNx.out, if_pos hq])
            have hq' : ((q : Int) != 0) = true := by simpa using hq
            clear hq
            go_wp2_with fail
            refine HC.out.mono ?_
            rintro e w2 ⟨rfl, hb2⟩
            have HS2 := Lib.hid (HS.out.next hb2)
            clear hb2 HS HC hc
            go_wp2
            go_ret
            exact ⟨ret_int (by rw [HE.out]), HS2.out.below⟩
        · obtain rfl : j = l.length := by omega
          have HE : Hid (v = 0) := Lib.hid (by rw [HJ.out, List.drop_length]; rfl)
          go_wp2
          go_ret
          exact ⟨ret_int (by rw [HE.out]; rfl), HS.out.below⟩
end Go.Proofs.YtnhoeboighndlaaGreatDoor.need

/-
  The program's own answer of what is wrong with a program (typed over the code of 4b95722). The tables must lie where their initialisers lay them.
-/
namespace Go.Proofs.YtnhoeboighndlaaGreatDoor.pgm
open Go.RowKit Go.ChangeShapes
open Go.Proofs.YtnhoeboighndlaaGreatDoor.objs (De zero DAt cells3)
open Go.Proofs.YtnhoeboighndlaaGreatDoor.need (WAt chkW ChkPost9)
open Go.Proofs.YtnhoeboighndlaaGreatDoor.span (within_any count_any cntC)
set_option linter.unusedVariables false

theorem cntC_zero {n m : Nat} (h0 : n ≠ 0) (hm : ¬ m < n) : cntC n m = 0 := by unfold cntC; rw [if_neg h0, if_neg hm]
theorem ins_box_below (w : World) (o a b : Int) : Below w.heap.size w (w.alloc (.cells #[.int .i64 o, .int .i64 a, .int .i64 b] 28)) := (Below.refl _ w).alloc (Nat.le_refl _) _

set_option maxRecDepth 100000 in
set_option maxHeartbeats 8000000 in
theorem fn_any (A : Option Addr) (c : Nat) (ar lo : Int) (l : List De) (w : World) (hA : DAt w A l) (hw : Okp w) :
    Calls Tryz.prog 68 #[.agg #[.int .i64 ar, .int .i64 lo, .slice A l.length c]] w (NumPost (chkFn ⟨ar, lo, l⟩) w) := by
  unfold NumPost
  obtain ⟨v, hv⟩ : ∃ v, v = chkFn ⟨ar, lo, l⟩ := ⟨_, rfl⟩
  rw [← hv]
  unfold chkFn at hv
  dsimp only at hv
  have HB0 : Hid (Below w.heap.size w (w.alloc (fnBox ar lo (.slice A l.length c)))) := Lib.hid ((Below.refl _ w).alloc (Nat.le_refl _) _)
  obtain ⟨c0, c1, c2, _, _, _⟩ := cells3 (heap_alloc_new w (fnBox ar lo (.slice A l.length c)))
  have HWi := fun W => Lib.hid (within_any ar 0 lo W)
  have HCn := fun W => Lib.hid (count_any l.length 200 W)
  have HA := Lib.hid hA
  have HK := Lib.hid hw
  clear hA hw
  unfold fnBox at HB0 c0 c1 c2
  by_cases h1 : 0 ≤ ar ∧ ar ≤ lo
  · rw [decide_eq_true h1] at HWi
    by_cases h8 : 8 < lo
    · rw [if_pos (by omega)] at hv
      have q3 : decide (lo > 8) = true := by simpa using h8
      have HV := Lib.hid hv
      clear h1 h8 hv
      go_enter Tryz.func68, Tryz.ntmps68
      go_wp2_with fail
      refine (HWi _).out.mono ?_
      rintro e w1 ⟨rfl, rfl⟩
      go_wp2
      go_ret
      exact ⟨by rw [HV.out]; rfl, HB0.out⟩
    · rw [if_neg (by omega)] at hv
      have q3 : decide (lo > 8) = false := by simpa using h8
      have HV := Lib.hid hv
      clear h1 h8 hv
      by_cases h0 : cntC l.length 200 = 0
      · rw [h0] at HCn
        have hl0 : l.length ≠ 0 ∧ l.length ≤ 200 := by
          unfold cntC at h0
          split at h0
          · cases h0
          · split at h0
            · cases h0
            · omega
        have HF : Hid (v = firstE chkI l) := Lib.hid (by rw [HV.out, if_neg (by omega), if_neg (by omega)])
        have hl64 : l.length ≤ 9223372036854775807 := by omega
        have HL := Lib.hid hl0
        clear h0 HV hl0
        go_enter Tryz.func68, Tryz.ntmps68
        go_wp2_with fail
        refine (HWi _).out.mono ?_
        rintro e w1 ⟨rfl, rfl⟩
        go_wp2_with fail
        refine (HCn _).out.mono ?_
        rintro e w1 ⟨rfl, rfl⟩
        go_wp2_with fail
        go_loopw [28] (fun i wr => ∃ j : Nat, j ≤ l.length ∧ i = .int .i64 (j : Int) ∧ Hid (v = firstE chkI (l.drop j)) ∧ Hid (Below w.heap.size w wr)) (fun i _ => l.length - (intOf i).toNat)
        case atStart => exact ⟨0, Nat.zero_le _, rfl, Lib.hid (by simpa using HF.out), HB0⟩
        case round =>
          obtain ⟨j, hj, rfl, HJ, HW⟩ := hrel
          have HD := Lib.hid (HA.out.next HW.out)
          by_cases hlt : j < l.length
          · have HNx := Lib.hid (firstE_drop (f := chkI) zero hlt)
            obtain ⟨b, off, rfl, hbl, d0, d1, d2⟩ := HD.out j hlt
            have hlt' : (j : Int) < (l.length : Int) := by omega
            have hj0 : (0 : Int) ≤ (j : Int) := by omega
            have hI : chkI (l.getD j zero) = Go.Proofs.YtnhoeboighndlaaGreatDoor.inst.chk (l.getD j zero).1 (l.getD j zero).2.1 (l.getD j zero).2.2 := rfl
            have hbx := ins_box_below wr (l.getD j zero).1 (l.getD j zero).2.1 (l.getD j zero).2.2
            have HO := Lib.hid (Go.Proofs.YtnhoeboighndlaaGreatDoor.inst.check_any (l.getD j zero).1 (l.getD j zero).2.1 (l.getD j zero).2.2 _ ((HK.out.next HW.out).next hbx).ins)
            have HBx := Lib.hid (HW.out.trans (hbx.mono HW.out.size))
            rw [← hI] at HO
            clear hI hbx
            generalize l.getD j zero = t at *
            generalize chkI t = q at *
            obtain ⟨tk, ta, tb⟩ := t
            dsimp only at HO HBx d0 d1 d2
            go_wp2_with fail
            refine HO.out.mono ?_
            rintro e w3 ⟨rfl, hb3⟩
            have HW3 := Lib.hid (HBx.out.trans (hb3.mono HBx.out.size))
            clear hb3 d0 d1 d2 HO HBx
            by_cases hq : q = 0
            · have HE : Hid (v = firstE chkI (l.drop (j + 1))) := Lib.hid (by rw [HJ.out, HNx.out, if_neg (by simp [hq])])
              have hq' : ((q : Int) != 0) = false := by simp [hq]
              clear hq
              go_wp2
              go_roundw
              case rel => have h200 := HL.out; exact ⟨j + 1, by omega, by go_num, HE, HW3⟩
              case measure => have h200 := HL.out; simp [intOf]; omega
            · have HE : Hid (v = q) := Lib.hid (by rw [HJ.out, HNx.out, if_pos hq])
              have hq' : ((q : Int) != 0) = true := by simpa using hq
              clear hq
              go_wp2
              go_ret
              exact ⟨by rw [HE.out]; rfl, HW3.out⟩
          · have H1 : Hid (v = 0) := Lib.hid (by
              obtain rfl : j = l.length := by omega
              rw [HJ.out, List.drop_length]; rfl)
            have hge : decide ((j : Int) < (l.length : Int)) = false := by simp; omega
            go_wp2
            go_ret
            exact ⟨by rw [H1.out]; rfl, HW.out⟩
      · have HE : Hid (v = cntC l.length 200) := Lib.hid (by
          rw [HV.out]
          unfold cntC at h0 ⊢
          split
          · rfl
          · split
            · rfl
            · rename_i a b
              rw [if_neg a, if_neg b] at h0
              exact absurd rfl h0)
        generalize cntC l.length 200 = q at *
        have hq' : ((q : Int) != 0) = true := by simpa using h0
        clear h0 HV
        go_enter Tryz.func68, Tryz.ntmps68
        go_wp2_with fail
        refine (HWi _).out.mono ?_
        rintro e w1 ⟨rfl, rfl⟩
        go_wp2_with fail
        refine (HCn _).out.mono ?_
        rintro e w1 ⟨rfl, rfl⟩
        go_wp2
        go_ret
        exact ⟨by rw [HE.out]; rfl, HB0.out⟩
  · rw [decide_eq_false h1] at HWi
    rw [if_pos (by omega)] at hv
    have HV := Lib.hid hv
    clear h1 hv
    go_enter Tryz.func68, Tryz.ntmps68
    go_wp2_with fail
    refine (HWi _).out.mono ?_
    rintro e w1 ⟨rfl, rfl⟩
    go_wp2
    go_ret
    exact ⟨by rw [HV.out]; rfl, HB0.out⟩
end Go.Proofs.YtnhoeboighndlaaGreatDoor.pgm
