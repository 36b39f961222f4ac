/-
  The program's own answer what is wrong with an object (typed over the code of 392f5a9): for every object. The table of names must lie where its initialiser lays it.
-/
import Derived.Test.YtaefkkhmhogpeaaDoorDFit
import Derived.Test.YtaefkkhmhogpeaaDoorSpan
import Derived.Test.YtaefkkhmhogpeaaDoorWProg
namespace Go.Proofs.YtaefkkhmhogpeaaDoor.objs
open Go.RowKit Go.ChangeShapes
open Go.Proofs.YtaefkkhmhogpeaaDoor.word (Word)
open Go.Proofs.YtaefkkhmhogpeaaDoor.span (within_any)
set_option linter.unusedVariables false

/-- May the numbers be that an object's kind has? -/
def rng (l : List De) (d : De) : Bool :=
  if d.1 = 3 then decide (1 ≤ d.2.2 ∧ d.2.2 ≤ 1000) && decide (0 ≤ d.2.1 ∧ d.2.1 ≤ d.2.2) else if d.1 = 6 then decide (1 ≤ d.2.1 ∧ d.2.1 ≤ 1000) else if d.1 = 7 then decide (Word d.2.1) && fits l 117 d.2.2 else true
/-- Has it a number that its kind has not? -/
def more (d : De) : Bool := if d.1 = 3 ∨ d.1 = 7 then false else if d.1 = 6 then d.2.2 != 0 else (d.2.1 != 0 || d.2.2 != 0)
theorem one_6 {l : List De} {d : De} (h : ¬ (1 ≤ d.1 ∧ d.1 ≤ 7)) : one l d = 6 := by unfold one; rw [if_pos (by omega)]
theorem one_parts {l : List De} {d : De} (h : 1 ≤ d.1 ∧ d.1 ≤ 7) : one l d = if rng l d = false then 1 else if more d = true then 2 else 0 := by
  obtain ⟨k, a, b⟩ := d
  dsimp only at h
  unfold one rng more
  dsimp only
  rw [if_neg (by omega)]
  by_cases h3 : k = 3
  · subst h3
    simp only [true_and, if_true, true_or, Bool.false_eq_true, if_false]
    by_cases hr : b < 1 ∨ 1000 < b ∨ a < 0 ∨ b < a
    · rw [if_pos hr, if_pos]
      rw [← Bool.decide_and, decide_eq_false_iff_not]
      omega
    · rw [if_neg hr, if_neg (by omega), if_neg (by omega), if_neg (by omega), if_neg]
      rw [← Bool.decide_and, decide_eq_false_iff_not]
      omega
  · by_cases h6 : k = 6
    · subst h6
      rw [if_neg (by omega), if_neg (by omega : ¬ ((6 : Int) = 3)), if_pos rfl, if_neg (by omega : ¬ ((6 : Int) = 3 ∨ (6 : Int) = 7)), if_pos rfl]
      by_cases hr : a < 1 ∨ 1000 < a
      · rw [if_pos ⟨rfl, hr⟩, if_pos (by rw [decide_eq_false_iff_not]; omega)]
      · have hd : decide (1 ≤ a ∧ a ≤ 1000) = true := by rw [decide_eq_true_iff]; omega
        rw [if_neg (fun h => hr h.2), if_neg (fun h => by omega), hd]
        by_cases hb : b = 0
        · subst hb
          rw [if_neg (by omega)]
          rfl
        · rw [if_pos (by omega), if_neg (by decide : ¬ true = false), if_pos (by simpa using hb)]
    · by_cases h7 : k = 7
      · subst h7
        rw [if_neg (by omega), if_neg (by omega), if_neg (by omega : ¬ ((7 : Int) = 3)), if_neg (by omega : ¬ ((7 : Int) = 6)), if_pos rfl, if_pos (by omega : (7 : Int) = 3 ∨ (7 : Int) = 7)]
        by_cases hw : Word a
        · rw [decide_eq_true hw, Bool.true_and]
          cases hf : fits l 117 b with
          | true =>
            rw [if_neg (by rintro ⟨_, h | h⟩; exact h hw; cases h), if_neg (by omega), if_neg (by decide), if_neg (by decide)]
          | false => rw [if_pos ⟨rfl, .inr rfl⟩, if_pos rfl]
        · rw [decide_eq_false hw, Bool.false_and, if_pos ⟨rfl, .inl hw⟩, if_pos rfl]
      · rw [if_neg (h3 : ¬ k = 3), if_neg (h6 : ¬ k = 6), if_neg (h7 : ¬ k = 7), if_neg (by omega : ¬ (k = 3 ∨ k = 7)), if_neg (fun h => h3 h.1), if_neg (fun h => h6 h.1), if_neg (fun h => h7 h.1), if_neg (by decide : ¬ true = false), if_neg h6]
        by_cases ha : a = 0
        · by_cases hb : b = 0
          · subst ha hb
            rw [if_neg (by omega)]
            rfl
          · rw [if_pos (by omega), if_pos]
            rw [Bool.or_eq_true]
            exact .inr (by simpa using hb)
        · rw [if_pos (by omega), if_pos]
          rw [Bool.or_eq_true]
          exact .inl (by simpa using ha)

set_option maxHeartbeats 1000000 in
theorem range_sem (A : Option Addr) (cap : Nat) (l : List De) (a b : Int) (w : World) :
    Calls Tryd.prog 67 #[.slice A l.length cap, .agg #[.int .i64 3, .int .i64 a, .int .i64 b]] w fun e w' => e = .returned (.bool (rng l (3, a, b))) ∧ Below w.heap.size w w' := by
  have HB := Lib.hid (box_below w 3 a b)
  have H1 := fun W => Lib.hid (within_any b 1 1000 W)
  have H2 := fun W => Lib.hid (within_any a 0 b W)
  have HE : Hid (rng l (3, a, b) = (decide (1 ≤ b ∧ b ≤ 1000) && decide (0 ≤ a ∧ a ≤ b))) := Lib.hid rfl
  rw [HE.out]
  unfold declBox at HB
  generalize decide (1 ≤ b ∧ b ≤ 1000) = p at *
  generalize decide (0 ≤ a ∧ a ≤ b) = q at *
  clear HE
  cases p with
  | true =>
    go_enter Tryd.func67, Tryd.ntmps67
    go_wp2_with fail
    refine (H1 _).out.mono ?_
    rintro e w1 ⟨rfl, rfl⟩
    go_wp2_with fail
    refine (H2 _).out.mono ?_
    rintro e w1 ⟨rfl, rfl⟩
    go_wp2
    go_ret
    exact ⟨rfl, HB.out⟩
  | false =>
    go_enter Tryd.func67, Tryd.ntmps67
    go_wp2_with fail
    refine (H1 _).out.mono ?_
    rintro e w1 ⟨rfl, rfl⟩
    go_wp2
    go_ret
    exact ⟨rfl, HB.out⟩
set_option maxHeartbeats 1000000 in
theorem range_pool (A : Option Addr) (cap : Nat) (l : List De) (a b : Int) (w : World) :
    Calls Tryd.prog 67 #[.slice A l.length cap, .agg #[.int .i64 6, .int .i64 a, .int .i64 b]] w fun e w' => e = .returned (.bool (rng l (6, a, b))) ∧ Below w.heap.size w w' := by
  have HB := Lib.hid (box_below w 6 a b)
  have H1 := fun W => Lib.hid (within_any a 1 1000 W)
  have HE : Hid (rng l (6, a, b) = decide (1 ≤ a ∧ a ≤ 1000)) := Lib.hid rfl
  rw [HE.out]
  unfold declBox at HB
  generalize decide (1 ≤ a ∧ a ≤ 1000) = p at *
  clear HE
  go_enter Tryd.func67, Tryd.ntmps67
  go_wp2_with fail
  refine (H1 _).out.mono ?_
  rintro e w1 ⟨rfl, rfl⟩
  go_wp2
  go_ret
  exact ⟨rfl, HB.out⟩
set_option maxHeartbeats 1000000 in
theorem range_cell (A : Option Addr) (cap : Nat) (l : List De) (a b : Int) (hl : l.length ≤ 9223372036854775807) (w : World) (hA : DAt w A l) :
    Calls Tryd.prog 67 #[.slice A l.length cap, .agg #[.int .i64 7, .int .i64 a, .int .i64 b]] w fun e w' => e = .returned (.bool (rng l (7, a, b))) ∧ Below w.heap.size w w' := by
  have hb0 := box_below w 7 a b
  have HB := Lib.hid hb0
  have H1 := fun W => Lib.hid (Go.Proofs.YtaefkkhmhogpeaaDoor.word.fits_any a W)
  have H2 := Lib.hid (fit_any A cap l 117 b hl _ (hA.next hb0))
  rw [show (((117 : UInt8).toNat : Nat) : Int) = 117 from rfl] at H2
  have HE : Hid (rng l (7, a, b) = (decide (Word a) && fits l 117 b)) := Lib.hid rfl
  rw [HE.out]
  unfold declBox at HB H2
  generalize decide (Word a) = p at *
  generalize fits l 117 b = q at *
  clear HE hA hb0
  cases p with
  | true =>
    go_enter Tryd.func67, Tryd.ntmps67
    go_wp2_with fail
    refine (H1 _).out.mono ?_
    rintro e w1 ⟨rfl, rfl⟩
    go_wp2_with fail
    refine H2.out.mono ?_
    rintro e w1 ⟨rfl, rfl⟩
    go_wp2
    go_ret
    exact ⟨rfl, HB.out⟩
  | false =>
    go_enter Tryd.func67, Tryd.ntmps67
    go_wp2_with fail
    refine (H1 _).out.mono ?_
    rintro e w1 ⟨rfl, rfl⟩
    go_wp2
    go_ret
    exact ⟨rfl, HB.out⟩
set_option maxHeartbeats 1000000 in
theorem range_bare (A : Option Addr) (cap : Nat) (l : List De) (k a b : Int) (h3 : k ≠ 3) (h6 : k ≠ 6) (h7 : k ≠ 7) (w : World) :
    Calls Tryd.prog 67 #[.slice A l.length cap, .agg #[.int .i64 k, .int .i64 a, .int .i64 b]] w fun e w' => e = .returned (.bool (rng l (k, a, b))) ∧ Below w.heap.size w w' := by
  have HB := Lib.hid (box_below w k a b)
  have HE : Hid (rng l (k, a, b) = true) := Lib.hid (by unfold rng; rw [if_neg h3, if_neg h6, if_neg h7])
  rw [HE.out]
  have e3 : (k == 3) = false := by simpa using h3
  have e6 : (k == 6) = false := by simpa using h6
  have e7 : (k == 7) = false := by simpa using h7
  clear HE h3 h6 h7
  go_enter Tryd.func67, Tryd.ntmps67
  go_wp2
  go_ret
  exact ⟨rfl, HB.out⟩
theorem range_any (A : Option Addr) (cap : Nat) (l : List De) (d : De) (hl : l.length ≤ 9223372036854775807) (w : World) (hA : DAt w A l) :
    Calls Tryd.prog 67 #[.slice A l.length cap, .agg #[.int .i64 d.1, .int .i64 d.2.1, .int .i64 d.2.2]] w fun e w' => e = .returned (.bool (rng l d)) ∧ Below w.heap.size w w' := by
  obtain ⟨k, a, b⟩ := d
  dsimp only
  by_cases h3 : k = 3
  · subst h3; exact range_sem A cap l a b w
  · by_cases h6 : k = 6
    · subst h6; exact range_pool A cap l a b w
    · by_cases h7 : k = 7
      · subst h7; exact range_cell A cap l a b hl w hA
      · exact range_bare A cap l k a b h3 h6 h7 w

set_option maxHeartbeats 1000000 in
theorem more_any (d : De) (w : World) :
    Calls Tryd.prog 68 #[.agg #[.int .i64 d.1, .int .i64 d.2.1, .int .i64 d.2.2]] w fun e w' => e = .returned (.bool (more d)) ∧ Below w.heap.size w w' := by
  obtain ⟨k, a, b⟩ := d
  dsimp only
  have HB := Lib.hid (box_below w k a b)
  unfold declBox at HB
  by_cases h : k = 3 ∨ k = 7
  · have HE : Hid (more (k, a, b) = false) := Lib.hid (by unfold more; rw [if_pos h])
    rw [HE.out]
    rcases h with rfl | rfl
    all_goals
      go_enter Tryd.func68, Tryd.ntmps68
      go_wp2
      go_ret
      exact ⟨rfl, HB.out⟩
  · have e3 : (k == 3) = false := by simp; omega
    have e7 : (k == 7) = false := by simp; omega
    by_cases h6 : k = 6
    · subst h6
      have HE : Hid (more (6, a, b) = (b != 0)) := Lib.hid (by unfold more; rw [if_neg h, if_pos rfl])
      rw [HE.out]
      clear h
      go_enter Tryd.func68, Tryd.ntmps68
      go_wp2
      go_ret
      exact ⟨rfl, HB.out⟩
    · have HE : Hid (more (k, a, b) = (a != 0 || b != 0)) := Lib.hid (by unfold more; rw [if_neg h, if_neg h6])
      rw [HE.out]
      have e6 : (k == 6) = false := by simpa using h6
      clear h h6 HE
      cases ha : (a != 0) with
      | true =>
        rw [Bool.true_or]
        go_enter Tryd.func68, Tryd.ntmps68
        go_wp2
        go_ret
        exact ⟨rfl, HB.out⟩
      | false =>
        rw [Bool.false_or]
        go_enter Tryd.func68, Tryd.ntmps68
        go_wp2
        go_ret
        exact ⟨rfl, HB.out⟩

/-- An object that came in, in a block of its own. -/
structure Bx (w : World) (A : Option Addr) (l : List De) (d : De) (W : World) : Prop where
  below : Below w.heap.size w W
  blk : W.heap[w.heap.size]? = some (.cells #[.int .i64 d.1, .int .i64 d.2.1, .int .i64 d.2.2] 80 (0, 0))
  list : DAt W A l
  ok : Okd W
theorem bx_new {w : World} {A : Option Addr} {l : List De} (d : De) (hA : DAt w A l) (hw : Okd w) : Bx w A l d (w.alloc (.cells #[.int .i64 d.1, .int .i64 d.2.1, .int .i64 d.2.2] 80)) :=
  have hb : Below w.heap.size w (w.alloc (.cells #[.int .i64 d.1, .int .i64 d.2.1, .int .i64 d.2.2] 80)) := (Below.refl _ _).alloc (Nat.le_refl _) _
  ⟨hb, heap_alloc_new w _, hA.next hb, hw.next hb⟩
theorem Bx.next {w W W' : World} {A : Option Addr} {l : List De} {d : De} (h : Bx w A l d W) (hb : Below W.heap.size W W') : Bx w A l d W' := by
  have h1 := lt_of_block h.blk
  exact ⟨h.below.trans (hb.mono (Nat.le_of_lt h1)), (hb.block _ h1).trans h.blk, h.list.next hb, h.ok.next hb⟩
theorem Bx.cells {w W : World} {A : Option Addr} {l : List De} {d : De} (h : Bx w A l d W) : W.cell? ⟨w.heap.size, 0, none⟩ = some (.int .i64 d.1) ∧ W.cell? ⟨w.heap.size, 1, none⟩ = some (.int .i64 d.2.1) ∧ W.cell? ⟨w.heap.size, 2, none⟩ = some (.int .i64 d.2.2) := by
  unfold World.cell?
  rw [h.blk]
  exact ⟨rfl, rfl, rfl⟩

set_option maxHeartbeats 2000000 in
theorem one_any (A : Option Addr) (cap : Nat) (l : List De) (d : De) (hl : l.length ≤ 9223372036854775807) (w : World) (hA : DAt w A l) (hw : Okd w) :
    Calls Tryd.prog 49 #[.slice A l.length cap, .agg #[.int .i64 d.1, .int .i64 d.2.1, .int .i64 d.2.2]] w (OnePost l d w) := by
  have HX := Lib.hid (bx_new d hA hw)
  have HK := fun W hW => Lib.hid (known_any d.1 W hW)
  have HR := fun W hW => Lib.hid (range_any A cap l d hl W hW)
  have HM := fun W => Lib.hid (more_any d W)
  have H6 := fun h => Lib.hid (one_6 (l := l) (d := d) h)
  have HP := fun h => Lib.hid (one_parts (l := l) (d := d) h)
  clear hA hw
  unfold OnePost
  generalize one l d = v at *
  generalize rng l d = r at *
  generalize more d = m at *
  obtain ⟨k, a, b⟩ := d
  dsimp only at HX HK HR HM H6 HP ⊢
  obtain ⟨c0, c1, c2⟩ := HX.out.cells
  by_cases hk : 1 ≤ k ∧ k ≤ 7
  · rw [decide_eq_true hk] at HK
    have HV := HP hk
    clear H6 HP hk
    go_enter Tryd.func49, Tryd.ntmps49
    go_wp2_with fail
    refine (HK _ HX.out.ok).out.mono ?_
    rintro e w1 ⟨rfl, rfl⟩
    go_wp2_with fail
    refine (HR _ HX.out.list).out.mono ?_
    rintro e w1 ⟨rfl, hb1⟩
    have HX1 := Lib.hid (HX.out.next hb1)
    clear c0 c1 c2 hb1 HX HR HK
    obtain ⟨c0, c1, c2⟩ := HX1.out.cells
    cases r with
    | false =>
      go_wp2
      go_ret
      exact ⟨ret_int (by rw [HV.out]; rfl), HX1.out.below⟩
    | true =>
      go_wp2_with fail
      refine (HM _).out.mono ?_
      rintro e w1 ⟨rfl, hb1⟩
      have HX2 := Lib.hid (HX1.out.next hb1)
      clear c0 c1 c2 hb1 HX1 HM
      cases m with
      | true =>
        go_wp2
        go_ret
        exact ⟨ret_int (by rw [HV.out]; rfl), HX2.out.below⟩
      | false =>
        go_wp2
        go_ret
        exact ⟨ret_int (by rw [HV.out]; rfl), HX2.out.below⟩
  · rw [decide_eq_false hk] at HK
    have HV := H6 hk
    clear H6 HP hk HR HM
    go_enter Tryd.func49, Tryd.ntmps49
    go_wp2_with fail
    refine (HK _ HX.out.ok).out.mono ?_
    rintro e w1 ⟨rfl, rfl⟩
    go_wp2
    go_ret
    exact ⟨ret_int (by rw [HV.out]; rfl), HX.out.below⟩
end Go.Proofs.YtaefkkhmhogpeaaDoor.objs
