/-
  Texts of one claim in one file: DRefOne. Each has its own sentence, with its conditions.
-/
import Derived.Test.YtjbcmedljgafkaaDoorZq3
/-
  The document's own answer what is wrong with an object, and where the first one stands that may not be. No condition but that a list is no longer than an int can say.
-/

namespace Go.Proofs.YtjbcmedljgafkaaDoor.objs
open Go.RowKit Go.ChangeShapes
open Go.Proofs.YtjbcmedljgafkaaDoor.word (Word)
set_option linter.unusedVariables false

def declBox (k a b : Int) : Obj := .cells #[.int .i64 k, .int .i64 a, .int .i64 b] 66
/-- What 'one' answers. -/
def OnePost (l : List De) (d : De) (w : World) (e : Ending) (w' : World) : Prop := e = .returned (.int .i64 (one l d : Nat)) ∧ Below w.heap.size w w'
theorem box_below (w : World) (k a b : Int) : Below w.heap.size w (w.alloc (declBox k a b)) := (Below.refl _ w).alloc (Nat.le_refl _) _

set_option maxHeartbeats 4000000 in
theorem refOne_6 (A : Option Addr) (cap : Nat) (l : List De) (k a b : Int) (h : k < 1 ∨ 7 < k) (w : World) :
    Calls Tryd.prog 82 #[.slice A l.length cap, .agg #[.int .i64 k, .int .i64 a, .int .i64 b]] w (OnePost l (k, a, b) w) := by
  have HV : Hid (one l (k, a, b) = 6) := Lib.hid (by unfold one; rw [if_pos h])
  have HB := Lib.hid (box_below w k a b)
  unfold OnePost
  rw [HV.out]
  by_cases h1 : k < 1
  · have hd : decide (k < 1) = true := by simpa using h1
    clear h
    go_enter Tryd.func82, Tryd.ntmps82
    go_wp2_with fail
    go_ret
    exact ⟨rfl, HB.out⟩
  · have hd : decide (k < 1) = false := by simpa using h1
    have hd2 : decide (7 < k) = true := by simp; omega
    clear h h1
    go_enter Tryd.func82, Tryd.ntmps82
    go_wp2_with fail
    go_ret
    exact ⟨rfl, HB.out⟩
set_option maxHeartbeats 4000000 in
theorem refOne_sem (A : Option Addr) (cap : Nat) (l : List De) (a b : Int) (w : World) :
    Calls Tryd.prog 82 #[.slice A l.length cap, .agg #[.int .i64 3, .int .i64 a, .int .i64 b]] w (OnePost l (3, a, b) w) := by
  have HB := Lib.hid (box_below w 3 a b)
  unfold OnePost
  by_cases h1 : b < 1
  · have HV : Hid (one l (3, a, b) = 1) := Lib.hid (by unfold one; dsimp only; rw [if_neg (by omega), if_pos (by omega)])
    rw [HV.out]
    have hd1 : decide (b < 1) = true := by simpa using h1
    clear h1
    go_enter Tryd.func82, Tryd.ntmps82
    go_wp2_with fail
    go_ret
    exact ⟨rfl, HB.out⟩
  · have hd1 : decide (b < 1) = false := by simpa using h1
    by_cases h2 : 1000 < b
    · have HV : Hid (one l (3, a, b) = 1) := Lib.hid (by unfold one; dsimp only; rw [if_neg (by omega), if_pos (by omega)])
      rw [HV.out]
      have hd2 : decide (1000 < b) = true := by simpa using h2
      clear h1 h2
      go_enter Tryd.func82, Tryd.ntmps82
      go_wp2_with fail
      go_ret
      exact ⟨rfl, HB.out⟩
    · have hd2 : decide (1000 < b) = false := by simpa using h2
      by_cases h3 : a < 0
      · have HV : Hid (one l (3, a, b) = 1) := Lib.hid (by unfold one; dsimp only; rw [if_neg (by omega), if_pos (by omega)])
        rw [HV.out]
        have hd3 : decide (a < 0) = true := by simpa using h3
        clear h1 h2 h3
        go_enter Tryd.func82, Tryd.ntmps82
        go_wp2_with fail
        go_ret
        exact ⟨rfl, HB.out⟩
      · have hd3 : decide (a < 0) = false := by simpa using h3
        by_cases h4 : b < a
        · have HV : Hid (one l (3, a, b) = 1) := Lib.hid (by unfold one; dsimp only; rw [if_neg (by omega), if_pos (by omega)])
          rw [HV.out]
          have hd4 : decide (b < a) = true := by simpa using h4
          clear h1 h2 h3 h4
          go_enter Tryd.func82, Tryd.ntmps82
          go_wp2_with fail
          go_ret
          exact ⟨rfl, HB.out⟩
        · have HV : Hid (one l (3, a, b) = 0) := Lib.hid (by unfold one; dsimp only; rw [if_neg (by omega), if_neg (by omega), if_neg (by omega), if_neg (fun h => by omega), if_neg (by omega)])
          rw [HV.out]
          have hd4 : decide (b < a) = false := by simpa using h4
          clear h1 h2 h3 h4
          go_enter Tryd.func82, Tryd.ntmps82
          go_wp2_with fail
          go_ret
          exact ⟨rfl, HB.out⟩
set_option maxHeartbeats 4000000 in
theorem refOne_pool (A : Option Addr) (cap : Nat) (l : List De) (a b : Int) (w : World) :
    Calls Tryd.prog 82 #[.slice A l.length cap, .agg #[.int .i64 6, .int .i64 a, .int .i64 b]] w (OnePost l (6, a, b) w) := by
  have HB := Lib.hid (box_below w 6 a b)
  unfold OnePost
  by_cases h1 : a < 1
  · have HV : Hid (one l (6, a, b) = 1) := Lib.hid (by unfold one; dsimp only; rw [if_neg (by omega), if_neg (by omega), if_pos (by omega)])
    rw [HV.out]
    have hd1 : decide (a < 1) = true := by simpa using h1
    clear h1
    go_enter Tryd.func82, Tryd.ntmps82
    go_wp2_with fail
    go_ret
    exact ⟨rfl, HB.out⟩
  · have hd1 : decide (a < 1) = false := by simpa using h1
    by_cases h2 : 1000 < a
    · have HV : Hid (one l (6, a, b) = 1) := Lib.hid (by unfold one; dsimp only; rw [if_neg (by omega), if_neg (by omega), if_pos (by omega)])
      rw [HV.out]
      have hd2 : decide (1000 < a) = true := by simpa using h2
      clear h1 h2
      go_enter Tryd.func82, Tryd.ntmps82
      go_wp2_with fail
      go_ret
      exact ⟨rfl, HB.out⟩
    · have hd2 : decide (1000 < a) = false := by simpa using h2
      by_cases h3 : b = 0
      · have HV : Hid (one l (6, a, b) = 0) := Lib.hid (by unfold one; dsimp only; rw [if_neg (by omega), if_neg (by omega), if_neg (by omega), if_neg (fun h => by omega), if_neg (by omega)])
        rw [HV.out]
        subst h3
        clear h1 h2
        go_enter Tryd.func82, Tryd.ntmps82
        go_wp2_with fail
        go_ret
        exact ⟨rfl, HB.out⟩
      · have HV : Hid (one l (6, a, b) = 2) := Lib.hid (by unfold one; dsimp only; rw [if_neg (by omega), if_neg (by omega), if_neg (by omega), if_neg (fun h => by omega), if_pos (by omega)])
        rw [HV.out]
        have hd3 : (b != 0) = true := by simpa using h3
        clear h1 h2 h3
        go_enter Tryd.func82, Tryd.ntmps82
        go_wp2_with fail
        go_ret
        exact ⟨rfl, HB.out⟩
set_option maxHeartbeats 4000000 in
theorem refOne_bare (A : Option Addr) (cap : Nat) (l : List De) (k a b : Int) (h1 : 1 ≤ k) (h7 : k < 7) (h3 : k ≠ 3) (h6 : k ≠ 6) (w : World) :
    Calls Tryd.prog 82 #[.slice A l.length cap, .agg #[.int .i64 k, .int .i64 a, .int .i64 b]] w (OnePost l (k, a, b) w) := by
  have HB := Lib.hid (box_below w k a b)
  unfold OnePost
  have hd1 : decide (k < 1) = false := by simp; omega
  have hd7 : decide (7 < k) = false := by simp; omega
  have e3 : (k == 3) = false := by simpa using h3
  have e6 : (k == 6) = false := by simpa using h6
  have e7 : (k == 7) = false := by simp; omega
  have n3 : (k != 3) = true := by simpa using h3
  have n6 : (k != 6) = true := by simpa using h6
  have n7 : (k != 7) = true := by simp; omega
  by_cases hb : b = 0
  · by_cases ha : a = 0
    · have HV : Hid (one l (k, a, b) = 0) := Lib.hid (by unfold one; dsimp only; rw [if_neg (by omega), if_neg (by omega), if_neg (by omega), if_neg (fun h => by omega), if_neg (by omega)])
      rw [HV.out]
      subst hb ha
      clear h1 h7 h3 h6
      go_enter Tryd.func82, Tryd.ntmps82
      go_wp2_with fail
      go_ret
      exact ⟨rfl, HB.out⟩
    · have HV : Hid (one l (k, a, b) = 2) := Lib.hid (by unfold one; dsimp only; rw [if_neg (by omega), if_neg (by omega), if_neg (by omega), if_neg (fun h => by omega), if_pos (by omega)])
      rw [HV.out]
      have hda : (a != 0) = true := by simpa using ha
      subst hb
      clear h1 h7 h3 h6 ha
      go_enter Tryd.func82, Tryd.ntmps82
      go_wp2_with fail
      go_ret
      exact ⟨rfl, HB.out⟩
  · have HV : Hid (one l (k, a, b) = 2) := Lib.hid (by unfold one; dsimp only; rw [if_neg (by omega), if_neg (by omega), if_neg (by omega), if_neg (fun h => by omega), if_pos (by omega)])
    rw [HV.out]
    have hdb : (b != 0) = true := by simpa using hb
    clear h1 h7 h3 h6 hb
    go_enter Tryd.func82, Tryd.ntmps82
    go_wp2_with fail
    go_ret
    exact ⟨rfl, HB.out⟩
set_option maxHeartbeats 4000000 in
theorem refOne_cell (A : Option Addr) (cap : Nat) (l : List De) (a b : Int) (hl : l.length ≤ 9223372036854775807) (w : World) (hA : DAt w A l) :
    Calls Tryd.prog 82 #[.slice A l.length cap, .agg #[.int .i64 7, .int .i64 a, .int .i64 b]] w (OnePost l (7, a, b) w) := by
  have hbx := box_below w 7 a b
  have HW := fun W => Lib.hid (Go.Proofs.YtjbcmedljgafkaaDoor.word.refFits_any a W)
  have HFt := Lib.hid (refFits_any A cap l 117 b hl _ (hA.next hbx))
  rw [show (((117 : UInt8).toNat : Nat) : Int) = 117 from rfl] at HFt
  have HB := Lib.hid hbx
  have hz : (w.alloc (declBox 7 a b)).heap.size = w.heap.size + 1 := World.size_alloc w _
  have hi : (w.alloc (declBox 7 a b)).heap[w.heap.size]? = some (declBox 7 a b) := heap_alloc_new w _
  unfold OnePost
  unfold declBox at HFt HB hz hi
  clear hA hbx
  by_cases h1 : Word a
  · have HD : Hid (decide (Word a) = true) := Lib.hid (decide_eq_true h1)
    rw [HD.out] at HW
    cases hf : fits l 117 b with
    | true =>
      have HV : Hid (one l (7, a, b) = 0) := Lib.hid (by
        unfold one; dsimp only
        rw [if_neg (by omega), if_neg (by omega), if_neg (by omega), if_neg, if_neg (by omega)]
        rintro ⟨_, h | h⟩
        · exact h h1
        · rw [hf] at h; cases h)
      rw [hf] at HFt
      rw [HV.out]
      clear h1 hf
      go_enter Tryd.func82, Tryd.ntmps82
      go_wp2_with fail
      refine (HW _).out.mono ?_
      rintro e w1 ⟨rfl, rfl⟩
      go_wp2_with fail
      refine HFt.out.mono ?_
      rintro e w1 ⟨rfl, hb1⟩
      have hc0 : w1.cell? ⟨w.heap.size, 0, none⟩ = some (.int .i64 7) := by unfold World.cell?; rw [hb1.block w.heap.size (by omega), hi]; rfl
      have HB1 := Lib.hid (HB.out.trans (hb1.mono (by omega)))
      clear hb1 hi hz
      go_wp2_with fail
      go_ret
      exact ⟨rfl, HB1.out⟩
    | false =>
      have HV : Hid (one l (7, a, b) = 1) := Lib.hid (by
        unfold one; dsimp only
        rw [if_neg (by omega), if_neg (by omega), if_neg (by omega), if_pos ⟨rfl, .inr hf⟩])
      rw [hf] at HFt
      rw [HV.out]
      clear h1 hf
      go_enter Tryd.func82, Tryd.ntmps82
      go_wp2_with fail
      refine (HW _).out.mono ?_
      rintro e w1 ⟨rfl, rfl⟩
      go_wp2_with fail
      refine HFt.out.mono ?_
      rintro e w1 ⟨rfl, hb1⟩
      have HB1 := Lib.hid (HB.out.trans (hb1.mono (by omega)))
      clear hb1 hi hz
      go_wp2_with fail
      go_ret
      exact ⟨rfl, HB1.out⟩
  · have HD : Hid (decide (Word a) = false) := Lib.hid (decide_eq_false h1)
    rw [HD.out] at HW
    have HV : Hid (one l (7, a, b) = 1) := Lib.hid (by
      unfold one; dsimp only
      rw [if_neg (by omega), if_neg (by omega), if_neg (by omega), if_pos ⟨rfl, .inl h1⟩])
    rw [HV.out]
    clear h1 hi hz
    go_enter Tryd.func82, Tryd.ntmps82
    go_wp2_with fail
    refine (HW _).out.mono ?_
    rintro e w1 ⟨rfl, rfl⟩
    go_wp2_with fail
    go_ret
    exact ⟨rfl, HB.out⟩
theorem refOne_any (A : Option Addr) (cap : Nat) (l : List De) (d : De) (hl : l.length ≤ 9223372036854775807) (w : World) (hA : DAt w A l) :
    Calls Tryd.prog 82 #[.slice A l.length cap, .agg #[.int .i64 d.1, .int .i64 d.2.1, .int .i64 d.2.2]] w (OnePost l d w) := by
  obtain ⟨k, a, b⟩ := d
  dsimp only
  by_cases h : k < 1 ∨ 7 < k
  · exact refOne_6 A cap l k a b h w
  · by_cases h3 : k = 3
    · subst h3; exact refOne_sem A cap l a b w
    · by_cases h6 : k = 6
      · subst h6; exact refOne_pool A cap l a b w
      · by_cases h7 : k = 7
        · subst h7; exact refOne_cell A cap l a b hl w hA
        · exact refOne_bare A cap l k a b (by omega) (by omega) h3 h6 w
end Go.Proofs.YtjbcmedljgafkaaDoor.objs
