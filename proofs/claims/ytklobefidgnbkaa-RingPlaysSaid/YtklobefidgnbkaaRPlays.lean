/-
  The walk of RingPlays: any calls on a row, and on the document's list beside it. No condition.
-/
import Derived.Test.YtklobefidgnbkaaRInv
namespace Go.Proofs.Ytklobefidgnbkaa.ring
open Go.RowKit
attribute [local go_sem ↓] Go.wp_at_zero Go.wp_at_succ

theorem xor_same (b : Bool) : (b != b) = false := by cases b <;> rfl

/-- What holds at each round's head. -/
def PlaysHead (w0 : World) (br room len : Nat) (m i : Value) (wr : World) : Prop :=
  ∃ (j g cap bi : Nat) (l : List Int), i = .int .i64 (j : Int) ∧ j ≤ len ∧ j ≤ 60 ∧ m = .slice (some ⟨g, 0, none⟩) l.length cap ∧ Inv w0 br br room wr bi g cap l l

set_option maxHeartbeats 2000000 in
set_option maxRecDepth 100000 in
theorem plays_some (b off len cap : Nat) (ops : Nat → Int × Int) (room : Int) (hlen : len ≤ maxLen) (w : World) (hbw : b < w.heap.size) (hl : OpsAt w b off len ops) :
    Calls Try.prog 3 #[.int .i64 room, .slice (some ⟨b, off, none⟩) len cap] w fun e w' => e = .returned (.bool true) ∧ Below w.heap.size w w' := by
  have hlen : len ≤ 9223372036854775807 := hlen
  have HL := Lib.hid hl
  clear hl
  have hroom := clamp_le room
  go_enter Try.func3, Try.ntmps3
  go_wp2_with fail
  refine (new_any _ room).mono ?_
  rintro e w1 ⟨rfl, h1, b1⟩
  have I0 := inv_new h1
  have hw1 := h1.lt.1
  have B0 := b1.alloc (Nat.le_of_lt hw1) (.cells #[] 3)
  have HI0 := Lib.hid I0
  have HB0 := Lib.hid B0
  clear I0 B0 h1
  go_wp2_with fail
  generalize hw0 : w1.alloc (.cells #[] 3) = w0 at *
  have hs0 : w.heap.size < w0.heap.size := by rw [← hw0]; simp; omega
  clear hw0 b1
  go_loopw [6, 7] (PlaysHead w0 w.heap.size (clamp room) len) (fun _ i _ => len - (intOf i).toNat)
  case atStart => exact ⟨0, _, 0, _, [], rfl, Nat.zero_le _, Nat.zero_le _, rfl, HI0.out⟩
  case round =>
    obtain ⟨j, g, cp, bi, l, rfl, hj, hj60, rfl, hI⟩ := hrel
    by_cases hlt : j < len ∧ j < 60
    · obtain ⟨hlt, h60⟩ := hlt
      have d1 : decide (j < len) = true := by simp; omega
      have d2 : decide ((j : Int) < 60) = true := by simp; omega
      have hbb : ∀ w', Frm w.heap.size w.heap.size w0 w' → w'.heap[b]? = w.heap[b]? := fun w' h => (h.block b (by omega) (by omega) (by omega)).trans (HB0.out.block b hbw)
      obtain ⟨c0, c1⟩ := HL.out.keep (hbb _ hI.frm) j hlt
      have HC := Lib.hid fun w' (h : Frm w.heap.size w.heap.size w0 w') => HL.out.keep (hbb w' h) j hlt
      generalize ops j = o at *
      have hrf := fun W h => ref_any W 0 g cp (clamp room) l o.1 o.2 h hI.room.1 hI.room.2
      have hrm := fun W => room_any W room
      have hdo := do_any wr w.heap.size bi (clamp room) l o.1 o.2 hI.lies
      have hpl := play_length o.1 o.2 hI.room.1
      have HI := Lib.hid hI
      clear hbb hI
      generalize play (clamp room) l o.1 o.2 = r at *
      obtain ⟨l', y, bb⟩ := r
      simp only at hpl
      have hxb := xor_same bb
      go_wp2_with fail
      refine hdo.mono ?_
      intro e w2 hd
      obtain ⟨rfl, bi', hI2⟩ := HI.out.did hd
      obtain ⟨e0, e1⟩ := HC.out w2 hI2.frm
      have HI2 := Lib.hid hI2
      clear hdo hd hI2 c0 c1 HI
      go_wp2_with fail
      go_region_held3 (fun w' => w'.cell? ⟨b, off + j * 2, none⟩ = some (.int .i64 o.1) ∧ w'.cell? ⟨b, off + j * 2 + 1, none⟩ = some (.int .i64 o.2)) (go_keep)
        (first
          | (go_at_call 10; refine (hrm _).mono ?_; rintro e w' ⟨rfl, rfl⟩)
          | (go_at_call 9; refine (hrf _ ((HI2.out.drewN _).row)).mono ?_; intro e w3 ht; obtain ⟨g', cp', rfl, hI3⟩ := (HI2.out.drewN _).told ht; obtain ⟨f0, f1⟩ := HC.out w3 hI3.frm))
      have hln := len_lies w3 _ _ _ _ hI3.lies
      have hal := all_any w3 _ _ _ _ hI3.lies
      have HI3 := Lib.hid hI3
      clear hI3 HI2 HC f0 f1 e0 e1 hrf hrm
      go_wp2_with fail
      refine hln.mono ?_
      rintro e w' ⟨rfl, rfl⟩
      clear hln
      go_wp2_with fail
      refine hal.mono ?_
      rintro e w4 ⟨rfl, hh, hb4⟩
      have hI4 := HI3.out.below hb4
      have hsm := same_any w4 _ _ l' (by omega) (ListAt.of_block hh rfl (by unfold maxLen; omega)) hI4.row.list
      have HI4 := Lib.hid hI4
      clear hal hh hb4 hI4 HI3
      go_wp2_with fail
      refine hsm.mono ?_
      rintro e w' ⟨rfl, m, rfl⟩
      clear hsm
      go_wp2_with fail
      exact ⟨⟨j + 1, g', cp', bi', l', by go_num, by omega, by omega, rfl, HI4.out.drewN m⟩, by simp [intOf]; omega⟩
    · have hb := HB0.out.trans (hI.frm.below (B := w.heap.size) (Nat.le_refl _) (Nat.le_refl _) (Nat.le_of_lt hs0))
      have HB := Lib.hid hb
      clear hb hI HI0 HB0 HL
      go_wp2_with fail
      all_goals
        refine (lives_any _).mono ?_
        rintro e w' ⟨rfl, hb⟩
        go_wp2
        go_ret
        exact ⟨rfl, HB.out.trans (hb.mono HB.out.size)⟩

set_option maxHeartbeats 2000000 in
set_option maxRecDepth 100000 in
theorem plays_none (a : Option Addr) (cap : Nat) (room : Int) (w : World) :
    Calls Try.prog 3 #[.int .i64 room, .slice a 0 cap] w fun e w' => e = .returned (.bool true) ∧ Below w.heap.size w w' := by
  go_enter Try.func3, Try.ntmps3
  go_wp2_with fail
  refine (new_any _ room).mono ?_
  rintro e w1 ⟨rfl, h1, b1⟩
  have HB0 := Lib.hid (b1.alloc (Nat.le_of_lt h1.lt.1) (.cells #[] 3))
  clear h1 b1
  go_wp2_with fail
  go_loopw [6, 7] (fun _ i wr => i = .int .i64 0 ∧ Below w.heap.size w wr) (fun _ _ _ => 0)
  case atStart => exact ⟨rfl, HB0.out⟩
  case round =>
    obtain ⟨rfl, hb⟩ := hrel
    have HB := Lib.hid hb
    clear hb HB0
    go_wp2_with fail
    all_goals
      refine (lives_any _).mono ?_
      rintro e w' ⟨rfl, hb⟩
      go_wp2
      go_ret
      exact ⟨rfl, HB.out.trans (hb.mono HB.out.size)⟩
end Go.Proofs.Ytklobefidgnbkaa.ring
