/-
  The reader's calls, each by itself: what is left, the first error, one byte, a failure. The reader lies in a block of its own, and holds no bytes behind an error.
-/
import Derived.Test.YtaefkkhmhogpeaaDoorProg
import Derived.Test.YtaefkkhmhogpeaaDoorMem
import Derived.Lib.Hide
import Derived.ProofKit
import Derived.BigQuiet
import Derived.Deep.QuietTactic
import Derived.Outline
set_option linter.unusedVariables false
namespace Go.Proofs.YtaefkkhmhogpeaaDoor.octet
open Go.RowKit Go.ChangeShapes

theorem size_mk (l : List UInt8) : (ByteArray.mk l.toArray).size = l.length := by
  show l.toArray.size = l.length
  simp

theorem extract_mk (l : List UInt8) (i j : Nat) : (ByteArray.mk l.toArray).extract i j = ⟨((l.take j).drop i).toArray⟩ := by
  apply ByteArray.ext
  rw [ByteArray.data_extract]
  simp [List.extract_eq_take_drop, List.drop_take]

set_option maxHeartbeats 400000 in
theorem left_any (w : World) (bi : Nat) (s : St) (hi : InAt w bi s) :
    Calls Tryd.prog 47 #[.pointer (some ⟨bi, 0, none⟩)] w fun e w' => e = .returned (.int .i64 (s.rest.length : Int)) ∧ w = w' := by
  have hc := hi.cell0
  have hsz := size_mk s.rest
  go_enter Tryd.func47, Tryd.ntmps47
  go_wp2
  go_ret
  exact ⟨rfl, rfl⟩

set_option maxHeartbeats 400000 in
theorem err_any (w : World) (bi : Nat) (s : St) (hi : InAt w bi s) :
    Calls Tryd.prog 46 #[.pointer (some ⟨bi, 0, none⟩)] w fun e w' => e = .returned (.int .i64 (s.err : Int)) ∧ w = w' := by
  have hc := hi.cell1
  go_enter Tryd.func46, Tryd.ntmps46
  go_wp2
  go_ret
  exact ⟨rfl, rfl⟩

set_option maxHeartbeats 400000 in
theorem fail_any (w : World) (bi : Nat) (s : St) (e : Nat) (hi : InAt w bi s) :
    Calls Tryd.prog 78 #[.pointer (some ⟨bi, 0, none⟩), .int .i64 (e : Int)] w fun r w' => r = .returned (.tuple #[]) ∧ InAt w' bi (s.fail e) ∧ Frm w.heap.size bi w w' := by
  have hc0 := hi.cell0
  have hc1 := hi.cell1
  have hf0 := hi.free 0
  have hf1 := hi.free 1
  by_cases he : s.err = 0
  · have hb : ((s.err : Int) == 0) = true := by simp [he]
    have hb' : ((s.err : Int) != 0) = false := by simp [he]
    have hfin : InAt ((w.setCell ⟨bi, 1, none⟩ (.int .i64 (e : Int))).setCell ⟨bi, 0, none⟩ (.string ⟨#[]⟩)) bi (s.fail e) := by
      have h2 := (hi.set1 e).set0 []
      unfold St.fail
      rw [if_neg (by omega)]
      exact h2
    have HF := Lib.hid hfin
    clear hfin
    have HE := Lib.hid he
    clear he
    go_enter Tryd.func78, Tryd.ntmps78
    go_wp2
    go_end0
    refine ⟨rfl, HF.out, ?_⟩
    exact ((Frm.refl _ _ _).setCell (p := ⟨bi, 1, none⟩) (.inl rfl) _).setCell (p := ⟨bi, 0, none⟩) (.inl rfl) _
  · have hb : ((s.err : Int) != 0) = true := by simp [he]
    have hfin : s.fail e = s := by unfold St.fail; rw [if_pos he]
    have HF := Lib.hid hfin
    clear hfin
    have HE := Lib.hid he
    clear he
    go_enter Tryd.func78, Tryd.ntmps78
    go_wp2
    refine bodyPost_ret (results_none rfl _ _ _) rfl ?_
    refine ⟨rfl, ?_, Frm.refl _ _ _⟩
    rw [HF.out]
    exact hi

set_option maxHeartbeats 400000 in
theorem next_any (w : World) (bi : Nat) (s : St) (hi : InAt w bi s) (hok : s.ok) (hl : s.rest.length ≤ 140737488355328) :
    Calls Tryd.prog 74 #[.pointer (some ⟨bi, 0, none⟩)] w fun r w' => r = .returned (.int .u8 ((rdByte s).1 : Int)) ∧ InAt w' bi (rdByte s).2 ∧ Frm w.heap.size bi w w' := by
  obtain ⟨rest, err⟩ := s
  cases rest with
  | nil =>
    have hfin : (rdByte ⟨[], err⟩).1 = 0 ∧ (rdByte ⟨[], err⟩).2 = St.fail ⟨[], err⟩ 3 := by
      unfold rdByte St.fail
      split <;> simp
    have HF := Lib.hid hfin
    clear hfin
    go_enter Tryd.func74, Tryd.ntmps74
    go_wp2_with fail
    refine (left_any _ bi ⟨[], err⟩ hi).mono ?_
    rintro e w1 ⟨rfl, rfl⟩
    go_wp2_with fail
    refine (fail_any _ bi ⟨[], err⟩ 3 hi).mono ?_
    rintro e w1 ⟨rfl, hi1, hf1⟩
    go_wp2
    go_ret
    rw [HF.out.1, HF.out.2]
    exact ⟨rfl, hi1, hf1⟩
  | cons b r =>
    have he : err = 0 := by
      rcases Nat.eq_zero_or_pos err with h0 | h0
      · exact h0
      · have := hok (by show err ≠ 0; omega)
        simp at this
    subst he
    have hc0 := hi.cell0
    have hf0 := hi.free 0
    have hsz := size_mk (b :: r)
    have hl' : r.length + 1 ≤ 140737488355328 := by simpa using hl
    have hset := hi.set0 r
    have HS := Lib.hid hset
    clear hset
    go_enter Tryd.func74, Tryd.ntmps74
    go_wp2_with fail
    refine (left_any _ bi _ hi).mono ?_
    rintro e w1 ⟨rfl, rfl⟩
    go_wp2
    go_ret
    rw [extract_mk, show ((b :: r).take (r.length + 1)).drop 1 = r from by simp]
    refine ⟨rfl, HS.out, ?_⟩
    exact (Frm.refl _ _ _).setCell (p := ⟨bi, 0, none⟩) (.inl rfl) _

set_option maxHeartbeats 400000 in
theorem byteIn_any (w : World) (bi : Nat) (s : St) (hi : InAt w bi s) (hok : s.ok) (hl : s.rest.length ≤ 140737488355328) :
    Calls Tryd.prog 61 #[.pointer (some ⟨bi, 0, none⟩)] w fun r w' => r = .returned (.int .i64 ((rdByte s).1 : Int)) ∧ InAt w' bi (rdByte s).2 ∧ Frm w.heap.size bi w w' := by
  have h256 : (rdByte s).1 < 256 := by
    unfold rdByte
    split
    · omega
    · split
      · omega
      · exact UInt8.toNat_lt _
  go_enter Tryd.func61, Tryd.ntmps61
  go_wp2_with fail
  refine (next_any _ bi s hi hok hl).mono ?_
  rintro e w1 ⟨rfl, hi1, hf1⟩
  go_wp2
  go_ret
  exact ⟨rfl, hi1, hf1⟩
end Go.Proofs.YtaefkkhmhogpeaaDoor.octet
