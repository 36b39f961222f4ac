/-
  The document's own answers, each by itself: what its functions make of bytes that are read. A text of at most two to the forty-seventh bytes.
-/
import Derived.Test.YtaefkkhmhogpeaaDoorProg
import Derived.Test.YtaefkkhmhogpeaaDoorInNum
import Derived.Lib.Hide
import Derived.ProofKit
import Derived.RegionTactic
import Derived.ChangeAlike
import Derived.Outline
import Derived.Handy
namespace Go.Proofs.YtaefkkhmhogpeaaDoor.octet
open Go.RowKit Go.ChangeShapes
set_option linter.unusedVariables false

theorem bcell {W w1 : World} (hb : Below W.heap.size W w1) : (∀ b o, b < W.heap.size → w1.cell? ⟨b, o, none⟩ = W.cell? ⟨b, o, none⟩) ∧ (∀ b o, b < W.heap.size → w1.frozen? ⟨b, o, none⟩ = W.frozen? ⟨b, o, none⟩) :=
  ⟨fun b o h => hb.cell (p := ⟨b, o, none⟩) h, fun b o h => hb.frozen (p := ⟨b, o, none⟩) h⟩

/-- The document's reader: the text, where, the first error. -/
def RV (t : ByteArray) (at' err : Nat) : Value := .agg #[.string t, .int .i64 (at' : Int), .int .i64 (err : Int)]
/-- It stands where the program's reader stands. -/
def Stands (t : ByteArray) (k err : Nat) (s : St) : Prop := k ≤ t.size ∧ s.rest = t.data.toList.drop k ∧ s.err = err ∧ s.ok

set_option maxHeartbeats 400000 in
theorem refFail_any (w : World) (t : ByteArray) (k err e : Nat) (ht : t.size ≤ 140737488355328) :
    Calls Tryd.prog 76 #[RV t k err, .int .i64 (e : Int)] w fun r w' => r = .returned (if err = 0 then RV t t.size e else RV t k err) ∧ Below w.heap.size w w' := by
  unfold RV
  by_cases he : err = 0
  · subst he
    go_enter Tryd.func76, Tryd.ntmps76
    go_wp2
    go_returns
    exact ⟨rfl, by go_grown⟩
  · have hb : ((err : Int) == 0) = false := by simp [he]
    rw [if_neg he]
    clear he
    go_enter Tryd.func76, Tryd.ntmps76
    go_wp2
    go_returns
    exact ⟨rfl, by go_grown⟩
/-- What the document's reader reads as one byte. -/
def refByte (t : ByteArray) (k err : Nat) : Nat × Nat × Nat :=
  if k < t.size then ((t.data.toList.getD k 0).toNat, k + 1, err) else (0, if err = 0 then (t.size, 3) else (k, err))

set_option maxHeartbeats 400000 in
theorem refByte_any (w : World) (t : ByteArray) (k err : Nat) (ht : t.size ≤ 140737488355328) (hk : k ≤ t.size) :
    Calls Tryd.prog 63 #[RV t k err] w fun r w' => r = .returned (.tuple #[.int .i64 ((refByte t k err).1 : Int), RV t (refByte t k err).2.1 (refByte t k err).2.2]) ∧ Below w.heap.size w w' := by
  by_cases hlt : k < t.size
  · have hfin : refByte t k err = ((t.data.toList.getD k 0).toNat, k + 1, err) := by unfold refByte; rw [if_pos hlt]
    rw [hfin]
    have HF := Lib.hid hfin
    clear hfin
    unfold RV
    go_enter Tryd.func63, Tryd.ntmps63
    go_wp2
    go_region
    all_goals go_wp2
    go_returns
    refine ⟨?_, by go_grown⟩
    rw [show t.data.toList.getD k 0 = t[k]'hlt from by rw [List.getD_eq_getElem?_getD, List.getElem?_eq_getElem (by rw [Array.length_toList]; exact hlt)]; rfl]
    have e : wrap64 ((t[k]'hlt).toNat : Int) = ((t[k]'hlt).toNat : Int) := by
      have h256 := (t[k]'hlt).toNat_lt
      unfold wrap64
      omega
    rw [e]
    rfl
  · have hfin : refByte t k err = (0, if err = 0 then (t.size, 3) else (k, err)) := by unfold refByte; rw [if_neg hlt]
    rw [hfin]
    clear hfin
    by_cases he : err = 0
    · subst he
      rw [if_pos rfl]
      have HR : ∀ w, Calls Tryd.prog 76 #[.agg #[.string t, .int .i64 (k : Int), .int .i64 0], .int .i64 3] w fun r w' => r = .returned (.agg #[.string t, .int .i64 (t.size : Int), .int .i64 3]) ∧ Below w.heap.size w w' := fun w => refFail_any w t k 0 3 ht
      have HR' := Lib.hid HR
      clear HR
      unfold RV
      go_enter Tryd.func63, Tryd.ntmps63
      go_wp2_with fail
      refine (HR'.out _).mono ?_
      rintro e w1 ⟨rfl, hb⟩
      obtain ⟨hc, hf⟩ := bcell hb
      have hz := hb.size
      simp only [World.size_alloc] at hz
      have hbw := ((((Below.refl _ w).alloc (Nat.le_refl _) _).alloc (by simp) _).trans (hb.mono (B' := w.heap.size) (by simp; omega)))
      have HB := Lib.hid hbw
      clear hbw
      go_wp2
      have hbw := HB.out
      refine bodyPost_ret (v := .tuple #[.int .i64 0, .agg #[.string t, .int .i64 (t.size : Int), .int .i64 3]]) (by simp [results, Tryd.results63, go_sem, hc]) rfl ⟨rfl, by go_grown⟩
    · rw [if_neg he]
      have HR : ∀ w, Calls Tryd.prog 76 #[.agg #[.string t, .int .i64 (k : Int), .int .i64 (err : Int)], .int .i64 3] w fun r w' => r = .returned (.agg #[.string t, .int .i64 (k : Int), .int .i64 (err : Int)]) ∧ Below w.heap.size w w' := fun w => (refFail_any w t k err 3 ht).mono fun e w' h => by rw [if_neg he] at h; exact h
      have HR' := Lib.hid HR
      clear HR
      unfold RV
      go_enter Tryd.func63, Tryd.ntmps63
      go_wp2_with fail
      refine (HR'.out _).mono ?_
      rintro e w1 ⟨rfl, hb⟩
      obtain ⟨hc, hf⟩ := bcell hb
      have hz := hb.size
      simp only [World.size_alloc] at hz
      have hbw := ((((Below.refl _ w).alloc (Nat.le_refl _) _).alloc (by simp) _).trans (hb.mono (B' := w.heap.size) (by simp; omega)))
      have HB := Lib.hid hbw
      clear hbw
      go_wp2
      have hbw := HB.out
      refine bodyPost_ret (v := .tuple #[.int .i64 0, .agg #[.string t, .int .i64 (k : Int), .int .i64 (err : Int)]]) (by simp [results, Tryd.results63, go_sem, hc]) rfl ⟨rfl, by go_grown⟩
end Go.Proofs.YtaefkkhmhogpeaaDoor.octet
