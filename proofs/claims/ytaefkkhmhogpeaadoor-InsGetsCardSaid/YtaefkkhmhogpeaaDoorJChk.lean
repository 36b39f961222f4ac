/-
  The program's own check of an instruction (typed over the code of 392f5a9): for every instruction. The table of names must lie where its initialiser lays it.
-/
import Derived.Test.YtaefkkhmhogpeaaDoorJSpec
import Derived.Test.YtaefkkhmhogpeaaDoorPTab
import Derived.Test.YtaefkkhmhogpeaaDoorWProg
import Derived.Test.YtaefkkhmhogpeaaDoorSpan
namespace Go.Proofs.YtaefkkhmhogpeaaDoor.inst
open Go.RowKit Go.ChangeShapes
open Go.Proofs.YtaefkkhmhogpeaaDoor.oper (ret_int ret_bool ret_string Tab nm txt)
open Go.Proofs.YtaefkkhmhogpeaaDoor.word (Word)
set_option linter.unusedVariables false

/-- What the program's calls ask of the world: the table of names lies where it should, below all that is made. -/
def Okw (w : World) : Prop := Tab w ∧ 1 < w.heap.size
theorem Okw.below {B : Nat} {w w' : World} (h : Okw w) (hb : Below B w w') (hB : 1 < B) : Okw w' := ⟨h.1.below hb hB, Nat.lt_of_lt_of_le h.2 hb.size⟩
theorem Okw.next {w w' : World} (h : Okw w) (hb : Below w.heap.size w w') : Okw w' := h.below hb h.2

theorem u8_of {c : UInt8} {k : UInt8} (h : ((c.toNat : Int) == (k.toNat : Int)) = true) : c = k := by
  have h1 := eq_of_beq h
  exact UInt8.toNat_inj.1 (by omega)
theorem u8_not {c : UInt8} {k : UInt8} (h : ((c.toNat : Int) == (k.toNat : Int)) = false) : c ≠ k := fun e => by
  subst e
  simp at h
theorem fits_bad {c : UInt8} {v : Int} (h0 : ((c.toNat : Int) == 110) = false) : fitsB c v = decide (least c ≤ v ∧ v ≤ most c) := by
  unfold fitsB
  rw [if_neg (u8_not (k := 110) h0)]
theorem fits_k (c : UInt8) (lo hi v : Int) (h : c ≠ 110) (h1 : least c = lo) (h2 : most c = hi) : (decide (lo ≤ v) && decide (v ≤ hi)) = fitsB c v := by
  unfold fitsB
  rw [if_neg h, h1, h2, Bool.decide_and]
theorem fits_n (v : Int) : decide (Word v) = fitsB 110 v := by
  unfold fitsB
  rw [if_pos rfl]
theorem fits_rest {c : UInt8} {v : Int} (h0 : ((c.toNat : Int) == 110) = false) (h1 : ((c.toNat : Int) == 107) = false) (h2 : ((c.toNat : Int) == 116) = false) (h3 : ((c.toNat : Int) == 102) = false) (h4 : ((c.toNat : Int) == 106) = false) :
    fitsB c v = (decide (0 ≤ v) && decide (v ≤ 31)) := by
  rw [fits_bad h0]
  unfold least most
  rw [Bool.decide_and, if_neg (u8_not (k := 106) h4), if_neg (u8_not (k := 107) h1), if_neg (u8_not (k := 116) h2), if_neg (u8_not (k := 102) h3), if_neg (u8_not (k := 106) h4)]

set_option maxHeartbeats 1000000 in
theorem inRange_any (c : UInt8) (v : Int) (w : World) : Calls Tryd.prog 41 #[.int .u8 (c.toNat : Int), .int .i64 v] w fun e w' => e = .returned (.bool (fitsB c v)) ∧ w = w' := by
  go_enter Tryd.func41, Tryd.ntmps41
  go_wp2_with (first
    | (go_at_call 60; refine (Go.Proofs.YtaefkkhmhogpeaaDoor.span.within_any v _ _ _).mono ?_; rintro e w' ⟨rfl, rfl⟩)
    | (go_at_call 59; refine (Go.Proofs.YtaefkkhmhogpeaaDoor.word.fits_any v _).mono ?_; rintro e w' ⟨rfl, rfl⟩))
  all_goals go_ret
  all_goals refine ⟨ret_bool ?_, rfl⟩
  all_goals first
    | (have hq : c = 110 := u8_of (k := 110) ‹((c.toNat : Int) == 110) = true›; subst hq; first | exact fits_n v | (refine fits_k _ _ _ v ?_ ?_ ?_ <;> decide))
    | (have hq : c = 107 := u8_of (k := 107) ‹((c.toNat : Int) == 107) = true›; subst hq; first | exact fits_n v | (refine fits_k _ _ _ v ?_ ?_ ?_ <;> decide))
    | (have hq : c = 116 := u8_of (k := 116) ‹((c.toNat : Int) == 116) = true›; subst hq; first | exact fits_n v | (refine fits_k _ _ _ v ?_ ?_ ?_ <;> decide))
    | (have hq : c = 102 := u8_of (k := 102) ‹((c.toNat : Int) == 102) = true›; subst hq; first | exact fits_n v | (refine fits_k _ _ _ v ?_ ?_ ?_ <;> decide))
    | (have hq : c = 119 := u8_of (k := 119) ‹((c.toNat : Int) == 119) = true›; subst hq; first | exact fits_n v | (refine fits_k _ _ _ v ?_ ?_ ?_ <;> decide))
    | (have hq : c = 106 := u8_of (k := 106) ‹((c.toNat : Int) == 106) = true›; subst hq; first | exact fits_n v | (refine fits_k _ _ _ v ?_ ?_ ?_ <;> decide))
    | exact (fits_rest ‹_› ‹_› ‹_› ‹_› ‹_›).symm

theorem named : ∀ k, k < 52 → (!(nm.getD k ⟨#[]⟩).toList.isEmpty) = true := by decide +kernel
theorem txt_named (o : Int) : (!(txt nm o).toList.isEmpty) = decide (Known o) := by
  by_cases h : Known o
  · rw [decide_eq_true h]
    obtain ⟨k, hk, rfl⟩ := Go.Proofs.YtaefkkhmhogpeaaDoor.oper.nat_of h
    rw [Go.Proofs.YtaefkkhmhogpeaaDoor.oper.txt_at hk]
    exact named k hk
  · rw [decide_eq_false h, Go.Proofs.YtaefkkhmhogpeaaDoor.oper.txt_no (by unfold Known at h; omega)]
    rw [ByteArray.toList_eq]
    rfl
theorem knows_any (o : Int) (w : World) (hT : Tab w) : Calls Tryd.prog 40 #[.int .i64 o] w fun e w' => e = .returned (.bool (decide (Known o))) ∧ w = w' := by
  have HN := Lib.hid (Go.Proofs.YtaefkkhmhogpeaaDoor.oper.name_any o w hT)
  have HE := Lib.hid (txt_named o)
  clear hT
  generalize txt nm o = x at *
  go_enter Tryd.func40, Tryd.ntmps40
  go_wp2_with fail
  refine HN.out.mono ?_
  rintro e w' ⟨rfl, rfl⟩
  go_wp2
  go_ret
  exact ⟨ret_bool HE.out, rfl⟩
end Go.Proofs.YtaefkkhmhogpeaaDoor.inst
