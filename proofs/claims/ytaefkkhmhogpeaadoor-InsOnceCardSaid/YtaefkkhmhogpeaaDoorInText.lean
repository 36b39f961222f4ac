/-
  The reader's numbers with a sign, and texts: what bytes are read as one, and the first error. The reader lies in a block of its own, holds no bytes behind an error, and at most two to the forty-seventh of them.
-/
import Derived.Test.YtaefkkhmhogpeaaDoorInNum
import Derived.Lib.Strings
import Derived.Lib.Walk
import Derived.Lib.BufferWrite
import Derived.Lib.UnsafeStr
import Derived.Laws.MakeOwn
namespace Go.Proofs.YtaefkkhmhogpeaaDoor.octet
open Go.RowKit Go.ChangeShapes
set_option linter.unusedVariables false

theorem info5' : (Tryd.prog.info? 5).map (fun i => (i.zero, i.size, i.bytes)) = some (some (.int .u8 0), 1, 1) := by kernel_rfl

theorem i64_not_nat (a : Nat) (ha : a < 9223372036854775808) : bits .xor .i64 (-1) (a : Int) = -(a : Int) - 1 := by
  show IntKind.i64.wrap ((BitVec.ofInt 64 (-1) ^^^ BitVec.ofInt 64 (a : Int)).toNat : Int) = _
  have h1 : BitVec.ofInt 64 (-1) = BitVec.allOnes 64 := by decide
  rw [h1, BitVec.allOnes_xor, BitVec.toNat_not, ofInt_u64 a (by omega)]
  simp only [IntKind.wrap_i64]
  omega
theorem and1_u64 (v : Nat) (hv : v < 18446744073709551616) : bits .and .u64 (v : Int) 1 = ((v % 2 : Nat) : Int) := by
  rw [← nat_mask1]; exact u64_and_nat v 1 hv (by omega)

set_option maxHeartbeats 1000000 in
theorem intIn_any (w : World) (bi : Nat) (s : St) (hi : InAt w bi s) (hok : s.ok) (hl : s.rest.length ≤ 140737488355328) :
    Calls Tryd.prog 75 #[.pointer (some ⟨bi, 0, none⟩)] w fun r w' => r = .returned (.int .i64 (rdInt s).1) ∧ InAt w' bi (rdInt s).2 ∧ Frm w.heap.size bi w w' := by
  have hlt := rdNum_lt s
  have HN := Lib.hid (numIn_any w bi s hi hok hl)
  have HI : Hid (rdInt s = (zag (rdNum s).1, (rdNum s).2)) := rfl
  generalize rdNum s = p at *
  obtain ⟨v, s1⟩ := p
  have hlt' : v < 18446744073709551616 := hlt
  have hand := and1_u64 v hlt'
  have HX : Hid (bits .xor .i64 (-1) ((v : Int) / 2) = -((v / 2 : Nat) : Int) - 1) := Lib.hid (i64_not_nat (v / 2) (by omega))
  by_cases hv : v % 2 = 1
  · rw [hv] at hand
    have hfin : zag v = -((v / 2 : Nat) : Int) - 1 := by unfold zag; rw [if_pos hv]
    have HZ := Lib.hid hfin
    have HV := Lib.hid hv
    clear hfin hv
    go_enter Tryd.func75, Tryd.ntmps75
    go_wp2_with fail
    refine HN.out.mono ?_
    rintro e w1 ⟨rfl, hi1, hf1⟩
    go_wp2
    go_ret
    rw [HI.out]
    refine ⟨?_, hi1, hf1⟩
    rw [show (zag v, s1).1 = zag v from rfl, HZ.out]
    exact congrArg (fun x => Ending.returned (Value.int .i64 x)) HX.out
  · have hv0 : v % 2 = 0 := by omega
    rw [hv0] at hand
    have hfin : zag v = ((v / 2 : Nat) : Int) := by unfold zag; rw [if_neg hv]
    have HZ := Lib.hid hfin
    have HV := Lib.hid hv
    clear hfin hv hv0
    go_enter Tryd.func75, Tryd.ntmps75
    go_wp2_with fail
    refine HN.out.mono ?_
    rintro e w1 ⟨rfl, hi1, hf1⟩
    go_wp2
    go_ret
    rw [HI.out]
    refine ⟨?_, hi1, hf1⟩
    rw [show (zag v, s1).1 = zag v from rfl, HZ.out]
    rfl

end Go.Proofs.YtaefkkhmhogpeaaDoor.octet
