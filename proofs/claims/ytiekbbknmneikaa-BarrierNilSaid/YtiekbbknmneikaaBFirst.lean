/-
  The program's calls on a set that look for its numbers: the least, the next above one, the one with so many below it; each reads the table of math/bits, which must lie where its initialiser lays it. And how many there are, and all moved.
-/
import Derived.Test.YtiekbbknmneikaaBBit
import Derived.Below
import Derived.Deep.DeepCutAuto
import Derived.Deep.CutBlock
namespace Go.Proofs.Ytiekbbknmneikaa.bits
open Go.RowKit Go.ChangeShapes

theorem tz_key (x a : Nat) (hx : x < 18446744073709551616) (hx0 : x ≠ 0) (hlow : x &&& (18446744073709551616 - x) = a) :
    IntKind.u64.wrap (bits BinOp.and IntKind.u64 (x : Int) (IntKind.u64.wrap (-(x : Int))) * 285870213051353865) / 288230376151711744 = ((a * 285870213051353865 % 18446744073709551616 / 288230376151711744 : Nat) : Int) := by
  have e1 : IntKind.u64.wrap (-(x : Int)) = ((18446744073709551616 - x : Nat) : Int) := by rw [IntKind.wrap_u64]; omega
  rw [e1, bits_and_u64_nat x _ hx (by omega), hlow, IntKind.wrap_u64]
  omega

end Go.Proofs.Ytiekbbknmneikaa.bits
