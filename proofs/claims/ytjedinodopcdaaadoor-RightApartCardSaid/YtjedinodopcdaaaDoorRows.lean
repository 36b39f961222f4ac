/-
  NARROWER THAN 'FOR EVERY INPUT', by the rows' own cells (each row's printed sentence says how): RightPlays: laid · RightNever: laid · RightApart: laid · RightNil: laid.
  DERIVED. THE GIVEN ROWS OF THIS SEAT. 4 by the template 'for every input the law returns true; each argument reads behind the call as it read before'; 0 by the template 'total and deterministic' (their statements: YtjedinodopcdaaaDoorTotals.lean).
  GIVEN WITH THE SEED: the statements are not yours to turn. If you find one false, say at which input.
  Laid BY PROGRAM, IN A SANDBOX (cutbox-rows.mjs): the forced cells as the released guide's own fill.sh prints them over the translation c625aee3eed06c8e… (all of the seat's roots in one cut). By AI agents, Wed Nov 11 2026. No macro, syntax, notation, axiom, sorry.
-/
import Derived.Test.YtjedinodopcdaaaDoorChecked
import GoSem.Claim
import GoSem.ClaimJoined
import GoSem.ClaimMapViews
import Derived.JoinedTies
import Derived.KernelRfl
namespace Go.Proofs.YtjedinodopcdaaaDoor
/- THE CELL 'sum', in the pinned program and in every row, IS THE sha256 OF THE DUMP (.gsa) THAT YtjedinodopcdaaaDoorProg.lean LOADS. Nothing in Lean hashes anything: it is a label: what it is worth is what the hold of that sum in a sandbox is worth. -/
noncomputable def Tryd.pinned : Pinned := { name := "ytjedinodopcdaaadoor", sum := "c625aee3eed06c8e334a992d18efacabcf8ddc916190f939535e57ecb089129a", checked := Tryd.checked }
namespace Rows
def none {H : Type} : Left H := { results := [], args := [] }

/- WHAT THE LISTED PACKAGE-LEVEL VARIABLES READ AS WHEN THE CALL BEGINS. Each datum BY PROGRAM (the guide's laid-datum.mjs) off the statement by which the dump's own 'gosem.cut.vars' lays the variable. In a bare row this is a premise. The card (YtjedinodopcdaaaDoorCards.lean) ties it to the program's text. -/
def laid_math_bits_deBruijn64tab {H : Type} : DataW H := .agg [.lit (.int .u8 0), .lit (.int .u8 1), .lit (.int .u8 56), .lit (.int .u8 2), .lit (.int .u8 57), .lit (.int .u8 49), .lit (.int .u8 28), .lit (.int .u8 3), .lit (.int .u8 61), .lit (.int .u8 58), .lit (.int .u8 42), .lit (.int .u8 50), .lit (.int .u8 38), .lit (.int .u8 29), .lit (.int .u8 17), .lit (.int .u8 4), .lit (.int .u8 62), .lit (.int .u8 47), .lit (.int .u8 59), .lit (.int .u8 36), .lit (.int .u8 45), .lit (.int .u8 43), .lit (.int .u8 51), .lit (.int .u8 22), .lit (.int .u8 53), .lit (.int .u8 39), .lit (.int .u8 33), .lit (.int .u8 30), .lit (.int .u8 24), .lit (.int .u8 18), .lit (.int .u8 12), .lit (.int .u8 5), .lit (.int .u8 63), .lit (.int .u8 55), .lit (.int .u8 48), .lit (.int .u8 27), .lit (.int .u8 60), .lit (.int .u8 41), .lit (.int .u8 37), .lit (.int .u8 16), .lit (.int .u8 46), .lit (.int .u8 35), .lit (.int .u8 44), .lit (.int .u8 21), .lit (.int .u8 52), .lit (.int .u8 32), .lit (.int .u8 23), .lit (.int .u8 11), .lit (.int .u8 54), .lit (.int .u8 26), .lit (.int .u8 40), .lit (.int .u8 15), .lit (.int .u8 34), .lit (.int .u8 20), .lit (.int .u8 31), .lit (.int .u8 10), .lit (.int .u8 25), .lit (.int .u8 14), .lit (.int .u8 19), .lit (.int .u8 9), .lit (.int .u8 13), .lit (.int .u8 8), .lit (.int .u8 7), .lit (.int .u8 6)]

/-- 'logjamlaw21.RightPlays': WHATEVER THE INPUT: true; the input reads as it did. -/
def rightPlaysSpec : ChangeSpec := { name := "rightPlays", fn := fun _ => fun
  | [d1, d2] => { results := [.lit (.bool true)], args := [d1, d2] }
  | _ => none }
def rightPlaysRow : OpenClaim := { program := "ytjedinodopcdaaadoor", sum := "c625aee3eed06c8e334a992d18efacabcf8ddc916190f939535e57ecb089129a", func := "logjam/logjamlaw21.RightPlays", spec := "rightPlays", named := ["math/bits.deBruijn64tab"], plainKeys := false, apart := false, laid := [("math/bits.deBruijn64tab", laid_math_bits_deBruijn64tab)] }
def RightPlaysSaid : Prop := rightPlaysRow.holds Tryd.pinned (OpenSpec.ofChange rightPlaysSpec)

/-- ITS FALSE NEIGHBOUR: 'it returns false'. Refute it at one input. -/
def rightPlaysWrong : ChangeSpec := { name := "rightPlays", fn := fun _ => fun
  | [d1, d2] => { results := [.lit (.bool false)], args := [d1, d2] }
  | _ => none }
def RightPlaysWrongFalsely : Prop := rightPlaysRow.holds Tryd.pinned (OpenSpec.ofChange rightPlaysWrong)

/-- 'logjamlaw21.RightNever': WHATEVER THE INPUT: true; the input reads as it did. -/
def rightNeverSpec : ChangeSpec := { name := "rightNever", fn := fun _ => fun
  | [d1, d2] => { results := [.lit (.bool true)], args := [d1, d2] }
  | _ => none }
def rightNeverRow : OpenClaim := { program := "ytjedinodopcdaaadoor", sum := "c625aee3eed06c8e334a992d18efacabcf8ddc916190f939535e57ecb089129a", func := "logjam/logjamlaw21.RightNever", spec := "rightNever", named := ["math/bits.deBruijn64tab"], plainKeys := false, apart := false, laid := [("math/bits.deBruijn64tab", laid_math_bits_deBruijn64tab)] }
def RightNeverSaid : Prop := rightNeverRow.holds Tryd.pinned (OpenSpec.ofChange rightNeverSpec)

/-- ITS FALSE NEIGHBOUR: 'it returns false'. Refute it at one input. -/
def rightNeverWrong : ChangeSpec := { name := "rightNever", fn := fun _ => fun
  | [d1, d2] => { results := [.lit (.bool false)], args := [d1, d2] }
  | _ => none }
def RightNeverWrongFalsely : Prop := rightNeverRow.holds Tryd.pinned (OpenSpec.ofChange rightNeverWrong)

/-- 'logjamlaw21.RightApart': WHATEVER THE INPUT: true; the input reads as it did. -/
def rightApartSpec : ChangeSpec := { name := "rightApart", fn := fun _ => fun
  | [d1, d2] => { results := [.lit (.bool true)], args := [d1, d2] }
  | _ => none }
def rightApartRow : OpenClaim := { program := "ytjedinodopcdaaadoor", sum := "c625aee3eed06c8e334a992d18efacabcf8ddc916190f939535e57ecb089129a", func := "logjam/logjamlaw21.RightApart", spec := "rightApart", inPlace := ["maps.clone"], named := ["math/bits.deBruijn64tab"], plainKeys := false, apart := false, laid := [("math/bits.deBruijn64tab", laid_math_bits_deBruijn64tab)] }
def RightApartSaid : Prop := rightApartRow.holds Tryd.pinned (OpenSpec.ofChange rightApartSpec)

/-- ITS FALSE NEIGHBOUR: 'it returns false'. Refute it at one input. -/
def rightApartWrong : ChangeSpec := { name := "rightApart", fn := fun _ => fun
  | [d1, d2] => { results := [.lit (.bool false)], args := [d1, d2] }
  | _ => none }
def RightApartWrongFalsely : Prop := rightApartRow.holds Tryd.pinned (OpenSpec.ofChange rightApartWrong)

/-- 'logjamlaw21.RightNil': WHATEVER THE INPUT: true; the input reads as it did. -/
def rightNilSpec : ChangeSpec := { name := "rightNil", fn := fun _ => fun
  | [d1, d2] => { results := [.lit (.bool true)], args := [d1, d2] }
  | _ => none }
def rightNilRow : OpenClaim := { program := "ytjedinodopcdaaadoor", sum := "c625aee3eed06c8e334a992d18efacabcf8ddc916190f939535e57ecb089129a", func := "logjam/logjamlaw21.RightNil", spec := "rightNil", inPlace := ["maps.clone"], named := ["math/bits.deBruijn64tab"], plainKeys := false, apart := false, laid := [("math/bits.deBruijn64tab", laid_math_bits_deBruijn64tab)] }
def RightNilSaid : Prop := rightNilRow.holds Tryd.pinned (OpenSpec.ofChange rightNilSpec)

/-- ITS FALSE NEIGHBOUR: 'it returns false'. Refute it at one input. -/
def rightNilWrong : ChangeSpec := { name := "rightNil", fn := fun _ => fun
  | [d1, d2] => { results := [.lit (.bool false)], args := [d1, d2] }
  | _ => none }
def RightNilWrongFalsely : Prop := rightNilRow.holds Tryd.pinned (OpenSpec.ofChange rightNilWrong)

/- THE SECOND FORM. 'bulk': how many values and letters a reading holds, each counted each time it is reached (what is shared counts as often as it is met; a slice's spare places count too). A statement '..UptoSaid' is the law's where the arguments, and the package variables that the reading takes, are together of bulk at most 1048576: NARROWER than '..Said'. Prove '..Said' where nothing that the law and all that it calls make is longer than what came in: it says more and counts as full. Else prove '..UptoSaid'. A law counts once. -/
mutual
def uptoBulk {H : Type} : DataW H → Nat
  | .lit (.string bytes) => bytes.length + 1
  | .lit _ => 1
  | .nil => 1
  | .ptr d => uptoBulk d + 1
  | .slice elems spare => uptoBulkAll elems + uptoBulkAll spare + 1
  | .agg parts => uptoBulkAll parts + 1
  | .iface _ d => uptoBulk d + 1
  | .map entries => uptoBulkEntries entries + 1
  | .held _ => 1
def uptoBulkAll {H : Type} : List (DataW H) → Nat
  | [] => 0
  | d :: r => uptoBulk d + uptoBulkAll r
def uptoBulkEntries {H : Type} : List (Lit × DataW H) → Nat
  | [] => 0
  | x :: r => uptoBulkEntry x + uptoBulkEntries r
def uptoBulkEntry {H : Type} : Lit × DataW H → Nat
  | (.string bytes, d) => bytes.length + uptoBulk d + 1
  | (_, d) => uptoBulk d + 1
 end
def uptoSmall : (H : Type) → List (DataW H) → Bool := fun _ ds => decide (uptoBulkAll ds ≤ 1048576)
def OpenSpec.upto (s : _root_.Go.ChangeSpec) : _root_.Go.OpenSpec := { _root_.Go.OpenSpec.ofChange s with cond := some uptoSmall }

/-- 'logjamlaw21.RightPlays', WHERE WHAT IT READS IS OF BULK AT MOST 1048576: true; the input reads as it did. -/
def rightPlaysUptoRow : OpenClaim := { program := "ytjedinodopcdaaadoor", sum := "c625aee3eed06c8e334a992d18efacabcf8ddc916190f939535e57ecb089129a", func := "logjam/logjamlaw21.RightPlays", spec := "rightPlays", named := ["math/bits.deBruijn64tab"], plainKeys := false, apart := false, laid := [("math/bits.deBruijn64tab", laid_math_bits_deBruijn64tab)], narrowed := true }
def RightPlaysUptoSaid : Prop := rightPlaysUptoRow.holds Tryd.pinned (OpenSpec.upto rightPlaysSpec)

/-- 'logjamlaw21.RightNever', WHERE WHAT IT READS IS OF BULK AT MOST 1048576: true; the input reads as it did. -/
def rightNeverUptoRow : OpenClaim := { program := "ytjedinodopcdaaadoor", sum := "c625aee3eed06c8e334a992d18efacabcf8ddc916190f939535e57ecb089129a", func := "logjam/logjamlaw21.RightNever", spec := "rightNever", named := ["math/bits.deBruijn64tab"], plainKeys := false, apart := false, laid := [("math/bits.deBruijn64tab", laid_math_bits_deBruijn64tab)], narrowed := true }
def RightNeverUptoSaid : Prop := rightNeverUptoRow.holds Tryd.pinned (OpenSpec.upto rightNeverSpec)

/-- 'logjamlaw21.RightApart', WHERE WHAT IT READS IS OF BULK AT MOST 1048576: true; the input reads as it did. -/
def rightApartUptoRow : OpenClaim := { program := "ytjedinodopcdaaadoor", sum := "c625aee3eed06c8e334a992d18efacabcf8ddc916190f939535e57ecb089129a", func := "logjam/logjamlaw21.RightApart", spec := "rightApart", inPlace := ["maps.clone"], named := ["math/bits.deBruijn64tab"], plainKeys := false, apart := false, laid := [("math/bits.deBruijn64tab", laid_math_bits_deBruijn64tab)], narrowed := true }
def RightApartUptoSaid : Prop := rightApartUptoRow.holds Tryd.pinned (OpenSpec.upto rightApartSpec)

/-- 'logjamlaw21.RightNil', WHERE WHAT IT READS IS OF BULK AT MOST 1048576: true; the input reads as it did. -/
def rightNilUptoRow : OpenClaim := { program := "ytjedinodopcdaaadoor", sum := "c625aee3eed06c8e334a992d18efacabcf8ddc916190f939535e57ecb089129a", func := "logjam/logjamlaw21.RightNil", spec := "rightNil", inPlace := ["maps.clone"], named := ["math/bits.deBruijn64tab"], plainKeys := false, apart := false, laid := [("math/bits.deBruijn64tab", laid_math_bits_deBruijn64tab)], narrowed := true }
def RightNilUptoSaid : Prop := rightNilUptoRow.holds Tryd.pinned (OpenSpec.upto rightNilSpec)

end Rows
end Go.Proofs.YtjedinodopcdaaaDoor
