/-
  No cell of these rows narrows 'for every input' (looked for: loops, veiled, ifaces, maps, wideKeys, modest, calm, conditions, laid).
  DERIVED. THE GIVEN ROWS OF THIS SEAT. 3 by the template 'for every input the law returns true; each argument reads behind the call as it read before'; 0 by the template 'total and deterministic' (their statements: YtelpkfldmgeaiaaTotals.lean).
  GIVEN WITH THE SEED: the statements are not yours to turn. If you find one false, say at which input.
  Laid BY PROGRAM, IN A SANDBOX (cutbox-rows.mjs): the forced cells as the released guide's own fill.sh prints them over the translation 6bd75916ad6fdc06… (all of the seat's roots in one cut). By AI agents, Wed Nov 11 2026. No macro, syntax, notation, axiom, sorry.
-/
import Derived.Test.YtelpkfldmgeaiaaChecked
import GoSem.Claim
import GoSem.ClaimJoined
import GoSem.ClaimMapViews
import Derived.JoinedTies
import Derived.KernelRfl
namespace Go.Proofs.Ytelpkfldmgeaiaa
/- THE CELL 'sum', in the pinned program and in every row, IS THE sha256 OF THE DUMP (.gsa) THAT YtelpkfldmgeaiaaProg.lean LOADS. Nothing in Lean hashes anything: it is a label: what it is worth is what the hold of that sum in a sandbox is worth. -/
noncomputable def Try.pinned : Pinned := { name := "ytelpkfldmgeaiaa", sum := "6bd75916ad6fdc0614992a27622dc62e2bce78d288931f87126bab1ef0b0f041", checked := Try.checked }
namespace Rows
def none {H : Type} : Left H := { results := [], args := [] }

/-- 'logjamlaw16.MutexPlays': WHATEVER THE INPUT: true; the input reads as it did. -/
def mutexPlaysSpec : ChangeSpec := { name := "mutexPlays", fn := fun _ => fun
  | [d] => { results := [.lit (.bool true)], args := [d] }
  | _ => none }
def mutexPlaysRow : OpenClaim := { program := "ytelpkfldmgeaiaa", sum := "6bd75916ad6fdc0614992a27622dc62e2bce78d288931f87126bab1ef0b0f041", func := "logjam/logjamlaw16.MutexPlays", spec := "mutexPlays", apart := false }
def MutexPlaysSaid : Prop := mutexPlaysRow.holds Try.pinned (OpenSpec.ofChange mutexPlaysSpec)

/-- ITS FALSE NEIGHBOUR: 'it returns false'. Refute it at one input. -/
def mutexPlaysWrong : ChangeSpec := { name := "mutexPlays", fn := fun _ => fun
  | [d] => { results := [.lit (.bool false)], args := [d] }
  | _ => none }
def MutexPlaysWrongFalsely : Prop := mutexPlaysRow.holds Try.pinned (OpenSpec.ofChange mutexPlaysWrong)

/-- 'logjamlaw16.MutexStays': WHATEVER THE INPUT: true; the input reads as it did. -/
def mutexStaysSpec : ChangeSpec := { name := "mutexStays", fn := fun _ => fun
  | [d] => { results := [.lit (.bool true)], args := [d] }
  | _ => none }
def mutexStaysRow : OpenClaim := { program := "ytelpkfldmgeaiaa", sum := "6bd75916ad6fdc0614992a27622dc62e2bce78d288931f87126bab1ef0b0f041", func := "logjam/logjamlaw16.MutexStays", spec := "mutexStays", apart := false }
def MutexStaysSaid : Prop := mutexStaysRow.holds Try.pinned (OpenSpec.ofChange mutexStaysSpec)

/-- ITS FALSE NEIGHBOUR: 'it returns false'. Refute it at one input. -/
def mutexStaysWrong : ChangeSpec := { name := "mutexStays", fn := fun _ => fun
  | [d] => { results := [.lit (.bool false)], args := [d] }
  | _ => none }
def MutexStaysWrongFalsely : Prop := mutexStaysRow.holds Try.pinned (OpenSpec.ofChange mutexStaysWrong)

/-- 'logjamlaw16.MutexNil': WHATEVER THE INPUT: true; the input reads as it did. -/
def mutexNilSpec : ChangeSpec := { name := "mutexNil", fn := fun _ => fun
  | [d] => { results := [.lit (.bool true)], args := [d] }
  | _ => none }
def mutexNilRow : OpenClaim := { program := "ytelpkfldmgeaiaa", sum := "6bd75916ad6fdc0614992a27622dc62e2bce78d288931f87126bab1ef0b0f041", func := "logjam/logjamlaw16.MutexNil", spec := "mutexNil", apart := false }
def MutexNilSaid : Prop := mutexNilRow.holds Try.pinned (OpenSpec.ofChange mutexNilSpec)

/-- ITS FALSE NEIGHBOUR: 'it returns false'. Refute it at one input. -/
def mutexNilWrong : ChangeSpec := { name := "mutexNil", fn := fun _ => fun
  | [d] => { results := [.lit (.bool false)], args := [d] }
  | _ => none }
def MutexNilWrongFalsely : Prop := mutexNilRow.holds Try.pinned (OpenSpec.ofChange mutexNilWrong)

/- THE SECOND FORM. 'bulk': how many values and letters a reading holds, each counted each time it is reached (what is shared counts as often as it is met; a slice's spare places count too). A statement '..UptoSaid' is the law's where the arguments, and the package variables that the reading takes, are together of bulk at most 1048576: NARROWER than '..Said'. Prove '..Said' where nothing that the law and all that it calls make is longer than what came in: it says more and counts as full. Else prove '..UptoSaid'. A law counts once. -/
mutual
def uptoBulk {H : Type} : DataW H → Nat
  | .lit (.string bytes) => bytes.length + 1
  | .lit _ => 1
  | .nil => 1
  | .ptr d => uptoBulk d + 1
  | .slice elems spare => uptoBulkAll elems + uptoBulkAll spare + 1
  | .agg parts => uptoBulkAll parts + 1
  | .iface _ d => uptoBulk d + 1
  | .map entries => uptoBulkEntries entries + 1
  | .held _ => 1
def uptoBulkAll {H : Type} : List (DataW H) → Nat
  | [] => 0
  | d :: r => uptoBulk d + uptoBulkAll r
def uptoBulkEntries {H : Type} : List (Lit × DataW H) → Nat
  | [] => 0
  | x :: r => uptoBulkEntry x + uptoBulkEntries r
def uptoBulkEntry {H : Type} : Lit × DataW H → Nat
  | (.string bytes, d) => bytes.length + uptoBulk d + 1
  | (_, d) => uptoBulk d + 1
 end
def uptoSmall : (H : Type) → List (DataW H) → Bool := fun _ ds => decide (uptoBulkAll ds ≤ 1048576)
def OpenSpec.upto (s : _root_.Go.ChangeSpec) : _root_.Go.OpenSpec := { _root_.Go.OpenSpec.ofChange s with cond := some uptoSmall }

/-- 'logjamlaw16.MutexPlays', WHERE WHAT IT READS IS OF BULK AT MOST 1048576: true; the input reads as it did. -/
def mutexPlaysUptoRow : OpenClaim := { program := "ytelpkfldmgeaiaa", sum := "6bd75916ad6fdc0614992a27622dc62e2bce78d288931f87126bab1ef0b0f041", func := "logjam/logjamlaw16.MutexPlays", spec := "mutexPlays", apart := false, narrowed := true }
def MutexPlaysUptoSaid : Prop := mutexPlaysUptoRow.holds Try.pinned (OpenSpec.upto mutexPlaysSpec)

/-- 'logjamlaw16.MutexStays', WHERE WHAT IT READS IS OF BULK AT MOST 1048576: true; the input reads as it did. -/
def mutexStaysUptoRow : OpenClaim := { program := "ytelpkfldmgeaiaa", sum := "6bd75916ad6fdc0614992a27622dc62e2bce78d288931f87126bab1ef0b0f041", func := "logjam/logjamlaw16.MutexStays", spec := "mutexStays", apart := false, narrowed := true }
def MutexStaysUptoSaid : Prop := mutexStaysUptoRow.holds Try.pinned (OpenSpec.upto mutexStaysSpec)

/-- 'logjamlaw16.MutexNil', WHERE WHAT IT READS IS OF BULK AT MOST 1048576: true; the input reads as it did. -/
def mutexNilUptoRow : OpenClaim := { program := "ytelpkfldmgeaiaa", sum := "6bd75916ad6fdc0614992a27622dc62e2bce78d288931f87126bab1ef0b0f041", func := "logjam/logjamlaw16.MutexNil", spec := "mutexNil", apart := false, narrowed := true }
def MutexNilUptoSaid : Prop := mutexNilUptoRow.holds Try.pinned (OpenSpec.upto mutexNilSpec)

end Rows
end Go.Proofs.Ytelpkfldmgeaiaa
