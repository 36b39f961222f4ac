/-
  NARROWER THAN 'FOR EVERY INPUT', by the rows' own cells (each row's printed sentence says how): ExecDoes: laid · ExecGoes: laid · ExecOdd: laid · ExecPure: laid.
  DERIVED. THE GIVEN ROWS OF THIS SEAT. 4 by the template 'for every input the law returns true; each argument reads behind the call as it read before'; 0 by the template 'total and deterministic' (their statements: YtjbcmedljgafkaaDoorTotals.lean).
  GIVEN WITH THE SEED: the statements are not yours to turn. If you find one false, say at which input.
  Laid BY PROGRAM, IN A SANDBOX (cutbox-rows.mjs): the forced cells as the released guide's own fill.sh prints them over the translation b744bdee8df50318… (all of the seat's roots in one cut). By AI agents, Wed Nov 11 2026. No macro, syntax, notation, axiom, sorry.
-/
import Derived.Test.YtjbcmedljgafkaaDoorChecked
import GoSem.Claim
import GoSem.ClaimJoined
import GoSem.ClaimMapViews
import Derived.JoinedTies
import Derived.KernelRfl
namespace Go.Proofs.YtjbcmedljgafkaaDoor
/- THE CELL 'sum', in the pinned program and in every row, IS THE sha256 OF THE DUMP (.gsa) THAT YtjbcmedljgafkaaDoorProg.lean LOADS. Nothing in Lean hashes anything: it is a label: what it is worth is what the hold of that sum in a sandbox is worth. -/
noncomputable def Tryd.pinned : Pinned := { name := "ytjbcmedljgafkaadoor", sum := "b744bdee8df50318d40d23ed29a6ee8dc5486c9fc1de127961af240e83e25a36", checked := Tryd.checked }
namespace Rows
def none {H : Type} : Left H := { results := [], args := [] }

/- WHAT THE LISTED PACKAGE-LEVEL VARIABLES READ AS WHEN THE CALL BEGINS. Each datum BY PROGRAM (the guide's laid-datum.mjs) off the statement by which the dump's own 'gosem.cut.vars' lays the variable. In a bare row this is a premise. The card (YtjbcmedljgafkaaDoorCards.lean) ties it to the program's text. -/
def laid_logjam_op_names {H : Type} : DataW H := .agg [.lit (.string [112, 117, 115, 104]), .lit (.string [108, 111, 97, 100]), .lit (.string [115, 116, 111, 114, 101]), .lit (.string [97, 100, 100]), .lit (.string [115, 117, 98]), .lit (.string [109, 117, 108]), .lit (.string [100, 105, 118]), .lit (.string [109, 111, 100]), .lit (.string [110, 101, 103]), .lit (.string [108, 116]), .lit (.string [101, 113]), .lit (.string [97, 110, 100]), .lit (.string [111, 114]), .lit (.string [120, 111, 114]), .lit (.string [115, 104, 108]), .lit (.string [115, 104, 114]), .lit (.string [100, 117, 112]), .lit (.string [100, 114, 111, 112]), .lit (.string [106, 117, 109, 112]), .lit (.string [122, 101, 114, 111]), .lit (.string [99, 97, 108, 108]), .lit (.string [114, 101, 116]), .lit (.string [115, 101, 108, 102]), .lit (.string [110, 111, 119]), .lit (.string [111, 117, 116]), .lit (.string [121, 105, 101, 108, 100]), .lit (.string [119, 97, 105, 116]), .lit (.string [119, 97, 105, 116, 102, 111, 114]), .lit (.string [115, 108, 101, 101, 112]), .lit (.string [117, 110, 108, 111, 99, 107]), .lit (.string [112, 111, 115, 116]), .lit (.string [103, 105, 118, 101]), .lit (.string [99, 119, 97, 105, 116]), .lit (.string [99, 119, 97, 105, 116, 102, 111, 114]), .lit (.string [115, 105, 103, 110, 97, 108]), .lit (.string [98, 114, 111, 97, 100, 99, 97, 115, 116]), .lit (.string [101, 110, 114, 111, 108]), .lit (.string [108, 101, 97, 118, 101]), .lit (.string [97, 114, 114, 105, 118, 101]), .lit (.string [97, 114, 114, 105, 118, 101, 102, 111, 114]), .lit (.string [115, 112, 97, 119, 110]), .lit (.string [106, 111, 105, 110]), .lit (.string [106, 111, 105, 110, 102, 111, 114]), .lit (.string [103, 114, 97, 110, 116]), .lit (.string [119, 97, 105, 118, 101]), .lit (.string [114, 101, 97, 100]), .lit (.string [119, 114, 105, 116, 101]), .lit (.string [98, 101, 103, 105, 110]), .lit (.string [99, 111, 109, 109, 105, 116]), .lit (.string [99, 108, 97, 105, 109]), .lit (.string [100, 101, 97, 100]), .lit (.string [109, 101, 110, 100])]

/-- 'logjamlaw15.ExecDoes': WHATEVER THE INPUT: true; the input reads as it did. -/
def execDoesSpec : ChangeSpec := { name := "execDoes", fn := fun _ => fun
  | [d1, d2] => { results := [.lit (.bool true)], args := [d1, d2] }
  | _ => none }
def execDoesRow : OpenClaim := { program := "ytjbcmedljgafkaadoor", sum := "b744bdee8df50318d40d23ed29a6ee8dc5486c9fc1de127961af240e83e25a36", func := "logjam/logjamlaw15.ExecDoes", spec := "execDoes", named := ["logjam/op.names"], apart := false, laid := [("logjam/op.names", laid_logjam_op_names)] }
def ExecDoesSaid : Prop := execDoesRow.holds Tryd.pinned (OpenSpec.ofChange execDoesSpec)

/-- ITS FALSE NEIGHBOUR: 'it returns false'. Refute it at one input. -/
def execDoesWrong : ChangeSpec := { name := "execDoes", fn := fun _ => fun
  | [d1, d2] => { results := [.lit (.bool false)], args := [d1, d2] }
  | _ => none }
def ExecDoesWrongFalsely : Prop := execDoesRow.holds Tryd.pinned (OpenSpec.ofChange execDoesWrong)

/-- 'logjamlaw15.ExecGoes': WHATEVER THE INPUT: true; the input reads as it did. -/
def execGoesSpec : ChangeSpec := { name := "execGoes", fn := fun _ => fun
  | [d1, d2] => { results := [.lit (.bool true)], args := [d1, d2] }
  | _ => none }
def execGoesRow : OpenClaim := { program := "ytjbcmedljgafkaadoor", sum := "b744bdee8df50318d40d23ed29a6ee8dc5486c9fc1de127961af240e83e25a36", func := "logjam/logjamlaw15.ExecGoes", spec := "execGoes", named := ["logjam/op.names"], apart := false, laid := [("logjam/op.names", laid_logjam_op_names)] }
def ExecGoesSaid : Prop := execGoesRow.holds Tryd.pinned (OpenSpec.ofChange execGoesSpec)

/-- ITS FALSE NEIGHBOUR: 'it returns false'. Refute it at one input. -/
def execGoesWrong : ChangeSpec := { name := "execGoes", fn := fun _ => fun
  | [d1, d2] => { results := [.lit (.bool false)], args := [d1, d2] }
  | _ => none }
def ExecGoesWrongFalsely : Prop := execGoesRow.holds Tryd.pinned (OpenSpec.ofChange execGoesWrong)

/-- 'logjamlaw15.ExecOdd': WHATEVER THE INPUT: true; the input reads as it did. -/
def execOddSpec : ChangeSpec := { name := "execOdd", fn := fun _ => fun
  | [d1, d2, d3] => { results := [.lit (.bool true)], args := [d1, d2, d3] }
  | _ => none }
def execOddRow : OpenClaim := { program := "ytjbcmedljgafkaadoor", sum := "b744bdee8df50318d40d23ed29a6ee8dc5486c9fc1de127961af240e83e25a36", func := "logjam/logjamlaw15.ExecOdd", spec := "execOdd", named := ["logjam/op.names"], apart := false, laid := [("logjam/op.names", laid_logjam_op_names)] }
def ExecOddSaid : Prop := execOddRow.holds Tryd.pinned (OpenSpec.ofChange execOddSpec)

/-- ITS FALSE NEIGHBOUR: 'it returns false'. Refute it at one input. -/
def execOddWrong : ChangeSpec := { name := "execOdd", fn := fun _ => fun
  | [d1, d2, d3] => { results := [.lit (.bool false)], args := [d1, d2, d3] }
  | _ => none }
def ExecOddWrongFalsely : Prop := execOddRow.holds Tryd.pinned (OpenSpec.ofChange execOddWrong)

/-- 'logjamlaw15.ExecPure': WHATEVER THE INPUT: true; the input reads as it did. -/
def execPureSpec : ChangeSpec := { name := "execPure", fn := fun _ => fun
  | [d] => { results := [.lit (.bool true)], args := [d] }
  | _ => none }
def execPureRow : OpenClaim := { program := "ytjbcmedljgafkaadoor", sum := "b744bdee8df50318d40d23ed29a6ee8dc5486c9fc1de127961af240e83e25a36", func := "logjam/logjamlaw15.ExecPure", spec := "execPure", named := ["logjam/op.names"], apart := false, laid := [("logjam/op.names", laid_logjam_op_names)] }
def ExecPureSaid : Prop := execPureRow.holds Tryd.pinned (OpenSpec.ofChange execPureSpec)

/-- ITS FALSE NEIGHBOUR: 'it returns false'. Refute it at one input. -/
def execPureWrong : ChangeSpec := { name := "execPure", fn := fun _ => fun
  | [d] => { results := [.lit (.bool false)], args := [d] }
  | _ => none }
def ExecPureWrongFalsely : Prop := execPureRow.holds Tryd.pinned (OpenSpec.ofChange execPureWrong)

/- THE SECOND FORM. 'bulk': how many values and letters a reading holds, each counted each time it is reached (what is shared counts as often as it is met; a slice's spare places count too). A statement '..UptoSaid' is the law's where the arguments, and the package variables that the reading takes, are together of bulk at most 1048576: NARROWER than '..Said'. Prove '..Said' where nothing that the law and all that it calls make is longer than what came in: it says more and counts as full. Else prove '..UptoSaid'. A law counts once. -/
mutual
def uptoBulk {H : Type} : DataW H → Nat
  | .lit (.string bytes) => bytes.length + 1
  | .lit _ => 1
  | .nil => 1
  | .ptr d => uptoBulk d + 1
  | .slice elems spare => uptoBulkAll elems + uptoBulkAll spare + 1
  | .agg parts => uptoBulkAll parts + 1
  | .iface _ d => uptoBulk d + 1
  | .map entries => uptoBulkEntries entries + 1
  | .held _ => 1
def uptoBulkAll {H : Type} : List (DataW H) → Nat
  | [] => 0
  | d :: r => uptoBulk d + uptoBulkAll r
def uptoBulkEntries {H : Type} : List (Lit × DataW H) → Nat
  | [] => 0
  | x :: r => uptoBulkEntry x + uptoBulkEntries r
def uptoBulkEntry {H : Type} : Lit × DataW H → Nat
  | (.string bytes, d) => bytes.length + uptoBulk d + 1
  | (_, d) => uptoBulk d + 1
 end
def uptoSmall : (H : Type) → List (DataW H) → Bool := fun _ ds => decide (uptoBulkAll ds ≤ 1048576)
def OpenSpec.upto (s : _root_.Go.ChangeSpec) : _root_.Go.OpenSpec := { _root_.Go.OpenSpec.ofChange s with cond := some uptoSmall }

/-- 'logjamlaw15.ExecDoes', WHERE WHAT IT READS IS OF BULK AT MOST 1048576: true; the input reads as it did. -/
def execDoesUptoRow : OpenClaim := { program := "ytjbcmedljgafkaadoor", sum := "b744bdee8df50318d40d23ed29a6ee8dc5486c9fc1de127961af240e83e25a36", func := "logjam/logjamlaw15.ExecDoes", spec := "execDoes", named := ["logjam/op.names"], apart := false, laid := [("logjam/op.names", laid_logjam_op_names)], narrowed := true }
def ExecDoesUptoSaid : Prop := execDoesUptoRow.holds Tryd.pinned (OpenSpec.upto execDoesSpec)

/-- 'logjamlaw15.ExecGoes', WHERE WHAT IT READS IS OF BULK AT MOST 1048576: true; the input reads as it did. -/
def execGoesUptoRow : OpenClaim := { program := "ytjbcmedljgafkaadoor", sum := "b744bdee8df50318d40d23ed29a6ee8dc5486c9fc1de127961af240e83e25a36", func := "logjam/logjamlaw15.ExecGoes", spec := "execGoes", named := ["logjam/op.names"], apart := false, laid := [("logjam/op.names", laid_logjam_op_names)], narrowed := true }
def ExecGoesUptoSaid : Prop := execGoesUptoRow.holds Tryd.pinned (OpenSpec.upto execGoesSpec)

/-- 'logjamlaw15.ExecOdd', WHERE WHAT IT READS IS OF BULK AT MOST 1048576: true; the input reads as it did. -/
def execOddUptoRow : OpenClaim := { program := "ytjbcmedljgafkaadoor", sum := "b744bdee8df50318d40d23ed29a6ee8dc5486c9fc1de127961af240e83e25a36", func := "logjam/logjamlaw15.ExecOdd", spec := "execOdd", named := ["logjam/op.names"], apart := false, laid := [("logjam/op.names", laid_logjam_op_names)], narrowed := true }
def ExecOddUptoSaid : Prop := execOddUptoRow.holds Tryd.pinned (OpenSpec.upto execOddSpec)

/-- 'logjamlaw15.ExecPure', WHERE WHAT IT READS IS OF BULK AT MOST 1048576: true; the input reads as it did. -/
def execPureUptoRow : OpenClaim := { program := "ytjbcmedljgafkaadoor", sum := "b744bdee8df50318d40d23ed29a6ee8dc5486c9fc1de127961af240e83e25a36", func := "logjam/logjamlaw15.ExecPure", spec := "execPure", named := ["logjam/op.names"], apart := false, laid := [("logjam/op.names", laid_logjam_op_names)], narrowed := true }
def ExecPureUptoSaid : Prop := execPureUptoRow.holds Tryd.pinned (OpenSpec.upto execPureSpec)

end Rows
end Go.Proofs.YtjbcmedljgafkaaDoor
