/-
  NARROWER THAN 'FOR EVERY INPUT', by the rows' own cells (each row's printed sentence says how): InsChecks: laid · InsGets: laid · InsBack: laid · InsOnce: laid · DeclChecks: laid · DeclGets: laid · DeclBack: laid · DeclOnce: laid · DeclFits: laid.
  DERIVED. THE GIVEN ROWS OF THIS SEAT. 9 by the template 'for every input the law returns true; each argument reads behind the call as it read before'; 0 by the template 'total and deterministic' (their statements: YtaefkkhmhogpeaaDoorTotals.lean).
  GIVEN WITH THE SEED: the statements are not yours to turn. If you find one false, say at which input.
  Laid BY PROGRAM, IN A SANDBOX (cutbox-rows.mjs): the forced cells as the released guide's own fill.sh prints them over the translation 71639edb5ffdb299… (all of the seat's roots in one cut). By AI agents, Wed Nov 11 2026. No macro, syntax, notation, axiom, sorry.
-/
import Derived.Test.YtaefkkhmhogpeaaDoorChecked
import GoSem.Claim
import GoSem.ClaimJoined
import GoSem.ClaimMapViews
import Derived.JoinedTies
import Derived.KernelRfl
namespace Go.Proofs.YtaefkkhmhogpeaaDoor
/- THE CELL 'sum', in the pinned program and in every row, IS THE sha256 OF THE DUMP (.gsa) THAT YtaefkkhmhogpeaaDoorProg.lean LOADS. Nothing in Lean hashes anything: it is a label: what it is worth is what the hold of that sum in a sandbox is worth. -/
noncomputable def Tryd.pinned : Pinned := { name := "ytaefkkhmhogpeaadoor", sum := "71639edb5ffdb299b1bd95277c70e8cfa12a029c320d7ad5b9399bb2d2c934d3", checked := Tryd.checked }
namespace Rows
def none {H : Type} : Left H := { results := [], args := [] }

/- WHAT THE LISTED PACKAGE-LEVEL VARIABLES READ AS WHEN THE CALL BEGINS. Each datum BY PROGRAM (the guide's laid-datum.mjs) off the statement by which the dump's own 'gosem.cut.vars' lays the variable. In a bare row this is a premise. The card (YtaefkkhmhogpeaaDoorCards.lean) ties it to the program's text. -/
def laid_logjam_op_names {H : Type} : DataW H := .agg [.lit (.string [112, 117, 115, 104]), .lit (.string [108, 111, 97, 100]), .lit (.string [115, 116, 111, 114, 101]), .lit (.string [97, 100, 100]), .lit (.string [115, 117, 98]), .lit (.string [109, 117, 108]), .lit (.string [100, 105, 118]), .lit (.string [109, 111, 100]), .lit (.string [110, 101, 103]), .lit (.string [108, 116]), .lit (.string [101, 113]), .lit (.string [97, 110, 100]), .lit (.string [111, 114]), .lit (.string [120, 111, 114]), .lit (.string [115, 104, 108]), .lit (.string [115, 104, 114]), .lit (.string [100, 117, 112]), .lit (.string [100, 114, 111, 112]), .lit (.string [106, 117, 109, 112]), .lit (.string [122, 101, 114, 111]), .lit (.string [99, 97, 108, 108]), .lit (.string [114, 101, 116]), .lit (.string [115, 101, 108, 102]), .lit (.string [110, 111, 119]), .lit (.string [111, 117, 116]), .lit (.string [121, 105, 101, 108, 100]), .lit (.string [119, 97, 105, 116]), .lit (.string [119, 97, 105, 116, 102, 111, 114]), .lit (.string [115, 108, 101, 101, 112]), .lit (.string [117, 110, 108, 111, 99, 107]), .lit (.string [112, 111, 115, 116]), .lit (.string [103, 105, 118, 101]), .lit (.string [99, 119, 97, 105, 116]), .lit (.string [99, 119, 97, 105, 116, 102, 111, 114]), .lit (.string [115, 105, 103, 110, 97, 108]), .lit (.string [98, 114, 111, 97, 100, 99, 97, 115, 116]), .lit (.string [101, 110, 114, 111, 108]), .lit (.string [108, 101, 97, 118, 101]), .lit (.string [97, 114, 114, 105, 118, 101]), .lit (.string [97, 114, 114, 105, 118, 101, 102, 111, 114]), .lit (.string [115, 112, 97, 119, 110]), .lit (.string [106, 111, 105, 110]), .lit (.string [106, 111, 105, 110, 102, 111, 114]), .lit (.string [103, 114, 97, 110, 116]), .lit (.string [119, 97, 105, 118, 101]), .lit (.string [114, 101, 97, 100]), .lit (.string [119, 114, 105, 116, 101]), .lit (.string [98, 101, 103, 105, 110]), .lit (.string [99, 111, 109, 109, 105, 116]), .lit (.string [99, 108, 97, 105, 109]), .lit (.string [100, 101, 97, 100]), .lit (.string [109, 101, 110, 100])]
def laid_logjam_decl_names {H : Type} : DataW H := .agg [.lit (.string []), .lit (.string [109, 117, 116, 101, 120]), .lit (.string [114, 119]), .lit (.string [115, 101, 109]), .lit (.string [99, 111, 110, 100]), .lit (.string [98, 97, 114]), .lit (.string [112, 111, 111, 108]), .lit (.string [99, 101, 108, 108])]

/-- 'logjamlaw07.InsChecks': WHATEVER THE INPUT: true; the input reads as it did. -/
def insChecksSpec : ChangeSpec := { name := "insChecks", fn := fun _ => fun
  | [d] => { results := [.lit (.bool true)], args := [d] }
  | _ => none }
def insChecksRow : OpenClaim := { program := "ytaefkkhmhogpeaadoor", sum := "71639edb5ffdb299b1bd95277c70e8cfa12a029c320d7ad5b9399bb2d2c934d3", func := "logjam/logjamlaw07.InsChecks", spec := "insChecks", named := ["logjam/op.names"], apart := false, laid := [("logjam/op.names", laid_logjam_op_names)] }
def InsChecksSaid : Prop := insChecksRow.holds Tryd.pinned (OpenSpec.ofChange insChecksSpec)

/-- ITS FALSE NEIGHBOUR: 'it returns false'. Refute it at one input. -/
def insChecksWrong : ChangeSpec := { name := "insChecks", fn := fun _ => fun
  | [d] => { results := [.lit (.bool false)], args := [d] }
  | _ => none }
def InsChecksWrongFalsely : Prop := insChecksRow.holds Tryd.pinned (OpenSpec.ofChange insChecksWrong)

/-- 'logjamlaw07.InsGets': WHATEVER THE INPUT: true; the input reads as it did. -/
def insGetsSpec : ChangeSpec := { name := "insGets", fn := fun _ => fun
  | [d] => { results := [.lit (.bool true)], args := [d] }
  | _ => none }
def insGetsRow : OpenClaim := { program := "ytaefkkhmhogpeaadoor", sum := "71639edb5ffdb299b1bd95277c70e8cfa12a029c320d7ad5b9399bb2d2c934d3", func := "logjam/logjamlaw07.InsGets", spec := "insGets", named := ["logjam/op.names"], apart := false, laid := [("logjam/op.names", laid_logjam_op_names)] }
def InsGetsSaid : Prop := insGetsRow.holds Tryd.pinned (OpenSpec.ofChange insGetsSpec)

/-- ITS FALSE NEIGHBOUR: 'it returns false'. Refute it at one input. -/
def insGetsWrong : ChangeSpec := { name := "insGets", fn := fun _ => fun
  | [d] => { results := [.lit (.bool false)], args := [d] }
  | _ => none }
def InsGetsWrongFalsely : Prop := insGetsRow.holds Tryd.pinned (OpenSpec.ofChange insGetsWrong)

/-- 'logjamlaw07.InsBack': WHATEVER THE INPUT: true; the input reads as it did. -/
def insBackSpec : ChangeSpec := { name := "insBack", fn := fun _ => fun
  | [d1, d2] => { results := [.lit (.bool true)], args := [d1, d2] }
  | _ => none }
def insBackRow : OpenClaim := { program := "ytaefkkhmhogpeaadoor", sum := "71639edb5ffdb299b1bd95277c70e8cfa12a029c320d7ad5b9399bb2d2c934d3", func := "logjam/logjamlaw07.InsBack", spec := "insBack", named := ["logjam/op.names"], apart := false, laid := [("logjam/op.names", laid_logjam_op_names)] }
def InsBackSaid : Prop := insBackRow.holds Tryd.pinned (OpenSpec.ofChange insBackSpec)

/-- ITS FALSE NEIGHBOUR: 'it returns false'. Refute it at one input. -/
def insBackWrong : ChangeSpec := { name := "insBack", fn := fun _ => fun
  | [d1, d2] => { results := [.lit (.bool false)], args := [d1, d2] }
  | _ => none }
def InsBackWrongFalsely : Prop := insBackRow.holds Tryd.pinned (OpenSpec.ofChange insBackWrong)

/-- 'logjamlaw07.InsOnce': WHATEVER THE INPUT: true; the input reads as it did. -/
def insOnceSpec : ChangeSpec := { name := "insOnce", fn := fun _ => fun
  | [d] => { results := [.lit (.bool true)], args := [d] }
  | _ => none }
def insOnceRow : OpenClaim := { program := "ytaefkkhmhogpeaadoor", sum := "71639edb5ffdb299b1bd95277c70e8cfa12a029c320d7ad5b9399bb2d2c934d3", func := "logjam/logjamlaw07.InsOnce", spec := "insOnce", named := ["logjam/op.names"], apart := false, laid := [("logjam/op.names", laid_logjam_op_names)] }
def InsOnceSaid : Prop := insOnceRow.holds Tryd.pinned (OpenSpec.ofChange insOnceSpec)

/-- ITS FALSE NEIGHBOUR: 'it returns false'. Refute it at one input. -/
def insOnceWrong : ChangeSpec := { name := "insOnce", fn := fun _ => fun
  | [d] => { results := [.lit (.bool false)], args := [d] }
  | _ => none }
def InsOnceWrongFalsely : Prop := insOnceRow.holds Tryd.pinned (OpenSpec.ofChange insOnceWrong)

/-- 'logjamlaw08.DeclChecks': WHATEVER THE INPUT: true; the input reads as it did. -/
def declChecksSpec : ChangeSpec := { name := "declChecks", fn := fun _ => fun
  | [d] => { results := [.lit (.bool true)], args := [d] }
  | _ => none }
def declChecksRow : OpenClaim := { program := "ytaefkkhmhogpeaadoor", sum := "71639edb5ffdb299b1bd95277c70e8cfa12a029c320d7ad5b9399bb2d2c934d3", func := "logjam/logjamlaw08.DeclChecks", spec := "declChecks", named := ["logjam/decl.names"], apart := false, laid := [("logjam/decl.names", laid_logjam_decl_names)] }
def DeclChecksSaid : Prop := declChecksRow.holds Tryd.pinned (OpenSpec.ofChange declChecksSpec)

/-- ITS FALSE NEIGHBOUR: 'it returns false'. Refute it at one input. -/
def declChecksWrong : ChangeSpec := { name := "declChecks", fn := fun _ => fun
  | [d] => { results := [.lit (.bool false)], args := [d] }
  | _ => none }
def DeclChecksWrongFalsely : Prop := declChecksRow.holds Tryd.pinned (OpenSpec.ofChange declChecksWrong)

/-- 'logjamlaw08.DeclGets': WHATEVER THE INPUT: true; the input reads as it did. -/
def declGetsSpec : ChangeSpec := { name := "declGets", fn := fun _ => fun
  | [d] => { results := [.lit (.bool true)], args := [d] }
  | _ => none }
def declGetsRow : OpenClaim := { program := "ytaefkkhmhogpeaadoor", sum := "71639edb5ffdb299b1bd95277c70e8cfa12a029c320d7ad5b9399bb2d2c934d3", func := "logjam/logjamlaw08.DeclGets", spec := "declGets", named := ["logjam/decl.names"], apart := false, laid := [("logjam/decl.names", laid_logjam_decl_names)] }
def DeclGetsSaid : Prop := declGetsRow.holds Tryd.pinned (OpenSpec.ofChange declGetsSpec)

/-- ITS FALSE NEIGHBOUR: 'it returns false'. Refute it at one input. -/
def declGetsWrong : ChangeSpec := { name := "declGets", fn := fun _ => fun
  | [d] => { results := [.lit (.bool false)], args := [d] }
  | _ => none }
def DeclGetsWrongFalsely : Prop := declGetsRow.holds Tryd.pinned (OpenSpec.ofChange declGetsWrong)

/-- 'logjamlaw08.DeclBack': WHATEVER THE INPUT: true; the input reads as it did. -/
def declBackSpec : ChangeSpec := { name := "declBack", fn := fun _ => fun
  | [d1, d2] => { results := [.lit (.bool true)], args := [d1, d2] }
  | _ => none }
def declBackRow : OpenClaim := { program := "ytaefkkhmhogpeaadoor", sum := "71639edb5ffdb299b1bd95277c70e8cfa12a029c320d7ad5b9399bb2d2c934d3", func := "logjam/logjamlaw08.DeclBack", spec := "declBack", named := ["logjam/decl.names"], apart := false, laid := [("logjam/decl.names", laid_logjam_decl_names)] }
def DeclBackSaid : Prop := declBackRow.holds Tryd.pinned (OpenSpec.ofChange declBackSpec)

/-- ITS FALSE NEIGHBOUR: 'it returns false'. Refute it at one input. -/
def declBackWrong : ChangeSpec := { name := "declBack", fn := fun _ => fun
  | [d1, d2] => { results := [.lit (.bool false)], args := [d1, d2] }
  | _ => none }
def DeclBackWrongFalsely : Prop := declBackRow.holds Tryd.pinned (OpenSpec.ofChange declBackWrong)

/-- 'logjamlaw08.DeclOnce': WHATEVER THE INPUT: true; the input reads as it did. -/
def declOnceSpec : ChangeSpec := { name := "declOnce", fn := fun _ => fun
  | [d] => { results := [.lit (.bool true)], args := [d] }
  | _ => none }
def declOnceRow : OpenClaim := { program := "ytaefkkhmhogpeaadoor", sum := "71639edb5ffdb299b1bd95277c70e8cfa12a029c320d7ad5b9399bb2d2c934d3", func := "logjam/logjamlaw08.DeclOnce", spec := "declOnce", named := ["logjam/decl.names"], apart := false, laid := [("logjam/decl.names", laid_logjam_decl_names)] }
def DeclOnceSaid : Prop := declOnceRow.holds Tryd.pinned (OpenSpec.ofChange declOnceSpec)

/-- ITS FALSE NEIGHBOUR: 'it returns false'. Refute it at one input. -/
def declOnceWrong : ChangeSpec := { name := "declOnce", fn := fun _ => fun
  | [d] => { results := [.lit (.bool false)], args := [d] }
  | _ => none }
def DeclOnceWrongFalsely : Prop := declOnceRow.holds Tryd.pinned (OpenSpec.ofChange declOnceWrong)

/-- 'logjamlaw08.DeclFits': WHATEVER THE INPUT: true; the input reads as it did. -/
def declFitsSpec : ChangeSpec := { name := "declFits", fn := fun _ => fun
  | [d1, d2, d3] => { results := [.lit (.bool true)], args := [d1, d2, d3] }
  | _ => none }
def declFitsRow : OpenClaim := { program := "ytaefkkhmhogpeaadoor", sum := "71639edb5ffdb299b1bd95277c70e8cfa12a029c320d7ad5b9399bb2d2c934d3", func := "logjam/logjamlaw08.DeclFits", spec := "declFits", named := ["logjam/decl.names"], apart := false, laid := [("logjam/decl.names", laid_logjam_decl_names)] }
def DeclFitsSaid : Prop := declFitsRow.holds Tryd.pinned (OpenSpec.ofChange declFitsSpec)

/-- ITS FALSE NEIGHBOUR: 'it returns false'. Refute it at one input. -/
def declFitsWrong : ChangeSpec := { name := "declFits", fn := fun _ => fun
  | [d1, d2, d3] => { results := [.lit (.bool false)], args := [d1, d2, d3] }
  | _ => none }
def DeclFitsWrongFalsely : Prop := declFitsRow.holds Tryd.pinned (OpenSpec.ofChange declFitsWrong)

/- THE SECOND FORM. 'bulk': how many values and letters a reading holds, each counted each time it is reached (what is shared counts as often as it is met; a slice's spare places count too). A statement '..UptoSaid' is the law's where the arguments, and the package variables that the reading takes, are together of bulk at most 1048576: NARROWER than '..Said'. Prove '..Said' where nothing that the law and all that it calls make is longer than what came in: it says more and counts as full. Else prove '..UptoSaid'. A law counts once. -/
mutual
def uptoBulk {H : Type} : DataW H → Nat
  | .lit (.string bytes) => bytes.length + 1
  | .lit _ => 1
  | .nil => 1
  | .ptr d => uptoBulk d + 1
  | .slice elems spare => uptoBulkAll elems + uptoBulkAll spare + 1
  | .agg parts => uptoBulkAll parts + 1
  | .iface _ d => uptoBulk d + 1
  | .map entries => uptoBulkEntries entries + 1
  | .held _ => 1
def uptoBulkAll {H : Type} : List (DataW H) → Nat
  | [] => 0
  | d :: r => uptoBulk d + uptoBulkAll r
def uptoBulkEntries {H : Type} : List (Lit × DataW H) → Nat
  | [] => 0
  | x :: r => uptoBulkEntry x + uptoBulkEntries r
def uptoBulkEntry {H : Type} : Lit × DataW H → Nat
  | (.string bytes, d) => bytes.length + uptoBulk d + 1
  | (_, d) => uptoBulk d + 1
 end
def uptoSmall : (H : Type) → List (DataW H) → Bool := fun _ ds => decide (uptoBulkAll ds ≤ 1048576)
def OpenSpec.upto (s : _root_.Go.ChangeSpec) : _root_.Go.OpenSpec := { _root_.Go.OpenSpec.ofChange s with cond := some uptoSmall }

/-- 'logjamlaw07.InsChecks', WHERE WHAT IT READS IS OF BULK AT MOST 1048576: true; the input reads as it did. -/
def insChecksUptoRow : OpenClaim := { program := "ytaefkkhmhogpeaadoor", sum := "71639edb5ffdb299b1bd95277c70e8cfa12a029c320d7ad5b9399bb2d2c934d3", func := "logjam/logjamlaw07.InsChecks", spec := "insChecks", named := ["logjam/op.names"], apart := false, laid := [("logjam/op.names", laid_logjam_op_names)], narrowed := true }
def InsChecksUptoSaid : Prop := insChecksUptoRow.holds Tryd.pinned (OpenSpec.upto insChecksSpec)

/-- 'logjamlaw07.InsGets', WHERE WHAT IT READS IS OF BULK AT MOST 1048576: true; the input reads as it did. -/
def insGetsUptoRow : OpenClaim := { program := "ytaefkkhmhogpeaadoor", sum := "71639edb5ffdb299b1bd95277c70e8cfa12a029c320d7ad5b9399bb2d2c934d3", func := "logjam/logjamlaw07.InsGets", spec := "insGets", named := ["logjam/op.names"], apart := false, laid := [("logjam/op.names", laid_logjam_op_names)], narrowed := true }
def InsGetsUptoSaid : Prop := insGetsUptoRow.holds Tryd.pinned (OpenSpec.upto insGetsSpec)

/-- 'logjamlaw07.InsBack', WHERE WHAT IT READS IS OF BULK AT MOST 1048576: true; the input reads as it did. -/
def insBackUptoRow : OpenClaim := { program := "ytaefkkhmhogpeaadoor", sum := "71639edb5ffdb299b1bd95277c70e8cfa12a029c320d7ad5b9399bb2d2c934d3", func := "logjam/logjamlaw07.InsBack", spec := "insBack", named := ["logjam/op.names"], apart := false, laid := [("logjam/op.names", laid_logjam_op_names)], narrowed := true }
def InsBackUptoSaid : Prop := insBackUptoRow.holds Tryd.pinned (OpenSpec.upto insBackSpec)

/-- 'logjamlaw07.InsOnce', WHERE WHAT IT READS IS OF BULK AT MOST 1048576: true; the input reads as it did. -/
def insOnceUptoRow : OpenClaim := { program := "ytaefkkhmhogpeaadoor", sum := "71639edb5ffdb299b1bd95277c70e8cfa12a029c320d7ad5b9399bb2d2c934d3", func := "logjam/logjamlaw07.InsOnce", spec := "insOnce", named := ["logjam/op.names"], apart := false, laid := [("logjam/op.names", laid_logjam_op_names)], narrowed := true }
def InsOnceUptoSaid : Prop := insOnceUptoRow.holds Tryd.pinned (OpenSpec.upto insOnceSpec)

/-- 'logjamlaw08.DeclChecks', WHERE WHAT IT READS IS OF BULK AT MOST 1048576: true; the input reads as it did. -/
def declChecksUptoRow : OpenClaim := { program := "ytaefkkhmhogpeaadoor", sum := "71639edb5ffdb299b1bd95277c70e8cfa12a029c320d7ad5b9399bb2d2c934d3", func := "logjam/logjamlaw08.DeclChecks", spec := "declChecks", named := ["logjam/decl.names"], apart := false, laid := [("logjam/decl.names", laid_logjam_decl_names)], narrowed := true }
def DeclChecksUptoSaid : Prop := declChecksUptoRow.holds Tryd.pinned (OpenSpec.upto declChecksSpec)

/-- 'logjamlaw08.DeclGets', WHERE WHAT IT READS IS OF BULK AT MOST 1048576: true; the input reads as it did. -/
def declGetsUptoRow : OpenClaim := { program := "ytaefkkhmhogpeaadoor", sum := "71639edb5ffdb299b1bd95277c70e8cfa12a029c320d7ad5b9399bb2d2c934d3", func := "logjam/logjamlaw08.DeclGets", spec := "declGets", named := ["logjam/decl.names"], apart := false, laid := [("logjam/decl.names", laid_logjam_decl_names)], narrowed := true }
def DeclGetsUptoSaid : Prop := declGetsUptoRow.holds Tryd.pinned (OpenSpec.upto declGetsSpec)

/-- 'logjamlaw08.DeclBack', WHERE WHAT IT READS IS OF BULK AT MOST 1048576: true; the input reads as it did. -/
def declBackUptoRow : OpenClaim := { program := "ytaefkkhmhogpeaadoor", sum := "71639edb5ffdb299b1bd95277c70e8cfa12a029c320d7ad5b9399bb2d2c934d3", func := "logjam/logjamlaw08.DeclBack", spec := "declBack", named := ["logjam/decl.names"], apart := false, laid := [("logjam/decl.names", laid_logjam_decl_names)], narrowed := true }
def DeclBackUptoSaid : Prop := declBackUptoRow.holds Tryd.pinned (OpenSpec.upto declBackSpec)

/-- 'logjamlaw08.DeclOnce', WHERE WHAT IT READS IS OF BULK AT MOST 1048576: true; the input reads as it did. -/
def declOnceUptoRow : OpenClaim := { program := "ytaefkkhmhogpeaadoor", sum := "71639edb5ffdb299b1bd95277c70e8cfa12a029c320d7ad5b9399bb2d2c934d3", func := "logjam/logjamlaw08.DeclOnce", spec := "declOnce", named := ["logjam/decl.names"], apart := false, laid := [("logjam/decl.names", laid_logjam_decl_names)], narrowed := true }
def DeclOnceUptoSaid : Prop := declOnceUptoRow.holds Tryd.pinned (OpenSpec.upto declOnceSpec)

/-- 'logjamlaw08.DeclFits', WHERE WHAT IT READS IS OF BULK AT MOST 1048576: true; the input reads as it did. -/
def declFitsUptoRow : OpenClaim := { program := "ytaefkkhmhogpeaadoor", sum := "71639edb5ffdb299b1bd95277c70e8cfa12a029c320d7ad5b9399bb2d2c934d3", func := "logjam/logjamlaw08.DeclFits", spec := "declFits", named := ["logjam/decl.names"], apart := false, laid := [("logjam/decl.names", laid_logjam_decl_names)], narrowed := true }
def DeclFitsUptoSaid : Prop := declFitsUptoRow.holds Tryd.pinned (OpenSpec.upto declFitsSpec)

end Rows
end Go.Proofs.YtaefkkhmhogpeaaDoor
