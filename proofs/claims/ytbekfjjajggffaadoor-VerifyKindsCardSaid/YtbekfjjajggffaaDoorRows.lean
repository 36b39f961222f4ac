/-
  NARROWER THAN 'FOR EVERY INPUT', by the rows' own cells (each row's printed sentence says how): VerifyMore: laid · VerifyKinds: laid.
  DERIVED. THE GIVEN ROWS OF THIS SEAT. 2 by the template 'for every input the law returns true; each argument reads behind the call as it read before'; 0 by the template 'total and deterministic' (their statements: YtbekfjjajggffaaDoorTotals.lean).
  GIVEN WITH THE SEED: the statements are not yours to turn. If you find one false, say at which input.
  Laid BY PROGRAM, IN A SANDBOX (cutbox-rows.mjs): the forced cells as the released guide's own fill.sh prints them over the translation 9671de41599de07b… (all of the seat's roots in one cut). By AI agents, Wed Nov 11 2026. No macro, syntax, notation, axiom, sorry.
-/
import Derived.Test.YtbekfjjajggffaaDoorChecked
import GoSem.Claim
import GoSem.ClaimJoined
import GoSem.ClaimMapViews
import Derived.JoinedTies
import Derived.KernelRfl
namespace Go.Proofs.YtbekfjjajggffaaDoor
/- THE CELL 'sum', in the pinned program and in every row, IS THE sha256 OF THE DUMP (.gsa) THAT YtbekfjjajggffaaDoorProg.lean LOADS. Nothing in Lean hashes anything: it is a label: what it is worth is what the hold of that sum in a sandbox is worth. -/
noncomputable def Tryd.pinned : Pinned := { name := "ytbekfjjajggffaadoor", sum := "9671de41599de07b18a368c4dc72d73ccb80ee4363c883857715bc1302c6bd6b", checked := Tryd.checked }
namespace Rows
def none {H : Type} : Left H := { results := [], args := [] }

/- WHAT THE LISTED PACKAGE-LEVEL VARIABLES READ AS WHEN THE CALL BEGINS. Each datum BY PROGRAM (the guide's laid-datum.mjs) off the statement by which the dump's own 'gosem.cut.vars' lays the variable. In a bare row this is a premise. The card (YtbekfjjajggffaaDoorCards.lean) ties it to the program's text. -/
def laid_logjam_op_names {H : Type} : DataW H := .agg [.lit (.string [112, 117, 115, 104]), .lit (.string [108, 111, 97, 100]), .lit (.string [115, 116, 111, 114, 101]), .lit (.string [97, 100, 100]), .lit (.string [115, 117, 98]), .lit (.string [109, 117, 108]), .lit (.string [100, 105, 118]), .lit (.string [109, 111, 100]), .lit (.string [110, 101, 103]), .lit (.string [108, 116]), .lit (.string [101, 113]), .lit (.string [97, 110, 100]), .lit (.string [111, 114]), .lit (.string [120, 111, 114]), .lit (.string [115, 104, 108]), .lit (.string [115, 104, 114]), .lit (.string [100, 117, 112]), .lit (.string [100, 114, 111, 112]), .lit (.string [106, 117, 109, 112]), .lit (.string [122, 101, 114, 111]), .lit (.string [99, 97, 108, 108]), .lit (.string [114, 101, 116]), .lit (.string [115, 101, 108, 102]), .lit (.string [110, 111, 119]), .lit (.string [111, 117, 116]), .lit (.string [121, 105, 101, 108, 100]), .lit (.string [119, 97, 105, 116]), .lit (.string [119, 97, 105, 116, 102, 111, 114]), .lit (.string [115, 108, 101, 101, 112]), .lit (.string [117, 110, 108, 111, 99, 107]), .lit (.string [112, 111, 115, 116]), .lit (.string [103, 105, 118, 101]), .lit (.string [99, 119, 97, 105, 116]), .lit (.string [99, 119, 97, 105, 116, 102, 111, 114]), .lit (.string [115, 105, 103, 110, 97, 108]), .lit (.string [98, 114, 111, 97, 100, 99, 97, 115, 116]), .lit (.string [101, 110, 114, 111, 108]), .lit (.string [108, 101, 97, 118, 101]), .lit (.string [97, 114, 114, 105, 118, 101]), .lit (.string [97, 114, 114, 105, 118, 101, 102, 111, 114]), .lit (.string [115, 112, 97, 119, 110]), .lit (.string [106, 111, 105, 110]), .lit (.string [106, 111, 105, 110, 102, 111, 114]), .lit (.string [103, 114, 97, 110, 116]), .lit (.string [119, 97, 105, 118, 101]), .lit (.string [114, 101, 97, 100]), .lit (.string [119, 114, 105, 116, 101]), .lit (.string [98, 101, 103, 105, 110]), .lit (.string [99, 111, 109, 109, 105, 116]), .lit (.string [99, 108, 97, 105, 109]), .lit (.string [100, 101, 97, 100]), .lit (.string [109, 101, 110, 100])]
def laid_math_bits_deBruijn64tab {H : Type} : DataW H := .agg [.lit (.int .u8 0), .lit (.int .u8 1), .lit (.int .u8 56), .lit (.int .u8 2), .lit (.int .u8 57), .lit (.int .u8 49), .lit (.int .u8 28), .lit (.int .u8 3), .lit (.int .u8 61), .lit (.int .u8 58), .lit (.int .u8 42), .lit (.int .u8 50), .lit (.int .u8 38), .lit (.int .u8 29), .lit (.int .u8 17), .lit (.int .u8 4), .lit (.int .u8 62), .lit (.int .u8 47), .lit (.int .u8 59), .lit (.int .u8 36), .lit (.int .u8 45), .lit (.int .u8 43), .lit (.int .u8 51), .lit (.int .u8 22), .lit (.int .u8 53), .lit (.int .u8 39), .lit (.int .u8 33), .lit (.int .u8 30), .lit (.int .u8 24), .lit (.int .u8 18), .lit (.int .u8 12), .lit (.int .u8 5), .lit (.int .u8 63), .lit (.int .u8 55), .lit (.int .u8 48), .lit (.int .u8 27), .lit (.int .u8 60), .lit (.int .u8 41), .lit (.int .u8 37), .lit (.int .u8 16), .lit (.int .u8 46), .lit (.int .u8 35), .lit (.int .u8 44), .lit (.int .u8 21), .lit (.int .u8 52), .lit (.int .u8 32), .lit (.int .u8 23), .lit (.int .u8 11), .lit (.int .u8 54), .lit (.int .u8 26), .lit (.int .u8 40), .lit (.int .u8 15), .lit (.int .u8 34), .lit (.int .u8 20), .lit (.int .u8 31), .lit (.int .u8 10), .lit (.int .u8 25), .lit (.int .u8 14), .lit (.int .u8 19), .lit (.int .u8 9), .lit (.int .u8 13), .lit (.int .u8 8), .lit (.int .u8 7), .lit (.int .u8 6)]
def laid_logjam_decl_names {H : Type} : DataW H := .agg [.lit (.string []), .lit (.string [109, 117, 116, 101, 120]), .lit (.string [114, 119]), .lit (.string [115, 101, 109]), .lit (.string [99, 111, 110, 100]), .lit (.string [98, 97, 114]), .lit (.string [112, 111, 111, 108]), .lit (.string [99, 101, 108, 108])]
def laid_logjam_need_asked {H : Type} : DataW H := .agg [.lit (.int .i64 0), .lit (.int .i64 1), .lit (.int .i64 2), .lit (.int .i64 2), .lit (.int .i64 3), .lit (.int .i64 6)]

/-- 'logjamlaw12.VerifyMore': WHATEVER THE INPUT: true; the input reads as it did. -/
def verifyMoreSpec : ChangeSpec := { name := "verifyMore", fn := fun _ => fun
  | [d1, d2] => { results := [.lit (.bool true)], args := [d1, d2] }
  | _ => none }
def verifyMoreRow : OpenClaim := { program := "ytbekfjjajggffaadoor", sum := "9671de41599de07b18a368c4dc72d73ccb80ee4363c883857715bc1302c6bd6b", func := "logjam/logjamlaw12.VerifyMore", spec := "verifyMore", named := ["logjam/decl.names", "logjam/need.asked", "logjam/op.names", "math/bits.deBruijn64tab"], apart := false, laid := [("logjam/op.names", laid_logjam_op_names), ("math/bits.deBruijn64tab", laid_math_bits_deBruijn64tab), ("logjam/decl.names", laid_logjam_decl_names), ("logjam/need.asked", laid_logjam_need_asked)] }
def VerifyMoreSaid : Prop := verifyMoreRow.holds Tryd.pinned (OpenSpec.ofChange verifyMoreSpec)

/-- ITS FALSE NEIGHBOUR: 'it returns false'. Refute it at one input. -/
def verifyMoreWrong : ChangeSpec := { name := "verifyMore", fn := fun _ => fun
  | [d1, d2] => { results := [.lit (.bool false)], args := [d1, d2] }
  | _ => none }
def VerifyMoreWrongFalsely : Prop := verifyMoreRow.holds Tryd.pinned (OpenSpec.ofChange verifyMoreWrong)

/-- 'logjamlaw12.VerifyKinds': WHATEVER THE INPUT: true; the input reads as it did. -/
def verifyKindsSpec : ChangeSpec := { name := "verifyKinds", fn := fun _ => fun
  | [d] => { results := [.lit (.bool true)], args := [d] }
  | _ => none }
def verifyKindsRow : OpenClaim := { program := "ytbekfjjajggffaadoor", sum := "9671de41599de07b18a368c4dc72d73ccb80ee4363c883857715bc1302c6bd6b", func := "logjam/logjamlaw12.VerifyKinds", spec := "verifyKinds", named := ["logjam/decl.names", "logjam/need.asked", "logjam/op.names", "math/bits.deBruijn64tab"], apart := false, laid := [("logjam/op.names", laid_logjam_op_names), ("math/bits.deBruijn64tab", laid_math_bits_deBruijn64tab), ("logjam/decl.names", laid_logjam_decl_names), ("logjam/need.asked", laid_logjam_need_asked)] }
def VerifyKindsSaid : Prop := verifyKindsRow.holds Tryd.pinned (OpenSpec.ofChange verifyKindsSpec)

/-- ITS FALSE NEIGHBOUR: 'it returns false'. Refute it at one input. -/
def verifyKindsWrong : ChangeSpec := { name := "verifyKinds", fn := fun _ => fun
  | [d] => { results := [.lit (.bool false)], args := [d] }
  | _ => none }
def VerifyKindsWrongFalsely : Prop := verifyKindsRow.holds Tryd.pinned (OpenSpec.ofChange verifyKindsWrong)

/- THE SECOND FORM. 'bulk': how many values and letters a reading holds, each counted each time it is reached (what is shared counts as often as it is met; a slice's spare places count too). A statement '..UptoSaid' is the law's where the arguments, and the package variables that the reading takes, are together of bulk at most 1048576: NARROWER than '..Said'. Prove '..Said' where nothing that the law and all that it calls make is longer than what came in: it says more and counts as full. Else prove '..UptoSaid'. A law counts once. -/
mutual
def uptoBulk {H : Type} : DataW H → Nat
  | .lit (.string bytes) => bytes.length + 1
  | .lit _ => 1
  | .nil => 1
  | .ptr d => uptoBulk d + 1
  | .slice elems spare => uptoBulkAll elems + uptoBulkAll spare + 1
  | .agg parts => uptoBulkAll parts + 1
  | .iface _ d => uptoBulk d + 1
  | .map entries => uptoBulkEntries entries + 1
  | .held _ => 1
def uptoBulkAll {H : Type} : List (DataW H) → Nat
  | [] => 0
  | d :: r => uptoBulk d + uptoBulkAll r
def uptoBulkEntries {H : Type} : List (Lit × DataW H) → Nat
  | [] => 0
  | x :: r => uptoBulkEntry x + uptoBulkEntries r
def uptoBulkEntry {H : Type} : Lit × DataW H → Nat
  | (.string bytes, d) => bytes.length + uptoBulk d + 1
  | (_, d) => uptoBulk d + 1
 end
def uptoSmall : (H : Type) → List (DataW H) → Bool := fun _ ds => decide (uptoBulkAll ds ≤ 1048576)
def OpenSpec.upto (s : _root_.Go.ChangeSpec) : _root_.Go.OpenSpec := { _root_.Go.OpenSpec.ofChange s with cond := some uptoSmall }

/-- 'logjamlaw12.VerifyMore', WHERE WHAT IT READS IS OF BULK AT MOST 1048576: true; the input reads as it did. -/
def verifyMoreUptoRow : OpenClaim := { program := "ytbekfjjajggffaadoor", sum := "9671de41599de07b18a368c4dc72d73ccb80ee4363c883857715bc1302c6bd6b", func := "logjam/logjamlaw12.VerifyMore", spec := "verifyMore", named := ["logjam/decl.names", "logjam/need.asked", "logjam/op.names", "math/bits.deBruijn64tab"], apart := false, laid := [("logjam/op.names", laid_logjam_op_names), ("math/bits.deBruijn64tab", laid_math_bits_deBruijn64tab), ("logjam/decl.names", laid_logjam_decl_names), ("logjam/need.asked", laid_logjam_need_asked)], narrowed := true }
def VerifyMoreUptoSaid : Prop := verifyMoreUptoRow.holds Tryd.pinned (OpenSpec.upto verifyMoreSpec)

/-- 'logjamlaw12.VerifyKinds', WHERE WHAT IT READS IS OF BULK AT MOST 1048576: true; the input reads as it did. -/
def verifyKindsUptoRow : OpenClaim := { program := "ytbekfjjajggffaadoor", sum := "9671de41599de07b18a368c4dc72d73ccb80ee4363c883857715bc1302c6bd6b", func := "logjam/logjamlaw12.VerifyKinds", spec := "verifyKinds", named := ["logjam/decl.names", "logjam/need.asked", "logjam/op.names", "math/bits.deBruijn64tab"], apart := false, laid := [("logjam/op.names", laid_logjam_op_names), ("math/bits.deBruijn64tab", laid_math_bits_deBruijn64tab), ("logjam/decl.names", laid_logjam_decl_names), ("logjam/need.asked", laid_logjam_need_asked)], narrowed := true }
def VerifyKindsUptoSaid : Prop := verifyKindsUptoRow.holds Tryd.pinned (OpenSpec.upto verifyKindsSpec)

end Rows
end Go.Proofs.YtbekfjjajggffaaDoor
