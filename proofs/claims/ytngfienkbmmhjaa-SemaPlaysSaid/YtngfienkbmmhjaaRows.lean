/-
  No cell of these rows narrows 'for every input' (looked for: loops, veiled, ifaces, maps, wideKeys, modest, calm, conditions, laid).
  DERIVED. THE GIVEN ROWS OF THIS SEAT. 3 by the template 'for every input the law returns true; each argument reads behind the call as it read before'; 0 by the template 'total and deterministic' (their statements: YtngfienkbmmhjaaTotals.lean).
  GIVEN WITH THE SEED: the statements are not yours to turn. If you find one false, say at which input.
  Laid BY PROGRAM, IN A SANDBOX (cutbox-rows.mjs): the forced cells as the released guide's own fill.sh prints them over the translation 66823a3039f73ff3… (all of the seat's roots in one cut). By AI agents, Wed Nov 11 2026. No macro, syntax, notation, axiom, sorry.
-/
import Derived.Test.YtngfienkbmmhjaaChecked
import GoSem.Claim
import GoSem.ClaimJoined
import GoSem.ClaimMapViews
import Derived.JoinedTies
import Derived.KernelRfl
namespace Go.Proofs.Ytngfienkbmmhjaa
/- THE CELL 'sum', in the pinned program and in every row, IS THE sha256 OF THE DUMP (.gsa) THAT YtngfienkbmmhjaaProg.lean LOADS. Nothing in Lean hashes anything: it is a label: what it is worth is what the hold of that sum in a sandbox is worth. -/
noncomputable def Try.pinned : Pinned := { name := "ytngfienkbmmhjaa", sum := "66823a3039f73ff3a79b2f06910876818cb37392c409b5d8d4b6b938956e722e", checked := Try.checked }
namespace Rows
def none {H : Type} : Left H := { results := [], args := [] }

/-- 'logjamlaw18.SemaPlays': WHATEVER THE INPUT: true; the input reads as it did. -/
def semaPlaysSpec : ChangeSpec := { name := "semaPlays", fn := fun _ => fun
  | [d1, d2, d3] => { results := [.lit (.bool true)], args := [d1, d2, d3] }
  | _ => none }
def semaPlaysRow : OpenClaim := { program := "ytngfienkbmmhjaa", sum := "66823a3039f73ff3a79b2f06910876818cb37392c409b5d8d4b6b938956e722e", func := "logjam/logjamlaw18.SemaPlays", spec := "semaPlays", apart := false }
def SemaPlaysSaid : Prop := semaPlaysRow.holds Try.pinned (OpenSpec.ofChange semaPlaysSpec)

/-- ITS FALSE NEIGHBOUR: 'it returns false'. Refute it at one input. -/
def semaPlaysWrong : ChangeSpec := { name := "semaPlays", fn := fun _ => fun
  | [d1, d2, d3] => { results := [.lit (.bool false)], args := [d1, d2, d3] }
  | _ => none }
def SemaPlaysWrongFalsely : Prop := semaPlaysRow.holds Try.pinned (OpenSpec.ofChange semaPlaysWrong)

/-- 'logjamlaw18.SemaSums': WHATEVER THE INPUT: true; the input reads as it did. -/
def semaSumsSpec : ChangeSpec := { name := "semaSums", fn := fun _ => fun
  | [d1, d2, d3] => { results := [.lit (.bool true)], args := [d1, d2, d3] }
  | _ => none }
def semaSumsRow : OpenClaim := { program := "ytngfienkbmmhjaa", sum := "66823a3039f73ff3a79b2f06910876818cb37392c409b5d8d4b6b938956e722e", func := "logjam/logjamlaw18.SemaSums", spec := "semaSums", apart := false }
def SemaSumsSaid : Prop := semaSumsRow.holds Try.pinned (OpenSpec.ofChange semaSumsSpec)

/-- ITS FALSE NEIGHBOUR: 'it returns false'. Refute it at one input. -/
def semaSumsWrong : ChangeSpec := { name := "semaSums", fn := fun _ => fun
  | [d1, d2, d3] => { results := [.lit (.bool false)], args := [d1, d2, d3] }
  | _ => none }
def SemaSumsWrongFalsely : Prop := semaSumsRow.holds Try.pinned (OpenSpec.ofChange semaSumsWrong)

/-- 'logjamlaw18.SemaNil': WHATEVER THE INPUT: true; the input reads as it did. -/
def semaNilSpec : ChangeSpec := { name := "semaNil", fn := fun _ => fun
  | [d] => { results := [.lit (.bool true)], args := [d] }
  | _ => none }
def semaNilRow : OpenClaim := { program := "ytngfienkbmmhjaa", sum := "66823a3039f73ff3a79b2f06910876818cb37392c409b5d8d4b6b938956e722e", func := "logjam/logjamlaw18.SemaNil", spec := "semaNil", apart := false }
def SemaNilSaid : Prop := semaNilRow.holds Try.pinned (OpenSpec.ofChange semaNilSpec)

/-- ITS FALSE NEIGHBOUR: 'it returns false'. Refute it at one input. -/
def semaNilWrong : ChangeSpec := { name := "semaNil", fn := fun _ => fun
  | [d] => { results := [.lit (.bool false)], args := [d] }
  | _ => none }
def SemaNilWrongFalsely : Prop := semaNilRow.holds Try.pinned (OpenSpec.ofChange semaNilWrong)

/- THE SECOND FORM. 'bulk': how many values and letters a reading holds, each counted each time it is reached (what is shared counts as often as it is met; a slice's spare places count too). A statement '..UptoSaid' is the law's where the arguments, and the package variables that the reading takes, are together of bulk at most 1048576: NARROWER than '..Said'. Prove '..Said' where nothing that the law and all that it calls make is longer than what came in: it says more and counts as full. Else prove '..UptoSaid'. A law counts once. -/
mutual
def uptoBulk {H : Type} : DataW H → Nat
  | .lit (.string bytes) => bytes.length + 1
  | .lit _ => 1
  | .nil => 1
  | .ptr d => uptoBulk d + 1
  | .slice elems spare => uptoBulkAll elems + uptoBulkAll spare + 1
  | .agg parts => uptoBulkAll parts + 1
  | .iface _ d => uptoBulk d + 1
  | .map entries => uptoBulkEntries entries + 1
  | .held _ => 1
def uptoBulkAll {H : Type} : List (DataW H) → Nat
  | [] => 0
  | d :: r => uptoBulk d + uptoBulkAll r
def uptoBulkEntries {H : Type} : List (Lit × DataW H) → Nat
  | [] => 0
  | x :: r => uptoBulkEntry x + uptoBulkEntries r
def uptoBulkEntry {H : Type} : Lit × DataW H → Nat
  | (.string bytes, d) => bytes.length + uptoBulk d + 1
  | (_, d) => uptoBulk d + 1
 end
def uptoSmall : (H : Type) → List (DataW H) → Bool := fun _ ds => decide (uptoBulkAll ds ≤ 1048576)
def OpenSpec.upto (s : _root_.Go.ChangeSpec) : _root_.Go.OpenSpec := { _root_.Go.OpenSpec.ofChange s with cond := some uptoSmall }

/-- 'logjamlaw18.SemaPlays', WHERE WHAT IT READS IS OF BULK AT MOST 1048576: true; the input reads as it did. -/
def semaPlaysUptoRow : OpenClaim := { program := "ytngfienkbmmhjaa", sum := "66823a3039f73ff3a79b2f06910876818cb37392c409b5d8d4b6b938956e722e", func := "logjam/logjamlaw18.SemaPlays", spec := "semaPlays", apart := false, narrowed := true }
def SemaPlaysUptoSaid : Prop := semaPlaysUptoRow.holds Try.pinned (OpenSpec.upto semaPlaysSpec)

/-- 'logjamlaw18.SemaSums', WHERE WHAT IT READS IS OF BULK AT MOST 1048576: true; the input reads as it did. -/
def semaSumsUptoRow : OpenClaim := { program := "ytngfienkbmmhjaa", sum := "66823a3039f73ff3a79b2f06910876818cb37392c409b5d8d4b6b938956e722e", func := "logjam/logjamlaw18.SemaSums", spec := "semaSums", apart := false, narrowed := true }
def SemaSumsUptoSaid : Prop := semaSumsUptoRow.holds Try.pinned (OpenSpec.upto semaSumsSpec)

/-- 'logjamlaw18.SemaNil', WHERE WHAT IT READS IS OF BULK AT MOST 1048576: true; the input reads as it did. -/
def semaNilUptoRow : OpenClaim := { program := "ytngfienkbmmhjaa", sum := "66823a3039f73ff3a79b2f06910876818cb37392c409b5d8d4b6b938956e722e", func := "logjam/logjamlaw18.SemaNil", spec := "semaNil", apart := false, narrowed := true }
def SemaNilUptoSaid : Prop := semaNilUptoRow.holds Try.pinned (OpenSpec.upto semaNilSpec)

end Rows
end Go.Proofs.Ytngfienkbmmhjaa
