/-
  No cell of these rows narrows 'for every input' (looked for: loops, veiled, ifaces, maps, wideKeys, modest, calm, conditions, laid).
  DERIVED. THE GIVEN ROWS OF THIS SEAT. 4 by the template 'for every input the law returns true; each argument reads behind the call as it read before'; 0 by the template 'total and deterministic' (their statements: YtiekbbknmneikaaTotals.lean).
  GIVEN WITH THE SEED: the statements are not yours to turn. If you find one false, say at which input.
  Laid BY PROGRAM, IN A SANDBOX (cutbox-rows.mjs): the forced cells as the released guide's own fill.sh prints them over the translation a21a7cca01e719e9… (all of the seat's roots in one cut). By AI agents, Wed Nov 11 2026. No macro, syntax, notation, axiom, sorry.
-/
import Derived.Test.YtiekbbknmneikaaChecked
import GoSem.Claim
import GoSem.ClaimJoined
import GoSem.ClaimMapViews
import Derived.JoinedTies
import Derived.KernelRfl
namespace Go.Proofs.Ytiekbbknmneikaa
/- THE CELL 'sum', in the pinned program and in every row, IS THE sha256 OF THE DUMP (.gsa) THAT YtiekbbknmneikaaProg.lean LOADS. Nothing in Lean hashes anything: it is a label: what it is worth is what the hold of that sum in a sandbox is worth. -/
noncomputable def Try.pinned : Pinned := { name := "ytiekbbknmneikaa", sum := "a21a7cca01e719e9d2bb56ed439d6a152ff6dfdc13b9559235640298435fc13b", checked := Try.checked }
namespace Rows
def none {H : Type} : Left H := { results := [], args := [] }

/-- 'logjamlaw19.BarrierPlays': WHATEVER THE INPUT: true; the input reads as it did. -/
def barrierPlaysSpec : ChangeSpec := { name := "barrierPlays", fn := fun _ => fun
  | [d] => { results := [.lit (.bool true)], args := [d] }
  | _ => none }
def barrierPlaysRow : OpenClaim := { program := "ytiekbbknmneikaa", sum := "a21a7cca01e719e9d2bb56ed439d6a152ff6dfdc13b9559235640298435fc13b", func := "logjam/logjamlaw19.BarrierPlays", spec := "barrierPlays", apart := false }
def BarrierPlaysSaid : Prop := barrierPlaysRow.holds Try.pinned (OpenSpec.ofChange barrierPlaysSpec)

/-- ITS FALSE NEIGHBOUR: 'it returns false'. Refute it at one input. -/
def barrierPlaysWrong : ChangeSpec := { name := "barrierPlays", fn := fun _ => fun
  | [d] => { results := [.lit (.bool false)], args := [d] }
  | _ => none }
def BarrierPlaysWrongFalsely : Prop := barrierPlaysRow.holds Try.pinned (OpenSpec.ofChange barrierPlaysWrong)

/-- 'logjamlaw19.BarrierWaits': WHATEVER THE INPUT: true; the input reads as it did. -/
def barrierWaitsSpec : ChangeSpec := { name := "barrierWaits", fn := fun _ => fun
  | [d] => { results := [.lit (.bool true)], args := [d] }
  | _ => none }
def barrierWaitsRow : OpenClaim := { program := "ytiekbbknmneikaa", sum := "a21a7cca01e719e9d2bb56ed439d6a152ff6dfdc13b9559235640298435fc13b", func := "logjam/logjamlaw19.BarrierWaits", spec := "barrierWaits", apart := false }
def BarrierWaitsSaid : Prop := barrierWaitsRow.holds Try.pinned (OpenSpec.ofChange barrierWaitsSpec)

/-- ITS FALSE NEIGHBOUR: 'it returns false'. Refute it at one input. -/
def barrierWaitsWrong : ChangeSpec := { name := "barrierWaits", fn := fun _ => fun
  | [d] => { results := [.lit (.bool false)], args := [d] }
  | _ => none }
def BarrierWaitsWrongFalsely : Prop := barrierWaitsRow.holds Try.pinned (OpenSpec.ofChange barrierWaitsWrong)

/-- 'logjamlaw19.BarrierRound': WHATEVER THE INPUT: true; the input reads as it did. -/
def barrierRoundSpec : ChangeSpec := { name := "barrierRound", fn := fun _ => fun
  | [d1, d2] => { results := [.lit (.bool true)], args := [d1, d2] }
  | _ => none }
def barrierRoundRow : OpenClaim := { program := "ytiekbbknmneikaa", sum := "a21a7cca01e719e9d2bb56ed439d6a152ff6dfdc13b9559235640298435fc13b", func := "logjam/logjamlaw19.BarrierRound", spec := "barrierRound", apart := false }
def BarrierRoundSaid : Prop := barrierRoundRow.holds Try.pinned (OpenSpec.ofChange barrierRoundSpec)

/-- ITS FALSE NEIGHBOUR: 'it returns false'. Refute it at one input. -/
def barrierRoundWrong : ChangeSpec := { name := "barrierRound", fn := fun _ => fun
  | [d1, d2] => { results := [.lit (.bool false)], args := [d1, d2] }
  | _ => none }
def BarrierRoundWrongFalsely : Prop := barrierRoundRow.holds Try.pinned (OpenSpec.ofChange barrierRoundWrong)

/-- 'logjamlaw19.BarrierNil': WHATEVER THE INPUT: true; the input reads as it did. -/
def barrierNilSpec : ChangeSpec := { name := "barrierNil", fn := fun _ => fun
  | [d] => { results := [.lit (.bool true)], args := [d] }
  | _ => none }
def barrierNilRow : OpenClaim := { program := "ytiekbbknmneikaa", sum := "a21a7cca01e719e9d2bb56ed439d6a152ff6dfdc13b9559235640298435fc13b", func := "logjam/logjamlaw19.BarrierNil", spec := "barrierNil", apart := false }
def BarrierNilSaid : Prop := barrierNilRow.holds Try.pinned (OpenSpec.ofChange barrierNilSpec)

/-- ITS FALSE NEIGHBOUR: 'it returns false'. Refute it at one input. -/
def barrierNilWrong : ChangeSpec := { name := "barrierNil", fn := fun _ => fun
  | [d] => { results := [.lit (.bool false)], args := [d] }
  | _ => none }
def BarrierNilWrongFalsely : Prop := barrierNilRow.holds Try.pinned (OpenSpec.ofChange barrierNilWrong)

/- THE SECOND FORM. 'bulk': how many values and letters a reading holds, each counted each time it is reached (what is shared counts as often as it is met; a slice's spare places count too). A statement '..UptoSaid' is the law's where the arguments, and the package variables that the reading takes, are together of bulk at most 1048576: NARROWER than '..Said'. Prove '..Said' where nothing that the law and all that it calls make is longer than what came in: it says more and counts as full. Else prove '..UptoSaid'. A law counts once. -/
mutual
def uptoBulk {H : Type} : DataW H → Nat
  | .lit (.string bytes) => bytes.length + 1
  | .lit _ => 1
  | .nil => 1
  | .ptr d => uptoBulk d + 1
  | .slice elems spare => uptoBulkAll elems + uptoBulkAll spare + 1
  | .agg parts => uptoBulkAll parts + 1
  | .iface _ d => uptoBulk d + 1
  | .map entries => uptoBulkEntries entries + 1
  | .held _ => 1
def uptoBulkAll {H : Type} : List (DataW H) → Nat
  | [] => 0
  | d :: r => uptoBulk d + uptoBulkAll r
def uptoBulkEntries {H : Type} : List (Lit × DataW H) → Nat
  | [] => 0
  | x :: r => uptoBulkEntry x + uptoBulkEntries r
def uptoBulkEntry {H : Type} : Lit × DataW H → Nat
  | (.string bytes, d) => bytes.length + uptoBulk d + 1
  | (_, d) => uptoBulk d + 1
 end
def uptoSmall : (H : Type) → List (DataW H) → Bool := fun _ ds => decide (uptoBulkAll ds ≤ 1048576)
def OpenSpec.upto (s : _root_.Go.ChangeSpec) : _root_.Go.OpenSpec := { _root_.Go.OpenSpec.ofChange s with cond := some uptoSmall }

/-- 'logjamlaw19.BarrierPlays', WHERE WHAT IT READS IS OF BULK AT MOST 1048576: true; the input reads as it did. -/
def barrierPlaysUptoRow : OpenClaim := { program := "ytiekbbknmneikaa", sum := "a21a7cca01e719e9d2bb56ed439d6a152ff6dfdc13b9559235640298435fc13b", func := "logjam/logjamlaw19.BarrierPlays", spec := "barrierPlays", apart := false, narrowed := true }
def BarrierPlaysUptoSaid : Prop := barrierPlaysUptoRow.holds Try.pinned (OpenSpec.upto barrierPlaysSpec)

/-- 'logjamlaw19.BarrierWaits', WHERE WHAT IT READS IS OF BULK AT MOST 1048576: true; the input reads as it did. -/
def barrierWaitsUptoRow : OpenClaim := { program := "ytiekbbknmneikaa", sum := "a21a7cca01e719e9d2bb56ed439d6a152ff6dfdc13b9559235640298435fc13b", func := "logjam/logjamlaw19.BarrierWaits", spec := "barrierWaits", apart := false, narrowed := true }
def BarrierWaitsUptoSaid : Prop := barrierWaitsUptoRow.holds Try.pinned (OpenSpec.upto barrierWaitsSpec)

/-- 'logjamlaw19.BarrierRound', WHERE WHAT IT READS IS OF BULK AT MOST 1048576: true; the input reads as it did. -/
def barrierRoundUptoRow : OpenClaim := { program := "ytiekbbknmneikaa", sum := "a21a7cca01e719e9d2bb56ed439d6a152ff6dfdc13b9559235640298435fc13b", func := "logjam/logjamlaw19.BarrierRound", spec := "barrierRound", apart := false, narrowed := true }
def BarrierRoundUptoSaid : Prop := barrierRoundUptoRow.holds Try.pinned (OpenSpec.upto barrierRoundSpec)

/-- 'logjamlaw19.BarrierNil', WHERE WHAT IT READS IS OF BULK AT MOST 1048576: true; the input reads as it did. -/
def barrierNilUptoRow : OpenClaim := { program := "ytiekbbknmneikaa", sum := "a21a7cca01e719e9d2bb56ed439d6a152ff6dfdc13b9559235640298435fc13b", func := "logjam/logjamlaw19.BarrierNil", spec := "barrierNil", apart := false, narrowed := true }
def BarrierNilUptoSaid : Prop := barrierNilUptoRow.holds Try.pinned (OpenSpec.upto barrierNilSpec)

end Rows
end Go.Proofs.Ytiekbbknmneikaa
