/-
  The program's calls on a set that make a list of it, or a set of a list. The list of a call lies in memory of its own. A list that comes in is read where it lies.
-/
import Derived.Test.YtiekbbknmneikaaBCount
import Derived.OneCell
import Derived.Laws.Rows
import Derived.Laws.AppendOwn
import Derived.OwnWalk
import Derived.Deep.LoopGhost
namespace Go.Proofs.Ytiekbbknmneikaa.bits
open Go.RowKit Go.ChangeShapes

theorem infoInt : (Try.prog.info? 3).map (fun i => (i.zero, i.size, i.bytes)) = some (some (.int .i64 0), 1, 8) := by kernel_rfl

def icells (l : List Nat) : List Value := l.map fun n : Nat => Value.int .i64 (n : Int)
theorem icells_length (l : List Nat) : (icells l).length = l.length := by simp [icells]
theorem icells_append (l r : List Nat) : icells (l ++ r) = icells l ++ icells r := by simp [icells]

def lenOf : Value → Nat
  | .slice _ k _ => k
  | _ => 0

end Go.Proofs.Ytiekbbknmneikaa.bits
