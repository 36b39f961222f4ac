/-
  What the statement on frames asks of the program's calls. No condition.
-/
import Derived.Test.YtlkcpplpjjbiaaaFRefDo
import Derived.Test.YtlkcpplpjjbiaaaFRefSame
namespace Go.Proofs.Ytlkcpplpjjbiaaa.frames
open Go.RowKit Go.ChangeShapes
open Go.Proofs.Ytlkcpplpjjbiaaa.nums (NAt)
set_option linter.unusedVariables false

def I64 (n : Int) : Prop := -9223372036854775808 ≤ n ∧ n ≤ 9223372036854775807
/-- Frames, and true; something, and false: there are none. -/
def YesPost (x : Option (List Fr)) (w : World) (e : Ending) (w' : World) : Prop :=
  Below w.heap.size w w' ∧ match x with
  | none => ∃ u, e = .returned (.tuple #[u, .bool false])
  | some l => ∃ A c, e = .returned (.tuple #[.slice A l.length c, .bool true]) ∧ In w' A c l
/-- Frames, something more, and true; and false: there are none. -/
def YesPost3 (x : Option (List Fr)) (w : World) (e : Ending) (w' : World) : Prop :=
  Below w.heap.size w w' ∧ match x with
  | none => ∃ u z, e = .returned (.tuple #[u, z, .bool false])
  | some l => ∃ A c z, e = .returned (.tuple #[.slice A l.length c, z, .bool true]) ∧ In w' A c l
/-- Calls as they came in: three numbers each. -/
def OpsAt (w : World) (A : Option Addr) (ops : List (Int × Int × Int)) : Prop :=
  ∀ j, j < ops.length → ∃ b off, A = some ⟨b, off, none⟩ ∧ b < w.heap.size ∧ w.cell? ⟨b, off + j * 3, none⟩ = some (.int .i64 (ops.getD j (0, 0, 0)).1) ∧ w.cell? ⟨b, off + j * 3 + 1, none⟩ = some (.int .i64 (ops.getD j (0, 0, 0)).2.1) ∧ w.cell? ⟨b, off + j * 3 + 2, none⟩ = some (.int .i64 (ops.getD j (0, 0, 0)).2.2)
theorem OpsAt.next {w w' : World} {A : Option Addr} {ops : List (Int × Int × Int)} (h : OpsAt w A ops) (hb : Below w.heap.size w w') : OpsAt w' A ops := fun j hj => by
  obtain ⟨b, off, h1, h2, h3, h4, h5⟩ := h j hj
  exact ⟨b, off, h1, Nat.lt_of_lt_of_le h2 hb.size, (hb.cell (p := ⟨b, off + j * 3, none⟩) h2).trans h3, (hb.cell (p := ⟨b, off + j * 3 + 1, none⟩) h2).trans h4, (hb.cell (p := ⟨b, off + j * 3 + 2, none⟩) h2).trans h5⟩
/-- While calls are made: both lists of frames are one. -/
structure Ru (w : World) (A : Option Addr) (c : Nat) (B : Option Addr) (d : Nat) (l : List Fr) (W : World) : Prop where
  below : Below w.heap.size w W
  x : In W A c l
  y : In W B d l
  good : Good l
theorem Ru.next {w W W' : World} {A B : Option Addr} {c d : Nat} {l : List Fr} (h : Ru w A c B d l W) (hb : Below W.heap.size W W') : Ru w A c B d l W' :=
  ⟨h.below.trans (hb.mono h.below.size), h.x.next hb, h.y.next hb, h.good⟩
end Go.Proofs.Ytlkcpplpjjbiaaa.frames
