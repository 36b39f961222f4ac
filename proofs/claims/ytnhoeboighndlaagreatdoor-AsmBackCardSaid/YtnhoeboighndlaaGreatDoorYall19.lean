/-
  Texts of one claim in one file: DRefNum, DRefRead. Each has its own sentence, with its conditions.
-/
import Derived.Test.YtnhoeboighndlaaGreatDoorYall16
import Derived.Test.YtnhoeboighndlaaGreatDoorYall9
import Derived.Test.YtnhoeboighndlaaGreatDoorYall8
import Derived.RegionTactic
import Derived.BigRegion
import Derived.Test.YtnhoeboighndlaaGreatDoorYall11
/-
  The document's own answer of a number that is read, great ones alike. A text of at most two to the forty-seventh bytes.
-/
namespace Go.Proofs.YtnhoeboighndlaaGreatDoor.objs
open Go.RowKit Go.ChangeShapes
open Go.Proofs.YtnhoeboighndlaaGreatDoor.octet (St rdByte rdNum rdInt Stands rdNum_lt)
set_option linter.unusedVariables false

def NumPost (t : ByteArray) (s : St) (w : World) (e : Ending) (w' : World) : Prop :=
  ∃ k1 : Nat, e = .returned (.tuple #[.int .i64 (rdN s).1, .agg #[.string t, .int .i64 (k1 : Int), .int .i64 ((rdN s).2.err : Int)]]) ∧ Stands t k1 (rdN s).2.err (rdN s).2 ∧ Below w.heap.size w w'
end Go.Proofs.YtnhoeboighndlaaGreatDoor.objs

/-
  Memory while the document's reader goes over objects: the reader, the row that grows, the object that is read. No condition.
-/
namespace Go.Proofs.YtnhoeboighndlaaGreatDoor.objs
open Go.RowKit Go.ChangeShapes
open Go.Proofs.YtnhoeboighndlaaGreatDoor.octet (St rdByte rdNum rdInt Stands rdNum_lt)
set_option linter.unusedVariables false

/-- What Read tells, and leaves. -/
def ReadPost8 (t : ByteArray) (r : List De × St × Nat) (w : World) (e : Ending) (w' : World) : Prop :=
  ∃ (v : Value) (k : Nat), e = .returned (.tuple #[v, .agg #[.string t, .int .i64 (k : Int), .int .i64 (r.2.1.err : Int)], .int .i64 (r.2.2 : Int)]) ∧ Stands t k r.2.1.err r.2.1 ∧ (∃ base, Own w' base v r.1 ∧ w.heap.size ≤ base) ∧ Below w.heap.size w w'
end Go.Proofs.YtnhoeboighndlaaGreatDoor.objs
