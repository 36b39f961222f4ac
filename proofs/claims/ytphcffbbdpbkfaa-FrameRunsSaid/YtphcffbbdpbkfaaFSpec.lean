/-
  What the statement on frames asks of the program's calls. No condition.
-/
import Derived.Test.YtphcffbbdpbkfaaFRefDo
import Derived.Test.YtphcffbbdpbkfaaFRefSame
namespace Go.Proofs.Ytphcffbbdpbkfaa.frames
open Go.RowKit Go.ChangeShapes
open Go.Proofs.Ytphcffbbdpbkfaa.nums (NAt)
set_option linter.unusedVariables false

def I64 (n : Int) : Prop := -9223372036854775808 ≤ n ∧ n ≤ 9223372036854775807
/-- Frames, and true; something, and false: there are none. -/
def YesPost (x : Option (List Fr)) (w : World) (e : Ending) (w' : World) : Prop :=
  Below w.heap.size w w' ∧ match x with
  | none => ∃ u, e = .returned (.tuple #[u, .bool false])
  | some l => ∃ A c, e = .returned (.tuple #[.slice A l.length c, .bool true]) ∧ In w' A c l
/-- Frames, something more, and true; and false: there are none. -/
def YesPost3 (x : Option (List Fr)) (w : World) (e : Ending) (w' : World) : Prop :=
  Below w.heap.size w w' ∧ match x with
  | none => ∃ u z, e = .returned (.tuple #[u, z, .bool false])
  | some l => ∃ A c z, e = .returned (.tuple #[.slice A l.length c, z, .bool true]) ∧ In w' A c l
/-- What is asked of the program's calls. -/
structure Keeps : Prop where
  new : ∀ fn B c args w, NAt w B args → args.length ≤ 8 → args.length ≤ c → (B = none → args = [] ∧ c = 0) → I64 fn → Calls Try.prog 4 #[.int .i64 fn, .slice B args.length c] w (FrsPost [newF fn args] w)
  push : ∀ A c l v w, In w A c l → Good l → I64 v → Calls Try.prog 6 #[.slice A l.length c, .int .i64 v] w (YesPost (pushF l v) w)
  pop : ∀ A c l k w, In w A c l → Good l → I64 k → Calls Try.prog 7 #[.slice A l.length c, .int .i64 k] w (YesPost3 ((popF l k).map (·.1)) w)
  turn : ∀ A c l v w, In w A c l → Good l → I64 v → Calls Try.prog 8 #[.slice A l.length c, .int .i64 v] w (FrsPost (turnF l v) w)
  call : ∀ A c l v k w, In w A c l → Good l → I64 v → I64 k → Calls Try.prog 9 #[.slice A l.length c, .int .i64 v, .int .i64 k] w (YesPost (callF l v k) w)
  ret : ∀ A c l w, In w A c l → Good l → Calls Try.prog 10 #[.slice A l.length c] w (YesPost3 ((retF l).map (·.1)) w)
  store : ∀ A c l k v w, In w A c l → Good l → I64 k → I64 v → Calls Try.prog 11 #[.slice A l.length c, .int .i64 k, .int .i64 v] w (FrsPost (storeF l k v) w)
  go : ∀ A c l v w, In w A c l → Good l → I64 v → Calls Try.prog 12 #[.slice A l.length c, .int .i64 v] w (FrsPost (goF l v) w)
  top : ∀ A c l f v w, In w A c (l ++ [f]) → GoodF f → 0 < cnt f → v = num f (11 + (cnt f - 1).toNat) → Calls Try.prog 23 #[.slice A (l ++ [f]).length c] w fun e w' => e = .returned (.tuple #[.int .i64 v, .bool true]) ∧ Below w.heap.size w w'
  same : ∀ A B c d l w, In w A c l → In w B d l → Good l → Calls Try.prog 32 #[.slice A l.length c, .slice B l.length d] w fun e w' => e = .returned (.bool true) ∧ Below w.heap.size w w'
/-- Calls as they came in: three numbers each. -/
def OpsAt (w : World) (A : Option Addr) (ops : List (Int × Int × Int)) : Prop :=
  ∀ j, j < ops.length → ∃ b off, A = some ⟨b, off, none⟩ ∧ b < w.heap.size ∧ w.cell? ⟨b, off + j * 3, none⟩ = some (.int .i64 (ops.getD j (0, 0, 0)).1) ∧ w.cell? ⟨b, off + j * 3 + 1, none⟩ = some (.int .i64 (ops.getD j (0, 0, 0)).2.1) ∧ w.cell? ⟨b, off + j * 3 + 2, none⟩ = some (.int .i64 (ops.getD j (0, 0, 0)).2.2)
theorem OpsAt.next {w w' : World} {A : Option Addr} {ops : List (Int × Int × Int)} (h : OpsAt w A ops) (hb : Below w.heap.size w w') : OpsAt w' A ops := fun j hj => by
  obtain ⟨b, off, h1, h2, h3, h4, h5⟩ := h j hj
  exact ⟨b, off, h1, Nat.lt_of_lt_of_le h2 hb.size, (hb.cell (p := ⟨b, off + j * 3, none⟩) h2).trans h3, (hb.cell (p := ⟨b, off + j * 3 + 1, none⟩) h2).trans h4, (hb.cell (p := ⟨b, off + j * 3 + 2, none⟩) h2).trans h5⟩
/-- While calls are made: both lists of frames are one. -/
structure Ru (w : World) (A : Option Addr) (c : Nat) (B : Option Addr) (d : Nat) (l : List Fr) (W : World) : Prop where
  below : Below w.heap.size w W
  x : In W A c l
  y : In W B d l
  good : Good l
theorem Ru.next {w W W' : World} {A B : Option Addr} {c d : Nat} {l : List Fr} (h : Ru w A c B d l W) (hb : Below W.heap.size W W') : Ru w A c B d l W' :=
  ⟨h.below.trans (hb.mono h.below.size), h.x.next hb, h.y.next hb, h.good⟩
end Go.Proofs.Ytphcffbbdpbkfaa.frames
