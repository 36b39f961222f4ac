/-
  DERIVED. GIVEN WITH THE SEED: THE CARDS: each row of YtjbcmedljgafkaaDoorRows.lean that lists a variable, with what it lists TIED to the program's text (the seventh form; the later family's looks); each row that meets fmt, with fmt's text TOLD by the authors' own Lean function (tested against real Go, not proved from fmt's source: count such statements apart). THE CARD IS WHAT COUNTS. Prove the row's statement (the work); the ties are given (YtjbcmedljgafkaaDoorTie.lean); close each card by the builder's one call (the guide's Derived/Test/ToyasCard.lean, 'card_holds'). Laid BY PROGRAM, IN A SANDBOX (cutbox-door.mjs). By AI agents, Wed Nov 11 2026. No macro, syntax, notation, axiom, sorry.
-/
import Derived.Test.YtjbcmedljgafkaaDoorRows
import GoSem.ClaimSeven
namespace Go.Proofs.YtjbcmedljgafkaaDoor
namespace Rows

/-- THE TIED CARD OF 'logjamlaw15.ExecDoes'. -/
def execDoesCard : Claim7 := { stood := { row := execDoesRow, standIns := [], harness := (true, "3ba536e761ba7c8aea8a205f3fd7d4b7ddc4b42594f4d01b15bbb7af3ac361b7"), looks := false }, kinds := [], alts := [], laidByText := true, laidKinds := [.data], laidTests := true, laidLooks := .later }
def ExecDoesCardSaid : Prop := Claim7.holds Tryd.pinned (.plain (OpenSpec.ofChange execDoesSpec)) execDoesCard

/-- THE TIED CARD OF 'logjamlaw15.ExecGoes'. -/
def execGoesCard : Claim7 := { stood := { row := execGoesRow, standIns := [], harness := (true, "3ba536e761ba7c8aea8a205f3fd7d4b7ddc4b42594f4d01b15bbb7af3ac361b7"), looks := false }, kinds := [], alts := [], laidByText := true, laidKinds := [.data], laidTests := true, laidLooks := .later }
def ExecGoesCardSaid : Prop := Claim7.holds Tryd.pinned (.plain (OpenSpec.ofChange execGoesSpec)) execGoesCard

/-- THE TIED CARD OF 'logjamlaw15.ExecOdd'. -/
def execOddCard : Claim7 := { stood := { row := execOddRow, standIns := [], harness := (true, "3ba536e761ba7c8aea8a205f3fd7d4b7ddc4b42594f4d01b15bbb7af3ac361b7"), looks := false }, kinds := [], alts := [], laidByText := true, laidKinds := [.data], laidTests := true, laidLooks := .later }
def ExecOddCardSaid : Prop := Claim7.holds Tryd.pinned (.plain (OpenSpec.ofChange execOddSpec)) execOddCard

/-- THE TIED CARD OF 'logjamlaw15.ExecPure'. -/
def execPureCard : Claim7 := { stood := { row := execPureRow, standIns := [], harness := (true, "3ba536e761ba7c8aea8a205f3fd7d4b7ddc4b42594f4d01b15bbb7af3ac361b7"), looks := false }, kinds := [], alts := [], laidByText := true, laidKinds := [.data], laidTests := true, laidLooks := .later }
def ExecPureCardSaid : Prop := Claim7.holds Tryd.pinned (.plain (OpenSpec.ofChange execPureSpec)) execPureCard

/-- THE SECOND FORM's CARD OF 'logjamlaw15.ExecDoes'. -/
def execDoesUptoCard : Claim7 := { stood := { row := execDoesUptoRow, standIns := [], harness := (true, "3ba536e761ba7c8aea8a205f3fd7d4b7ddc4b42594f4d01b15bbb7af3ac361b7"), looks := false }, kinds := [], alts := [], laidByText := true, laidKinds := [.data], laidTests := true, laidLooks := .later }
def ExecDoesUptoCardSaid : Prop := Claim7.holds Tryd.pinned (.plain (OpenSpec.upto execDoesSpec)) execDoesUptoCard

/-- THE SECOND FORM's CARD OF 'logjamlaw15.ExecGoes'. -/
def execGoesUptoCard : Claim7 := { stood := { row := execGoesUptoRow, standIns := [], harness := (true, "3ba536e761ba7c8aea8a205f3fd7d4b7ddc4b42594f4d01b15bbb7af3ac361b7"), looks := false }, kinds := [], alts := [], laidByText := true, laidKinds := [.data], laidTests := true, laidLooks := .later }
def ExecGoesUptoCardSaid : Prop := Claim7.holds Tryd.pinned (.plain (OpenSpec.upto execGoesSpec)) execGoesUptoCard

/-- THE SECOND FORM's CARD OF 'logjamlaw15.ExecOdd'. -/
def execOddUptoCard : Claim7 := { stood := { row := execOddUptoRow, standIns := [], harness := (true, "3ba536e761ba7c8aea8a205f3fd7d4b7ddc4b42594f4d01b15bbb7af3ac361b7"), looks := false }, kinds := [], alts := [], laidByText := true, laidKinds := [.data], laidTests := true, laidLooks := .later }
def ExecOddUptoCardSaid : Prop := Claim7.holds Tryd.pinned (.plain (OpenSpec.upto execOddSpec)) execOddUptoCard

/-- THE SECOND FORM's CARD OF 'logjamlaw15.ExecPure'. -/
def execPureUptoCard : Claim7 := { stood := { row := execPureUptoRow, standIns := [], harness := (true, "3ba536e761ba7c8aea8a205f3fd7d4b7ddc4b42594f4d01b15bbb7af3ac361b7"), looks := false }, kinds := [], alts := [], laidByText := true, laidKinds := [.data], laidTests := true, laidLooks := .later }
def ExecPureUptoCardSaid : Prop := Claim7.holds Tryd.pinned (.plain (OpenSpec.upto execPureSpec)) execPureUptoCard
end Rows
end Go.Proofs.YtjbcmedljgafkaaDoor
