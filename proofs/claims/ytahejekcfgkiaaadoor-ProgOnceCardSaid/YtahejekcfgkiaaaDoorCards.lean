/-
  DERIVED. GIVEN WITH THE SEED: THE CARDS: each row of YtahejekcfgkiaaaDoorRows.lean that lists a variable, with what it lists TIED to the program's text (the seventh form; the later family's looks); each row that meets fmt, with fmt's text TOLD by the authors' own Lean function (tested against real Go, not proved from fmt's source: count such statements apart). THE CARD IS WHAT COUNTS. Prove the row's statement (the work); the ties are given (YtahejekcfgkiaaaDoorTie.lean); close each card by the builder's one call (the guide's Derived/Test/ToyasCard.lean, 'card_holds'). Laid BY PROGRAM, IN A SANDBOX (cutbox-door.mjs). By AI agents, Wed Nov 11 2026. No macro, syntax, notation, axiom, sorry.
-/
import Derived.Test.YtahejekcfgkiaaaDoorRows
import GoSem.ClaimSeven
namespace Go.Proofs.YtahejekcfgkiaaaDoor
namespace Rows

/-- THE TIED CARD OF 'logjamlaw10.ProgOnce'. -/
def progOnceCard : Claim7 := { stood := { row := progOnceRow, standIns := [], harness := (true, "acd7a9853bd80187eb2b97a978188c7a4f349400284adfa0d4ce41970c40a6f1"), looks := true }, kinds := [], alts := [], laidByText := true, laidKinds := [.data, .data, .data], laidTests := true, laidLooks := .later }
def ProgOnceCardSaid : Prop := Claim7.holds Tryd.pinned (.plain (OpenSpec.ofChange progOnceSpec)) progOnceCard

/-- THE SECOND FORM's CARD OF 'logjamlaw10.ProgOnce'. -/
def progOnceUptoCard : Claim7 := { stood := { row := progOnceUptoRow, standIns := [], harness := (true, "acd7a9853bd80187eb2b97a978188c7a4f349400284adfa0d4ce41970c40a6f1"), looks := true }, kinds := [], alts := [], laidByText := true, laidKinds := [.data, .data, .data], laidTests := true, laidLooks := .later }
def ProgOnceUptoCardSaid : Prop := Claim7.holds Tryd.pinned (.plain (OpenSpec.upto progOnceSpec)) progOnceUptoCard
end Rows
end Go.Proofs.YtahejekcfgkiaaaDoor
