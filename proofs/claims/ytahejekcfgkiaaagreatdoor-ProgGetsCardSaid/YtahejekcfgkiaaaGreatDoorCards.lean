/-
  DERIVED. GIVEN WITH THE SEED: THE CARDS: each row of YtahejekcfgkiaaaGreatDoorRows.lean that lists a variable, with what it lists TIED to the program's text (the seventh form; the later family's looks); each row that meets fmt, with fmt's text TOLD by the authors' own Lean function (tested against real Go, not proved from fmt's source: count such statements apart). THE CARD IS WHAT COUNTS. Prove the row's statement (the work); the ties are given (YtahejekcfgkiaaaGreatDoorTie.lean); close each card by the builder's one call (the guide's Derived/Test/ToyasCard.lean, 'card_holds'). Laid BY PROGRAM, IN A SANDBOX (cutbox-door.mjs). By AI agents, Wed Nov 11 2026. No macro, syntax, notation, axiom, sorry.
-/
import Derived.Test.YtahejekcfgkiaaaGreatDoorRows
import GoSem.ClaimSeven
namespace Go.Proofs.YtahejekcfgkiaaaGreatDoor
namespace Rows

/-- THE TIED CARD OF 'logjamlaw10.ProgChecks'. -/
def progChecksCard : Claim7 := { stood := { row := progChecksRow, standIns := [], harness := (true, "23aa02683b09e122893a9dafc343aa26d928066003c7f78173345dc29e2753bb"), looks := true }, kinds := [], alts := [], laidByText := true, laidKinds := [.data, .data, .data], laidTests := true, laidLooks := .later }
def ProgChecksCardSaid : Prop := Claim7.holds Tryz.pinned (.plain (OpenSpec.ofChange progChecksSpec)) progChecksCard

/-- THE TIED CARD OF 'logjamlaw10.ProgGets'. -/
def progGetsCard : Claim7 := { stood := { row := progGetsRow, standIns := [], harness := (true, "23aa02683b09e122893a9dafc343aa26d928066003c7f78173345dc29e2753bb"), looks := true }, kinds := [], alts := [], laidByText := true, laidKinds := [.data, .data, .data], laidTests := true, laidLooks := .later }
def ProgGetsCardSaid : Prop := Claim7.holds Tryz.pinned (.plain (OpenSpec.ofChange progGetsSpec)) progGetsCard

/-- THE TIED CARD OF 'logjamlaw10.ProgBack'. -/
def progBackCard : Claim7 := { stood := { row := progBackRow, standIns := [], harness := (true, "23aa02683b09e122893a9dafc343aa26d928066003c7f78173345dc29e2753bb"), looks := true }, kinds := [], alts := [], laidByText := true, laidKinds := [.data, .data, .data], laidTests := true, laidLooks := .later }
def ProgBackCardSaid : Prop := Claim7.holds Tryz.pinned (.plain (OpenSpec.ofChange progBackSpec)) progBackCard

/-- THE SECOND FORM's CARD OF 'logjamlaw10.ProgChecks'. -/
def progChecksUptoCard : Claim7 := { stood := { row := progChecksUptoRow, standIns := [], harness := (true, "23aa02683b09e122893a9dafc343aa26d928066003c7f78173345dc29e2753bb"), looks := true }, kinds := [], alts := [], laidByText := true, laidKinds := [.data, .data, .data], laidTests := true, laidLooks := .later }
def ProgChecksUptoCardSaid : Prop := Claim7.holds Tryz.pinned (.plain (OpenSpec.upto progChecksSpec)) progChecksUptoCard

/-- THE SECOND FORM's CARD OF 'logjamlaw10.ProgGets'. -/
def progGetsUptoCard : Claim7 := { stood := { row := progGetsUptoRow, standIns := [], harness := (true, "23aa02683b09e122893a9dafc343aa26d928066003c7f78173345dc29e2753bb"), looks := true }, kinds := [], alts := [], laidByText := true, laidKinds := [.data, .data, .data], laidTests := true, laidLooks := .later }
def ProgGetsUptoCardSaid : Prop := Claim7.holds Tryz.pinned (.plain (OpenSpec.upto progGetsSpec)) progGetsUptoCard

/-- THE SECOND FORM's CARD OF 'logjamlaw10.ProgBack'. -/
def progBackUptoCard : Claim7 := { stood := { row := progBackUptoRow, standIns := [], harness := (true, "23aa02683b09e122893a9dafc343aa26d928066003c7f78173345dc29e2753bb"), looks := true }, kinds := [], alts := [], laidByText := true, laidKinds := [.data, .data, .data], laidTests := true, laidLooks := .later }
def ProgBackUptoCardSaid : Prop := Claim7.holds Tryz.pinned (.plain (OpenSpec.upto progBackSpec)) progBackUptoCard
end Rows
end Go.Proofs.YtahejekcfgkiaaaGreatDoor
