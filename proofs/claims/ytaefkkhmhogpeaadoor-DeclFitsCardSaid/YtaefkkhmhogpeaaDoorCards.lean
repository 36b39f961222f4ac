/-
  DERIVED. GIVEN WITH THE SEED: THE CARDS: each row of YtaefkkhmhogpeaaDoorRows.lean that lists a variable, with what it lists TIED to the program's text (the seventh form; the later family's looks); each row that meets fmt, with fmt's text TOLD by the authors' own Lean function (tested against real Go, not proved from fmt's source: count such statements apart). THE CARD IS WHAT COUNTS. Prove the row's statement (the work); the ties are given (YtaefkkhmhogpeaaDoorTie.lean); close each card by the builder's one call (the guide's Derived/Test/ToyasCard.lean, 'card_holds'). Laid BY PROGRAM, IN A SANDBOX (cutbox-door.mjs). By AI agents, Wed Nov 11 2026. No macro, syntax, notation, axiom, sorry.
-/
import Derived.Test.YtaefkkhmhogpeaaDoorRows
import GoSem.ClaimSeven
namespace Go.Proofs.YtaefkkhmhogpeaaDoor
namespace Rows

/-- THE TIED CARD OF 'logjamlaw07.InsChecks'. -/
def insChecksCard : Claim7 := { stood := { row := insChecksRow, standIns := [], harness := (true, "18c7d5daf243ce6318a06bf7d4b818e60fc554e3e8de3b911dcc78cf6c2a6da7"), looks := false }, kinds := [], alts := [], laidByText := true, laidKinds := [.data], laidTests := true, laidLooks := .later }
def InsChecksCardSaid : Prop := Claim7.holds Tryd.pinned (.plain (OpenSpec.ofChange insChecksSpec)) insChecksCard

/-- THE TIED CARD OF 'logjamlaw07.InsGets'. -/
def insGetsCard : Claim7 := { stood := { row := insGetsRow, standIns := [], harness := (true, "18c7d5daf243ce6318a06bf7d4b818e60fc554e3e8de3b911dcc78cf6c2a6da7"), looks := false }, kinds := [], alts := [], laidByText := true, laidKinds := [.data], laidTests := true, laidLooks := .later }
def InsGetsCardSaid : Prop := Claim7.holds Tryd.pinned (.plain (OpenSpec.ofChange insGetsSpec)) insGetsCard

/-- THE TIED CARD OF 'logjamlaw07.InsBack'. -/
def insBackCard : Claim7 := { stood := { row := insBackRow, standIns := [], harness := (true, "18c7d5daf243ce6318a06bf7d4b818e60fc554e3e8de3b911dcc78cf6c2a6da7"), looks := false }, kinds := [], alts := [], laidByText := true, laidKinds := [.data], laidTests := true, laidLooks := .later }
def InsBackCardSaid : Prop := Claim7.holds Tryd.pinned (.plain (OpenSpec.ofChange insBackSpec)) insBackCard

/-- THE TIED CARD OF 'logjamlaw07.InsOnce'. -/
def insOnceCard : Claim7 := { stood := { row := insOnceRow, standIns := [], harness := (true, "18c7d5daf243ce6318a06bf7d4b818e60fc554e3e8de3b911dcc78cf6c2a6da7"), looks := false }, kinds := [], alts := [], laidByText := true, laidKinds := [.data], laidTests := true, laidLooks := .later }
def InsOnceCardSaid : Prop := Claim7.holds Tryd.pinned (.plain (OpenSpec.ofChange insOnceSpec)) insOnceCard

/-- THE TIED CARD OF 'logjamlaw08.DeclChecks'. -/
def declChecksCard : Claim7 := { stood := { row := declChecksRow, standIns := [], harness := (true, "18c7d5daf243ce6318a06bf7d4b818e60fc554e3e8de3b911dcc78cf6c2a6da7"), looks := false }, kinds := [], alts := [], laidByText := true, laidKinds := [.data], laidTests := true, laidLooks := .later }
def DeclChecksCardSaid : Prop := Claim7.holds Tryd.pinned (.plain (OpenSpec.ofChange declChecksSpec)) declChecksCard

/-- THE TIED CARD OF 'logjamlaw08.DeclGets'. -/
def declGetsCard : Claim7 := { stood := { row := declGetsRow, standIns := [], harness := (true, "18c7d5daf243ce6318a06bf7d4b818e60fc554e3e8de3b911dcc78cf6c2a6da7"), looks := false }, kinds := [], alts := [], laidByText := true, laidKinds := [.data], laidTests := true, laidLooks := .later }
def DeclGetsCardSaid : Prop := Claim7.holds Tryd.pinned (.plain (OpenSpec.ofChange declGetsSpec)) declGetsCard

/-- THE TIED CARD OF 'logjamlaw08.DeclBack'. -/
def declBackCard : Claim7 := { stood := { row := declBackRow, standIns := [], harness := (true, "18c7d5daf243ce6318a06bf7d4b818e60fc554e3e8de3b911dcc78cf6c2a6da7"), looks := false }, kinds := [], alts := [], laidByText := true, laidKinds := [.data], laidTests := true, laidLooks := .later }
def DeclBackCardSaid : Prop := Claim7.holds Tryd.pinned (.plain (OpenSpec.ofChange declBackSpec)) declBackCard

/-- THE TIED CARD OF 'logjamlaw08.DeclOnce'. -/
def declOnceCard : Claim7 := { stood := { row := declOnceRow, standIns := [], harness := (true, "18c7d5daf243ce6318a06bf7d4b818e60fc554e3e8de3b911dcc78cf6c2a6da7"), looks := false }, kinds := [], alts := [], laidByText := true, laidKinds := [.data], laidTests := true, laidLooks := .later }
def DeclOnceCardSaid : Prop := Claim7.holds Tryd.pinned (.plain (OpenSpec.ofChange declOnceSpec)) declOnceCard

/-- THE TIED CARD OF 'logjamlaw08.DeclFits'. -/
def declFitsCard : Claim7 := { stood := { row := declFitsRow, standIns := [], harness := (true, "18c7d5daf243ce6318a06bf7d4b818e60fc554e3e8de3b911dcc78cf6c2a6da7"), looks := false }, kinds := [], alts := [], laidByText := true, laidKinds := [.data], laidTests := true, laidLooks := .later }
def DeclFitsCardSaid : Prop := Claim7.holds Tryd.pinned (.plain (OpenSpec.ofChange declFitsSpec)) declFitsCard

/-- THE SECOND FORM's CARD OF 'logjamlaw07.InsChecks'. -/
def insChecksUptoCard : Claim7 := { stood := { row := insChecksUptoRow, standIns := [], harness := (true, "18c7d5daf243ce6318a06bf7d4b818e60fc554e3e8de3b911dcc78cf6c2a6da7"), looks := false }, kinds := [], alts := [], laidByText := true, laidKinds := [.data], laidTests := true, laidLooks := .later }
def InsChecksUptoCardSaid : Prop := Claim7.holds Tryd.pinned (.plain (OpenSpec.upto insChecksSpec)) insChecksUptoCard

/-- THE SECOND FORM's CARD OF 'logjamlaw07.InsGets'. -/
def insGetsUptoCard : Claim7 := { stood := { row := insGetsUptoRow, standIns := [], harness := (true, "18c7d5daf243ce6318a06bf7d4b818e60fc554e3e8de3b911dcc78cf6c2a6da7"), looks := false }, kinds := [], alts := [], laidByText := true, laidKinds := [.data], laidTests := true, laidLooks := .later }
def InsGetsUptoCardSaid : Prop := Claim7.holds Tryd.pinned (.plain (OpenSpec.upto insGetsSpec)) insGetsUptoCard

/-- THE SECOND FORM's CARD OF 'logjamlaw07.InsBack'. -/
def insBackUptoCard : Claim7 := { stood := { row := insBackUptoRow, standIns := [], harness := (true, "18c7d5daf243ce6318a06bf7d4b818e60fc554e3e8de3b911dcc78cf6c2a6da7"), looks := false }, kinds := [], alts := [], laidByText := true, laidKinds := [.data], laidTests := true, laidLooks := .later }
def InsBackUptoCardSaid : Prop := Claim7.holds Tryd.pinned (.plain (OpenSpec.upto insBackSpec)) insBackUptoCard

/-- THE SECOND FORM's CARD OF 'logjamlaw07.InsOnce'. -/
def insOnceUptoCard : Claim7 := { stood := { row := insOnceUptoRow, standIns := [], harness := (true, "18c7d5daf243ce6318a06bf7d4b818e60fc554e3e8de3b911dcc78cf6c2a6da7"), looks := false }, kinds := [], alts := [], laidByText := true, laidKinds := [.data], laidTests := true, laidLooks := .later }
def InsOnceUptoCardSaid : Prop := Claim7.holds Tryd.pinned (.plain (OpenSpec.upto insOnceSpec)) insOnceUptoCard

/-- THE SECOND FORM's CARD OF 'logjamlaw08.DeclChecks'. -/
def declChecksUptoCard : Claim7 := { stood := { row := declChecksUptoRow, standIns := [], harness := (true, "18c7d5daf243ce6318a06bf7d4b818e60fc554e3e8de3b911dcc78cf6c2a6da7"), looks := false }, kinds := [], alts := [], laidByText := true, laidKinds := [.data], laidTests := true, laidLooks := .later }
def DeclChecksUptoCardSaid : Prop := Claim7.holds Tryd.pinned (.plain (OpenSpec.upto declChecksSpec)) declChecksUptoCard

/-- THE SECOND FORM's CARD OF 'logjamlaw08.DeclGets'. -/
def declGetsUptoCard : Claim7 := { stood := { row := declGetsUptoRow, standIns := [], harness := (true, "18c7d5daf243ce6318a06bf7d4b818e60fc554e3e8de3b911dcc78cf6c2a6da7"), looks := false }, kinds := [], alts := [], laidByText := true, laidKinds := [.data], laidTests := true, laidLooks := .later }
def DeclGetsUptoCardSaid : Prop := Claim7.holds Tryd.pinned (.plain (OpenSpec.upto declGetsSpec)) declGetsUptoCard

/-- THE SECOND FORM's CARD OF 'logjamlaw08.DeclBack'. -/
def declBackUptoCard : Claim7 := { stood := { row := declBackUptoRow, standIns := [], harness := (true, "18c7d5daf243ce6318a06bf7d4b818e60fc554e3e8de3b911dcc78cf6c2a6da7"), looks := false }, kinds := [], alts := [], laidByText := true, laidKinds := [.data], laidTests := true, laidLooks := .later }
def DeclBackUptoCardSaid : Prop := Claim7.holds Tryd.pinned (.plain (OpenSpec.upto declBackSpec)) declBackUptoCard

/-- THE SECOND FORM's CARD OF 'logjamlaw08.DeclOnce'. -/
def declOnceUptoCard : Claim7 := { stood := { row := declOnceUptoRow, standIns := [], harness := (true, "18c7d5daf243ce6318a06bf7d4b818e60fc554e3e8de3b911dcc78cf6c2a6da7"), looks := false }, kinds := [], alts := [], laidByText := true, laidKinds := [.data], laidTests := true, laidLooks := .later }
def DeclOnceUptoCardSaid : Prop := Claim7.holds Tryd.pinned (.plain (OpenSpec.upto declOnceSpec)) declOnceUptoCard

/-- THE SECOND FORM's CARD OF 'logjamlaw08.DeclFits'. -/
def declFitsUptoCard : Claim7 := { stood := { row := declFitsUptoRow, standIns := [], harness := (true, "18c7d5daf243ce6318a06bf7d4b818e60fc554e3e8de3b911dcc78cf6c2a6da7"), looks := false }, kinds := [], alts := [], laidByText := true, laidKinds := [.data], laidTests := true, laidLooks := .later }
def DeclFitsUptoCardSaid : Prop := Claim7.holds Tryd.pinned (.plain (OpenSpec.upto declFitsSpec)) declFitsUptoCard
end Rows
end Go.Proofs.YtaefkkhmhogpeaaDoor
