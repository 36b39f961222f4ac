/-
  DERIVED. GIVEN WITH THE SEED: THE CARDS: each row of YtfkcmdnnmnkklaaDoorRows.lean that lists a variable, with what it lists TIED to the program's text (the seventh form; the later family's looks); each row that meets fmt, with fmt's text TOLD by the authors' own Lean function (tested against real Go, not proved from fmt's source: count such statements apart). THE CARD IS WHAT COUNTS. Prove the row's statement (the work); the ties are given (YtfkcmdnnmnkklaaDoorTie.lean); close each card by the builder's one call (the guide's Derived/Test/ToyasCard.lean, 'card_holds'). Laid BY PROGRAM, IN A SANDBOX (cutbox-door.mjs). By AI agents, Wed Nov 11 2026. No macro, syntax, notation, axiom, sorry.
-/
import Derived.Test.YtfkcmdnnmnkklaaDoorRows
import GoSem.ClaimSeven
namespace Go.Proofs.YtfkcmdnnmnkklaaDoor
namespace Rows

/-- THE TIED CARD OF 'logjamlaw09.NeedChecks'. -/
def needChecksCard : Claim7 := { stood := { row := needChecksRow, standIns := [], harness := (true, "c125712821e87359cd4cdc9ff6ac9972c77c8f154cc8723547f9496413e05693"), looks := true }, kinds := [], alts := [], laidByText := true, laidKinds := [.data, .data, .data, .data, .data], laidTests := true, laidLooks := .later }
def NeedChecksCardSaid : Prop := Claim7.holds Tryd.pinned (.plain (OpenSpec.ofChange needChecksSpec)) needChecksCard

/-- THE TIED CARD OF 'logjamlaw09.NeedGets'. -/
def needGetsCard : Claim7 := { stood := { row := needGetsRow, standIns := [], harness := (true, "c125712821e87359cd4cdc9ff6ac9972c77c8f154cc8723547f9496413e05693"), looks := true }, kinds := [], alts := [], laidByText := true, laidKinds := [.data, .data, .data, .data, .data], laidTests := true, laidLooks := .later }
def NeedGetsCardSaid : Prop := Claim7.holds Tryd.pinned (.plain (OpenSpec.ofChange needGetsSpec)) needGetsCard

/-- THE TIED CARD OF 'logjamlaw09.NeedBack'. -/
def needBackCard : Claim7 := { stood := { row := needBackRow, standIns := [], harness := (true, "c125712821e87359cd4cdc9ff6ac9972c77c8f154cc8723547f9496413e05693"), looks := true }, kinds := [], alts := [], laidByText := true, laidKinds := [.data, .data, .data, .data, .data], laidTests := true, laidLooks := .later }
def NeedBackCardSaid : Prop := Claim7.holds Tryd.pinned (.plain (OpenSpec.ofChange needBackSpec)) needBackCard

/-- THE TIED CARD OF 'logjamlaw09.NeedOnce'. -/
def needOnceCard : Claim7 := { stood := { row := needOnceRow, standIns := [], harness := (true, "c125712821e87359cd4cdc9ff6ac9972c77c8f154cc8723547f9496413e05693"), looks := true }, kinds := [], alts := [], laidByText := true, laidKinds := [.data, .data, .data, .data, .data], laidTests := true, laidLooks := .later }
def NeedOnceCardSaid : Prop := Claim7.holds Tryd.pinned (.plain (OpenSpec.ofChange needOnceSpec)) needOnceCard

/-- THE TIED CARD OF 'logjamlaw09.NeedTexts'. -/
def needTextsCard : Claim7 := { stood := { row := needTextsRow, standIns := [], harness := (true, "c125712821e87359cd4cdc9ff6ac9972c77c8f154cc8723547f9496413e05693"), looks := true }, kinds := [], alts := [], laidByText := true, laidKinds := [.data, .data, .data, .data, .data], laidTests := true, laidLooks := .later }
def NeedTextsCardSaid : Prop := Claim7.holds Tryd.pinned (.plain (OpenSpec.ofChange needTextsSpec)) needTextsCard

/-- THE TIED CARD OF 'logjamlaw10.ProgOnce'. -/
def progOnceCard : Claim7 := { stood := { row := progOnceRow, standIns := [], harness := (true, "c125712821e87359cd4cdc9ff6ac9972c77c8f154cc8723547f9496413e05693"), looks := true }, kinds := [], alts := [], laidByText := true, laidKinds := [.data, .data, .data], laidTests := true, laidLooks := .later }
def ProgOnceCardSaid : Prop := Claim7.holds Tryd.pinned (.plain (OpenSpec.ofChange progOnceSpec)) progOnceCard

/-- THE SECOND FORM's CARD OF 'logjamlaw09.NeedChecks'. -/
def needChecksUptoCard : Claim7 := { stood := { row := needChecksUptoRow, standIns := [], harness := (true, "c125712821e87359cd4cdc9ff6ac9972c77c8f154cc8723547f9496413e05693"), looks := true }, kinds := [], alts := [], laidByText := true, laidKinds := [.data, .data, .data, .data, .data], laidTests := true, laidLooks := .later }
def NeedChecksUptoCardSaid : Prop := Claim7.holds Tryd.pinned (.plain (OpenSpec.upto needChecksSpec)) needChecksUptoCard

/-- THE SECOND FORM's CARD OF 'logjamlaw09.NeedGets'. -/
def needGetsUptoCard : Claim7 := { stood := { row := needGetsUptoRow, standIns := [], harness := (true, "c125712821e87359cd4cdc9ff6ac9972c77c8f154cc8723547f9496413e05693"), looks := true }, kinds := [], alts := [], laidByText := true, laidKinds := [.data, .data, .data, .data, .data], laidTests := true, laidLooks := .later }
def NeedGetsUptoCardSaid : Prop := Claim7.holds Tryd.pinned (.plain (OpenSpec.upto needGetsSpec)) needGetsUptoCard

/-- THE SECOND FORM's CARD OF 'logjamlaw09.NeedBack'. -/
def needBackUptoCard : Claim7 := { stood := { row := needBackUptoRow, standIns := [], harness := (true, "c125712821e87359cd4cdc9ff6ac9972c77c8f154cc8723547f9496413e05693"), looks := true }, kinds := [], alts := [], laidByText := true, laidKinds := [.data, .data, .data, .data, .data], laidTests := true, laidLooks := .later }
def NeedBackUptoCardSaid : Prop := Claim7.holds Tryd.pinned (.plain (OpenSpec.upto needBackSpec)) needBackUptoCard

/-- THE SECOND FORM's CARD OF 'logjamlaw09.NeedOnce'. -/
def needOnceUptoCard : Claim7 := { stood := { row := needOnceUptoRow, standIns := [], harness := (true, "c125712821e87359cd4cdc9ff6ac9972c77c8f154cc8723547f9496413e05693"), looks := true }, kinds := [], alts := [], laidByText := true, laidKinds := [.data, .data, .data, .data, .data], laidTests := true, laidLooks := .later }
def NeedOnceUptoCardSaid : Prop := Claim7.holds Tryd.pinned (.plain (OpenSpec.upto needOnceSpec)) needOnceUptoCard

/-- THE SECOND FORM's CARD OF 'logjamlaw09.NeedTexts'. -/
def needTextsUptoCard : Claim7 := { stood := { row := needTextsUptoRow, standIns := [], harness := (true, "c125712821e87359cd4cdc9ff6ac9972c77c8f154cc8723547f9496413e05693"), looks := true }, kinds := [], alts := [], laidByText := true, laidKinds := [.data, .data, .data, .data, .data], laidTests := true, laidLooks := .later }
def NeedTextsUptoCardSaid : Prop := Claim7.holds Tryd.pinned (.plain (OpenSpec.upto needTextsSpec)) needTextsUptoCard

/-- THE SECOND FORM's CARD OF 'logjamlaw10.ProgOnce'. -/
def progOnceUptoCard : Claim7 := { stood := { row := progOnceUptoRow, standIns := [], harness := (true, "c125712821e87359cd4cdc9ff6ac9972c77c8f154cc8723547f9496413e05693"), looks := true }, kinds := [], alts := [], laidByText := true, laidKinds := [.data, .data, .data], laidTests := true, laidLooks := .later }
def ProgOnceUptoCardSaid : Prop := Claim7.holds Tryd.pinned (.plain (OpenSpec.upto progOnceSpec)) progOnceUptoCard
end Rows
end Go.Proofs.YtfkcmdnnmnkklaaDoor
