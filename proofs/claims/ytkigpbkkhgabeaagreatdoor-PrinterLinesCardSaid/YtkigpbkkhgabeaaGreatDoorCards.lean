/-
  DERIVED. GIVEN WITH THE SEED: THE CARDS: each row of YtkigpbkkhgabeaaGreatDoorRows.lean that lists a variable, with what it lists TIED to the program's text (the seventh form; the later family's looks); each row that meets fmt, with fmt's text TOLD by the authors' own Lean function (tested against real Go, not proved from fmt's source: count such statements apart). THE CARD IS WHAT COUNTS. Prove the row's statement (the work); the ties are given (YtkigpbkkhgabeaaGreatDoorTie.lean); close each card by the builder's one call (the guide's Derived/Test/ToyasCard.lean, 'card_holds'). Laid BY PROGRAM, IN A SANDBOX (cutbox-door.mjs). By AI agents, Wed Nov 11 2026. No macro, syntax, notation, axiom, sorry.
-/
import Derived.Test.YtkigpbkkhgabeaaGreatDoorRows
import GoSem.ClaimSeven
namespace Go.Proofs.YtkigpbkkhgabeaaGreatDoor
namespace Rows

/-- THE TIED CARD OF 'bolterlaw09.PrinterBack'. -/
def printerBackCard : Claim7 := { stood := { row := printerBackRow, standIns := [], harness := (true, "8575dd82884fbce12b700098f508763576d0110c1a0593c7a2b0e8dcca6e6d79"), looks := true }, kinds := [], alts := [], laidByText := true, laidKinds := [.data, .data, .data, .data, .pinned], laidTests := true, laidLooks := .later }
def PrinterBackCardSaid : Prop := Claim7.holds Tryz.pinned (.plain (OpenSpec.ofChange printerBackSpec)) printerBackCard

/-- THE TIED CARD OF 'bolterlaw09.PrinterPlain'. -/
def printerPlainCard : Claim7 := { stood := { row := printerPlainRow, standIns := [], harness := (true, "8575dd82884fbce12b700098f508763576d0110c1a0593c7a2b0e8dcca6e6d79"), looks := true }, kinds := [], alts := [], laidByText := true, laidKinds := [.data, .data, .data, .data, .pinned], laidTests := true, laidLooks := .later }
def PrinterPlainCardSaid : Prop := Claim7.holds Tryz.pinned (.plain (OpenSpec.ofChange printerPlainSpec)) printerPlainCard

/-- THE TIED CARD OF 'bolterlaw09.PrinterQuotes'. -/
def printerQuotesCard : Claim7 := { stood := { row := printerQuotesRow, standIns := [], harness := (true, "8575dd82884fbce12b700098f508763576d0110c1a0593c7a2b0e8dcca6e6d79"), looks := true }, kinds := [], alts := [], laidByText := true, laidKinds := [.data, .data, .data, .data, .pinned], laidTests := true, laidLooks := .later }
def PrinterQuotesCardSaid : Prop := Claim7.holds Tryz.pinned (.plain (OpenSpec.ofChange printerQuotesSpec)) printerQuotesCard

/-- THE TIED CARD OF 'bolterlaw09.PrinterLines'. -/
def printerLinesCard : Claim7 := { stood := { row := printerLinesRow, standIns := [], harness := (true, "8575dd82884fbce12b700098f508763576d0110c1a0593c7a2b0e8dcca6e6d79"), looks := true }, kinds := [], alts := [], laidByText := true, laidKinds := [.data, .data, .data, .data, .pinned], laidTests := true, laidLooks := .later }
def PrinterLinesCardSaid : Prop := Claim7.holds Tryz.pinned (.plain (OpenSpec.ofChange printerLinesSpec)) printerLinesCard

/-- THE TIED CARD OF 'bolterlaw09.PrinterWidth'. -/
def printerWidthCard : Claim7 := { stood := { row := printerWidthRow, standIns := [], harness := (true, "8575dd82884fbce12b700098f508763576d0110c1a0593c7a2b0e8dcca6e6d79"), looks := true }, kinds := [], alts := [], laidByText := true, laidKinds := [.data, .data, .data, .data, .pinned], laidTests := true, laidLooks := .later }
def PrinterWidthCardSaid : Prop := Claim7.holds Tryz.pinned (.plain (OpenSpec.ofChange printerWidthSpec)) printerWidthCard

/-- THE SECOND FORM's CARD OF 'bolterlaw09.PrinterBack'. -/
def printerBackUptoCard : Claim7 := { stood := { row := printerBackUptoRow, standIns := [], harness := (true, "8575dd82884fbce12b700098f508763576d0110c1a0593c7a2b0e8dcca6e6d79"), looks := true }, kinds := [], alts := [], laidByText := true, laidKinds := [.data, .data, .data, .data, .pinned], laidTests := true, laidLooks := .later }
def PrinterBackUptoCardSaid : Prop := Claim7.holds Tryz.pinned (.plain (OpenSpec.upto printerBackSpec)) printerBackUptoCard

/-- THE SECOND FORM's CARD OF 'bolterlaw09.PrinterPlain'. -/
def printerPlainUptoCard : Claim7 := { stood := { row := printerPlainUptoRow, standIns := [], harness := (true, "8575dd82884fbce12b700098f508763576d0110c1a0593c7a2b0e8dcca6e6d79"), looks := true }, kinds := [], alts := [], laidByText := true, laidKinds := [.data, .data, .data, .data, .pinned], laidTests := true, laidLooks := .later }
def PrinterPlainUptoCardSaid : Prop := Claim7.holds Tryz.pinned (.plain (OpenSpec.upto printerPlainSpec)) printerPlainUptoCard

/-- THE SECOND FORM's CARD OF 'bolterlaw09.PrinterQuotes'. -/
def printerQuotesUptoCard : Claim7 := { stood := { row := printerQuotesUptoRow, standIns := [], harness := (true, "8575dd82884fbce12b700098f508763576d0110c1a0593c7a2b0e8dcca6e6d79"), looks := true }, kinds := [], alts := [], laidByText := true, laidKinds := [.data, .data, .data, .data, .pinned], laidTests := true, laidLooks := .later }
def PrinterQuotesUptoCardSaid : Prop := Claim7.holds Tryz.pinned (.plain (OpenSpec.upto printerQuotesSpec)) printerQuotesUptoCard

/-- THE SECOND FORM's CARD OF 'bolterlaw09.PrinterLines'. -/
def printerLinesUptoCard : Claim7 := { stood := { row := printerLinesUptoRow, standIns := [], harness := (true, "8575dd82884fbce12b700098f508763576d0110c1a0593c7a2b0e8dcca6e6d79"), looks := true }, kinds := [], alts := [], laidByText := true, laidKinds := [.data, .data, .data, .data, .pinned], laidTests := true, laidLooks := .later }
def PrinterLinesUptoCardSaid : Prop := Claim7.holds Tryz.pinned (.plain (OpenSpec.upto printerLinesSpec)) printerLinesUptoCard

/-- THE SECOND FORM's CARD OF 'bolterlaw09.PrinterWidth'. -/
def printerWidthUptoCard : Claim7 := { stood := { row := printerWidthUptoRow, standIns := [], harness := (true, "8575dd82884fbce12b700098f508763576d0110c1a0593c7a2b0e8dcca6e6d79"), looks := true }, kinds := [], alts := [], laidByText := true, laidKinds := [.data, .data, .data, .data, .pinned], laidTests := true, laidLooks := .later }
def PrinterWidthUptoCardSaid : Prop := Claim7.holds Tryz.pinned (.plain (OpenSpec.upto printerWidthSpec)) printerWidthUptoCard
end Rows
end Go.Proofs.YtkigpbkkhgabeaaGreatDoor
