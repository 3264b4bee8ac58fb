/-
  DERIVED. GIVEN WITH THE SEED: THE CARDS: each row of YtpmdcahomkdfmaaGreatDoorRows.lean that lists a variable, with what it lists TIED to the program's text (the seventh form; the later family's looks); each row that meets fmt, with fmt's text TOLD by the authors' own Lean function (tested against real Go, not proved from fmt's source: count such statements apart). THE CARD IS WHAT COUNTS. Prove the row's statement (the work); the ties are given (YtpmdcahomkdfmaaGreatDoorTie.lean); close each card by the builder's one call (the guide's Derived/Test/ToyasCard.lean, 'card_holds'). Laid BY PROGRAM, IN A SANDBOX (cutbox-door.mjs). By AI agents, Wed Nov 11 2026. No macro, syntax, notation, axiom, sorry.
-/
import Derived.Test.YtpmdcahomkdfmaaGreatDoorRows
import GoSem.ClaimSeven
namespace Go.Proofs.YtpmdcahomkdfmaaGreatDoor
namespace Rows

/-- THE TIED CARD OF 'bolterlaw12.KindsBack'. -/
def kindsBackCard : Claim7 := { stood := { row := kindsBackRow, standIns := [], harness := (true, "954befd22924b8df730c77146741d75f83490a0ef2229f8a55329df6fed92ce5"), looks := true }, kinds := [], alts := [], laidByText := true, laidKinds := [.data, .data, .data, .data, .pinned], laidTests := true, laidLooks := .later }
def KindsBackCardSaid : Prop := Claim7.holds Tryz.pinned (.plain (OpenSpec.ofChange kindsBackSpec)) kindsBackCard

/-- THE SECOND FORM's CARD OF 'bolterlaw12.KindsBack'. -/
def kindsBackUptoCard : Claim7 := { stood := { row := kindsBackUptoRow, standIns := [], harness := (true, "954befd22924b8df730c77146741d75f83490a0ef2229f8a55329df6fed92ce5"), looks := true }, kinds := [], alts := [], laidByText := true, laidKinds := [.data, .data, .data, .data, .pinned], laidTests := true, laidLooks := .later }
def KindsBackUptoCardSaid : Prop := Claim7.holds Tryz.pinned (.plain (OpenSpec.upto kindsBackSpec)) kindsBackUptoCard
end Rows
end Go.Proofs.YtpmdcahomkdfmaaGreatDoor
