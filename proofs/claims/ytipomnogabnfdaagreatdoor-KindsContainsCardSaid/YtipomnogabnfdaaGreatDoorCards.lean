/-
  DERIVED. GIVEN WITH THE SEED: THE CARDS: each row of YtipomnogabnfdaaGreatDoorRows.lean that lists a variable, with what it lists TIED to the program's text (the seventh form; the later family's looks); each row that meets fmt, with fmt's text TOLD by the authors' own Lean function (tested against real Go, not proved from fmt's source: count such statements apart). THE CARD IS WHAT COUNTS. Prove the row's statement (the work); the ties are given (YtipomnogabnfdaaGreatDoorTie.lean); close each card by the builder's one call (the guide's Derived/Test/ToyasCard.lean, 'card_holds'). Laid BY PROGRAM, IN A SANDBOX (cutbox-door.mjs). By AI agents, Wed Nov 11 2026. No macro, syntax, notation, axiom, sorry.
-/
import Derived.Test.YtipomnogabnfdaaGreatDoorRows
import GoSem.ClaimSeven
namespace Go.Proofs.YtipomnogabnfdaaGreatDoor
namespace Rows

/-- THE TIED CARD OF 'bolterlaw12.KindsContains'. -/
def kindsContainsCard : Claim7 := { stood := { row := kindsContainsRow, standIns := [], harness := (true, "bd2056c927a2de39e35c88fa9f7e9e0a67f0fe1e42ee3114108a4d94301d72f8"), looks := true }, kinds := [], alts := [], laidByText := true, laidKinds := [.data, .pinned], laidTests := true, laidLooks := .later }
def KindsContainsCardSaid : Prop := Claim7.holds Tryz.pinned (.plain (OpenSpec.ofChange kindsContainsSpec)) kindsContainsCard

/-- THE TIED CARD OF 'bolterlaw12.KindsBack'. -/
def kindsBackCard : Claim7 := { stood := { row := kindsBackRow, standIns := [], harness := (true, "bd2056c927a2de39e35c88fa9f7e9e0a67f0fe1e42ee3114108a4d94301d72f8"), looks := true }, kinds := [], alts := [], laidByText := true, laidKinds := [.data, .data, .data, .data, .pinned], laidTests := true, laidLooks := .later }
def KindsBackCardSaid : Prop := Claim7.holds Tryz.pinned (.plain (OpenSpec.ofChange kindsBackSpec)) kindsBackCard

/-- THE SECOND FORM's CARD OF 'bolterlaw12.KindsContains'. -/
def kindsContainsUptoCard : Claim7 := { stood := { row := kindsContainsUptoRow, standIns := [], harness := (true, "bd2056c927a2de39e35c88fa9f7e9e0a67f0fe1e42ee3114108a4d94301d72f8"), looks := true }, kinds := [], alts := [], laidByText := true, laidKinds := [.data, .pinned], laidTests := true, laidLooks := .later }
def KindsContainsUptoCardSaid : Prop := Claim7.holds Tryz.pinned (.plain (OpenSpec.upto kindsContainsSpec)) kindsContainsUptoCard

/-- THE SECOND FORM's CARD OF 'bolterlaw12.KindsBack'. -/
def kindsBackUptoCard : Claim7 := { stood := { row := kindsBackUptoRow, standIns := [], harness := (true, "bd2056c927a2de39e35c88fa9f7e9e0a67f0fe1e42ee3114108a4d94301d72f8"), looks := true }, kinds := [], alts := [], laidByText := true, laidKinds := [.data, .data, .data, .data, .pinned], laidTests := true, laidLooks := .later }
def KindsBackUptoCardSaid : Prop := Claim7.holds Tryz.pinned (.plain (OpenSpec.upto kindsBackSpec)) kindsBackUptoCard
end Rows
end Go.Proofs.YtipomnogabnfdaaGreatDoor
