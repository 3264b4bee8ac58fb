/-
  DERIVED. GIVEN WITH THE SEED: THE CARDS: each row of YtobfeneeehmpcaaGreatDoorRows.lean that lists a variable, with what it lists TIED to the program's text (the seventh form; the later family's looks); each row that meets fmt, with fmt's text TOLD by the authors' own Lean function (tested against real Go, not proved from fmt's source: count such statements apart). THE CARD IS WHAT COUNTS. Prove the row's statement (the work); the ties are given (YtobfeneeehmpcaaGreatDoorTie.lean); close each card by the builder's one call (the guide's Derived/Test/ToyasCard.lean, 'card_holds'). Laid BY PROGRAM, IN A SANDBOX (cutbox-door.mjs). By AI agents, Wed Nov 11 2026. No macro, syntax, notation, axiom, sorry.
-/
import Derived.Test.YtobfeneeehmpcaaGreatDoorRows
import GoSem.ClaimSeven
namespace Go.Proofs.YtobfeneeehmpcaaGreatDoor
namespace Rows

/-- THE TIED CARD OF 'bolterlaw12.KindsFlat'. -/
def kindsFlatCard : Claim7 := { stood := { row := kindsFlatRow, standIns := [], harness := (true, "de387bec37a7abea70061e34dca674cd05c9db6d7ac95e85bf73c60f2ec1fd67"), looks := false }, kinds := [], alts := [], laidByText := true, laidKinds := [.data, .pinned], laidTests := true, laidLooks := .later }
def KindsFlatCardSaid : Prop := Claim7.holds Tryz.pinned (.plain (OpenSpec.ofChange kindsFlatSpec)) kindsFlatCard

/-- THE TIED CARD OF 'bolterlaw12.KindsKeys'. -/
def kindsKeysCard : Claim7 := { stood := { row := kindsKeysRow, standIns := [], harness := (true, "de387bec37a7abea70061e34dca674cd05c9db6d7ac95e85bf73c60f2ec1fd67"), looks := false }, kinds := [], alts := [], laidByText := true, laidKinds := [.data, .pinned], laidTests := true, laidLooks := .later }
def KindsKeysCardSaid : Prop := Claim7.holds Tryz.pinned (.plain (OpenSpec.ofChange kindsKeysSpec)) kindsKeysCard

/-- THE SECOND FORM's CARD OF 'bolterlaw12.KindsFlat'. -/
def kindsFlatUptoCard : Claim7 := { stood := { row := kindsFlatUptoRow, standIns := [], harness := (true, "de387bec37a7abea70061e34dca674cd05c9db6d7ac95e85bf73c60f2ec1fd67"), looks := false }, kinds := [], alts := [], laidByText := true, laidKinds := [.data, .pinned], laidTests := true, laidLooks := .later }
def KindsFlatUptoCardSaid : Prop := Claim7.holds Tryz.pinned (.plain (OpenSpec.upto kindsFlatSpec)) kindsFlatUptoCard

/-- THE SECOND FORM's CARD OF 'bolterlaw12.KindsKeys'. -/
def kindsKeysUptoCard : Claim7 := { stood := { row := kindsKeysUptoRow, standIns := [], harness := (true, "de387bec37a7abea70061e34dca674cd05c9db6d7ac95e85bf73c60f2ec1fd67"), looks := false }, kinds := [], alts := [], laidByText := true, laidKinds := [.data, .pinned], laidTests := true, laidLooks := .later }
def KindsKeysUptoCardSaid : Prop := Claim7.holds Tryz.pinned (.plain (OpenSpec.upto kindsKeysSpec)) kindsKeysUptoCard
end Rows
end Go.Proofs.YtobfeneeehmpcaaGreatDoor
