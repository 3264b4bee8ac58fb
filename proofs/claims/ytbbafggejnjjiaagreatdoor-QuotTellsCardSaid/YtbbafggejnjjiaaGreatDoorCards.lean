/-
  DERIVED. GIVEN WITH THE SEED: THE CARDS: each row of YtbbafggejnjjiaaGreatDoorRows.lean that lists a variable, with what it lists TIED to the program's text (the seventh form; the later family's looks); each row that meets fmt, with fmt's text TOLD by the authors' own Lean function (tested against real Go, not proved from fmt's source: count such statements apart). THE CARD IS WHAT COUNTS. Prove the row's statement (the work); the ties are given (YtbbafggejnjjiaaGreatDoorTie.lean); close each card by the builder's one call (the guide's Derived/Test/ToyasCard.lean, 'card_holds'). Laid BY PROGRAM, IN A SANDBOX (cutbox-door.mjs). By AI agents, Wed Nov 11 2026. No macro, syntax, notation, axiom, sorry.
-/
import Derived.Test.YtbbafggejnjjiaaGreatDoorRows
import GoSem.ClaimSeven
namespace Go.Proofs.YtbbafggejnjjiaaGreatDoor
namespace Rows

/-- THE TIED CARD OF 'bolterlaw03.QuotTells'. -/
def quotTellsCard : Claim7 := { stood := { row := quotTellsRow, standIns := [], harness := (true, "18b60e2fbf80b2ad224598bf77aed7242b0f96fc9d57b9a458ba086ef1bd826e"), looks := false }, kinds := [], alts := [], laidByText := true, laidKinds := [.data, .pinned], laidTests := true, laidLooks := .later }
def QuotTellsCardSaid : Prop := Claim7.holds Tryz.pinned (.plain (OpenSpec.ofChange quotTellsSpec)) quotTellsCard

/-- THE TIED CARD OF 'bolterlaw03.QuotNear'. -/
def quotNearCard : Claim7 := { stood := { row := quotNearRow, standIns := [], harness := (true, "18b60e2fbf80b2ad224598bf77aed7242b0f96fc9d57b9a458ba086ef1bd826e"), looks := false }, kinds := [], alts := [], laidByText := true, laidKinds := [.data, .pinned], laidTests := true, laidLooks := .later }
def QuotNearCardSaid : Prop := Claim7.holds Tryz.pinned (.plain (OpenSpec.ofChange quotNearSpec)) quotNearCard

/-- THE TIED CARD OF 'bolterlaw03.QuotExact'. -/
def quotExactCard : Claim7 := { stood := { row := quotExactRow, standIns := [], harness := (true, "18b60e2fbf80b2ad224598bf77aed7242b0f96fc9d57b9a458ba086ef1bd826e"), looks := false }, kinds := [], alts := [], laidByText := true, laidKinds := [.data, .pinned], laidTests := true, laidLooks := .later }
def QuotExactCardSaid : Prop := Claim7.holds Tryz.pinned (.plain (OpenSpec.ofChange quotExactSpec)) quotExactCard

/-- THE TIED CARD OF 'bolterlaw03.QuotHalf'. -/
def quotHalfCard : Claim7 := { stood := { row := quotHalfRow, standIns := [], harness := (true, "18b60e2fbf80b2ad224598bf77aed7242b0f96fc9d57b9a458ba086ef1bd826e"), looks := false }, kinds := [], alts := [], laidByText := true, laidKinds := [.data, .pinned], laidTests := true, laidLooks := .later }
def QuotHalfCardSaid : Prop := Claim7.holds Tryz.pinned (.plain (OpenSpec.ofChange quotHalfSpec)) quotHalfCard

/-- THE TIED CARD OF 'bolterlaw03.QuotRests'. -/
def quotRestsCard : Claim7 := { stood := { row := quotRestsRow, standIns := [], harness := (true, "18b60e2fbf80b2ad224598bf77aed7242b0f96fc9d57b9a458ba086ef1bd826e"), looks := false }, kinds := [], alts := [], laidByText := true, laidKinds := [.data, .pinned], laidTests := true, laidLooks := .later }
def QuotRestsCardSaid : Prop := Claim7.holds Tryz.pinned (.plain (OpenSpec.ofChange quotRestsSpec)) quotRestsCard

/-- THE TIED CARD OF 'bolterlaw03.QuotRoots'. -/
def quotRootsCard : Claim7 := { stood := { row := quotRootsRow, standIns := [], harness := (true, "18b60e2fbf80b2ad224598bf77aed7242b0f96fc9d57b9a458ba086ef1bd826e"), looks := false }, kinds := [], alts := [], laidByText := true, laidKinds := [.data, .pinned], laidTests := true, laidLooks := .later }
def QuotRootsCardSaid : Prop := Claim7.holds Tryz.pinned (.plain (OpenSpec.ofChange quotRootsSpec)) quotRootsCard

/-- THE TIED CARD OF 'bolterlaw02.DecTells'. -/
def decTellsCard : Claim7 := { stood := { row := decTellsRow, standIns := [], harness := (true, "18b60e2fbf80b2ad224598bf77aed7242b0f96fc9d57b9a458ba086ef1bd826e"), looks := false }, kinds := [], alts := [], laidByText := true, laidKinds := [.data, .data, .data, .data, .pinned], laidTests := true, laidLooks := .later }
def DecTellsCardSaid : Prop := Claim7.holds Tryz.pinned (.plain (OpenSpec.ofChange decTellsSpec)) decTellsCard

/-- THE TIED CARD OF 'bolterlaw02.DecTexts'. -/
def decTextsCard : Claim7 := { stood := { row := decTextsRow, standIns := [], harness := (true, "18b60e2fbf80b2ad224598bf77aed7242b0f96fc9d57b9a458ba086ef1bd826e"), looks := false }, kinds := [], alts := [], laidByText := true, laidKinds := [.data, .data, .data, .data, .pinned], laidTests := true, laidLooks := .later }
def DecTextsCardSaid : Prop := Claim7.holds Tryz.pinned (.plain (OpenSpec.ofChange decTextsSpec)) decTextsCard

/-- THE TIED CARD OF 'bolterlaw02.DecInts'. -/
def decIntsCard : Claim7 := { stood := { row := decIntsRow, standIns := [], harness := (true, "18b60e2fbf80b2ad224598bf77aed7242b0f96fc9d57b9a458ba086ef1bd826e"), looks := false }, kinds := [], alts := [], laidByText := true, laidKinds := [.data, .data, .data, .data, .pinned], laidTests := true, laidLooks := .later }
def DecIntsCardSaid : Prop := Claim7.holds Tryz.pinned (.plain (OpenSpec.ofChange decIntsSpec)) decIntsCard

/-- THE TIED CARD OF 'bolterlaw02.DecOwn'. -/
def decOwnCard : Claim7 := { stood := { row := decOwnRow, standIns := [], harness := (true, "18b60e2fbf80b2ad224598bf77aed7242b0f96fc9d57b9a458ba086ef1bd826e"), looks := false }, kinds := [], alts := [], laidByText := true, laidKinds := [.data, .data, .data, .data, .pinned], laidTests := true, laidLooks := .later }
def DecOwnCardSaid : Prop := Claim7.holds Tryz.pinned (.plain (OpenSpec.ofChange decOwnSpec)) decOwnCard

/-- THE SECOND FORM's CARD OF 'bolterlaw03.QuotTells'. -/
def quotTellsUptoCard : Claim7 := { stood := { row := quotTellsUptoRow, standIns := [], harness := (true, "18b60e2fbf80b2ad224598bf77aed7242b0f96fc9d57b9a458ba086ef1bd826e"), looks := false }, kinds := [], alts := [], laidByText := true, laidKinds := [.data, .pinned], laidTests := true, laidLooks := .later }
def QuotTellsUptoCardSaid : Prop := Claim7.holds Tryz.pinned (.plain (OpenSpec.upto quotTellsSpec)) quotTellsUptoCard

/-- THE SECOND FORM's CARD OF 'bolterlaw03.QuotNear'. -/
def quotNearUptoCard : Claim7 := { stood := { row := quotNearUptoRow, standIns := [], harness := (true, "18b60e2fbf80b2ad224598bf77aed7242b0f96fc9d57b9a458ba086ef1bd826e"), looks := false }, kinds := [], alts := [], laidByText := true, laidKinds := [.data, .pinned], laidTests := true, laidLooks := .later }
def QuotNearUptoCardSaid : Prop := Claim7.holds Tryz.pinned (.plain (OpenSpec.upto quotNearSpec)) quotNearUptoCard

/-- THE SECOND FORM's CARD OF 'bolterlaw03.QuotExact'. -/
def quotExactUptoCard : Claim7 := { stood := { row := quotExactUptoRow, standIns := [], harness := (true, "18b60e2fbf80b2ad224598bf77aed7242b0f96fc9d57b9a458ba086ef1bd826e"), looks := false }, kinds := [], alts := [], laidByText := true, laidKinds := [.data, .pinned], laidTests := true, laidLooks := .later }
def QuotExactUptoCardSaid : Prop := Claim7.holds Tryz.pinned (.plain (OpenSpec.upto quotExactSpec)) quotExactUptoCard

/-- THE SECOND FORM's CARD OF 'bolterlaw03.QuotHalf'. -/
def quotHalfUptoCard : Claim7 := { stood := { row := quotHalfUptoRow, standIns := [], harness := (true, "18b60e2fbf80b2ad224598bf77aed7242b0f96fc9d57b9a458ba086ef1bd826e"), looks := false }, kinds := [], alts := [], laidByText := true, laidKinds := [.data, .pinned], laidTests := true, laidLooks := .later }
def QuotHalfUptoCardSaid : Prop := Claim7.holds Tryz.pinned (.plain (OpenSpec.upto quotHalfSpec)) quotHalfUptoCard

/-- THE SECOND FORM's CARD OF 'bolterlaw03.QuotRests'. -/
def quotRestsUptoCard : Claim7 := { stood := { row := quotRestsUptoRow, standIns := [], harness := (true, "18b60e2fbf80b2ad224598bf77aed7242b0f96fc9d57b9a458ba086ef1bd826e"), looks := false }, kinds := [], alts := [], laidByText := true, laidKinds := [.data, .pinned], laidTests := true, laidLooks := .later }
def QuotRestsUptoCardSaid : Prop := Claim7.holds Tryz.pinned (.plain (OpenSpec.upto quotRestsSpec)) quotRestsUptoCard

/-- THE SECOND FORM's CARD OF 'bolterlaw03.QuotRoots'. -/
def quotRootsUptoCard : Claim7 := { stood := { row := quotRootsUptoRow, standIns := [], harness := (true, "18b60e2fbf80b2ad224598bf77aed7242b0f96fc9d57b9a458ba086ef1bd826e"), looks := false }, kinds := [], alts := [], laidByText := true, laidKinds := [.data, .pinned], laidTests := true, laidLooks := .later }
def QuotRootsUptoCardSaid : Prop := Claim7.holds Tryz.pinned (.plain (OpenSpec.upto quotRootsSpec)) quotRootsUptoCard

/-- THE SECOND FORM's CARD OF 'bolterlaw02.DecTells'. -/
def decTellsUptoCard : Claim7 := { stood := { row := decTellsUptoRow, standIns := [], harness := (true, "18b60e2fbf80b2ad224598bf77aed7242b0f96fc9d57b9a458ba086ef1bd826e"), looks := false }, kinds := [], alts := [], laidByText := true, laidKinds := [.data, .data, .data, .data, .pinned], laidTests := true, laidLooks := .later }
def DecTellsUptoCardSaid : Prop := Claim7.holds Tryz.pinned (.plain (OpenSpec.upto decTellsSpec)) decTellsUptoCard

/-- THE SECOND FORM's CARD OF 'bolterlaw02.DecTexts'. -/
def decTextsUptoCard : Claim7 := { stood := { row := decTextsUptoRow, standIns := [], harness := (true, "18b60e2fbf80b2ad224598bf77aed7242b0f96fc9d57b9a458ba086ef1bd826e"), looks := false }, kinds := [], alts := [], laidByText := true, laidKinds := [.data, .data, .data, .data, .pinned], laidTests := true, laidLooks := .later }
def DecTextsUptoCardSaid : Prop := Claim7.holds Tryz.pinned (.plain (OpenSpec.upto decTextsSpec)) decTextsUptoCard

/-- THE SECOND FORM's CARD OF 'bolterlaw02.DecInts'. -/
def decIntsUptoCard : Claim7 := { stood := { row := decIntsUptoRow, standIns := [], harness := (true, "18b60e2fbf80b2ad224598bf77aed7242b0f96fc9d57b9a458ba086ef1bd826e"), looks := false }, kinds := [], alts := [], laidByText := true, laidKinds := [.data, .data, .data, .data, .pinned], laidTests := true, laidLooks := .later }
def DecIntsUptoCardSaid : Prop := Claim7.holds Tryz.pinned (.plain (OpenSpec.upto decIntsSpec)) decIntsUptoCard

/-- THE SECOND FORM's CARD OF 'bolterlaw02.DecOwn'. -/
def decOwnUptoCard : Claim7 := { stood := { row := decOwnUptoRow, standIns := [], harness := (true, "18b60e2fbf80b2ad224598bf77aed7242b0f96fc9d57b9a458ba086ef1bd826e"), looks := false }, kinds := [], alts := [], laidByText := true, laidKinds := [.data, .data, .data, .data, .pinned], laidTests := true, laidLooks := .later }
def DecOwnUptoCardSaid : Prop := Claim7.holds Tryz.pinned (.plain (OpenSpec.upto decOwnSpec)) decOwnUptoCard
end Rows
end Go.Proofs.YtbbafggejnjjiaaGreatDoor
