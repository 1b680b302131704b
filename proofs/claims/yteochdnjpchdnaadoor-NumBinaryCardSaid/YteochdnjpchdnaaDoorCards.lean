/-
  DERIVED. GIVEN WITH THE SEED: THE CARDS: each row of YteochdnjpchdnaaDoorRows.lean that lists a variable, with what it lists TIED to the program's text (the seventh form; the later family's looks); each row that meets fmt, with fmt's text TOLD by the authors' own Lean function (tested against real Go, not proved from fmt's source: count such statements apart). THE CARD IS WHAT COUNTS. Prove the row's statement (the work); the ties are given (YteochdnjpchdnaaDoorTie.lean); close each card by the builder's one call (the guide's Derived/Test/ToyasCard.lean, 'card_holds'). Laid BY PROGRAM, IN A SANDBOX (cutbox-door.mjs). By AI agents, Wed Nov 11 2026. No macro, syntax, notation, axiom, sorry.
-/
import Derived.Test.YteochdnjpchdnaaDoorRows
import GoSem.ClaimSeven
namespace Go.Proofs.YteochdnjpchdnaaDoor
namespace Rows

/-- THE TIED CARD OF 'sandreckonerlaw01.NumBinary'. -/
def numBinaryCard : Claim7 := { stood := { row := numBinaryRow, standIns := [], harness := (true, "cc47214841b5b4bf6c5c4a666c0f0d784d2964b848a0a60a9a62d27e83353b80"), looks := false }, kinds := [], alts := [], laidByText := true, laidKinds := [.data, .data, .data], laidTests := true, laidLooks := .later }
def NumBinaryCardSaid : Prop := Claim7.holds Tryd.pinned (.plain (OpenSpec.ofChange numBinarySpec)) numBinaryCard

/-- THE TIED CARD OF 'sandreckonerlaw01.NumForm'. -/
def numFormCard : Claim7 := { stood := { row := numFormRow, standIns := [], harness := (true, "cc47214841b5b4bf6c5c4a666c0f0d784d2964b848a0a60a9a62d27e83353b80"), looks := false }, kinds := [], alts := [], laidByText := true, laidKinds := [.data, .data, .data], laidTests := true, laidLooks := .later }
def NumFormCardSaid : Prop := Claim7.holds Tryd.pinned (.plain (OpenSpec.ofChange numFormSpec)) numFormCard

/-- THE TIED CARD OF 'sandreckonerlaw01.NumOrder'. -/
def numOrderCard : Claim7 := { stood := { row := numOrderRow, standIns := [], harness := (true, "cc47214841b5b4bf6c5c4a666c0f0d784d2964b848a0a60a9a62d27e83353b80"), looks := false }, kinds := [], alts := [], laidByText := true, laidKinds := [.data, .data, .data], laidTests := true, laidLooks := .later }
def NumOrderCardSaid : Prop := Claim7.holds Tryd.pinned (.plain (OpenSpec.ofChange numOrderSpec)) numOrderCard

/-- THE TIED CARD OF 'sandreckonerlaw01.NumRing'. -/
def numRingCard : Claim7 := { stood := { row := numRingRow, standIns := [], harness := (true, "cc47214841b5b4bf6c5c4a666c0f0d784d2964b848a0a60a9a62d27e83353b80"), looks := false }, kinds := [], alts := [], laidByText := true, laidKinds := [.data, .data, .data], laidTests := true, laidLooks := .later }
def NumRingCardSaid : Prop := Claim7.holds Tryd.pinned (.plain (OpenSpec.ofChange numRingSpec)) numRingCard

/-- THE TIED CARD OF 'sandreckonerlaw01.NumShifts'. -/
def numShiftsCard : Claim7 := { stood := { row := numShiftsRow, standIns := [], harness := (true, "cc47214841b5b4bf6c5c4a666c0f0d784d2964b848a0a60a9a62d27e83353b80"), looks := false }, kinds := [], alts := [], laidByText := true, laidKinds := [.data, .data, .data], laidTests := true, laidLooks := .later }
def NumShiftsCardSaid : Prop := Claim7.holds Tryd.pinned (.plain (OpenSpec.ofChange numShiftsSpec)) numShiftsCard

/-- THE TIED CARD OF 'sandreckonerlaw01.NumPowers'. -/
def numPowersCard : Claim7 := { stood := { row := numPowersRow, standIns := [], harness := (true, "cc47214841b5b4bf6c5c4a666c0f0d784d2964b848a0a60a9a62d27e83353b80"), looks := false }, kinds := [], alts := [], laidByText := true, laidKinds := [.data, .data, .data], laidTests := true, laidLooks := .later }
def NumPowersCardSaid : Prop := Claim7.holds Tryd.pinned (.plain (OpenSpec.ofChange numPowersSpec)) numPowersCard

/-- THE TIED CARD OF 'sandreckonerlaw01.NumSums'. -/
def numSumsCard : Claim7 := { stood := { row := numSumsRow, standIns := [], harness := (true, "cc47214841b5b4bf6c5c4a666c0f0d784d2964b848a0a60a9a62d27e83353b80"), looks := false }, kinds := [], alts := [], laidByText := true, laidKinds := [.data, .data, .data], laidTests := true, laidLooks := .later }
def NumSumsCardSaid : Prop := Claim7.holds Tryd.pinned (.plain (OpenSpec.ofChange numSumsSpec)) numSumsCard

/-- THE TIED CARD OF 'sandreckonerlaw01.NumOwn'. -/
def numOwnCard : Claim7 := { stood := { row := numOwnRow, standIns := [], harness := (true, "cc47214841b5b4bf6c5c4a666c0f0d784d2964b848a0a60a9a62d27e83353b80"), looks := false }, kinds := [], alts := [], laidByText := true, laidKinds := [.data, .data, .data], laidTests := true, laidLooks := .later }
def NumOwnCardSaid : Prop := Claim7.holds Tryd.pinned (.plain (OpenSpec.ofChange numOwnSpec)) numOwnCard

/-- THE TIED CARD OF 'sandreckonerlaw01.NumInts'. -/
def numIntsCard : Claim7 := { stood := { row := numIntsRow, standIns := [], harness := (true, "cc47214841b5b4bf6c5c4a666c0f0d784d2964b848a0a60a9a62d27e83353b80"), looks := false }, kinds := [], alts := [], laidByText := true, laidKinds := [.data, .data, .data], laidTests := true, laidLooks := .later }
def NumIntsCardSaid : Prop := Claim7.holds Tryd.pinned (.plain (OpenSpec.ofChange numIntsSpec)) numIntsCard

/-- THE TIED CARD OF 'sandreckonerlaw01.NumFull'. -/
def numFullCard : Claim7 := { stood := { row := numFullRow, standIns := [], harness := (true, "cc47214841b5b4bf6c5c4a666c0f0d784d2964b848a0a60a9a62d27e83353b80"), looks := false }, kinds := [], alts := [], laidByText := true, laidKinds := [.data, .data, .data], laidTests := true, laidLooks := .later }
def NumFullCardSaid : Prop := Claim7.holds Tryd.pinned (.plain (OpenSpec.ofChange numFullSpec)) numFullCard

/-- THE SECOND FORM's CARD OF 'sandreckonerlaw01.NumBinary'. -/
def numBinaryUptoCard : Claim7 := { stood := { row := numBinaryUptoRow, standIns := [], harness := (true, "cc47214841b5b4bf6c5c4a666c0f0d784d2964b848a0a60a9a62d27e83353b80"), looks := false }, kinds := [], alts := [], laidByText := true, laidKinds := [.data, .data, .data], laidTests := true, laidLooks := .later }
def NumBinaryUptoCardSaid : Prop := Claim7.holds Tryd.pinned (.plain (OpenSpec.upto numBinarySpec)) numBinaryUptoCard

/-- THE SECOND FORM's CARD OF 'sandreckonerlaw01.NumForm'. -/
def numFormUptoCard : Claim7 := { stood := { row := numFormUptoRow, standIns := [], harness := (true, "cc47214841b5b4bf6c5c4a666c0f0d784d2964b848a0a60a9a62d27e83353b80"), looks := false }, kinds := [], alts := [], laidByText := true, laidKinds := [.data, .data, .data], laidTests := true, laidLooks := .later }
def NumFormUptoCardSaid : Prop := Claim7.holds Tryd.pinned (.plain (OpenSpec.upto numFormSpec)) numFormUptoCard

/-- THE SECOND FORM's CARD OF 'sandreckonerlaw01.NumOrder'. -/
def numOrderUptoCard : Claim7 := { stood := { row := numOrderUptoRow, standIns := [], harness := (true, "cc47214841b5b4bf6c5c4a666c0f0d784d2964b848a0a60a9a62d27e83353b80"), looks := false }, kinds := [], alts := [], laidByText := true, laidKinds := [.data, .data, .data], laidTests := true, laidLooks := .later }
def NumOrderUptoCardSaid : Prop := Claim7.holds Tryd.pinned (.plain (OpenSpec.upto numOrderSpec)) numOrderUptoCard

/-- THE SECOND FORM's CARD OF 'sandreckonerlaw01.NumRing'. -/
def numRingUptoCard : Claim7 := { stood := { row := numRingUptoRow, standIns := [], harness := (true, "cc47214841b5b4bf6c5c4a666c0f0d784d2964b848a0a60a9a62d27e83353b80"), looks := false }, kinds := [], alts := [], laidByText := true, laidKinds := [.data, .data, .data], laidTests := true, laidLooks := .later }
def NumRingUptoCardSaid : Prop := Claim7.holds Tryd.pinned (.plain (OpenSpec.upto numRingSpec)) numRingUptoCard

/-- THE SECOND FORM's CARD OF 'sandreckonerlaw01.NumShifts'. -/
def numShiftsUptoCard : Claim7 := { stood := { row := numShiftsUptoRow, standIns := [], harness := (true, "cc47214841b5b4bf6c5c4a666c0f0d784d2964b848a0a60a9a62d27e83353b80"), looks := false }, kinds := [], alts := [], laidByText := true, laidKinds := [.data, .data, .data], laidTests := true, laidLooks := .later }
def NumShiftsUptoCardSaid : Prop := Claim7.holds Tryd.pinned (.plain (OpenSpec.upto numShiftsSpec)) numShiftsUptoCard

/-- THE SECOND FORM's CARD OF 'sandreckonerlaw01.NumPowers'. -/
def numPowersUptoCard : Claim7 := { stood := { row := numPowersUptoRow, standIns := [], harness := (true, "cc47214841b5b4bf6c5c4a666c0f0d784d2964b848a0a60a9a62d27e83353b80"), looks := false }, kinds := [], alts := [], laidByText := true, laidKinds := [.data, .data, .data], laidTests := true, laidLooks := .later }
def NumPowersUptoCardSaid : Prop := Claim7.holds Tryd.pinned (.plain (OpenSpec.upto numPowersSpec)) numPowersUptoCard

/-- THE SECOND FORM's CARD OF 'sandreckonerlaw01.NumSums'. -/
def numSumsUptoCard : Claim7 := { stood := { row := numSumsUptoRow, standIns := [], harness := (true, "cc47214841b5b4bf6c5c4a666c0f0d784d2964b848a0a60a9a62d27e83353b80"), looks := false }, kinds := [], alts := [], laidByText := true, laidKinds := [.data, .data, .data], laidTests := true, laidLooks := .later }
def NumSumsUptoCardSaid : Prop := Claim7.holds Tryd.pinned (.plain (OpenSpec.upto numSumsSpec)) numSumsUptoCard

/-- THE SECOND FORM's CARD OF 'sandreckonerlaw01.NumOwn'. -/
def numOwnUptoCard : Claim7 := { stood := { row := numOwnUptoRow, standIns := [], harness := (true, "cc47214841b5b4bf6c5c4a666c0f0d784d2964b848a0a60a9a62d27e83353b80"), looks := false }, kinds := [], alts := [], laidByText := true, laidKinds := [.data, .data, .data], laidTests := true, laidLooks := .later }
def NumOwnUptoCardSaid : Prop := Claim7.holds Tryd.pinned (.plain (OpenSpec.upto numOwnSpec)) numOwnUptoCard

/-- THE SECOND FORM's CARD OF 'sandreckonerlaw01.NumInts'. -/
def numIntsUptoCard : Claim7 := { stood := { row := numIntsUptoRow, standIns := [], harness := (true, "cc47214841b5b4bf6c5c4a666c0f0d784d2964b848a0a60a9a62d27e83353b80"), looks := false }, kinds := [], alts := [], laidByText := true, laidKinds := [.data, .data, .data], laidTests := true, laidLooks := .later }
def NumIntsUptoCardSaid : Prop := Claim7.holds Tryd.pinned (.plain (OpenSpec.upto numIntsSpec)) numIntsUptoCard

/-- THE SECOND FORM's CARD OF 'sandreckonerlaw01.NumFull'. -/
def numFullUptoCard : Claim7 := { stood := { row := numFullUptoRow, standIns := [], harness := (true, "cc47214841b5b4bf6c5c4a666c0f0d784d2964b848a0a60a9a62d27e83353b80"), looks := false }, kinds := [], alts := [], laidByText := true, laidKinds := [.data, .data, .data], laidTests := true, laidLooks := .later }
def NumFullUptoCardSaid : Prop := Claim7.holds Tryd.pinned (.plain (OpenSpec.upto numFullSpec)) numFullUptoCard
end Rows
end Go.Proofs.YteochdnjpchdnaaDoor
