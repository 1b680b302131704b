/-
  DERIVED. GIVEN WITH THE SEED: THE CARDS: each row of YtlkmgclbckojgaaGreatDoorRows.lean that lists a variable, with what it lists TIED to the program's text (the seventh form; the later family's looks); each row that meets fmt, with fmt's text TOLD by the authors' own Lean function (tested against real Go, not proved from fmt's source: count such statements apart). THE CARD IS WHAT COUNTS. Prove the row's statement (the work); the ties are given (YtlkmgclbckojgaaGreatDoorTie.lean); close each card by the builder's one call (the guide's Derived/Test/ToyasCard.lean, 'card_holds'). Laid BY PROGRAM, IN A SANDBOX (cutbox-door.mjs). By AI agents, Wed Nov 11 2026. No macro, syntax, notation, axiom, sorry.
-/
import Derived.Test.YtlkmgclbckojgaaGreatDoorRows
import GoSem.ClaimSeven
namespace Go.Proofs.YtlkmgclbckojgaaGreatDoor
namespace Rows

/-- THE TIED CARD OF 'sandreckonerlaw01.NumPlays'. -/
def numPlaysCard : Claim7 := { stood := { row := numPlaysRow, standIns := [], harness := (true, "35cd3c23c9691221251f775eea46ba6f687b811475ef74d64e17e37b1f628273"), looks := false }, kinds := [], alts := [], laidByText := true, laidKinds := [.data, .data, .data], laidTests := true, laidLooks := .later }
def NumPlaysCardSaid : Prop := Claim7.holds Tryz.pinned (.plain (OpenSpec.ofChange numPlaysSpec)) numPlaysCard

/-- THE TIED CARD OF 'sandreckonerlaw01.NumLoads'. -/
def numLoadsCard : Claim7 := { stood := { row := numLoadsRow, standIns := [], harness := (true, "35cd3c23c9691221251f775eea46ba6f687b811475ef74d64e17e37b1f628273"), looks := false }, kinds := [], alts := [], laidByText := true, laidKinds := [.data, .data, .data], laidTests := true, laidLooks := .later }
def NumLoadsCardSaid : Prop := Claim7.holds Tryz.pinned (.plain (OpenSpec.ofChange numLoadsSpec)) numLoadsCard

/-- THE TIED CARD OF 'sandreckonerlaw01.NumRoom'. -/
def numRoomCard : Claim7 := { stood := { row := numRoomRow, standIns := [], harness := (true, "35cd3c23c9691221251f775eea46ba6f687b811475ef74d64e17e37b1f628273"), looks := false }, kinds := [], alts := [], laidByText := true, laidKinds := [.data, .data, .data], laidTests := true, laidLooks := .later }
def NumRoomCardSaid : Prop := Claim7.holds Tryz.pinned (.plain (OpenSpec.ofChange numRoomSpec)) numRoomCard

/-- THE SECOND FORM's CARD OF 'sandreckonerlaw01.NumPlays'. -/
def numPlaysUptoCard : Claim7 := { stood := { row := numPlaysUptoRow, standIns := [], harness := (true, "35cd3c23c9691221251f775eea46ba6f687b811475ef74d64e17e37b1f628273"), looks := false }, kinds := [], alts := [], laidByText := true, laidKinds := [.data, .data, .data], laidTests := true, laidLooks := .later }
def NumPlaysUptoCardSaid : Prop := Claim7.holds Tryz.pinned (.plain (OpenSpec.upto numPlaysSpec)) numPlaysUptoCard

/-- THE SECOND FORM's CARD OF 'sandreckonerlaw01.NumLoads'. -/
def numLoadsUptoCard : Claim7 := { stood := { row := numLoadsUptoRow, standIns := [], harness := (true, "35cd3c23c9691221251f775eea46ba6f687b811475ef74d64e17e37b1f628273"), looks := false }, kinds := [], alts := [], laidByText := true, laidKinds := [.data, .data, .data], laidTests := true, laidLooks := .later }
def NumLoadsUptoCardSaid : Prop := Claim7.holds Tryz.pinned (.plain (OpenSpec.upto numLoadsSpec)) numLoadsUptoCard

/-- THE SECOND FORM's CARD OF 'sandreckonerlaw01.NumRoom'. -/
def numRoomUptoCard : Claim7 := { stood := { row := numRoomUptoRow, standIns := [], harness := (true, "35cd3c23c9691221251f775eea46ba6f687b811475ef74d64e17e37b1f628273"), looks := false }, kinds := [], alts := [], laidByText := true, laidKinds := [.data, .data, .data], laidTests := true, laidLooks := .later }
def NumRoomUptoCardSaid : Prop := Claim7.holds Tryz.pinned (.plain (OpenSpec.upto numRoomSpec)) numRoomUptoCard
end Rows
end Go.Proofs.YtlkmgclbckojgaaGreatDoor
