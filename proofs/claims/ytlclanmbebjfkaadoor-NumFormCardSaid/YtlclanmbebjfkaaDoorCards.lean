/-
  DERIVED. GIVEN WITH THE SEED: THE CARDS: each row of YtlclanmbebjfkaaDoorRows.lean that lists a variable, with what it lists TIED to the program's text (the seventh form; the later family's looks); each row that meets fmt, with fmt's text TOLD by the authors' own Lean function (tested against real Go, not proved from fmt's source: count such statements apart). THE CARD IS WHAT COUNTS. Prove the row's statement (the work); the ties are given (YtlclanmbebjfkaaDoorTie.lean); close each card by the builder's one call (the guide's Derived/Test/ToyasCard.lean, 'card_holds'). Laid BY PROGRAM, IN A SANDBOX (cutbox-door.mjs). By AI agents, Wed Nov 11 2026. No macro, syntax, notation, axiom, sorry.
-/
import Derived.Test.YtlclanmbebjfkaaDoorRows
import GoSem.ClaimSeven
namespace Go.Proofs.YtlclanmbebjfkaaDoor
namespace Rows

/-- THE TIED CARD OF 'sandreckonerlaw01.NumForm'. -/
def numFormCard : Claim7 := { stood := { row := numFormRow, standIns := [], harness := (true, "34a695369a09950e928af7b4e10f373f5dbc138df4a2558a6d17a35e21c994a9"), looks := false }, kinds := [], alts := [], laidByText := true, laidKinds := [.data, .data, .data], laidTests := true, laidLooks := .later }
def NumFormCardSaid : Prop := Claim7.holds Tryd.pinned (.plain (OpenSpec.ofChange numFormSpec)) numFormCard

/-- THE SECOND FORM's CARD OF 'sandreckonerlaw01.NumForm'. -/
def numFormUptoCard : Claim7 := { stood := { row := numFormUptoRow, standIns := [], harness := (true, "34a695369a09950e928af7b4e10f373f5dbc138df4a2558a6d17a35e21c994a9"), looks := false }, kinds := [], alts := [], laidByText := true, laidKinds := [.data, .data, .data], laidTests := true, laidLooks := .later }
def NumFormUptoCardSaid : Prop := Claim7.holds Tryd.pinned (.plain (OpenSpec.upto numFormSpec)) numFormUptoCard
end Rows
end Go.Proofs.YtlclanmbebjfkaaDoor
