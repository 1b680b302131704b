import Derived.Test.YtlkmgclbckojgaaGreatDoorA1
import Derived.Test.YtlkmgclbckojgaaGreatDoorY2
set_option linter.unusedVariables false
set_option linter.unusedSimpArgs false
namespace Go.Proofs.YtlkmgclbckojgaaGreatDoor
open Go.RowKit
variable {B : Nat → Prop}
def smallZ (z : Int) : Int := if i64 z then z else 0
theorem NumA.kind {w : World} {s z : Int} {g : Option Addr} (h : NumA B w s g z) : (g == none) = decide (i64 z) ∧ s = smallZ z := by
 obtain ⟨_, D, S, h1, h2, h3, h4⟩ := h
 cases g with
 | none =>
   obtain ⟨rfl, h⟩ := h4
   simp [smallZ, h]
 | some p =>
   obtain ⟨rfl, h⟩ := h4
   have := (h1.great _ _ h).1
   simp [smallZ, this]
theorem Zq7 {w W : World} {s z : Int} {g : Option Addr} (h : NumA B w s g z) :
   Calls Tryz.prog 29 #[.agg #[.int .i64 s, .pointer g]] W fun e w' => e = .returned (.tuple #[.int .i64 (smallZ z), .bool (decide (i64 z))]) ∧ Below W.heap.size W w' := by
 have hk := h.kind
 rw [← hk.1, ← hk.2]
 exact Zj9 s g W
end Go.Proofs.YtlkmgclbckojgaaGreatDoor

