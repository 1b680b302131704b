import Derived.Test.YtlkmgclbckojgaaGreatDoorA2
import Derived.Test.YtlkmgclbckojgaaGreatDoorRows
import Derived.WalkKit
import Derived.ProofKit
import Derived.OpenShut
import Derived.Deep.DeepHandedRow
import Derived.Lib.LaidTab
import Derived.Test.YtlkmgclbckojgaaGreatDoorCards
import Derived.Test.YtlkmgclbckojgaaGreatDoorTie
set_option linter.unusedVariables false
set_option linter.unusedSimpArgs false
namespace Go.Proofs.YtlkmgclbckojgaaGreatDoor
section
open Go.ChangeShapes Go.WideShapes Go.ChangeAt Go.RowKit
theorem Zge {P : Program} {W : World} {n : String} {d : DataW Unit} {rest : List (String × DataW Unit)} (h : laidMet P ((n, d) :: rest) W) : laidMet P rest W := by
 obtain ⟨ps, ⟨g', t', cs, fuel, p, q, _, _, _, _, hr, rfl⟩, hn, hc⟩ := h
 exact ⟨q, hr, (List.nodup_append.1 hn).2.1, fun b o hb => hc b o (List.mem_append_right _ hb)⟩
theorem gPow : Tryz.prog.globalNamed "internal/strconv.uint64pow10" = some 0 := by kernel_rfl
theorem gPowType : (Tryz.prog.globals[0]?).map (·.type) = some 158 := by kernel_rfl
theorem under153 : Tryz.prog.underlying 158 = some (.array 20 115) := by kernel_rfl
theorem under131 : Tryz.prog.underlying 115 = some (.int .u64) := by kernel_rfl
theorem cells153 : Tryz.prog.cellsOf 158 = 20 := by kernel_rfl
theorem cells131 : Tryz.prog.cellsOf 115 = 1 := by kernel_rfl
theorem Zqc {W : World} (h : laidMetH Tryz.prog Rows.numPlaysRow.laid W) : Tab W := by
 have h1 : laidMet Tryz.prog Rows.numPlaysRow.laid W := h
 have h2 := Zge (Zge h1)
 exact Lib.tabIs_of_head (rest := []) gPow gPowType under153 under131 cells131 cells153 h2
theorem Zqd {W : World} (h : Tab W) : 0 < W.heap.size := by
 have h1 := Lib.TabIs.cell h gPow 0 (by decide)
 unfold World.cell? at h1
 rcases Nat.eq_zero_or_pos W.heap.size with h0 | h0
 · simp [Array.getElem?_eq_none (show W.heap.size ≤ 0 by omega)] at h1
 · exact h0
end
section
open Go.ChangeShapes Go.WideShapes Go.ChangeAt Go.RowKit
theorem own : ownKnob Tryz.prog.godebug = none := by kernel_rfl
def litV : DataW Unit → Value
 | .lit (.int k n) => .int k n
 | _ => .bool false
def tabV : DataW Unit → Array Value
 | .agg l => (l.map litV).toArray
 | _ => #[]
def putV (d : DataW Unit) : Obj → Obj
 | .cells _ t f => .cells (tabV d) t f
 | o => o
noncomputable def laidWorld (os : Os) : World :=
 { World.holding Tryz.prog os ⟨#[], #[], []⟩ with heap := (((World.holding Tryz.prog os ⟨#[], #[], []⟩).heap.modify 0 (putV Rows.laid_internal_strconv_uint64pow10)).modify 1 (putV Rows.laid_math_bits_deBruijn32tab)).modify 2 (putV Rows.laid_math_bits_deBruijn64tab) }
end
end Go.Proofs.YtlkmgclbckojgaaGreatDoor

