import Derived.Test.YteochdnjpchdnaaDoorA2
import Derived.Test.YteochdnjpchdnaaDoorRows
import Derived.WalkKit
import Derived.ProofKit
import Derived.OpenShut
import Derived.Deep.DeepHandedRow
import Derived.Lib.LaidTab
set_option linter.unusedVariables false
set_option linter.unusedSimpArgs false
namespace Go.Proofs.YteochdnjpchdnaaDoor
open Go.ChangeShapes Go.WideShapes Go.ChangeAt Go.RowKit
set_option linter.unusedVariables false

/-- the tail of what is laid -/
theorem laidMet_tail {P : Program} {W : World} {n : String} {d : DataW Unit} {rest : List (String × DataW Unit)} (h : laidMet P ((n, d) :: rest) W) : laidMet P rest W := by
  obtain ⟨ps, ⟨g', t', cs, fuel, p, q, _, _, _, _, hr, rfl⟩, hn, hc⟩ := h
  exact ⟨q, hr, (List.nodup_append.1 hn).2.1, fun b o hb => hc b o (List.mem_append_right _ hb)⟩

theorem gPow : Tryd.prog.globalNamed "internal/strconv.uint64pow10" = some 0 := by kernel_rfl
theorem gPowType : (Tryd.prog.globals[0]?).map (·.type) = some 153 := by kernel_rfl
theorem under153 : Tryd.prog.underlying 153 = some (.array 20 131) := by kernel_rfl
theorem under131 : Tryd.prog.underlying 131 = some (.int .u64) := by kernel_rfl
theorem cells153 : Tryd.prog.cellsOf 153 = 20 := by kernel_rfl
theorem cells131 : Tryd.prog.cellsOf 131 = 1 := by kernel_rfl

/-- what a row's list gives: the table -/
theorem tab_laid {W : World} (h : laidMetH Tryd.prog Rows.numIntsRow.laid W) : Tab W := by
  have h1 : laidMet Tryd.prog Rows.numIntsRow.laid W := h
  have h2 := laidMet_tail (laidMet_tail h1)
  exact Lib.tabIs_of_head (rest := []) gPow gPowType under153 under131 cells131 cells153 h2
theorem size_tab {W : World} (h : Tab W) : 0 < W.heap.size := by
  have h1 := Lib.TabIs.cell h gPow 0 (by decide)
  unfold World.cell? at h1
  rcases Nat.eq_zero_or_pos W.heap.size with h0 | h0
  · simp [Array.getElem?_eq_none (show W.heap.size ≤ 0 by omega)] at h1
  · exact h0
end Go.Proofs.YteochdnjpchdnaaDoor
