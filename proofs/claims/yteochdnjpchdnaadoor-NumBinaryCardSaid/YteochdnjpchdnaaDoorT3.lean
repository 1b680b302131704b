import Derived.Test.YteochdnjpchdnaaDoorT1
import Derived.Test.YteochdnjpchdnaaDoorCards
import Derived.Test.YteochdnjpchdnaaDoorTie
set_option linter.unusedVariables false
set_option linter.unusedSimpArgs false
namespace Go.Proofs.YteochdnjpchdnaaDoor
open Go.ChangeShapes Go.WideShapes Go.ChangeAt Go.RowKit
set_option linter.unusedVariables false

theorem own : ownKnob Tryd.prog.godebug = none := by kernel_rfl
def litV : DataW Unit → Value
  | .lit (.int k n) => .int k n
  | _ => .bool false
def tabV : DataW Unit → Array Value
  | .agg l => (l.map litV).toArray
  | _ => #[]
def putV (d : DataW Unit) : Obj → Obj
  | .cells _ t f => .cells (tabV d) t f
  | o => o
/-- a world that holds the tables -/
noncomputable def laidWorld (os : Os) : World :=
  { World.holding Tryd.prog os ⟨#[], #[], []⟩ with heap := (((World.holding Tryd.prog os ⟨#[], #[], []⟩).heap.modify 0 (putV Rows.laid_internal_strconv_uint64pow10)).modify 1 (putV Rows.laid_math_bits_deBruijn32tab)).modify 2 (putV Rows.laid_math_bits_deBruijn64tab) }
end Go.Proofs.YteochdnjpchdnaaDoor
