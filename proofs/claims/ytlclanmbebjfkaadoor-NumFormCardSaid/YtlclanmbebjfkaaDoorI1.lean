import Derived.Test.YtlclanmbebjfkaaDoorA1
import Derived.Test.YtlclanmbebjfkaaDoorY2
set_option linter.unusedVariables false
set_option linter.unusedSimpArgs false
namespace Go.Proofs.YtlclanmbebjfkaaDoor
open Go.RowKit
set_option linter.unusedVariables false
variable {B : Nat → Prop}

/-- what Int tells of a number -/
def smallZ (z : Int) : Int := if i64 z then z else 0
theorem NumA.kind {w : World} {s z : Int} {g : Option Addr} (h : NumA B w s g z) : (g == none) = decide (i64 z) ∧ s = smallZ z := by
  obtain ⟨_, D, S, h1, h2, h3, h4⟩ := h
  cases g with
  | none =>
    obtain ⟨rfl, h⟩ := h4
    simp [smallZ, h]
  | some p =>
    obtain ⟨rfl, h⟩ := h4
    have := (h1.great _ _ h).1
    simp [smallZ, this]
/-- Int of an allowed number -/
theorem Int_num {w W : World} {s z : Int} {g : Option Addr} (h : NumA B w s g z) :
    Calls Tryd.prog 32 #[.agg #[.int .i64 s, .pointer g]] W fun e w' => e = .returned (.tuple #[.int .i64 (smallZ z), .bool (decide (i64 z))]) ∧ Below W.heap.size W w' := by
  have hk := h.kind
  rw [← hk.1, ← hk.2]
  exact int_calls s g W

/-- Sub, where it is allowed -/
theorem Sub_yes2 {w : World} {s s' z y : Int} {g g' : Option Addr} (hx : NumA B w s g z) (hy : NumA B w s' g' y) (tab : Tab w) (h0 : 0 < w.heap.size) (hB : ∀ k, B k → k < w.heap.size) (h2 : allowedZ (z - y)) :
    Calls Tryd.prog 7 #[.agg #[.int .i64 s, .pointer g], .agg #[.int .i64 s', .pointer g']] w fun e w' => ∃ (r : Int) (q : Option Addr), e = .returned (.tuple #[.agg #[.int .i64 r, .pointer q], .int .i64 0]) ∧ NumA B w' r q (z - y) ∧ Below w.heap.size w w' := by
  refine (Sub_calls hx hy tab h0 hB).mono ?_
  rintro e w' ⟨hb, h | h⟩
  · obtain ⟨_, r, q, rfl, hn⟩ := h
    exact ⟨r, q, rfl, hn, hb⟩
  · exact absurd h2 h.1

theorem allowed_sum {a b : Int} (ia : i64 a) (ib : i64 b) : allowedZ (a + b) ∧ allowedZ (a - b) := by
  unfold i64 at ia ib
  exact ⟨(allowed_bits (b := 64) (by omega) (by omega) (by omega)).1, (allowed_bits (b := 64) (by omega) (by omega) (by omega)).1⟩

/-- a sum that is no int64, told by the wrapped one's sign -/
theorem over_sum {a b : Int} (ia : i64 a) (ib : i64 b) : (!decide (i64 (a + b))) = (decide (0 < a) && decide (0 < b) && decide (IntKind.i64.wrap (a + b) < 0) || decide (a < 0) && decide (b < 0) && decide (0 ≤ IntKind.i64.wrap (a + b))) := by
  rw [wrap_eq, Bool.eq_iff_iff]
  simp only [Bool.or_eq_true, Bool.and_eq_true, Bool.not_eq_true', decide_eq_true_eq, decide_eq_false_iff_not]
  unfold i64 at ia ib ⊢
  unfold wrap64
  omega
theorem over_diff {a b : Int} (ia : i64 a) (ib : i64 b) : (!decide (i64 (a - b))) = (decide (0 ≤ a) && decide (b < 0) && decide (IntKind.i64.wrap (a - b) < 0) || decide (a < 0) && decide (0 < b) && decide (0 ≤ IntKind.i64.wrap (a - b))) := by
  rw [wrap_eq, Bool.eq_iff_iff]
  simp only [Bool.or_eq_true, Bool.and_eq_true, Bool.not_eq_true', decide_eq_true_eq, decide_eq_false_iff_not]
  unfold i64 at ia ib ⊢
  unfold wrap64
  omega
theorem small_wrap {z : Int} (h : i64 z) : smallZ z = IntKind.i64.wrap z := by
  rw [wrap_eq, wrap64_of h]; simp [smallZ, h]

/-- the product of two halves -/
theorem half_fits {a b : Int} (ia : i64 a) (ib : i64 b) : i64 (a / 8589934592) ∧ i64 (b / 8589934592) ∧ i64 (a / 8589934592 * (b / 8589934592)) := by
  have h1 : -1073741824 ≤ a / 8589934592 ∧ a / 8589934592 ≤ 1073741823 := by unfold i64 at ia; omega
  have h2 : -1073741824 ≤ b / 8589934592 ∧ b / 8589934592 ≤ 1073741823 := by unfold i64 at ib; omega
  generalize a / 8589934592 = x at *
  generalize b / 8589934592 = y at *
  refine ⟨by unfold i64; omega, by unfold i64; omega, ?_⟩
  have h3 : x.natAbs ≤ 1073741824 := by omega
  have h4 : y.natAbs ≤ 1073741824 := by omega
  have h5 : (x * y).natAbs ≤ 1073741824 * 1073741824 := by rw [Int.natAbs_mul]; exact Nat.mul_le_mul h3 h4
  unfold i64
  omega
end Go.Proofs.YtlclanmbebjfkaaDoor
