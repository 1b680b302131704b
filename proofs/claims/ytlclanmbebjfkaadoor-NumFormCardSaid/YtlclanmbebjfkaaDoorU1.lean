import Derived.Test.YtlclanmbebjfkaaDoorU0
import Derived.Test.YtlclanmbebjfkaaDoorJ5
import Derived.ChangeSame
import Derived.OpenShut
import Derived.Carry
import Derived.Deep.Slices
set_option linter.unusedVariables false
set_option linter.unusedSimpArgs false
namespace Go.Proofs.YtlclanmbebjfkaaDoor
open Go.ChangeShapes Go.WideShapes Go.ChangeAt Go.RowKit
set_option linter.unusedVariables false

theorem list_all {α : Type} {P : Nat → α → Prop} : ∀ len, (∀ i, i < len → ∃ o, P i o) → ∃ os : List α, os.length = len ∧ ∀ i (hi : i < os.length), P i os[i]
  | 0, _ => ⟨[], rfl, fun i hi => by simp at hi⟩
  | k + 1, hall => by
    obtain ⟨os, hl, ho⟩ := list_all k (fun i hi => hall i (by omega))
    obtain ⟨o, ho2⟩ := hall k (by omega)
    refine ⟨os ++ [o], by simp [hl], fun i hi => ?_⟩
    by_cases hik : i < os.length
    · rw [List.getElem_append_left hik]; exact ho i hik
    · have : i = os.length := by simp at hi; omega
      subst this
      rw [List.getElem_append_right (Nat.le_refl _)]
      simp only [Nat.sub_self, List.getElem_cons_zero]
      rw [hl]; exact ho2
section
variable {H : Type} {enc : TypeId × Value → H} {W : World} {base : Nat} {sp : Nat → Bool} {held : Bool}
set_option maxRecDepth 100000 in
/-- a call of a script, out of its cells -/
theorem open_op {n : Nat} {cs : List Value} {x : DataW H × List MemPlace} (h : DataW.trod enc Tryd.prog W base sp held n 46 cs = some x) : ∃ o : OV, cs = cellsO o ∧ i64 o.2.1 ∧ i64 o.2.2.1 ∧ i64 o.2.2.2 := by
  obtain ⟨xs, m, _, rfl, hl, hlen, hf⟩ := DataW.trod_struct Tryd.underlying46 h
  rw [cellsOp] at hl
  match cs, hl with
  | [c0, c1, c2, c3], _ =>
    have g : ∀ (i : Nat) (hi : i < xs.length), ∃ y, xs[i]? = some y := fun i hi => ⟨_, List.getElem?_eq_getElem hi⟩
    have hs : xs.length = 4 := hlen
    obtain ⟨y0, e0⟩ := g 0 (by omega)
    obtain ⟨y1, e1⟩ := g 1 (by omega)
    obtain ⟨y2, e2⟩ := g 2 (by omega)
    obtain ⟨y3, e3⟩ := g 3 (by omega)
    have f0 := (hf 0 _ rfl).trans e0
    have f1 := (hf 1 _ rfl).trans e1
    have f2 := (hf 2 _ rfl).trans e2
    have f3 := (hf 3 _ rfl).trans e3
    obtain ⟨n0, k0, _, w0⟩ := DataW.trod_int Tryd.underlying3 f0
    obtain ⟨n1, k1, _, w1⟩ := DataW.trod_int Tryd.underlying3 f1
    obtain ⟨n2, k2, _, w2⟩ := DataW.trod_int Tryd.underlying3 f2
    obtain ⟨n3, k3, _, w3⟩ := DataW.trod_int Tryd.underlying2 f3
    replace k0 : List.take (Tryd.prog.cellsOf 3) (List.drop 0 [c0, c1, c2, c3]) = [.int .i64 n0] := k0
    replace k1 : List.take (Tryd.prog.cellsOf 3) (List.drop 1 [c0, c1, c2, c3]) = [.int .i64 n1] := k1
    replace k2 : List.take (Tryd.prog.cellsOf 3) (List.drop 2 [c0, c1, c2, c3]) = [.int .i64 n2] := k2
    replace k3 : List.take (Tryd.prog.cellsOf 2) (List.drop 3 [c0, c1, c2, c3]) = [.int .i64 n3] := k3
    rw [cellsInt] at k0 k1 k2
    rw [cellsI64] at k3
    have k0' : c0 = .int .i64 n0 := by simpa using k0
    have k1' : c1 = .int .i64 n1 := by simpa using k1
    have k2' : c2 = .int .i64 n2 := by simpa using k2
    have k3' : c3 = .int .i64 n3 := by simpa using k3
    subst k0'; subst k1'; subst k2'; subst k3'
    exact ⟨(n0, n1, n2, n3), rfl, wf_i64 w1, wf_i64 w2, wf_i64 w3⟩
set_option maxRecDepth 100000 in
/-- a script, out of a parameter -/
theorem open_script {v : Value} {d : DataW H} {p : List MemPlace} (hval : Value.okWide Tryd.prog W .any base 22 v) (h : DataW.Trod enc Tryd.prog W 0 (fun _ => true) true 22 v d p) :
    ∃ os : List OV, RowV W 4 v os.length (flatO os) ∧ ∀ o ∈ os, i64 o.2.1 ∧ i64 o.2.2.1 ∧ i64 o.2.2.2 := by
  obtain ⟨fuel, hf⟩ := h
  rcases Go.Deep.open_slice Tryd.underlying22 hf with ⟨hc, _⟩ | ⟨a, len, cap, m, n, D, Pl, hc, _, hl, hm, hmm, _, hx⟩
  · have hv : v = .slice none 0 0 := by
      cases v <;> simp_all [Value.cells, Value.okWide, Cell.okWide, Cell.ok, Tryd.underlying22]
    subst hv
    exact ⟨[], ⟨rfl, .inl ⟨rfl, rfl⟩⟩, fun o ho => by simp at ho⟩
  · have hv : v = .slice (some a) len cap := by
      clear hx
      cases v <;> simp_all [Value.cells, Value.okWide, Cell.okWide, Cell.ok, Tryd.underlying22]
    subst hv
    obtain ⟨b, off, spot⟩ := a
    have hok : Cell.ok Tryd.prog W .any base 22 (.slice (some ⟨b, off, spot⟩) len cap) := by
      have := hval
      unfold Value.okWide at this
      rw [Tryd.underlying22] at this
      unfold Cell.okWide at this
      rw [Tryd.underlying22] at this
      exact this
    unfold Cell.ok at hok
    rw [Tryd.underlying22] at hok
    obtain ⟨_, _, _, hspot, row, cells, hshape, _⟩ := hok
    simp only at hspot
    subst hspot
    have hbl : b < W.heap.size := by
      rcases Nat.lt_or_ge b W.heap.size with h | h
      · exact h
      · simp [World.shape?, Array.getElem?_eq_none h] at hshape
    have hmc : m = cap := by rw [hmm]; rfl
    have hall : ∀ i, i < len → ∃ o : OV, (∀ j, j < 4 → W.cell? ⟨b, off + (i * 4 + j), none⟩ = (cellsO o)[j]?) ∧ i64 o.2.1 ∧ i64 o.2.2.1 ∧ i64 o.2.2.2 := by
      intro i hi
      obtain ⟨cs', h1, h2⟩ := hx i (by omega)
      obtain ⟨o, rfl, i1, i2, i3⟩ := open_op h2
      rw [cellsOp] at h1
      obtain ⟨_, _, h3⟩ := World.cells?_some h1
      refine ⟨o, fun j hj => ?_, i1, i2, i3⟩
      have := h3 j hj
      rw [add_plain, add_plain] at this
      rw [← this, Nat.add_assoc]
    obtain ⟨os, hol, ho⟩ := list_all len hall
    refine ⟨os, ⟨flatO_len os, .inr ⟨b, off, cap, by rw [hol], by omega, hm, hbl, fun j u hj => ?_⟩⟩, fun o hmem => ?_⟩
    · have hjl : j < os.length * 4 := by
        rw [← flatO_len]
        exact (List.getElem?_eq_some_iff.1 hj).1
      have hd : j / 4 < os.length := by omega
      obtain ⟨h1, _⟩ := ho (j / 4) hd
      have h2 := h1 (j % 4) (by omega)
      rw [show j / 4 * 4 + j % 4 = j by omega] at h2
      rw [h2]
      obtain ⟨g0, g1, g2, g3⟩ := flatO_get os (j / 4) hd
      have hcase : j % 4 = 0 ∨ j % 4 = 1 ∨ j % 4 = 2 ∨ j % 4 = 3 := by omega
      rcases hcase with e | e | e | e
      · rw [show j / 4 * 4 = j by omega] at g0; rw [g0] at hj; rw [e]; exact hj
      · rw [show j / 4 * 4 + 1 = j by omega] at g1; rw [g1] at hj; rw [e]; exact hj
      · rw [show j / 4 * 4 + 2 = j by omega] at g2; rw [g2] at hj; rw [e]; exact hj
      · rw [show j / 4 * 4 + 3 = j by omega] at g3; rw [g3] at hj; rw [e]; exact hj
    · obtain ⟨i, hi, rfl⟩ := List.mem_iff_getElem.1 hmem
      exact (ho i hi).2
end
end Go.Proofs.YtlclanmbebjfkaaDoor
