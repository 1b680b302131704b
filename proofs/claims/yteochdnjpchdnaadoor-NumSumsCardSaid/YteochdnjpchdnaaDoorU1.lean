import Derived.Test.YteochdnjpchdnaaDoorT1
import Derived.Test.YteochdnjpchdnaaDoorJ5
import Derived.ChangeSame
import Derived.OpenShut
import Derived.Carry
import Derived.Deep.Slices
set_option linter.unusedVariables false
set_option linter.unusedSimpArgs false
namespace Go.Proofs.YteochdnjpchdnaaDoor
open Go.ChangeShapes Go.WideShapes Go.ChangeAt Go.RowKit
set_option linter.unusedVariables false

theorem wf_i64 {n : Int} (h : (Lit.int .i64 n).wf = true) : i64 n := by
  have h1 : IntKind.i64.min = -9223372036854775808 := by decide
  have h2 : IntKind.i64.max = 9223372036854775807 := by decide
  simp only [Lit.wf, Bool.and_eq_true, decide_eq_true_eq] at h
  rw [h1, h2] at h
  exact h
theorem laidOutA : laidOutB Tryd.prog = true := by kernel_rfl
theorem cellsOp : Tryd.prog.cellsOf 92 = 4 := by kernel_rfl
theorem cellsInt : Tryd.prog.cellsOf 3 = 1 := by kernel_rfl
theorem cellsI64 : Tryd.prog.cellsOf 2 = 1 := by kernel_rfl

theorem list_all {α : Type} {P : Nat → α → Prop} : ∀ len, (∀ i, i < len → ∃ o, P i o) → ∃ os : List α, os.length = len ∧ ∀ i (hi : i < os.length), P i os[i]
  | 0, _ => ⟨[], rfl, fun i hi => by simp at hi⟩
  | k + 1, hall => by
    obtain ⟨os, hl, ho⟩ := list_all k (fun i hi => hall i (by omega))
    obtain ⟨o, ho2⟩ := hall k (by omega)
    refine ⟨os ++ [o], by simp [hl], fun i hi => ?_⟩
    by_cases hik : i < os.length
    · rw [List.getElem_append_left hik]; exact ho i hik
    · have : i = os.length := by simp at hi; omega
      subst this
      rw [List.getElem_append_right (Nat.le_refl _)]
      simp only [Nat.sub_self, List.getElem_cons_zero]
      rw [hl]; exact ho2
section
variable {H : Type} {enc : TypeId × Value → H} {W : World} {base : Nat} {sp : Nat → Bool} {held : Bool}
set_option maxRecDepth 100000 in
/-- a call of a script, out of its cells -/
theorem open_op {n : Nat} {cs : List Value} {x : DataW H × List MemPlace} (h : DataW.trod enc Tryd.prog W base sp held n 92 cs = some x) : ∃ o : OV, cs = cellsO o ∧ i64 o.2.1 ∧ i64 o.2.2.1 ∧ i64 o.2.2.2 := by
  obtain ⟨xs, m, _, rfl, hl, hlen, hf⟩ := DataW.trod_struct Tryd.underlying92 h
  rw [cellsOp] at hl
  match cs, hl with
  | [c0, c1, c2, c3], _ =>
    have g : ∀ (i : Nat) (hi : i < xs.length), ∃ y, xs[i]? = some y := fun i hi => ⟨_, List.getElem?_eq_getElem hi⟩
    have hs : xs.length = 4 := hlen
    obtain ⟨y0, e0⟩ := g 0 (by omega)
    obtain ⟨y1, e1⟩ := g 1 (by omega)
    obtain ⟨y2, e2⟩ := g 2 (by omega)
    obtain ⟨y3, e3⟩ := g 3 (by omega)
    have f0 := (hf 0 _ rfl).trans e0
    have f1 := (hf 1 _ rfl).trans e1
    have f2 := (hf 2 _ rfl).trans e2
    have f3 := (hf 3 _ rfl).trans e3
    obtain ⟨n0, k0, _, w0⟩ := DataW.trod_int Tryd.underlying3 f0
    obtain ⟨n1, k1, _, w1⟩ := DataW.trod_int Tryd.underlying3 f1
    obtain ⟨n2, k2, _, w2⟩ := DataW.trod_int Tryd.underlying3 f2
    obtain ⟨n3, k3, _, w3⟩ := DataW.trod_int Tryd.underlying2 f3
    replace k0 : List.take (Tryd.prog.cellsOf 3) (List.drop 0 [c0, c1, c2, c3]) = [.int .i64 n0] := k0
    replace k1 : List.take (Tryd.prog.cellsOf 3) (List.drop 1 [c0, c1, c2, c3]) = [.int .i64 n1] := k1
    replace k2 : List.take (Tryd.prog.cellsOf 3) (List.drop 2 [c0, c1, c2, c3]) = [.int .i64 n2] := k2
    replace k3 : List.take (Tryd.prog.cellsOf 2) (List.drop 3 [c0, c1, c2, c3]) = [.int .i64 n3] := k3
    rw [cellsInt] at k0 k1 k2
    rw [cellsI64] at k3
    have k0' : c0 = .int .i64 n0 := by simpa using k0
    have k1' : c1 = .int .i64 n1 := by simpa using k1
    have k2' : c2 = .int .i64 n2 := by simpa using k2
    have k3' : c3 = .int .i64 n3 := by simpa using k3
    subst k0'; subst k1'; subst k2'; subst k3'
    exact ⟨(n0, n1, n2, n3), rfl, wf_i64 w1, wf_i64 w2, wf_i64 w3⟩
set_option maxRecDepth 100000 in
/-- a script, out of a parameter -/
theorem open_script {v : Value} {d : DataW H} {p : List MemPlace} (hval : Value.okWide Tryd.prog W .any base 44 v) (h : DataW.Trod enc Tryd.prog W 0 (fun _ => true) true 44 v d p) :
    ∃ os : List OV, RowV W 4 v os.length (flatO os) ∧ ∀ o ∈ os, i64 o.2.1 ∧ i64 o.2.2.1 ∧ i64 o.2.2.2 := by
  obtain ⟨fuel, hf⟩ := h
  rcases Go.Deep.open_slice Tryd.underlying44 hf with ⟨hc, _⟩ | ⟨a, len, cap, m, n, D, Pl, hc, _, hl, hm, hmm, _, hx⟩
  · have hv : v = .slice none 0 0 := by
      cases v <;> simp_all [Value.cells, Value.okWide, Cell.okWide, Cell.ok, Tryd.underlying44]
    subst hv
    exact ⟨[], ⟨rfl, .inl ⟨rfl, rfl⟩⟩, fun o ho => by simp at ho⟩
  · have hv : v = .slice (some a) len cap := by
      clear hx
      cases v <;> simp_all [Value.cells, Value.okWide, Cell.okWide, Cell.ok, Tryd.underlying44]
    subst hv
    obtain ⟨b, off, spot⟩ := a
    have hok : Cell.ok Tryd.prog W .any base 44 (.slice (some ⟨b, off, spot⟩) len cap) := by
      have := hval
      unfold Value.okWide at this
      rw [Tryd.underlying44] at this
      unfold Cell.okWide at this
      rw [Tryd.underlying44] at this
      exact this
    unfold Cell.ok at hok
    rw [Tryd.underlying44] at hok
    obtain ⟨_, _, _, hspot, row, cells, hshape, _⟩ := hok
    simp only at hspot
    subst hspot
    have hbl : b < W.heap.size := by
      rcases Nat.lt_or_ge b W.heap.size with h | h
      · exact h
      · simp [World.shape?, Array.getElem?_eq_none h] at hshape
    have hmc : m = cap := by rw [hmm]; rfl
    have hall : ∀ i, i < len → ∃ o : OV, (∀ j, j < 4 → W.cell? ⟨b, off + (i * 4 + j), none⟩ = (cellsO o)[j]?) ∧ i64 o.2.1 ∧ i64 o.2.2.1 ∧ i64 o.2.2.2 := by
      intro i hi
      obtain ⟨cs', h1, h2⟩ := hx i (by omega)
      obtain ⟨o, rfl, i1, i2, i3⟩ := open_op h2
      rw [cellsOp] at h1
      obtain ⟨_, _, h3⟩ := World.cells?_some h1
      refine ⟨o, fun j hj => ?_, i1, i2, i3⟩
      have := h3 j hj
      rw [add_plain, add_plain] at this
      rw [← this, Nat.add_assoc]
    obtain ⟨os, hol, ho⟩ := list_all len hall
    refine ⟨os, ⟨flatO_len os, .inr ⟨b, off, cap, by rw [hol], by omega, hm, hbl, fun j u hj => ?_⟩⟩, fun o hmem => ?_⟩
    · have hjl : j < os.length * 4 := by
        rw [← flatO_len]
        exact (List.getElem?_eq_some_iff.1 hj).1
      have hd : j / 4 < os.length := by omega
      obtain ⟨h1, _⟩ := ho (j / 4) hd
      have h2 := h1 (j % 4) (by omega)
      rw [show j / 4 * 4 + j % 4 = j by omega] at h2
      rw [h2]
      obtain ⟨g0, g1, g2, g3⟩ := flatO_get os (j / 4) hd
      have hcase : j % 4 = 0 ∨ j % 4 = 1 ∨ j % 4 = 2 ∨ j % 4 = 3 := by omega
      rcases hcase with e | e | e | e
      · rw [show j / 4 * 4 = j by omega] at g0; rw [g0] at hj; rw [e]; exact hj
      · rw [show j / 4 * 4 + 1 = j by omega] at g1; rw [g1] at hj; rw [e]; exact hj
      · rw [show j / 4 * 4 + 2 = j by omega] at g2; rw [g2] at hj; rw [e]; exact hj
      · rw [show j / 4 * 4 + 3 = j by omega] at g3; rw [g3] at hj; rw [e]; exact hj
    · obtain ⟨i, hi, rfl⟩ := List.mem_iff_getElem.1 hmem
      exact (ho i hi).2
theorem cellsArr : Tryd.prog.cellsOf 56 = 3 := by kernel_rfl
set_option maxRecDepth 100000 in
/-- three ints, out of a parameter -/
theorem open_arr3 {v : Value} {d : DataW H} {p : List MemPlace} (hval : Value.okWide Tryd.prog W .any base 56 v) (h : DataW.Trod enc Tryd.prog W 0 (fun _ => true) true 56 v d p) :
    ∃ a0 a1 a2 : Int, v = .agg #[.int .i64 a0, .int .i64 a1, .int .i64 a2] ∧ i64 a0 ∧ i64 a1 ∧ i64 a2 := by
  obtain ⟨fuel, hf⟩ := h
  have hv : ∃ cs, v = .agg cs := by
    unfold Value.okWide at hval
    rw [Tryd.underlying56] at hval
    obtain ⟨cs, e, _⟩ := hval
    exact ⟨cs, e⟩
  obtain ⟨⟨cs⟩, rfl⟩ := hv
  obtain ⟨xs, m, _, _, hl, hlen, hx⟩ := DataW.trod_array Tryd.underlying56 hf
  rw [cellsArr] at hl
  match cs, hl with
  | [c0, c1, c2], _ =>
    have g : ∀ (i : Nat) (hi : i < xs.length), ∃ y, xs[i]? = some y := fun i hi => ⟨_, List.getElem?_eq_getElem hi⟩
    obtain ⟨y0, e0⟩ := g 0 (by omega)
    obtain ⟨y1, e1⟩ := g 1 (by omega)
    obtain ⟨y2, e2⟩ := g 2 (by omega)
    have f0 := (hx 0 (by omega)).trans e0
    have f1 := (hx 1 (by omega)).trans e1
    have f2 := (hx 2 (by omega)).trans e2
    rw [cellsInt] at f0 f1 f2
    obtain ⟨n0, k0, _, w0⟩ := DataW.trod_int Tryd.underlying3 f0
    obtain ⟨n1, k1, _, w1⟩ := DataW.trod_int Tryd.underlying3 f1
    obtain ⟨n2, k2, _, w2⟩ := DataW.trod_int Tryd.underlying3 f2
    have k0' : c0 = .int .i64 n0 := by simpa [Value.cells] using k0
    have k1' : c1 = .int .i64 n1 := by simpa [Value.cells] using k1
    have k2' : c2 = .int .i64 n2 := by simpa [Value.cells] using k2
    subst k0'; subst k1'; subst k2'
    exact ⟨n0, n1, n2, rfl, wf_i64 w0, wf_i64 w1, wf_i64 w2⟩
end
/-- what a call leaves that changes nothing that was there -/
theorem post_args {H : Type} {enc : TypeId × Value → H} {P : Program} {f : Func} {s : ChangeSpec} {apart fresh handsOn : Bool} {W W' : World} {args : Array Value} {v : Value} {ds gs : List (DataW H)} {before pa : List MemPlace}
    (hW : DataW.Whole enc P f.params.toList s.vars apart W args.toList ds gs before) (hb : Below W.heap.size W W')
    (hr : ∀ (b : Nat) (sp : Nat → Bool) (hd : Bool), DataW.TrodAll enc P W' b sp hd f.resultTypes.toList (v.resultList f.resultTypes.size) (s.fn H (ds ++ gs)).results [])
    (ha : DataW.TrodAll enc P W' 0 (fun b => decide (b < W.heap.size)) true f.params.toList args.toList (s.fn H (ds ++ gs)).args pa)
    (hv : ∀ sp : Nat → Bool, DataW.TrodVars enc P W' sp s.vars (s.fn H (ds ++ gs)).vars []) : s.post enc P f apart fresh handsOn false W args v W' :=
  ⟨ds, gs, before, [], pa, [], hW, hr _ _ _, ha, hv _, World.keptBut_mono (fun p hp => by cases hp) (hb.frame (fun _ => False)), fun h => by cases h⟩
end Go.Proofs.YteochdnjpchdnaaDoor
