import Derived.Test.YteochdnjpchdnaaDoorU0
import Derived.ChangeSlices
import Derived.ChangeSame
import Derived.Test.YteochdnjpchdnaaDoorO8
set_option linter.unusedVariables false
set_option linter.unusedSimpArgs false
namespace Go.Proofs.YteochdnjpchdnaaDoor
open Go.ChangeShapes Go.WideShapes Go.ChangeAt Go.RowKit
set_option linter.unusedVariables false

section
variable {H : Type} {enc : TypeId × Value → H} {W : World} {base : Nat}
theorem cellsI8 : Tryd.prog.cellsOf 60 = 1 := by kernel_rfl
theorem wf_i8 {n : Int} (h : (Lit.int .i8 n).wf = true) : -128 ≤ n ∧ n ≤ 127 := by
  have h1 : IntKind.i8.min = -128 := by decide
  have h2 : IntKind.i8.max = 127 := by decide
  simp only [Lit.wf, Bool.and_eq_true, decide_eq_true_eq] at h
  rw [h1, h2] at h
  exact h
set_option maxRecDepth 100000 in
/-- int8s, out of a parameter -/
theorem open_i8 {v : Value} {d : DataW H} {p : List MemPlace} (hval : Value.okWide Tryd.prog W .any base 22 v) (h : DataW.Trod enc Tryd.prog W 0 (fun _ => true) true 22 v d p) :
    ∃ ws : List Int, RowV W 1 v ws.length (ws.map (fun c : Int => Value.int .i8 c)) ∧ ∀ c ∈ ws, -128 ≤ c ∧ c ≤ 127 := by
  obtain ⟨fuel, hf⟩ := h
  rcases open_ints Tryd.underlying22 Tryd.underlying60 cellsI8 hf with ⟨hc, _⟩ | ⟨a, len, cap, zs, hc, _, hl, hm, hz, _, hx, hw⟩
  · have hv : v = .slice none 0 0 := by
      cases v <;> simp_all [Value.cells, Value.okWide, Cell.okWide, Cell.ok, Tryd.underlying22]
    subst hv
    exact ⟨[], ⟨rfl, .inl ⟨rfl, rfl⟩⟩, fun o ho => by simp at ho⟩
  · have hv : v = .slice (some a) len cap := by
      clear hx
      cases v <;> simp_all [Value.cells, Value.okWide, Cell.okWide, Cell.ok, Tryd.underlying22]
    subst hv
    obtain ⟨b, off, spot⟩ := a
    have hok : Cell.ok Tryd.prog W .any base 22 (.slice (some ⟨b, off, spot⟩) len cap) := by
      have := hval
      unfold Value.okWide at this
      rw [Tryd.underlying22] at this
      unfold Cell.okWide at this
      rw [Tryd.underlying22] at this
      exact this
    unfold Cell.ok at hok
    rw [Tryd.underlying22] at hok
    obtain ⟨_, _, _, hspot, row, cells, hshape, _⟩ := hok
    simp only at hspot
    subst hspot
    have hbl : b < W.heap.size := by
      rcases Nat.lt_or_ge b W.heap.size with h | h
      · exact h
      · simp [World.shape?, Array.getElem?_eq_none h] at hshape
    have hzc : zs.length = cap := by rw [hz]; rfl
    have htl : (zs.take len).length = len := by simp; omega
    refine ⟨zs.take len, ⟨by simp, .inr ⟨b, off, cap, by rw [htl], by omega, hm, hbl, fun j u hj => ?_⟩⟩, fun c hc => wf_i8 (hw c (List.mem_of_mem_take hc))⟩
    have hjl : j < (zs.take len).length := by
      have := (List.getElem?_eq_some_iff.1 hj).1
      simpa using this
    have hjz : j < zs.length := by omega
    have h1 := hx j hjz
    rw [add_plain] at h1
    rw [h1, ← hj]
    simp [List.getD_eq_getElem?_getD, hjz, show j < len by omega]
set_option maxRecDepth 100000 in
/-- a pack, out of a parameter -/
theorem open_pack {v : Value} {d : DataW H} {p : List MemPlace} (hval : Value.okWide Tryd.prog W .any base 24 v) (h : DataW.Trod enc Tryd.prog W 0 (fun _ => true) true 24 v d p) :
    ∃ (a : Option Addr) (c : Nat) (ws : List Int), v = .agg #[.slice a ws.length c] ∧ RowV W 1 (.slice a ws.length c) ws.length (ws.map (fun c : Int => Value.int .i8 c)) ∧ ∀ c ∈ ws, -128 ≤ c ∧ c ≤ 127 := by
  obtain ⟨fuel, hf⟩ := h
  unfold Value.okWide at hval
  rw [Tryd.underlying24] at hval
  obtain ⟨⟨cs⟩, rfl, hcs, ts, hts, _, hrow⟩ := hval
  have hts2 : Tryd.prog.cellTypes Tryd.prog.depth 24 = some [22] := by kernel_rfl
  obtain rfl : ts = [22] := Option.some.inj (hts.symm.trans hts2)
  have hcp : Tryd.prog.cellsOf 24 = 1 := by kernel_rfl
  have hci : Tryd.prog.cellsOf 22 = 1 := by kernel_rfl
  obtain ⟨y0, n, _, hl, hy⟩ := trod_struct1 Tryd.underlying24 hf
  rw [hcp] at hl
  match cs, hl with
  | [c0], _ =>
    obtain ⟨u, hu, hok⟩ := hrow 0 c0 rfl
    obtain rfl : u = 22 := (Option.some.inj (show some 22 = some u from hu)).symm
    have hv0 : Value.okWide Tryd.prog W .any base 22 c0 := by
      unfold Value.okWide
      rw [Tryd.underlying22]
      exact hok
    have hsh : c0.cells.toList = [c0] := by
      cases c0 <;> simp_all [Value.cells, Cell.okWide, Cell.ok, Tryd.underlying22]
    have ht : DataW.Trod enc Tryd.prog W 0 (fun _ => true) true 22 c0 y0.1 y0.2 := ⟨n, by
      rw [hsh]
      rw [hci] at hy
      exact hy⟩
    obtain ⟨ws, hr, hb⟩ := open_i8 hv0 ht
    obtain ⟨a, c, rfl⟩ := hr.shape
    exact ⟨a, c, ws, rfl, hr, hb⟩
end
end Go.Proofs.YteochdnjpchdnaaDoor

namespace Go.Proofs.YteochdnjpchdnaaDoor
open Go.ChangeShapes Go.WideShapes Go.ChangeAt Go.RowKit
set_option linter.unusedVariables false

set_option maxRecDepth 100000 in
theorem NumBinary_contract (H : Type) (enc : TypeId × Value → H) (W : World) (base : Nat) (args : Array Value) (ds gs : List (DataW H)) (before : List MemPlace)
    (hval : ∀ (j : Nat) t v, Tryd.f3.params[j]? = some t → args[j]? = some v → Value.okWide Tryd.prog W .any base t v)
    (hW : DataW.Whole enc Tryd.prog Tryd.f3.params.toList Rows.numBinarySpec.vars false W args.toList ds gs before) (hL : laidMetH Tryd.prog Rows.numBinaryRow.laid W) :
    Calls Tryd.prog 3 args W fun e W' => ∃ v, e = .returned v ∧ Rows.numBinarySpec.post enc Tryd.prog Tryd.f3 false true false false W args v W' := by
  have hW' := hW
  have hlt := hW.lt
  obtain ⟨p, q, hA0, hV, rfl, hfz, hnd⟩ := hW
  have hA : DataW.TrodAll enc Tryd.prog W 0 (fun _ => true) true Tryd.f3.params.toList args.toList ds p := hA0
  rw [Tryd.params3] at hA hval
  obtain ⟨v0, vs0, d0, ds0, p0, q0, hargs, rfl, rfl, h0, r0⟩ := trodAll_cons hA
  obtain ⟨v1, vs1, d1, ds1, p1, q1, rfl, rfl, rfl, h1, r1⟩ := trodAll_cons r0
  obtain ⟨v2, vs2, d2, ds2, p2, q2, rfl, rfl, rfl, h2, r2⟩ := trodAll_cons r1
  obtain ⟨rfl, rfl, rfl⟩ := trodAll_nil r2
  obtain rfl : args = #[v0, v1, v2] := by cases args; simp_all
  obtain ⟨rfl, rfl⟩ := trodVars_none hV
  obtain ⟨aa, ca, wa, rfl, hra, hia⟩ := open_pack (hval 0 24 v0 rfl rfl) h0
  obtain ⟨ab, cb, wb, rfl, hrb, hib⟩ := open_pack (hval 1 24 v1 rfl rfl) h1
  obtain ⟨a1, rfl, rfl, rfl, w1⟩ := open_int Tryd.underlying5 (hval 2 5 v2 rfl rfl) h2
  clear hA0 hval
  simp only [List.append_nil, List.nil_append] at hW' hlt
  have tab : Tab W := tab_laid hL
  have hu : 0 ≤ a1 ∧ a1 ≤ 255 := by
    have h1 : IntKind.u8.min = 0 := by decide
    have h2 : IntKind.u8.max = 255 := by decide
    have h := w1
    simp only [Lit.wf, Bool.and_eq_true, decide_eq_true_eq] at h
    rw [h1, h2] at h
    exact h
  obtain ⟨nb, rfl⟩ := Int.eq_ofNat_of_zero_le hu.1
  refine (NumBinary_calls hra hrb hia hib tab (size_tab tab) nb (by omega)).mono fun e W' ⟨he, hg⟩ => ?_
  subst he
  have g0 := Below.trod laidOutA (by kernel_rfl) (of_decide_eq_true (by kernel_rfl)) h0 hg (fun x hx => hlt x (List.mem_append_left _ hx))
  have g1 := Below.trod laidOutA (by kernel_rfl) (of_decide_eq_true (by kernel_rfl)) h1 hg (fun x hx => hlt x (List.mem_append_right _ hx))
  exact ⟨_, rfl, post_args hW' hg (fun _ _ _ => trodAll_cons_mk (shut_bool Tryd.underlying4 _) trodAll_mk0) (trodAll_cons_mk g0 (trodAll_cons_mk g1 (trodAll_cons_mk (shut_int Tryd.underlying5 w1) trodAll_mk0))) (fun _ => rfl)⟩
end Go.Proofs.YteochdnjpchdnaaDoor
