import Derived.Test.YtfhoimblabmkkaaDoorJ5
import Derived.Deep.CutRange
import Derived.Deep.RegionHeld3
import Derived.Deep.DrawnRows
set_option linter.unusedVariables false
set_option linter.unusedSimpArgs false
namespace Go.Proofs.YtfhoimblabmkkaaDoor
open Go.RowKit
set_option linter.unusedVariables false

/-- three numbers that a law has picked -/
def Pick3 (w1 : World) (s1 s2 s3 : Int) (g1 g2 g3 : Option Addr) (v6 v7 v8 : Value) (wx : World) : Prop :=
  ∃ b6 b7 b8, v6 = .pointer (some ⟨b6, 0, none⟩) ∧ v7 = .pointer (some ⟨b7, 0, none⟩) ∧ v8 = .pointer (some ⟨b8, 0, none⟩) ∧ Below w1.heap.size w1 wx ∧
    wx.heap[b6]? = some (.cells #[.int .i64 s1, .pointer g1] 29 (0, 0)) ∧ wx.heap[b7]? = some (.cells #[.int .i64 s2, .pointer g2] 29 (0, 0)) ∧ wx.heap[b8]? = some (.cells #[.int .i64 s3, .pointer g3] 29 (0, 0))

set_option maxRecDepth 100000 in
set_option maxHeartbeats 8000000 in
/-- ████ NumOrder -/
theorem NumOrder_calls {w : World} {v : Value} {os : List OV} (hr : RowV w 4 v os.length (flatO os)) (hi : ∀ o ∈ os, i64 o.2.1 ∧ i64 o.2.2.1 ∧ i64 o.2.2.2) (tab : Tab w) (h0 : 0 < w.heap.size) (a0 a1 a2 : Int) (ia0 : i64 a0) (ia1 : i64 a1) (ia2 : i64 a2) :
    Calls Tryd.prog 5 #[v, .agg #[.int .i64 a0, .int .i64 a1, .int .i64 a2]] w fun e w' => e = .returned (.bool true) ∧ Below w.heap.size w w' := by
  obtain ⟨ax, cx, rfl⟩ := hr.shape
  obtain ⟨wB, hwB⟩ : ∃ wB, wB = w.alloc (.cells #[.int .i64 a0, .int .i64 a1, .int .i64 a2] 56) := ⟨_, rfl⟩
  have hbB : Below w.heap.size w wB := by rw [hwB]; exact (Below.refl _ _).alloc (Nat.le_refl _) _
  have p0 : wB.heap[w.heap.size]? = some (.cells #[.int .i64 a0, .int .i64 a1, .int .i64 a2] 56 (0, 0)) := by rw [hwB]; exact heap_alloc_new w _
  have hL := LawW.of tab h0 hbB
  have hMade := made_calls (w := wB) (hr.below hbB (Nat.le_refl _)) hi (hL wB (Below.refl _ _)).1 (hL wB (Below.refl _ _)).2
  have HX := Lib.hid (And.intro hbB (And.intro p0 (And.intro hL (And.intro ia0 (And.intro ia1 ia2)))))
  clear hr hi tab h0 hbB p0 hL
  subst hwB
  go_enter Tryd.func5, Tryd.ntmps5
  go_upto_region 2 with (first
    | (go_at_call 27; refine hMade.mono ?_; rintro e1 w1 ⟨a, n, c, rfl, hn3, hn27, hM⟩
       have H1 := Lib.hid hM
       clear hM))
  obtain ⟨ns, zs, hl, hown, hv, hb1, hm⟩ := H1.out
  obtain ⟨hbB, p0, hL, ia0, ia1, ia2⟩ := HX.out
  obtain ⟨b, rfl⟩ : ∃ b, a = some ⟨b, 0, none⟩ := by
    obtain ⟨_, h2⟩ := hown
    rcases h2 with ⟨e, _⟩ | ⟨g', cap, cur, ev, _⟩
    · simp only [Value.slice.injEq] at e; omega
    · cases ev; exact ⟨g', rfl⟩
  have hbl := (hown.lt b rfl).2
  have hbge := (hown.lt b rfl).1
  have hp1 := (hb1.block _ (lt_of_some p0)).trans p0
  have hNn : (0 : Int) < (n : Int) := by omega
  obtain ⟨j1, hj1⟩ := Int.eq_ofNat_of_zero_le (Int.emod_nonneg a0 (show (n : Int) ≠ 0 by omega))
  obtain ⟨j2, hj2⟩ := Int.eq_ofNat_of_zero_le (Int.emod_nonneg a1 (show (n : Int) ≠ 0 by omega))
  obtain ⟨j3, hj3⟩ := Int.eq_ofNat_of_zero_le (Int.emod_nonneg a2 (show (n : Int) ≠ 0 by omega))
  have hl1 : j1 < n := by have := Int.emod_lt_of_pos a0 hNn; omega
  have hl2 : j2 < n := by have := Int.emod_lt_of_pos a1 hNn; omega
  have hl3 : j3 < n := by have := Int.emod_lt_of_pos a2 hNn; omega
  have hR1 : ∀ W, Calls Tryd.prog 34 #[.int .i64 a0, .int .i64 (n : Int)] W fun e w' => e = .returned (.int .i64 (j1 : Int)) ∧ W = w' := fun W => by rw [← hj1]; exact rest_calls a0 _ ia0 hNn (by omega) W
  have hR2 : ∀ W, Calls Tryd.prog 34 #[.int .i64 a1, .int .i64 (n : Int)] W fun e w' => e = .returned (.int .i64 (j2 : Int)) ∧ W = w' := fun W => by rw [← hj2]; exact rest_calls a1 _ ia1 hNn (by omega) W
  have hR3 : ∀ W, Calls Tryd.prog 34 #[.int .i64 a2, .int .i64 (n : Int)] W fun e w' => e = .returned (.int .i64 (j3 : Int)) ∧ W = w' := fun W => by rw [← hj3]; exact rest_calls a2 _ ia2 hNn (by omega) W
  subst hl
  have hzl := hv.len
  have hn1 := (hv.get j1 hl1 (by omega)).cold
  have hn2 := (hv.get j2 hl2 (by omega)).cold
  have hn3' := (hv.get j3 hl3 (by omega)).cold
  obtain ⟨q0, q1⟩ := RowC.num (RowV.of_own hown).rowC j1 hl1
  obtain ⟨q2, q3⟩ := RowC.num (RowV.of_own hown).rowC j2 hl2
  obtain ⟨q4, q5⟩ := RowC.num (RowV.of_own hown).rowC j3 hl3
  generalize ns[j1] = t1 at q0 q1 hn1
  generalize ns[j2] = t2 at q2 q3 hn2
  generalize ns[j3] = t3 at q4 q5 hn3'
  obtain ⟨s1, g1⟩ := t1
  obtain ⟨s2, g2⟩ := t2
  obtain ⟨s3, g3⟩ := t3
  simp only at q0 q1 q2 q3 q4 q5 hn1 hn2 hn3'
  generalize zs[j1]'(by omega) = z1 at hn1
  generalize zs[j2]'(by omega) = z2 at hn2
  generalize zs[j3]'(by omega) = z3 at hn3'
  have hc0 : w1.cell? ⟨w.heap.size, 0, none⟩ = some (.int .i64 a0) := by simp [World.cell?, hp1]
  have hc1 : w1.cell? ⟨w.heap.size, 1, none⟩ = some (.int .i64 a1) := by simp [World.cell?, hp1]
  have hc2 : w1.cell? ⟨w.heap.size, 2, none⟩ = some (.int .i64 a2) := by simp [World.cell?, hp1]
  have hwl := lt_of_some hp1
  have hLw := hL.on hb1
  have hbw := hbB.trans (hb1.mono hbB.size)
  have HY := Lib.hid (And.intro hn1 (And.intro hn2 (And.intro hn3' (And.intro hLw hbw))))
  generalize hpl : ns.length = L at *
  have k0 : (0 : Int) ≤ (j1 : Int) := by omega
  have k1 : (0 : Int) ≤ (j2 : Int) := by omega
  have k2 : (0 : Int) ≤ (j3 : Int) := by omega
  have k3 : (j1 : Int) < (L : Int) := by omega
  have k4 : (j2 : Int) < (L : Int) := by omega
  have k5 : (j3 : Int) < (L : Int) := by omega
  clear hpl hown hv hb1 hm hbB p0 hL ia0 ia1 ia2 hp1 hj1 hj2 hj3 hl1 hl2 hl3 hn1 hn2 hn3' hLw hbw H1 HX hzl hn27 hn3 hNn hMade
  simp only [Nat.zero_add] at q0 q1 q2 q3 q4 q5
  have hne1 : ¬ b = w1.heap.size := by omega
  have hne2 : ¬ w1.heap.size = b := by omega
  have hne3 : ¬ b = w1.heap.size + 1 := by omega
  have hne4 : ¬ w1.heap.size + 1 = b := by omega
  have hne5 : ¬ b = w1.heap.size + 1 + 1 := by omega
  have hne6 : ¬ w1.heap.size + 1 + 1 = b := by omega
  have hnw1 : ¬ w.heap.size = w1.heap.size := by omega
  have hnw2 : ¬ w1.heap.size = w.heap.size := by omega
  have hnw3 : ¬ w.heap.size = w1.heap.size + 1 := by omega
  have hnw4 : ¬ w1.heap.size + 1 = w.heap.size := by omega
  have hnw5 : ¬ w.heap.size = w1.heap.size + 1 + 1 := by omega
  have hnw6 : ¬ w1.heap.size + 1 + 1 = w.heap.size := by omega
  have hSS : ∀ W, Below w1.heap.size w1 W → W.cell? ⟨w.heap.size, 0, none⟩ = some (.int .i64 a0) ∧ W.cell? ⟨w.heap.size, 1, none⟩ = some (.int .i64 a1) ∧ W.cell? ⟨w.heap.size, 2, none⟩ = some (.int .i64 a2) ∧ W.cell? ⟨b, j1 * 2, none⟩ = some (.int .i64 s1) ∧ W.cell? ⟨b, j1 * 2 + 1, none⟩ = some (.pointer g1) ∧
      W.cell? ⟨b, j2 * 2, none⟩ = some (.int .i64 s2) ∧ W.cell? ⟨b, j2 * 2 + 1, none⟩ = some (.pointer g2) ∧ W.cell? ⟨b, j3 * 2, none⟩ = some (.int .i64 s3) ∧ W.cell? ⟨b, j3 * 2 + 1, none⟩ = some (.pointer g3) := fun W hW =>
    ⟨(hW.cell (p := ⟨w.heap.size, 0, none⟩) hwl).trans hc0, (hW.cell (p := ⟨w.heap.size, 1, none⟩) hwl).trans hc1, (hW.cell (p := ⟨w.heap.size, 2, none⟩) hwl).trans hc2, (hW.cell (p := ⟨b, j1 * 2, none⟩) hbl).trans q0, (hW.cell (p := ⟨b, j1 * 2 + 1, none⟩) hbl).trans q1, (hW.cell (p := ⟨b, j2 * 2, none⟩) hbl).trans q2, (hW.cell (p := ⟨b, j2 * 2 + 1, none⟩) hbl).trans q3, (hW.cell (p := ⟨b, j3 * 2, none⟩) hbl).trans q4, (hW.cell (p := ⟨b, j3 * 2 + 1, none⟩) hbl).trans q5⟩
  have HSS := Lib.hid hSS
  clear hSS
  go_cut [6, 7, 8] from 18 to 41 (fun v6 v7 v8 wx => Pick3 w1 s1 s2 s3 g1 g2 g3 v6 v7 v8 wx)
  case first =>
    refine wp_region_held_drew (S := fun w' => w'.cell? ⟨w.heap.size, 0, none⟩ = some (.int .i64 a0) ∧ w'.cell? ⟨w.heap.size, 1, none⟩ = some (.int .i64 a1) ∧ w'.cell? ⟨w.heap.size, 2, none⟩ = some (.int .i64 a2) ∧ w'.cell? ⟨b, j1 * 2, none⟩ = some (.int .i64 s1) ∧ w'.cell? ⟨b, j1 * 2 + 1, none⟩ = some (.pointer g1) ∧ w'.cell? ⟨b, j2 * 2, none⟩ = some (.int .i64 s2) ∧ w'.cell? ⟨b, j2 * 2 + 1, none⟩ = some (.pointer g2) ∧ w'.cell? ⟨b, j3 * 2, none⟩ = some (.int .i64 s3) ∧ w'.cell? ⟨b, j3 * 2 + 1, none⟩ = some (.pointer g3)) (by kernel_rfl) (HSS.out _ ((Below.refl _ _).drew)) (fun hHeld => ?_)
    refine wpAnyH_take (i := 0) (oi := _) (v := ?v0) rfl (by kernel_rfl) (by kernel_rfl) (by kernel_rfl) (fun _ _ _ h => h) (Or.inl ⟨by rfl, ?h0⟩) (by assumption) ?r0
    case h0 => (intro w hSw; (try dsimp only at hSw); go_simp; try with_reducible rfl)
    try simp only [Act.put, List.setIfInBounds_toArray, List.set_cons_zero, List.set_cons_succ]
    refine wpAnyH_take (i := 1) (oi := _) (v := ?v1) rfl (by kernel_rfl) (by kernel_rfl) (by kernel_rfl) (fun _ _ _ h => h) (Or.inl ⟨by rfl, ?h1⟩) (by assumption) ?r1
    case h1 => (intro w hSw; (try dsimp only at hSw); go_simp; try with_reducible rfl)
    try simp only [Act.put, List.setIfInBounds_toArray, List.set_cons_zero, List.set_cons_succ]
    refine wpAnyH_take (i := 2) (oi := _) (v := ?v2) rfl (by kernel_rfl) (by kernel_rfl) (by kernel_rfl) (fun _ _ _ h => h) (Or.inl ⟨by rfl, ?h2⟩) (by assumption) ?r2
    case h2 => (intro w hSw; (try dsimp only at hSw); go_simp; try with_reducible rfl)
    try simp only [Act.put, List.setIfInBounds_toArray, List.set_cons_zero, List.set_cons_succ]
    refine wpAnyH_take (i := 3) (oi := _) (v := ?v3) rfl (by kernel_rfl) (by kernel_rfl) (by kernel_rfl) (fun _ _ _ h => h) (Or.inl ⟨by rfl, ?h3⟩) (by assumption) ?r3
    case h3 => (intro w hSw; (try dsimp only at hSw); go_simp; try with_reducible rfl)
    try simp only [Act.put, List.setIfInBounds_toArray, List.set_cons_zero, List.set_cons_succ]
    refine wpAnyH_take (i := 4) (oi := _) (v := ?v4) rfl (by kernel_rfl) (by kernel_rfl) (by kernel_rfl) (fun _ _ _ h => h) (Or.inl ⟨by rfl, ?h4⟩) (by assumption) ?r4
    case h4 => (intro w hSw; (try dsimp only at hSw); go_simp; try with_reducible rfl)
    try simp only [Act.put, List.setIfInBounds_toArray, List.set_cons_zero, List.set_cons_succ]
    refine call_take (i := 5) (oi := _) (v := .int .i64 (j1 : Int)) rfl (by kernel_rfl) (by kernel_rfl) (by kernel_rfl) (fun _ _ _ h => h) (by rfl) (fun w => by go_simp) (fun w => hR1 w) (by assumption) ?_
    try simp only [Act.put, List.setIfInBounds_toArray, List.set_cons_zero, List.set_cons_succ]
    refine wpAnyH_take (i := 6) (oi := _) (v := ?v6) rfl (by kernel_rfl) (by kernel_rfl) (by kernel_rfl) (fun _ _ _ h => h) (Or.inl ⟨by rfl, ?h6⟩) (by assumption) ?r6
    case h6 => (intro w hSw; (try dsimp only at hSw); go_simp; try with_reducible rfl)
    try simp only [Act.put, List.setIfInBounds_toArray, List.set_cons_zero, List.set_cons_succ]
    refine wpAnyH_take (i := 7) (oi := _) (v := ?v7) rfl (by kernel_rfl) (by kernel_rfl) (by kernel_rfl) (fun _ _ _ h => h) (Or.inl ⟨by rfl, ?h7⟩) (by assumption) ?r7
    case h7 => (intro w hSw; (try dsimp only at hSw); go_simp; try with_reducible rfl)
    try simp only [Act.put, List.setIfInBounds_toArray, List.set_cons_zero, List.set_cons_succ]
    refine wpAnyH_take (i := 8) (oi := _) (v := ?v8) rfl (by kernel_rfl) (by kernel_rfl) (by kernel_rfl) (fun _ _ _ h => h) (Or.inl ⟨by rfl, ?h8⟩) (by assumption) ?r8
    case h8 => (intro w hSw; (try dsimp only at hSw); go_simp; try with_reducible rfl)
    try simp only [Act.put, List.setIfInBounds_toArray, List.set_cons_zero, List.set_cons_succ]
    refine wpAnyH_take (i := 9) (oi := _) (v := ?v9) rfl (by kernel_rfl) (by kernel_rfl) (by kernel_rfl) (fun _ _ _ h => h) (Or.inl ⟨by rfl, ?h9⟩) (by assumption) ?r9
    case h9 => (intro w hSw; (try dsimp only at hSw); go_simp; try with_reducible rfl)
    try simp only [Act.put, List.setIfInBounds_toArray, List.set_cons_zero, List.set_cons_succ]
    refine wpAnyH_take (i := 10) (oi := _) (v := ?v10) rfl (by kernel_rfl) (by kernel_rfl) (by kernel_rfl) (fun _ _ _ h => h) (Or.inl ⟨by rfl, ?h10⟩) (by assumption) ?r10
    case h10 => (intro w hSw; (try dsimp only at hSw); go_simp; try with_reducible rfl)
    try simp only [Act.put, List.setIfInBounds_toArray, List.set_cons_zero, List.set_cons_succ]
    refine wpAnyH_take (i := 11) (oi := _) (v := ?v11) rfl (by kernel_rfl) (by kernel_rfl) (by kernel_rfl) (fun _ _ _ h => h) (Or.inl ⟨by rfl, ?h11⟩) (by assumption) ?r11
    case h11 => (intro w hSw; (try dsimp only at hSw); go_simp; try with_reducible rfl)
    try simp only [Act.put, List.setIfInBounds_toArray, List.set_cons_zero, List.set_cons_succ]
    refine wpAnyH_take (i := 12) (oi := _) (v := ?v12) rfl (by kernel_rfl) (by kernel_rfl) (by kernel_rfl) (fun _ _ _ h => h) (Or.inl ⟨by rfl, ?h12⟩) (by assumption) ?r12
    case h12 => (intro w hSw; (try dsimp only at hSw); go_simp; try with_reducible rfl)
    try simp only [Act.put, List.setIfInBounds_toArray, List.set_cons_zero, List.set_cons_succ]
    refine call_take (i := 13) (oi := _) (v := .int .i64 (j2 : Int)) rfl (by kernel_rfl) (by kernel_rfl) (by kernel_rfl) (fun _ _ _ h => h) (by rfl) (fun w => by go_simp) (fun w => hR2 w) (by assumption) ?_
    try simp only [Act.put, List.setIfInBounds_toArray, List.set_cons_zero, List.set_cons_succ]
    refine wpAnyH_take (i := 14) (oi := _) (v := ?v14) rfl (by kernel_rfl) (by kernel_rfl) (by kernel_rfl) (fun _ _ _ h => h) (Or.inl ⟨by rfl, ?h14⟩) (by assumption) ?r14
    case h14 => (intro w hSw; (try dsimp only at hSw); go_simp; try with_reducible rfl)
    try simp only [Act.put, List.setIfInBounds_toArray, List.set_cons_zero, List.set_cons_succ]
    refine wpAnyH_take (i := 15) (oi := _) (v := ?v15) rfl (by kernel_rfl) (by kernel_rfl) (by kernel_rfl) (fun _ _ _ h => h) (Or.inl ⟨by rfl, ?h15⟩) (by assumption) ?r15
    case h15 => (intro w hSw; (try dsimp only at hSw); go_simp; try with_reducible rfl)
    try simp only [Act.put, List.setIfInBounds_toArray, List.set_cons_zero, List.set_cons_succ]
    refine wpAnyH_take (i := 16) (oi := _) (v := ?v16) rfl (by kernel_rfl) (by kernel_rfl) (by kernel_rfl) (fun _ _ _ h => h) (Or.inl ⟨by rfl, ?h16⟩) (by assumption) ?r16
    case h16 => (intro w hSw; (try dsimp only at hSw); go_simp; try with_reducible rfl)
    try simp only [Act.put, List.setIfInBounds_toArray, List.set_cons_zero, List.set_cons_succ]
    refine wpAnyH_take (i := 17) (oi := _) (v := ?v17) rfl (by kernel_rfl) (by kernel_rfl) (by kernel_rfl) (fun _ _ _ h => h) (Or.inl ⟨by rfl, ?h17⟩) (by assumption) ?r17
    case h17 => (intro w hSw; (try dsimp only at hSw); go_simp; try with_reducible rfl)
    try simp only [Act.put, List.setIfInBounds_toArray, List.set_cons_zero, List.set_cons_succ]
    refine wpAnyH_take (i := 18) (oi := _) (v := ?v18) rfl (by kernel_rfl) (by kernel_rfl) (by kernel_rfl) (fun _ _ _ h => h) (Or.inl ⟨by rfl, ?h18⟩) (by assumption) ?r18
    case h18 => (intro w hSw; (try dsimp only at hSw); go_simp; try with_reducible rfl)
    try simp only [Act.put, List.setIfInBounds_toArray, List.set_cons_zero, List.set_cons_succ]
    refine wpAnyH_take (i := 19) (oi := _) (v := ?v19) rfl (by kernel_rfl) (by kernel_rfl) (by kernel_rfl) (fun _ _ _ h => h) (Or.inl ⟨by rfl, ?h19⟩) (by assumption) ?r19
    case h19 => (intro w hSw; (try dsimp only at hSw); go_simp; try with_reducible rfl)
    try simp only [Act.put, List.setIfInBounds_toArray, List.set_cons_zero, List.set_cons_succ]
    refine wpAnyH_take (i := 20) (oi := _) (v := ?v20) rfl (by kernel_rfl) (by kernel_rfl) (by kernel_rfl) (fun _ _ _ h => h) (Or.inl ⟨by rfl, ?h20⟩) (by assumption) ?r20
    case h20 => (intro w hSw; (try dsimp only at hSw); go_simp; try with_reducible rfl)
    try simp only [Act.put, List.setIfInBounds_toArray, List.set_cons_zero, List.set_cons_succ]
    refine call_take (i := 21) (oi := _) (v := .int .i64 (j3 : Int)) rfl (by kernel_rfl) (by kernel_rfl) (by kernel_rfl) (fun _ _ _ h => h) (by rfl) (fun w => by go_simp) (fun w => hR3 w) (by assumption) ?_
    try simp only [Act.put, List.setIfInBounds_toArray, List.set_cons_zero, List.set_cons_succ]
    refine wpAnyH_take (i := 22) (oi := _) (v := ?v22) rfl (by kernel_rfl) (by kernel_rfl) (by kernel_rfl) (fun _ _ _ h => h) (Or.inl ⟨by rfl, ?h22⟩) (by assumption) ?r22
    case h22 => (intro w hSw; (try dsimp only at hSw); go_simp; try with_reducible rfl)
    try simp only [Act.put, List.setIfInBounds_toArray, List.set_cons_zero, List.set_cons_succ]
    refine wpAnyH_take (i := 23) (oi := _) (v := ?v23) rfl (by kernel_rfl) (by kernel_rfl) (by kernel_rfl) (fun _ _ _ h => h) (Or.inl ⟨by rfl, ?h23⟩) (by assumption) ?r23
    case h23 => (intro w hSw; (try dsimp only at hSw); go_simp; try with_reducible rfl)
    try simp only [Act.put, List.setIfInBounds_toArray, List.set_cons_zero, List.set_cons_succ]
    refine wpAnyH_ready (rs := [24, 25, 26]) (by kernel_rfl) (by simp) ?_
    refine AllReadyH.cons rfl (fun K hK => ?_) ?_
    · go_simp
      (refine hK.out _ _ (HSS.out _ (by repeat (first | exact Below.refl _ _ | refine Below.drew ?_ | refine Below.alloc ?_ (by simp <;> omega) _ | refine Below.setCell ?_ (by simp <;> omega) _))) (fun hHeld => ?_))
      clear hK K
      try simp only [Act.put, List.setIfInBounds_toArray, List.set_cons_zero, List.set_cons_succ]
      refine wpAnyH_ready (rs := [25, 26]) (by kernel_rfl) (by simp) ?_
      refine AllReadyH.cons rfl (fun K hK => ?_) ?_
      · go_simp
        (refine hK.out _ _ (HSS.out _ (by repeat (first | exact Below.refl _ _ | refine Below.drew ?_ | refine Below.alloc ?_ (by simp <;> omega) _ | refine Below.setCell ?_ (by simp <;> omega) _))) (fun hHeld => ?_))
        clear hK K
        try simp only [Act.put, List.setIfInBounds_toArray, List.set_cons_zero, List.set_cons_succ]
        refine wpAnyH_ready (rs := [26]) (by kernel_rfl) (by simp) ?_
        refine AllReadyH.cons rfl (fun K hK => ?_) ?_
        · go_simp
          (refine hK.out _ _ (HSS.out _ (by repeat (first | exact Below.refl _ _ | refine Below.drew ?_ | refine Below.alloc ?_ (by simp <;> omega) _ | refine Below.setCell ?_ (by simp <;> omega) _))) (fun hHeld => ?_))
          clear hK K
          try simp only [Act.put, List.setIfInBounds_toArray, List.set_cons_zero, List.set_cons_succ]
          refine wpAnyH_ready (rs := [27]) (by kernel_rfl) (by simp) ?_
          refine AllReadyH.cons rfl (fun K hK => ?_) AllReadyH.nil
          go_simp
          (refine hK.out _ _ (HSS.out _ (by repeat (first | exact Below.refl _ _ | refine Below.drew ?_ | refine Below.alloc ?_ (by simp <;> omega) _ | refine Below.setCell ?_ (by simp <;> omega) _))) (fun hHeld => ?_))
          clear hK K
          try simp only [Act.put, List.setIfInBounds_toArray, List.set_cons_zero, List.set_cons_succ]
          refine wpAnyH_ready (rs := [28]) (by kernel_rfl) (by simp) ?_
          refine AllReadyH.cons rfl (fun K hK => ?_) AllReadyH.nil
          go_simp
          (refine hK.out _ _ (HSS.out _ (by repeat (first | exact Below.refl _ _ | refine Below.drew ?_ | refine Below.alloc ?_ (by simp <;> omega) _ | refine Below.setCell ?_ (by simp <;> omega) _))) (fun hHeld => ?_))
          clear hK K
          try simp only [Act.put, List.setIfInBounds_toArray, List.set_cons_zero, List.set_cons_succ]
          refine wpAnyH_ready (rs := [29]) (by kernel_rfl) (by simp) ?_
          refine AllReadyH.cons rfl (fun K hK => ?_) AllReadyH.nil
          go_simp
          (refine hK.out _ _ (HSS.out _ (by repeat (first | exact Below.refl _ _ | refine Below.drew ?_ | refine Below.alloc ?_ (by simp <;> omega) _ | refine Below.setCell ?_ (by simp <;> omega) _))) (fun hHeld => ?_))
          clear hK K
          try simp only [Act.put, List.setIfInBounds_toArray, List.set_cons_zero, List.set_cons_succ]
          refine wpAnyH_done (by kernel_rfl) ?_ _
          (try go_wp2)
          go_meet
          refine ⟨_, _, _, rfl, rfl, rfl, by refine Below.drew ?_; repeat (first | exact Below.refl _ _ | refine Below.alloc ?_ (by simp <;> omega) _), ?_, ?_, ?_⟩ <;> first | exact (alloc3_all w1 _ _ _).1 | exact (alloc3_all w1 _ _ _).2.1 | exact (alloc3_all w1 _ _ _).2.2.1
        exact AllReadyH.nil
      refine AllReadyH.cons rfl (fun K hK => ?_) ?_
      · go_simp
        (refine hK.out _ _ (HSS.out _ (by repeat (first | exact Below.refl _ _ | refine Below.drew ?_ | refine Below.alloc ?_ (by simp <;> omega) _ | refine Below.setCell ?_ (by simp <;> omega) _))) (fun hHeld => ?_))
        clear hK K
        try simp only [Act.put, List.setIfInBounds_toArray, List.set_cons_zero, List.set_cons_succ]
        refine wpAnyH_ready (rs := [25]) (by kernel_rfl) (by simp) ?_
        refine AllReadyH.cons rfl (fun K hK => ?_) ?_
        · go_simp
          (refine hK.out _ _ (HSS.out _ (by repeat (first | exact Below.refl _ _ | refine Below.drew ?_ | refine Below.alloc ?_ (by simp <;> omega) _ | refine Below.setCell ?_ (by simp <;> omega) _))) (fun hHeld => ?_))
          clear hK K
          try simp only [Act.put, List.setIfInBounds_toArray, List.set_cons_zero, List.set_cons_succ]
          refine wpAnyH_ready (rs := [27]) (by kernel_rfl) (by simp) ?_
          refine AllReadyH.cons rfl (fun K hK => ?_) AllReadyH.nil
          go_simp
          (refine hK.out _ _ (HSS.out _ (by repeat (first | exact Below.refl _ _ | refine Below.drew ?_ | refine Below.alloc ?_ (by simp <;> omega) _ | refine Below.setCell ?_ (by simp <;> omega) _))) (fun hHeld => ?_))
          clear hK K
          try simp only [Act.put, List.setIfInBounds_toArray, List.set_cons_zero, List.set_cons_succ]
          refine wpAnyH_ready (rs := [28]) (by kernel_rfl) (by simp) ?_
          refine AllReadyH.cons rfl (fun K hK => ?_) AllReadyH.nil
          go_simp
          (refine hK.out _ _ (HSS.out _ (by repeat (first | exact Below.refl _ _ | refine Below.drew ?_ | refine Below.alloc ?_ (by simp <;> omega) _ | refine Below.setCell ?_ (by simp <;> omega) _))) (fun hHeld => ?_))
          clear hK K
          try simp only [Act.put, List.setIfInBounds_toArray, List.set_cons_zero, List.set_cons_succ]
          refine wpAnyH_ready (rs := [29]) (by kernel_rfl) (by simp) ?_
          refine AllReadyH.cons rfl (fun K hK => ?_) AllReadyH.nil
          go_simp
          (refine hK.out _ _ (HSS.out _ (by repeat (first | exact Below.refl _ _ | refine Below.drew ?_ | refine Below.alloc ?_ (by simp <;> omega) _ | refine Below.setCell ?_ (by simp <;> omega) _))) (fun hHeld => ?_))
          clear hK K
          try simp only [Act.put, List.setIfInBounds_toArray, List.set_cons_zero, List.set_cons_succ]
          refine wpAnyH_done (by kernel_rfl) ?_ _
          (try go_wp2)
          go_meet
          refine ⟨_, _, _, rfl, rfl, rfl, by refine Below.drew ?_; repeat (first | exact Below.refl _ _ | refine Below.alloc ?_ (by simp <;> omega) _), ?_, ?_, ?_⟩ <;> first | exact (alloc3_all w1 _ _ _).1 | exact (alloc3_all w1 _ _ _).2.1 | exact (alloc3_all w1 _ _ _).2.2.1
        exact AllReadyH.nil
      exact AllReadyH.nil
    refine AllReadyH.cons rfl (fun K hK => ?_) ?_
    · go_simp
      (refine hK.out _ _ (HSS.out _ (by repeat (first | exact Below.refl _ _ | refine Below.drew ?_ | refine Below.alloc ?_ (by simp <;> omega) _ | refine Below.setCell ?_ (by simp <;> omega) _))) (fun hHeld => ?_))
      clear hK K
      try simp only [Act.put, List.setIfInBounds_toArray, List.set_cons_zero, List.set_cons_succ]
      refine wpAnyH_ready (rs := [24, 26]) (by kernel_rfl) (by simp) ?_
      refine AllReadyH.cons rfl (fun K hK => ?_) ?_
      · go_simp
        (refine hK.out _ _ (HSS.out _ (by repeat (first | exact Below.refl _ _ | refine Below.drew ?_ | refine Below.alloc ?_ (by simp <;> omega) _ | refine Below.setCell ?_ (by simp <;> omega) _))) (fun hHeld => ?_))
        clear hK K
        try simp only [Act.put, List.setIfInBounds_toArray, List.set_cons_zero, List.set_cons_succ]
        refine wpAnyH_ready (rs := [26]) (by kernel_rfl) (by simp) ?_
        refine AllReadyH.cons rfl (fun K hK => ?_) ?_
        · go_simp
          (refine hK.out _ _ (HSS.out _ (by repeat (first | exact Below.refl _ _ | refine Below.drew ?_ | refine Below.alloc ?_ (by simp <;> omega) _ | refine Below.setCell ?_ (by simp <;> omega) _))) (fun hHeld => ?_))
          clear hK K
          try simp only [Act.put, List.setIfInBounds_toArray, List.set_cons_zero, List.set_cons_succ]
          refine wpAnyH_ready (rs := [27]) (by kernel_rfl) (by simp) ?_
          refine AllReadyH.cons rfl (fun K hK => ?_) AllReadyH.nil
          go_simp
          (refine hK.out _ _ (HSS.out _ (by repeat (first | exact Below.refl _ _ | refine Below.drew ?_ | refine Below.alloc ?_ (by simp <;> omega) _ | refine Below.setCell ?_ (by simp <;> omega) _))) (fun hHeld => ?_))
          clear hK K
          try simp only [Act.put, List.setIfInBounds_toArray, List.set_cons_zero, List.set_cons_succ]
          refine wpAnyH_ready (rs := [28]) (by kernel_rfl) (by simp) ?_
          refine AllReadyH.cons rfl (fun K hK => ?_) AllReadyH.nil
          go_simp
          (refine hK.out _ _ (HSS.out _ (by repeat (first | exact Below.refl _ _ | refine Below.drew ?_ | refine Below.alloc ?_ (by simp <;> omega) _ | refine Below.setCell ?_ (by simp <;> omega) _))) (fun hHeld => ?_))
          clear hK K
          try simp only [Act.put, List.setIfInBounds_toArray, List.set_cons_zero, List.set_cons_succ]
          refine wpAnyH_ready (rs := [29]) (by kernel_rfl) (by simp) ?_
          refine AllReadyH.cons rfl (fun K hK => ?_) AllReadyH.nil
          go_simp
          (refine hK.out _ _ (HSS.out _ (by repeat (first | exact Below.refl _ _ | refine Below.drew ?_ | refine Below.alloc ?_ (by simp <;> omega) _ | refine Below.setCell ?_ (by simp <;> omega) _))) (fun hHeld => ?_))
          clear hK K
          try simp only [Act.put, List.setIfInBounds_toArray, List.set_cons_zero, List.set_cons_succ]
          refine wpAnyH_done (by kernel_rfl) ?_ _
          (try go_wp2)
          go_meet
          refine ⟨_, _, _, rfl, rfl, rfl, by refine Below.drew ?_; repeat (first | exact Below.refl _ _ | refine Below.alloc ?_ (by simp <;> omega) _), ?_, ?_, ?_⟩ <;> first | exact (alloc3_all w1 _ _ _).1 | exact (alloc3_all w1 _ _ _).2.1 | exact (alloc3_all w1 _ _ _).2.2.1
        exact AllReadyH.nil
      refine AllReadyH.cons rfl (fun K hK => ?_) ?_
      · go_simp
        (refine hK.out _ _ (HSS.out _ (by repeat (first | exact Below.refl _ _ | refine Below.drew ?_ | refine Below.alloc ?_ (by simp <;> omega) _ | refine Below.setCell ?_ (by simp <;> omega) _))) (fun hHeld => ?_))
        clear hK K
        try simp only [Act.put, List.setIfInBounds_toArray, List.set_cons_zero, List.set_cons_succ]
        refine wpAnyH_ready (rs := [24]) (by kernel_rfl) (by simp) ?_
        refine AllReadyH.cons rfl (fun K hK => ?_) ?_
        · go_simp
          (refine hK.out _ _ (HSS.out _ (by repeat (first | exact Below.refl _ _ | refine Below.drew ?_ | refine Below.alloc ?_ (by simp <;> omega) _ | refine Below.setCell ?_ (by simp <;> omega) _))) (fun hHeld => ?_))
          clear hK K
          try simp only [Act.put, List.setIfInBounds_toArray, List.set_cons_zero, List.set_cons_succ]
          refine wpAnyH_ready (rs := [27]) (by kernel_rfl) (by simp) ?_
          refine AllReadyH.cons rfl (fun K hK => ?_) AllReadyH.nil
          go_simp
          (refine hK.out _ _ (HSS.out _ (by repeat (first | exact Below.refl _ _ | refine Below.drew ?_ | refine Below.alloc ?_ (by simp <;> omega) _ | refine Below.setCell ?_ (by simp <;> omega) _))) (fun hHeld => ?_))
          clear hK K
          try simp only [Act.put, List.setIfInBounds_toArray, List.set_cons_zero, List.set_cons_succ]
          refine wpAnyH_ready (rs := [28]) (by kernel_rfl) (by simp) ?_
          refine AllReadyH.cons rfl (fun K hK => ?_) AllReadyH.nil
          go_simp
          (refine hK.out _ _ (HSS.out _ (by repeat (first | exact Below.refl _ _ | refine Below.drew ?_ | refine Below.alloc ?_ (by simp <;> omega) _ | refine Below.setCell ?_ (by simp <;> omega) _))) (fun hHeld => ?_))
          clear hK K
          try simp only [Act.put, List.setIfInBounds_toArray, List.set_cons_zero, List.set_cons_succ]
          refine wpAnyH_ready (rs := [29]) (by kernel_rfl) (by simp) ?_
          refine AllReadyH.cons rfl (fun K hK => ?_) AllReadyH.nil
          go_simp
          (refine hK.out _ _ (HSS.out _ (by repeat (first | exact Below.refl _ _ | refine Below.drew ?_ | refine Below.alloc ?_ (by simp <;> omega) _ | refine Below.setCell ?_ (by simp <;> omega) _))) (fun hHeld => ?_))
          clear hK K
          try simp only [Act.put, List.setIfInBounds_toArray, List.set_cons_zero, List.set_cons_succ]
          refine wpAnyH_done (by kernel_rfl) ?_ _
          (try go_wp2)
          go_meet
          refine ⟨_, _, _, rfl, rfl, rfl, by refine Below.drew ?_; repeat (first | exact Below.refl _ _ | refine Below.alloc ?_ (by simp <;> omega) _), ?_, ?_, ?_⟩ <;> first | exact (alloc3_all w1 _ _ _).1 | exact (alloc3_all w1 _ _ _).2.1 | exact (alloc3_all w1 _ _ _).2.2.1
        exact AllReadyH.nil
      exact AllReadyH.nil
    refine AllReadyH.cons rfl (fun K hK => ?_) ?_
    · go_simp
      (refine hK.out _ _ (HSS.out _ (by repeat (first | exact Below.refl _ _ | refine Below.drew ?_ | refine Below.alloc ?_ (by simp <;> omega) _ | refine Below.setCell ?_ (by simp <;> omega) _))) (fun hHeld => ?_))
      clear hK K
      try simp only [Act.put, List.setIfInBounds_toArray, List.set_cons_zero, List.set_cons_succ]
      refine wpAnyH_ready (rs := [24, 25]) (by kernel_rfl) (by simp) ?_
      refine AllReadyH.cons rfl (fun K hK => ?_) ?_
      · go_simp
        (refine hK.out _ _ (HSS.out _ (by repeat (first | exact Below.refl _ _ | refine Below.drew ?_ | refine Below.alloc ?_ (by simp <;> omega) _ | refine Below.setCell ?_ (by simp <;> omega) _))) (fun hHeld => ?_))
        clear hK K
        try simp only [Act.put, List.setIfInBounds_toArray, List.set_cons_zero, List.set_cons_succ]
        refine wpAnyH_ready (rs := [25]) (by kernel_rfl) (by simp) ?_
        refine AllReadyH.cons rfl (fun K hK => ?_) ?_
        · go_simp
          (refine hK.out _ _ (HSS.out _ (by repeat (first | exact Below.refl _ _ | refine Below.drew ?_ | refine Below.alloc ?_ (by simp <;> omega) _ | refine Below.setCell ?_ (by simp <;> omega) _))) (fun hHeld => ?_))
          clear hK K
          try simp only [Act.put, List.setIfInBounds_toArray, List.set_cons_zero, List.set_cons_succ]
          refine wpAnyH_ready (rs := [27]) (by kernel_rfl) (by simp) ?_
          refine AllReadyH.cons rfl (fun K hK => ?_) AllReadyH.nil
          go_simp
          (refine hK.out _ _ (HSS.out _ (by repeat (first | exact Below.refl _ _ | refine Below.drew ?_ | refine Below.alloc ?_ (by simp <;> omega) _ | refine Below.setCell ?_ (by simp <;> omega) _))) (fun hHeld => ?_))
          clear hK K
          try simp only [Act.put, List.setIfInBounds_toArray, List.set_cons_zero, List.set_cons_succ]
          refine wpAnyH_ready (rs := [28]) (by kernel_rfl) (by simp) ?_
          refine AllReadyH.cons rfl (fun K hK => ?_) AllReadyH.nil
          go_simp
          (refine hK.out _ _ (HSS.out _ (by repeat (first | exact Below.refl _ _ | refine Below.drew ?_ | refine Below.alloc ?_ (by simp <;> omega) _ | refine Below.setCell ?_ (by simp <;> omega) _))) (fun hHeld => ?_))
          clear hK K
          try simp only [Act.put, List.setIfInBounds_toArray, List.set_cons_zero, List.set_cons_succ]
          refine wpAnyH_ready (rs := [29]) (by kernel_rfl) (by simp) ?_
          refine AllReadyH.cons rfl (fun K hK => ?_) AllReadyH.nil
          go_simp
          (refine hK.out _ _ (HSS.out _ (by repeat (first | exact Below.refl _ _ | refine Below.drew ?_ | refine Below.alloc ?_ (by simp <;> omega) _ | refine Below.setCell ?_ (by simp <;> omega) _))) (fun hHeld => ?_))
          clear hK K
          try simp only [Act.put, List.setIfInBounds_toArray, List.set_cons_zero, List.set_cons_succ]
          refine wpAnyH_done (by kernel_rfl) ?_ _
          (try go_wp2)
          go_meet
          refine ⟨_, _, _, rfl, rfl, rfl, by refine Below.drew ?_; repeat (first | exact Below.refl _ _ | refine Below.alloc ?_ (by simp <;> omega) _), ?_, ?_, ?_⟩ <;> first | exact (alloc3_all w1 _ _ _).1 | exact (alloc3_all w1 _ _ _).2.1 | exact (alloc3_all w1 _ _ _).2.2.1
        exact AllReadyH.nil
      refine AllReadyH.cons rfl (fun K hK => ?_) ?_
      · go_simp
        (refine hK.out _ _ (HSS.out _ (by repeat (first | exact Below.refl _ _ | refine Below.drew ?_ | refine Below.alloc ?_ (by simp <;> omega) _ | refine Below.setCell ?_ (by simp <;> omega) _))) (fun hHeld => ?_))
        clear hK K
        try simp only [Act.put, List.setIfInBounds_toArray, List.set_cons_zero, List.set_cons_succ]
        refine wpAnyH_ready (rs := [24]) (by kernel_rfl) (by simp) ?_
        refine AllReadyH.cons rfl (fun K hK => ?_) ?_
        · go_simp
          (refine hK.out _ _ (HSS.out _ (by repeat (first | exact Below.refl _ _ | refine Below.drew ?_ | refine Below.alloc ?_ (by simp <;> omega) _ | refine Below.setCell ?_ (by simp <;> omega) _))) (fun hHeld => ?_))
          clear hK K
          try simp only [Act.put, List.setIfInBounds_toArray, List.set_cons_zero, List.set_cons_succ]
          refine wpAnyH_ready (rs := [27]) (by kernel_rfl) (by simp) ?_
          refine AllReadyH.cons rfl (fun K hK => ?_) AllReadyH.nil
          go_simp
          (refine hK.out _ _ (HSS.out _ (by repeat (first | exact Below.refl _ _ | refine Below.drew ?_ | refine Below.alloc ?_ (by simp <;> omega) _ | refine Below.setCell ?_ (by simp <;> omega) _))) (fun hHeld => ?_))
          clear hK K
          try simp only [Act.put, List.setIfInBounds_toArray, List.set_cons_zero, List.set_cons_succ]
          refine wpAnyH_ready (rs := [28]) (by kernel_rfl) (by simp) ?_
          refine AllReadyH.cons rfl (fun K hK => ?_) AllReadyH.nil
          go_simp
          (refine hK.out _ _ (HSS.out _ (by repeat (first | exact Below.refl _ _ | refine Below.drew ?_ | refine Below.alloc ?_ (by simp <;> omega) _ | refine Below.setCell ?_ (by simp <;> omega) _))) (fun hHeld => ?_))
          clear hK K
          try simp only [Act.put, List.setIfInBounds_toArray, List.set_cons_zero, List.set_cons_succ]
          refine wpAnyH_ready (rs := [29]) (by kernel_rfl) (by simp) ?_
          refine AllReadyH.cons rfl (fun K hK => ?_) AllReadyH.nil
          go_simp
          (refine hK.out _ _ (HSS.out _ (by repeat (first | exact Below.refl _ _ | refine Below.drew ?_ | refine Below.alloc ?_ (by simp <;> omega) _ | refine Below.setCell ?_ (by simp <;> omega) _))) (fun hHeld => ?_))
          clear hK K
          try simp only [Act.put, List.setIfInBounds_toArray, List.set_cons_zero, List.set_cons_succ]
          refine wpAnyH_done (by kernel_rfl) ?_ _
          (try go_wp2)
          go_meet
          refine ⟨_, _, _, rfl, rfl, rfl, by refine Below.drew ?_; repeat (first | exact Below.refl _ _ | refine Below.alloc ?_ (by simp <;> omega) _), ?_, ?_, ?_⟩ <;> first | exact (alloc3_all w1 _ _ _).1 | exact (alloc3_all w1 _ _ _).2.1 | exact (alloc3_all w1 _ _ _).2.2.1
        exact AllReadyH.nil
      exact AllReadyH.nil
    exact AllReadyH.nil
  case rest =>
    obtain ⟨b6, b7, b8, rfl, rfl, rfl, hbc, h6, h7, h8⟩ := hcut
    obtain ⟨hn1, hn2, hn3, hLw, hbw⟩ := HY.out
    obtain ⟨wq, hwq⟩ : ∃ wq, wq = wc := ⟨_, rfl⟩
    subst hwq
    have m1 := hn1.below hbc
    have m2 := hn2.below hbc
    have m3 := hn3.below hbc
    have hL := hLw.on hbc
    have hbq := hbw.trans (hbc.mono hbw.size)
    have hC : ∀ W, Below wq.heap.size wq W → W.cell? ⟨b6, 0, none⟩ = some (.int .i64 s1) ∧ W.cell? ⟨b6, 1, none⟩ = some (.pointer g1) ∧ W.cell? ⟨b7, 0, none⟩ = some (.int .i64 s2) ∧ W.cell? ⟨b7, 1, none⟩ = some (.pointer g2) ∧ W.cell? ⟨b8, 0, none⟩ = some (.int .i64 s3) ∧ W.cell? ⟨b8, 1, none⟩ = some (.pointer g3) := by
      intro W hW
      obtain ⟨a1, a2⟩ := num_cells ((hW.block _ (lt_of_some h6)).trans h6)
      obtain ⟨a3, a4⟩ := num_cells ((hW.block _ (lt_of_some h7)).trans h7)
      obtain ⟨a5, a6⟩ := num_cells ((hW.block _ (lt_of_some h8)).trans h8)
      exact ⟨a1, a2, a3, a4, a5, a6⟩
    obtain ⟨y0, y1, y2, y3, y4, y5⟩ := hC wq (Below.refl _ _)
    obtain ⟨n, hn⟩ : ∃ n, n = sgn (z1 - z2) := ⟨_, rfl⟩
    have hnn : sgn (z2 - z1) = -n := by rw [hn, ← sgn_neg]; congr 1; omega
    have hna := sgn_abs (z1 - z2)
    rw [← hn] at hna
    have hnw := sgn_wrap (z1 - z2)
    rw [← hn] at hnw
    have hC12 := hL.cmp m1 m2
    rw [← hn] at hC12
    have hC21 := hL.cmp m2 m1
    rw [hnn] at hC21
    have hC23 := hL.cmp m2 m3
    have hC13 := hL.cmp m1 m3
    have hC10 := hL.cmp m1 (NumA.small (B := cold) wq i64_0)
    rw [Int.sub_zero] at hC10
    have hS1 := hL.sign m1
    have hN1 := hL.neg m1
    have hO0 := hL.of_ 0
    have HM := Lib.hid (And.intro m1 (And.intro m2 (And.intro m3 (And.intro hL (And.intro hbq hn)))))
    have HC := Lib.hid hC
    have H12 := Lib.hid hC12
    have H21 := Lib.hid hC21
    have H23 := Lib.hid hC23
    have H13 := Lib.hid hC13
    have H10 := Lib.hid hC10
    have HS1 := Lib.hid hS1
    have HN1 := Lib.hid hN1
    have HO0 := Lib.hid hO0
    clear hbc h6 h7 h8 hn1 hn2 hn3 hLw hbw m1 m2 m3 hL hbq hC hn hnn hC12 hC21 hC23 hC13 hC10 hS1 hN1 hO0 HY HSS hR1 hR2 hR3 hc0 hc1 hc2 q0 q1 q2 q3 q4 q5 hne1 hne2 hne3 hne4 hne5 hne6 hnw1 hnw2 hnw3 hnw4 hnw5 hnw6 k0 k1 k2 k3 k4 k5 hbl hbge hwl
    go_upto_region 4 with (first
      | (go_at_call 23; refine (H12.out _ (Below.refl _ _)).mono ?_; rintro e3 w3 ⟨rfl, hb3⟩
         have HB := Lib.hid hb3
         clear hb3))
    have f1 : ¬ n < -1 := by omega
    have f2 : ¬ 1 < n := by omega
    obtain ⟨m, hm⟩ : ∃ m, m = sgn z1 := ⟨_, rfl⟩
    rw [← hm] at H10 HS1
    clear y0 y1 y2 y3 y4 y5 hm
    go_cut [76] from 45 to 76 (fun t wx => t = .bool false ∧ Below wq.heap.size wq wx)
    case first =>
      obtain ⟨y0, y1, y2, y3, y4, y5⟩ := HC.out _ HB.out
      have HB := Lib.hid HB.out.drew
      first
        | go_region_held3 (fun W => W.cell? ⟨b6, 0, none⟩ = some (.int .i64 s1) ∧ W.cell? ⟨b6, 1, none⟩ = some (.pointer g1) ∧ W.cell? ⟨b7, 0, none⟩ = some (.int .i64 s2) ∧ W.cell? ⟨b7, 1, none⟩ = some (.pointer g2) ∧ W.cell? ⟨b8, 0, none⟩ = some (.int .i64 s3) ∧ W.cell? ⟨b8, 1, none⟩ = some (.pointer g3)) (exact HC.out _ HB.out)
          (first
          | (go_at_call 23; with_reducible refine (H21.out _ HB.out).mono ?_; rintro e5 w5 ⟨rfl, hb5⟩
             have HB := Lib.hid hb5
             clear hb5)
          | (go_at_call 23; with_reducible refine (H10.out _ HB.out).mono ?_; rintro e5 w5 ⟨rfl, hb5⟩
             have HB := Lib.hid hb5
             clear hb5)
          | (go_at_call 26; with_reducible refine (HN1.out _ HB.out).mono ?_; rintro e5 w5 ⟨r5, q5, rfl, hn5, hb5⟩
             have HNX := Lib.hid hn5
             have HB := Lib.hid hb5
             clear hb5 hn5)
          | (have hq := HNX
             go_at_call 26; with_reducible refine ((HM.out.2.2.2.1.on HB.out).neg (HM.out.2.1.below HB.out) _ (Below.refl _ _)).mono ?_; rintro e6 w6 ⟨r6, q6, rfl, hn6, hb6⟩
             have hb6' := HB.out.trans (hb6.mono HB.out.size)
             have hcn := (HM.out.2.2.2.1.on hb6').cmp (hq.out.below hb6) hn6 w6 (Below.refl _ _)
             rw [show sgn (-z1 - -z2) = -n by rw [HM.out.2.2.2.2.2, ← sgn_neg]; congr 1; omega] at hcn
             have HNN := Lib.hid hcn
             have HB := Lib.hid hb6'
             clear hb6 hn6 hb6' hcn hq)
          | (have hq := HNN
             go_at_call 23; refine hq.out.mono ?_; rintro e7 w7 ⟨rfl, hb7⟩
             have HB := Lib.hid (HB.out.trans (hb7.mono HB.out.size))
             clear hb7 hq)
          | (go_at_call 18; refine (HO0.out _ HB.out).mono ?_; rintro e5 w5 ⟨rfl, hb5⟩
             have HB := Lib.hid hb5
             clear hb5)
          | (go_at_call 29; refine (HS1.out _ HB.out).mono ?_; rintro e5 w5 ⟨rfl, hb5⟩
             have HB := Lib.hid hb5
             clear hb5))
        | fail
      all_goals
        (try go_wp2)
        go_meet
        exact ⟨rfl, HB.out⟩
    case rest =>
      obtain ⟨rfl, hbx⟩ := hcut
      have HB := Lib.hid hbx
      clear hbx
      go_upto_region 6 with fail
      obtain ⟨u, hu⟩ : ∃ u, u = sgn (z2 - z3) := ⟨_, rfl⟩
      obtain ⟨v, hv⟩ : ∃ v, v = sgn (z1 - z3) := ⟨_, rfl⟩
      rw [← hu] at H23
      rw [← hv] at H13
      go_cut [106] from 77 to 106 (fun t wx => t = .bool false ∧ Below wq.heap.size wq wx)
      case first =>
        obtain ⟨y0, y1, y2, y3, y4, y5⟩ := HC.out _ HB.out
        have hcases : (¬ n ≤ 0 ∧ ¬ n < 0) ∨ (n ≤ 0 ∧ u ≤ 0 ∧ ¬ 0 < v ∧ ¬ n < 0) ∨ (n ≤ 0 ∧ ¬ u ≤ 0 ∧ ¬ n < 0) ∨ (n ≤ 0 ∧ u ≤ 0 ∧ ¬ 0 < v ∧ n < 0 ∧ ¬ 0 ≤ v) ∨ (n ≤ 0 ∧ ¬ u ≤ 0 ∧ n < 0) := by
          have h := HM.out.2.2.2.2.2
          rw [h, hu, hv]
          unfold sgn
          repeat (split <;> try omega)
        clear hu hv f1 f2 hna hnw
        rcases hcases with ⟨c1, c2⟩ | ⟨c1, c2, c3, c4⟩ | ⟨c1, c2, c3⟩ | ⟨c1, c2, c3, c4, c5⟩ | ⟨c1, c2, c3⟩
        all_goals
          go_wp2_with (first
            | (go_at_call 23; with_reducible refine (H23.out _ HB.out).mono ?_; rintro e5 w5 ⟨rfl, hb5⟩
               obtain ⟨y0, y1, y2, y3, y4, y5⟩ := HC.out _ hb5
               have HB := Lib.hid hb5
               clear hb5)
            | (go_at_call 23; with_reducible refine (H13.out _ HB.out).mono ?_; rintro e5 w5 ⟨rfl, hb5⟩
               obtain ⟨y0, y1, y2, y3, y4, y5⟩ := HC.out _ hb5
               have HB := Lib.hid hb5
               clear hb5))
          go_meet
          exact ⟨by simp [*], HB.out⟩
      case rest =>
        obtain ⟨rfl, hbx⟩ := hcut
        have HB := Lib.hid hbx
        clear hbx hu hv
        go_upto_region 8 with fail
        go_cut [10, 11] from 107 to 112 (fun v10 v11 wx => Below wq.heap.size wq wx ∧ ∃ b10, v10 = .pointer (some ⟨b10, 0, none⟩) ∧ ((v11 = .int .i64 0 ∧ NumAt cold wx b10 (z1 - z2)) ∨ v11 = .int .i64 5))
        case first =>
          obtain ⟨y0, y1, y2, y3, y4, y5⟩ := HC.out _ HB.out
          by_cases ha : allowedZ (z1 - z2)
          · have HA := Lib.hid ha
            clear ha
            go_wp2_with (first
              | (go_at_call 17; refine (HM.out.2.2.2.1.subY HM.out.1 HM.out.2.1 HA.out _ HB.out).mono ?_; rintro e9 w9 ⟨r9, q9, rfl, hn9, hb9⟩
                 have HD := Lib.hid (NumAt.new hn9)
                 have HB := Lib.hid (hb9.alloc hb9.size (.cells #[.int .i64 r9, .pointer q9] 29))
                 clear hn9 hb9))
            go_meet
            exact ⟨HB.out, _, rfl, .inl ⟨rfl, HD.out⟩⟩
          · have HA := Lib.hid ha
            clear ha
            go_wp2_with (first
              | (go_at_call 17; refine (HM.out.2.2.2.1.subN HM.out.1 HM.out.2.1 HA.out _ HB.out).mono ?_; rintro e9 w9 ⟨rfl, hb9⟩
                 have HB := Lib.hid (hb9.alloc hb9.size (.cells #[.int .i64 0, .pointer none] 29))
                 clear hb9))
            go_meet
            exact ⟨HB.out, _, rfl, .inr rfl⟩
        case rest =>
         obtain ⟨hbx, b10, rfl, hE⟩ := hcut
         obtain ⟨wd, hwd⟩ : ∃ wd, wd = wc := ⟨_, rfl⟩
         subst hwd
         have HB := Lib.hid hbx
         clear hbx
         go_upto_region 9 with fail
         go_cut [128] from 113 to 128 (fun t wx => t = .bool false ∧ Below wq.heap.size wq wx)
         case first =>
          rcases hE with ⟨rfl, hE⟩ | rfl
          · obtain ⟨r9, q9, p9, hn9⟩ := hE
            have hsd := (HM.out.2.2.2.1.on HB.out).sign hn9 _ (Below.refl _ _)
            rw [← HM.out.2.2.2.2.2] at hsd
            obtain ⟨yy0, yy1⟩ := num_cells p9
            have HSD := Lib.hid hsd
            clear hsd p9 hn9
            go_wp2_with (first
              | (go_at_call 29; refine HSD.out.mono ?_; rintro e5 w5 ⟨rfl, hb5⟩
                 have HB := Lib.hid (HB.out.trans (hb5.mono HB.out.size))
                 clear hb5))
            go_meet
            exact ⟨by simp, HB.out⟩
          · go_wp2_with fail
            go_meet
            exact ⟨rfl, HB.out⟩
         case rest =>
          clear hE
          obtain ⟨rfl, hbx⟩ := hcut
          have HB := Lib.hid hbx
          clear hbx
          obtain ⟨y0, y1, y2, y3, y4, y5⟩ := HC.out _ HB.out
          by_cases ha : allowedZ (z1 + z3)
          · by_cases hb : allowedZ (z2 + z3)
            · have HA := Lib.hid (And.intro ha hb)
              clear ha hb
              go_wp2_with (first
                | (have hq := HA2
                   go_at_call 16; refine ((HM.out.2.2.2.1.on HB.out).addY (HM.out.2.1.below HB.out) (HM.out.2.2.1.below HB.out) HA.out.2 _ (Below.refl _ _)).mono ?_; rintro e7 w7 ⟨r7, q7, rfl, hn7, hb7⟩
                   have hbA : Below w7.heap.size w7 (w7.alloc (.cells #[.int .i64 r7, .pointer q7] 29)) := (Below.refl _ _).alloc (Nat.le_refl _) _
                   have hb7' := hb7.trans (hbA.mono hb7.size)
                   have p6 := (hb7'.block _ (lt_of_some hq.out.2)).trans hq.out.2
                   obtain ⟨yy0, yy1⟩ := num_cells p6
                   obtain ⟨yy2, yy3⟩ := num_cells (heap_alloc_new w7 (.cells #[.int .i64 r7, .pointer q7] 29))
                   have hb7q := HB.out.trans (hb7'.mono HB.out.size)
                   have hcc := (HM.out.2.2.2.1.on hb7q).cmp (hq.out.1.below hb7') (hn7.below hbA) _ (Below.refl _ _)
                   rw [show z1 + z3 - (z2 + z3) = z1 - z2 by omega, ← HM.out.2.2.2.2.2] at hcc
                   have HCC := Lib.hid hcc
                   have HB := Lib.hid hb7q
                   clear hn7 hb7 hbA hb7' p6 hb7q hcc hq)
                | (go_at_call 16; refine (HM.out.2.2.2.1.addY HM.out.1 HM.out.2.2.1 HA.out.1 _ HB.out).mono ?_; rintro e6 w6 ⟨r6, q6, rfl, hn6, hb6⟩
                   have hbA : Below w6.heap.size w6 (w6.alloc (.cells #[.int .i64 r6, .pointer q6] 29)) := (Below.refl _ _).alloc (Nat.le_refl _) _
                   have hb6' := hb6.trans (hbA.mono hb6.size)
                   obtain ⟨y0, y1, y2, y3, y4, y5⟩ := HC.out _ hb6'
                   have HA2 := Lib.hid (And.intro (hn6.below hbA) (heap_alloc_new w6 (.cells #[.int .i64 r6, .pointer q6] 29)))
                   have HB := Lib.hid hb6'
                   clear hn6 hb6 hbA hb6')
                | (go_at_call 23; refine HCC.out.mono ?_; rintro e8 w8 ⟨rfl, hb8⟩
                   have HB := Lib.hid (HB.out.trans (hb8.mono HB.out.size))
                   clear hb8)
                | (go_at_call 13; refine (HM.out.2.2.2.1.awake _ HB.out).mono ?_; rintro e9 w9 ⟨rfl, hb9⟩
                   have HB := Lib.hid hb9
                   clear hb9))
              refine bodyPost_ret (v := .bool true) (by simp [results, Tryd.results5, go_sem]) rfl ⟨rfl, HM.out.2.2.2.2.1.trans (HB.out.mono HM.out.2.2.2.2.1.size)⟩
            · have HA := Lib.hid (And.intro ha hb)
              clear ha hb
              go_wp2_with (first
                | (have hq := HA2
                   go_at_call 16; refine (HM.out.2.2.2.1.addN HM.out.2.1 HM.out.2.2.1 HA.out.2 _ HB.out).mono ?_; rintro e7 w7 ⟨rfl, hb7⟩
                   have HB := Lib.hid (hb7.alloc hb7.size (.cells #[.int .i64 0, .pointer none] 29))
                   clear hb7 hq)
                | (go_at_call 16; refine (HM.out.2.2.2.1.addY HM.out.1 HM.out.2.2.1 HA.out.1 _ HB.out).mono ?_; rintro e6 w6 ⟨r6, q6, rfl, hn6, hb6⟩
                   have hb6' := hb6.alloc hb6.size (.cells #[.int .i64 r6, .pointer q6] 29)
                   obtain ⟨y0, y1, y2, y3, y4, y5⟩ := HC.out _ hb6'
                   have HA2 := Lib.hid True.intro
                   have HB := Lib.hid hb6'
                   clear hn6 hb6 hb6')
                | (go_at_call 13; refine (HM.out.2.2.2.1.awake _ HB.out).mono ?_; rintro e9 w9 ⟨rfl, hb9⟩
                   have HB := Lib.hid hb9
                   clear hb9))
              refine bodyPost_ret (v := .bool true) (by simp [results, Tryd.results5, go_sem]) rfl ⟨rfl, HM.out.2.2.2.2.1.trans (HB.out.mono HM.out.2.2.2.2.1.size)⟩
          · by_cases hb : allowedZ (z2 + z3)
            · have HA := Lib.hid (And.intro ha hb)
              clear ha hb
              go_wp2_with (first
                | (have hq := HA2
                   go_at_call 16; refine (HM.out.2.2.2.1.addY HM.out.2.1 HM.out.2.2.1 HA.out.2 _ HB.out).mono ?_; rintro e7 w7 ⟨r7, q7, rfl, hn7, hb7⟩
                   have HB := Lib.hid (hb7.alloc hb7.size (.cells #[.int .i64 r7, .pointer q7] 29))
                   clear hb7 hq)
                | (go_at_call 16; refine (HM.out.2.2.2.1.addN HM.out.1 HM.out.2.2.1 HA.out.1 _ HB.out).mono ?_; rintro e6 w6 ⟨rfl, hb6⟩
                   have hb6' := hb6.alloc hb6.size (.cells #[.int .i64 0, .pointer none] 29)
                   obtain ⟨y0, y1, y2, y3, y4, y5⟩ := HC.out _ hb6'
                   have HA2 := Lib.hid True.intro
                   have HB := Lib.hid hb6'
                   clear hb6 hb6')
                | (go_at_call 13; refine (HM.out.2.2.2.1.awake _ HB.out).mono ?_; rintro e9 w9 ⟨rfl, hb9⟩
                   have HB := Lib.hid hb9
                   clear hb9))
              refine bodyPost_ret (v := .bool true) (by simp [results, Tryd.results5, go_sem]) rfl ⟨rfl, HM.out.2.2.2.2.1.trans (HB.out.mono HM.out.2.2.2.2.1.size)⟩
            · have HA := Lib.hid (And.intro ha hb)
              clear ha hb
              go_wp2_with (first
                | (have hq := HA2
                   go_at_call 16; refine (HM.out.2.2.2.1.addN HM.out.2.1 HM.out.2.2.1 HA.out.2 _ HB.out).mono ?_; rintro e7 w7 ⟨rfl, hb7⟩
                   have HB := Lib.hid (hb7.alloc hb7.size (.cells #[.int .i64 0, .pointer none] 29))
                   clear hb7 hq)
                | (go_at_call 16; refine (HM.out.2.2.2.1.addN HM.out.1 HM.out.2.2.1 HA.out.1 _ HB.out).mono ?_; rintro e6 w6 ⟨rfl, hb6⟩
                   have hb6' := hb6.alloc hb6.size (.cells #[.int .i64 0, .pointer none] 29)
                   obtain ⟨y0, y1, y2, y3, y4, y5⟩ := HC.out _ hb6'
                   have HA2 := Lib.hid True.intro
                   have HB := Lib.hid hb6'
                   clear hb6 hb6')
                | (go_at_call 13; refine (HM.out.2.2.2.1.awake _ HB.out).mono ?_; rintro e9 w9 ⟨rfl, hb9⟩
                   have HB := Lib.hid hb9
                   clear hb9))
              refine bodyPost_ret (v := .bool true) (by simp [results, Tryd.results5, go_sem]) rfl ⟨rfl, HM.out.2.2.2.2.1.trans (HB.out.mono HM.out.2.2.2.2.1.size)⟩
end Go.Proofs.YtfhoimblabmkkaaDoor
