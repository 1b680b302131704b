import Derived.Test.YtfhoimblabmkkaaDoorJ6
set_option linter.unusedVariables false
set_option linter.unusedSimpArgs false
namespace Go.Proofs.YtfhoimblabmkkaaDoor
open Go.RowKit
set_option linter.unusedVariables false

/-- three numbers that a law has picked -/
def PickR (w1 : World) (s1 s2 s3 : Int) (g1 g2 g3 : Option Addr) (v6 v7 v8 : Value) (wx : World) : Prop :=
  ∃ b6 b7 b8, v6 = .pointer (some ⟨b6, 0, none⟩) ∧ v7 = .pointer (some ⟨b7, 0, none⟩) ∧ v8 = .pointer (some ⟨b8, 0, none⟩) ∧ Below w1.heap.size w1 wx ∧
    wx.heap[b6]? = some (.cells #[.int .i64 s1, .pointer g1] 29 (0, 0)) ∧ wx.heap[b7]? = some (.cells #[.int .i64 s2, .pointer g2] 29 (0, 0)) ∧ wx.heap[b8]? = some (.cells #[.int .i64 s3, .pointer g3] 29 (0, 0))

theorem wtOne : wt 1 ≤ 1 := by
  have h := (wt_one 0 0 (by decide)).1
  have h0 : wt 0 = 0 := by unfold wt; rw [naf0]; rfl
  simpa [h0] using h

set_option maxRecDepth 100000 in
set_option maxHeartbeats 8000000 in
/-- ████ NumRing -/
theorem NumRing_calls {w : World} {v : Value} {os : List OV} (hr : RowV w 4 v os.length (flatO os)) (hi : ∀ o ∈ os, i64 o.2.1 ∧ i64 o.2.2.1 ∧ i64 o.2.2.2) (tab : Tab w) (h0 : 0 < w.heap.size) (a0 a1 a2 : Int) (ia0 : i64 a0) (ia1 : i64 a1) (ia2 : i64 a2) :
    Calls Tryd.prog 6 #[v, .agg #[.int .i64 a0, .int .i64 a1, .int .i64 a2]] w fun e w' => e = .returned (.bool true) ∧ Below w.heap.size w w' := by
  obtain ⟨ax, cx, rfl⟩ := hr.shape
  obtain ⟨wB, hwB⟩ : ∃ wB, wB = w.alloc (.cells #[.int .i64 a0, .int .i64 a1, .int .i64 a2] 56) := ⟨_, rfl⟩
  have hbB : Below w.heap.size w wB := by rw [hwB]; exact (Below.refl _ _).alloc (Nat.le_refl _) _
  have p0 : wB.heap[w.heap.size]? = some (.cells #[.int .i64 a0, .int .i64 a1, .int .i64 a2] 56 (0, 0)) := by rw [hwB]; exact heap_alloc_new w _
  have hL := LawW.of tab h0 hbB
  have hMade := made_calls (w := wB) (hr.below hbB (Nat.le_refl _)) hi (hL wB (Below.refl _ _)).1 (hL wB (Below.refl _ _)).2
  have HX := Lib.hid (And.intro hbB (And.intro p0 (And.intro hL (And.intro ia0 (And.intro ia1 ia2)))))
  clear hr hi tab h0 hbB p0 hL
  subst hwB
  go_enter Tryd.func6, Tryd.ntmps6
  go_upto_region 2 with (first
    | (go_at_call 27; refine hMade.mono ?_; rintro e1 w1 ⟨a, n, c, rfl, hn3, hn27, hM⟩
       have H1 := Lib.hid hM
       clear hM))
  obtain ⟨ns, zs, hl, hown, hv, hb1, hm⟩ := H1.out
  obtain ⟨hbB, p0, hL, ia0, ia1, ia2⟩ := HX.out
  obtain ⟨b, rfl⟩ : ∃ b, a = some ⟨b, 0, none⟩ := by
    obtain ⟨_, h2⟩ := hown
    rcases h2 with ⟨e, _⟩ | ⟨g', cap, cur, ev, _⟩
    · simp only [Value.slice.injEq] at e; omega
    · cases ev; exact ⟨g', rfl⟩
  have hbl := (hown.lt b rfl).2
  have hbge := (hown.lt b rfl).1
  have hp1 := (hb1.block _ (lt_of_some p0)).trans p0
  have hNn : (0 : Int) < (n : Int) := by omega
  obtain ⟨j1, hj1⟩ := Int.eq_ofNat_of_zero_le (Int.emod_nonneg a0 (show (n : Int) ≠ 0 by omega))
  obtain ⟨j2, hj2⟩ := Int.eq_ofNat_of_zero_le (Int.emod_nonneg a1 (show (n : Int) ≠ 0 by omega))
  obtain ⟨j3, hj3⟩ := Int.eq_ofNat_of_zero_le (Int.emod_nonneg a2 (show (n : Int) ≠ 0 by omega))
  have hl1 : j1 < n := by have := Int.emod_lt_of_pos a0 hNn; omega
  have hl2 : j2 < n := by have := Int.emod_lt_of_pos a1 hNn; omega
  have hl3 : j3 < n := by have := Int.emod_lt_of_pos a2 hNn; omega
  have hR1 : ∀ W, Calls Tryd.prog 34 #[.int .i64 a0, .int .i64 (n : Int)] W fun e w' => e = .returned (.int .i64 (j1 : Int)) ∧ W = w' := fun W => by rw [← hj1]; exact rest_calls a0 _ ia0 hNn (by omega) W
  have hR2 : ∀ W, Calls Tryd.prog 34 #[.int .i64 a1, .int .i64 (n : Int)] W fun e w' => e = .returned (.int .i64 (j2 : Int)) ∧ W = w' := fun W => by rw [← hj2]; exact rest_calls a1 _ ia1 hNn (by omega) W
  have hR3 : ∀ W, Calls Tryd.prog 34 #[.int .i64 a2, .int .i64 (n : Int)] W fun e w' => e = .returned (.int .i64 (j3 : Int)) ∧ W = w' := fun W => by rw [← hj3]; exact rest_calls a2 _ ia2 hNn (by omega) W
  subst hl
  have hzl := hv.len
  have hn1 := (hv.get j1 hl1 (by omega)).cold
  have hn2 := (hv.get j2 hl2 (by omega)).cold
  have hn3' := (hv.get j3 hl3 (by omega)).cold
  obtain ⟨q0, q1⟩ := RowC.num (RowV.of_own hown).rowC j1 hl1
  obtain ⟨q2, q3⟩ := RowC.num (RowV.of_own hown).rowC j2 hl2
  obtain ⟨q4, q5⟩ := RowC.num (RowV.of_own hown).rowC j3 hl3
  generalize ns[j1] = t1 at q0 q1 hn1
  generalize ns[j2] = t2 at q2 q3 hn2
  generalize ns[j3] = t3 at q4 q5 hn3'
  obtain ⟨s1, g1⟩ := t1
  obtain ⟨s2, g2⟩ := t2
  obtain ⟨s3, g3⟩ := t3
  simp only at q0 q1 q2 q3 q4 q5 hn1 hn2 hn3'
  generalize zs[j1]'(by omega) = z1 at hn1
  generalize zs[j2]'(by omega) = z2 at hn2
  generalize zs[j3]'(by omega) = z3 at hn3'
  have hc0 : w1.cell? ⟨w.heap.size, 0, none⟩ = some (.int .i64 a0) := by simp [World.cell?, hp1]
  have hc1 : w1.cell? ⟨w.heap.size, 1, none⟩ = some (.int .i64 a1) := by simp [World.cell?, hp1]
  have hc2 : w1.cell? ⟨w.heap.size, 2, none⟩ = some (.int .i64 a2) := by simp [World.cell?, hp1]
  have hwl := lt_of_some hp1
  have hLw := hL.on hb1
  have hbw := hbB.trans (hb1.mono hbB.size)
  have HY := Lib.hid (And.intro hn1 (And.intro hn2 (And.intro hn3' (And.intro hLw hbw))))
  generalize hpl : ns.length = L at *
  have k0 : (0 : Int) ≤ (j1 : Int) := by omega
  have k1 : (0 : Int) ≤ (j2 : Int) := by omega
  have k2 : (0 : Int) ≤ (j3 : Int) := by omega
  have k3 : (j1 : Int) < (L : Int) := by omega
  have k4 : (j2 : Int) < (L : Int) := by omega
  have k5 : (j3 : Int) < (L : Int) := by omega
  clear hpl hown hv hb1 hm hbB p0 hL ia0 ia1 ia2 hp1 hj1 hj2 hj3 hl1 hl2 hl3 hn1 hn2 hn3' hLw hbw H1 HX hzl hn27 hn3 hNn hMade
  simp only [Nat.zero_add] at q0 q1 q2 q3 q4 q5
  have hne1 : ¬ b = w1.heap.size := by omega
  have hne2 : ¬ w1.heap.size = b := by omega
  have hne3 : ¬ b = w1.heap.size + 1 := by omega
  have hne4 : ¬ w1.heap.size + 1 = b := by omega
  have hne5 : ¬ b = w1.heap.size + 1 + 1 := by omega
  have hne6 : ¬ w1.heap.size + 1 + 1 = b := by omega
  have hnw1 : ¬ w.heap.size = w1.heap.size := by omega
  have hnw2 : ¬ w1.heap.size = w.heap.size := by omega
  have hnw3 : ¬ w.heap.size = w1.heap.size + 1 := by omega
  have hnw4 : ¬ w1.heap.size + 1 = w.heap.size := by omega
  have hnw5 : ¬ w.heap.size = w1.heap.size + 1 + 1 := by omega
  have hnw6 : ¬ w1.heap.size + 1 + 1 = w.heap.size := by omega
  have hSS : ∀ W, Below w1.heap.size w1 W → W.cell? ⟨w.heap.size, 0, none⟩ = some (.int .i64 a0) ∧ W.cell? ⟨w.heap.size, 1, none⟩ = some (.int .i64 a1) ∧ W.cell? ⟨w.heap.size, 2, none⟩ = some (.int .i64 a2) ∧ W.cell? ⟨b, j1 * 2, none⟩ = some (.int .i64 s1) ∧ W.cell? ⟨b, j1 * 2 + 1, none⟩ = some (.pointer g1) ∧
      W.cell? ⟨b, j2 * 2, none⟩ = some (.int .i64 s2) ∧ W.cell? ⟨b, j2 * 2 + 1, none⟩ = some (.pointer g2) ∧ W.cell? ⟨b, j3 * 2, none⟩ = some (.int .i64 s3) ∧ W.cell? ⟨b, j3 * 2 + 1, none⟩ = some (.pointer g3) := fun W hW =>
    ⟨(hW.cell (p := ⟨w.heap.size, 0, none⟩) hwl).trans hc0, (hW.cell (p := ⟨w.heap.size, 1, none⟩) hwl).trans hc1, (hW.cell (p := ⟨w.heap.size, 2, none⟩) hwl).trans hc2, (hW.cell (p := ⟨b, j1 * 2, none⟩) hbl).trans q0, (hW.cell (p := ⟨b, j1 * 2 + 1, none⟩) hbl).trans q1, (hW.cell (p := ⟨b, j2 * 2, none⟩) hbl).trans q2, (hW.cell (p := ⟨b, j2 * 2 + 1, none⟩) hbl).trans q3, (hW.cell (p := ⟨b, j3 * 2, none⟩) hbl).trans q4, (hW.cell (p := ⟨b, j3 * 2 + 1, none⟩) hbl).trans q5⟩
  have HSS := Lib.hid hSS
  clear hSS
  go_cut [6, 7, 8] from 39 to 62 (fun v6 v7 v8 wx => PickR w1 s1 s2 s3 g1 g2 g3 v6 v7 v8 wx)
  case first =>
    refine wp_region_held_drew (S := fun w' => w'.cell? ⟨w.heap.size, 0, none⟩ = some (.int .i64 a0) ∧ w'.cell? ⟨w.heap.size, 1, none⟩ = some (.int .i64 a1) ∧ w'.cell? ⟨w.heap.size, 2, none⟩ = some (.int .i64 a2) ∧ w'.cell? ⟨b, j1 * 2, none⟩ = some (.int .i64 s1) ∧ w'.cell? ⟨b, j1 * 2 + 1, none⟩ = some (.pointer g1) ∧ w'.cell? ⟨b, j2 * 2, none⟩ = some (.int .i64 s2) ∧ w'.cell? ⟨b, j2 * 2 + 1, none⟩ = some (.pointer g2) ∧ w'.cell? ⟨b, j3 * 2, none⟩ = some (.int .i64 s3) ∧ w'.cell? ⟨b, j3 * 2 + 1, none⟩ = some (.pointer g3)) (by kernel_rfl) (HSS.out _ ((Below.refl _ _).drew)) (fun hHeld => ?_)
    refine wpAnyH_take (i := 0) (oi := _) (v := ?v0) rfl (by kernel_rfl) (by kernel_rfl) (by kernel_rfl) (fun _ _ _ h => h) (Or.inl ⟨by rfl, ?h0⟩) (by assumption) ?r0
    case h0 => (intro w hSw; (try dsimp only at hSw); go_simp; try with_reducible rfl)
    try simp only [Act.put, List.setIfInBounds_toArray, List.set_cons_zero, List.set_cons_succ]
    refine wpAnyH_take (i := 1) (oi := _) (v := ?v1) rfl (by kernel_rfl) (by kernel_rfl) (by kernel_rfl) (fun _ _ _ h => h) (Or.inl ⟨by rfl, ?h1⟩) (by assumption) ?r1
    case h1 => (intro w hSw; (try dsimp only at hSw); go_simp; try with_reducible rfl)
    try simp only [Act.put, List.setIfInBounds_toArray, List.set_cons_zero, List.set_cons_succ]
    refine wpAnyH_take (i := 2) (oi := _) (v := ?v2) rfl (by kernel_rfl) (by kernel_rfl) (by kernel_rfl) (fun _ _ _ h => h) (Or.inl ⟨by rfl, ?h2⟩) (by assumption) ?r2
    case h2 => (intro w hSw; (try dsimp only at hSw); go_simp; try with_reducible rfl)
    try simp only [Act.put, List.setIfInBounds_toArray, List.set_cons_zero, List.set_cons_succ]
    refine wpAnyH_take (i := 3) (oi := _) (v := ?v3) rfl (by kernel_rfl) (by kernel_rfl) (by kernel_rfl) (fun _ _ _ h => h) (Or.inl ⟨by rfl, ?h3⟩) (by assumption) ?r3
    case h3 => (intro w hSw; (try dsimp only at hSw); go_simp; try with_reducible rfl)
    try simp only [Act.put, List.setIfInBounds_toArray, List.set_cons_zero, List.set_cons_succ]
    refine wpAnyH_take (i := 4) (oi := _) (v := ?v4) rfl (by kernel_rfl) (by kernel_rfl) (by kernel_rfl) (fun _ _ _ h => h) (Or.inl ⟨by rfl, ?h4⟩) (by assumption) ?r4
    case h4 => (intro w hSw; (try dsimp only at hSw); go_simp; try with_reducible rfl)
    try simp only [Act.put, List.setIfInBounds_toArray, List.set_cons_zero, List.set_cons_succ]
    refine call_take (i := 5) (oi := _) (v := .int .i64 (j1 : Int)) rfl (by kernel_rfl) (by kernel_rfl) (by kernel_rfl) (fun _ _ _ h => h) (by rfl) (fun w => by go_simp) (fun w => hR1 w) (by assumption) ?_
    try simp only [Act.put, List.setIfInBounds_toArray, List.set_cons_zero, List.set_cons_succ]
    refine wpAnyH_take (i := 6) (oi := _) (v := ?v6) rfl (by kernel_rfl) (by kernel_rfl) (by kernel_rfl) (fun _ _ _ h => h) (Or.inl ⟨by rfl, ?h6⟩) (by assumption) ?r6
    case h6 => (intro w hSw; (try dsimp only at hSw); go_simp; try with_reducible rfl)
    try simp only [Act.put, List.setIfInBounds_toArray, List.set_cons_zero, List.set_cons_succ]
    refine wpAnyH_take (i := 7) (oi := _) (v := ?v7) rfl (by kernel_rfl) (by kernel_rfl) (by kernel_rfl) (fun _ _ _ h => h) (Or.inl ⟨by rfl, ?h7⟩) (by assumption) ?r7
    case h7 => (intro w hSw; (try dsimp only at hSw); go_simp; try with_reducible rfl)
    try simp only [Act.put, List.setIfInBounds_toArray, List.set_cons_zero, List.set_cons_succ]
    refine wpAnyH_take (i := 8) (oi := _) (v := ?v8) rfl (by kernel_rfl) (by kernel_rfl) (by kernel_rfl) (fun _ _ _ h => h) (Or.inl ⟨by rfl, ?h8⟩) (by assumption) ?r8
    case h8 => (intro w hSw; (try dsimp only at hSw); go_simp; try with_reducible rfl)
    try simp only [Act.put, List.setIfInBounds_toArray, List.set_cons_zero, List.set_cons_succ]
    refine wpAnyH_take (i := 9) (oi := _) (v := ?v9) rfl (by kernel_rfl) (by kernel_rfl) (by kernel_rfl) (fun _ _ _ h => h) (Or.inl ⟨by rfl, ?h9⟩) (by assumption) ?r9
    case h9 => (intro w hSw; (try dsimp only at hSw); go_simp; try with_reducible rfl)
    try simp only [Act.put, List.setIfInBounds_toArray, List.set_cons_zero, List.set_cons_succ]
    refine wpAnyH_take (i := 10) (oi := _) (v := ?v10) rfl (by kernel_rfl) (by kernel_rfl) (by kernel_rfl) (fun _ _ _ h => h) (Or.inl ⟨by rfl, ?h10⟩) (by assumption) ?r10
    case h10 => (intro w hSw; (try dsimp only at hSw); go_simp; try with_reducible rfl)
    try simp only [Act.put, List.setIfInBounds_toArray, List.set_cons_zero, List.set_cons_succ]
    refine wpAnyH_take (i := 11) (oi := _) (v := ?v11) rfl (by kernel_rfl) (by kernel_rfl) (by kernel_rfl) (fun _ _ _ h => h) (Or.inl ⟨by rfl, ?h11⟩) (by assumption) ?r11
    case h11 => (intro w hSw; (try dsimp only at hSw); go_simp; try with_reducible rfl)
    try simp only [Act.put, List.setIfInBounds_toArray, List.set_cons_zero, List.set_cons_succ]
    refine wpAnyH_take (i := 12) (oi := _) (v := ?v12) rfl (by kernel_rfl) (by kernel_rfl) (by kernel_rfl) (fun _ _ _ h => h) (Or.inl ⟨by rfl, ?h12⟩) (by assumption) ?r12
    case h12 => (intro w hSw; (try dsimp only at hSw); go_simp; try with_reducible rfl)
    try simp only [Act.put, List.setIfInBounds_toArray, List.set_cons_zero, List.set_cons_succ]
    refine call_take (i := 13) (oi := _) (v := .int .i64 (j2 : Int)) rfl (by kernel_rfl) (by kernel_rfl) (by kernel_rfl) (fun _ _ _ h => h) (by rfl) (fun w => by go_simp) (fun w => hR2 w) (by assumption) ?_
    try simp only [Act.put, List.setIfInBounds_toArray, List.set_cons_zero, List.set_cons_succ]
    refine wpAnyH_take (i := 14) (oi := _) (v := ?v14) rfl (by kernel_rfl) (by kernel_rfl) (by kernel_rfl) (fun _ _ _ h => h) (Or.inl ⟨by rfl, ?h14⟩) (by assumption) ?r14
    case h14 => (intro w hSw; (try dsimp only at hSw); go_simp; try with_reducible rfl)
    try simp only [Act.put, List.setIfInBounds_toArray, List.set_cons_zero, List.set_cons_succ]
    refine wpAnyH_take (i := 15) (oi := _) (v := ?v15) rfl (by kernel_rfl) (by kernel_rfl) (by kernel_rfl) (fun _ _ _ h => h) (Or.inl ⟨by rfl, ?h15⟩) (by assumption) ?r15
    case h15 => (intro w hSw; (try dsimp only at hSw); go_simp; try with_reducible rfl)
    try simp only [Act.put, List.setIfInBounds_toArray, List.set_cons_zero, List.set_cons_succ]
    refine wpAnyH_take (i := 16) (oi := _) (v := ?v16) rfl (by kernel_rfl) (by kernel_rfl) (by kernel_rfl) (fun _ _ _ h => h) (Or.inl ⟨by rfl, ?h16⟩) (by assumption) ?r16
    case h16 => (intro w hSw; (try dsimp only at hSw); go_simp; try with_reducible rfl)
    try simp only [Act.put, List.setIfInBounds_toArray, List.set_cons_zero, List.set_cons_succ]
    refine wpAnyH_take (i := 17) (oi := _) (v := ?v17) rfl (by kernel_rfl) (by kernel_rfl) (by kernel_rfl) (fun _ _ _ h => h) (Or.inl ⟨by rfl, ?h17⟩) (by assumption) ?r17
    case h17 => (intro w hSw; (try dsimp only at hSw); go_simp; try with_reducible rfl)
    try simp only [Act.put, List.setIfInBounds_toArray, List.set_cons_zero, List.set_cons_succ]
    refine wpAnyH_take (i := 18) (oi := _) (v := ?v18) rfl (by kernel_rfl) (by kernel_rfl) (by kernel_rfl) (fun _ _ _ h => h) (Or.inl ⟨by rfl, ?h18⟩) (by assumption) ?r18
    case h18 => (intro w hSw; (try dsimp only at hSw); go_simp; try with_reducible rfl)
    try simp only [Act.put, List.setIfInBounds_toArray, List.set_cons_zero, List.set_cons_succ]
    refine wpAnyH_take (i := 19) (oi := _) (v := ?v19) rfl (by kernel_rfl) (by kernel_rfl) (by kernel_rfl) (fun _ _ _ h => h) (Or.inl ⟨by rfl, ?h19⟩) (by assumption) ?r19
    case h19 => (intro w hSw; (try dsimp only at hSw); go_simp; try with_reducible rfl)
    try simp only [Act.put, List.setIfInBounds_toArray, List.set_cons_zero, List.set_cons_succ]
    refine wpAnyH_take (i := 20) (oi := _) (v := ?v20) rfl (by kernel_rfl) (by kernel_rfl) (by kernel_rfl) (fun _ _ _ h => h) (Or.inl ⟨by rfl, ?h20⟩) (by assumption) ?r20
    case h20 => (intro w hSw; (try dsimp only at hSw); go_simp; try with_reducible rfl)
    try simp only [Act.put, List.setIfInBounds_toArray, List.set_cons_zero, List.set_cons_succ]
    refine call_take (i := 21) (oi := _) (v := .int .i64 (j3 : Int)) rfl (by kernel_rfl) (by kernel_rfl) (by kernel_rfl) (fun _ _ _ h => h) (by rfl) (fun w => by go_simp) (fun w => hR3 w) (by assumption) ?_
    try simp only [Act.put, List.setIfInBounds_toArray, List.set_cons_zero, List.set_cons_succ]
    refine wpAnyH_take (i := 22) (oi := _) (v := ?v22) rfl (by kernel_rfl) (by kernel_rfl) (by kernel_rfl) (fun _ _ _ h => h) (Or.inl ⟨by rfl, ?h22⟩) (by assumption) ?r22
    case h22 => (intro w hSw; (try dsimp only at hSw); go_simp; try with_reducible rfl)
    try simp only [Act.put, List.setIfInBounds_toArray, List.set_cons_zero, List.set_cons_succ]
    refine wpAnyH_take (i := 23) (oi := _) (v := ?v23) rfl (by kernel_rfl) (by kernel_rfl) (by kernel_rfl) (fun _ _ _ h => h) (Or.inl ⟨by rfl, ?h23⟩) (by assumption) ?r23
    case h23 => (intro w hSw; (try dsimp only at hSw); go_simp; try with_reducible rfl)
    try simp only [Act.put, List.setIfInBounds_toArray, List.set_cons_zero, List.set_cons_succ]
    refine wpAnyH_ready (rs := [24, 25, 26]) (by kernel_rfl) (by simp) ?_
    refine AllReadyH.cons rfl (fun K hK => ?_) ?_
    · go_simp
      (refine hK.out _ _ (HSS.out _ (by repeat (first | exact Below.refl _ _ | refine Below.drew ?_ | refine Below.alloc ?_ (by simp <;> omega) _ | refine Below.setCell ?_ (by simp <;> omega) _))) (fun hHeld => ?_))
      clear hK K
      try simp only [Act.put, List.setIfInBounds_toArray, List.set_cons_zero, List.set_cons_succ]
      refine wpAnyH_ready (rs := [25, 26]) (by kernel_rfl) (by simp) ?_
      refine AllReadyH.cons rfl (fun K hK => ?_) ?_
      · go_simp
        (refine hK.out _ _ (HSS.out _ (by repeat (first | exact Below.refl _ _ | refine Below.drew ?_ | refine Below.alloc ?_ (by simp <;> omega) _ | refine Below.setCell ?_ (by simp <;> omega) _))) (fun hHeld => ?_))
        clear hK K
        try simp only [Act.put, List.setIfInBounds_toArray, List.set_cons_zero, List.set_cons_succ]
        refine wpAnyH_ready (rs := [26]) (by kernel_rfl) (by simp) ?_
        refine AllReadyH.cons rfl (fun K hK => ?_) ?_
        · go_simp
          (refine hK.out _ _ (HSS.out _ (by repeat (first | exact Below.refl _ _ | refine Below.drew ?_ | refine Below.alloc ?_ (by simp <;> omega) _ | refine Below.setCell ?_ (by simp <;> omega) _))) (fun hHeld => ?_))
          clear hK K
          try simp only [Act.put, List.setIfInBounds_toArray, List.set_cons_zero, List.set_cons_succ]
          refine wpAnyH_ready (rs := [27]) (by kernel_rfl) (by simp) ?_
          refine AllReadyH.cons rfl (fun K hK => ?_) AllReadyH.nil
          go_simp
          (refine hK.out _ _ (HSS.out _ (by repeat (first | exact Below.refl _ _ | refine Below.drew ?_ | refine Below.alloc ?_ (by simp <;> omega) _ | refine Below.setCell ?_ (by simp <;> omega) _))) (fun hHeld => ?_))
          clear hK K
          try simp only [Act.put, List.setIfInBounds_toArray, List.set_cons_zero, List.set_cons_succ]
          refine wpAnyH_ready (rs := [28]) (by kernel_rfl) (by simp) ?_
          refine AllReadyH.cons rfl (fun K hK => ?_) AllReadyH.nil
          go_simp
          (refine hK.out _ _ (HSS.out _ (by repeat (first | exact Below.refl _ _ | refine Below.drew ?_ | refine Below.alloc ?_ (by simp <;> omega) _ | refine Below.setCell ?_ (by simp <;> omega) _))) (fun hHeld => ?_))
          clear hK K
          try simp only [Act.put, List.setIfInBounds_toArray, List.set_cons_zero, List.set_cons_succ]
          refine wpAnyH_ready (rs := [29]) (by kernel_rfl) (by simp) ?_
          refine AllReadyH.cons rfl (fun K hK => ?_) AllReadyH.nil
          go_simp
          (refine hK.out _ _ (HSS.out _ (by repeat (first | exact Below.refl _ _ | refine Below.drew ?_ | refine Below.alloc ?_ (by simp <;> omega) _ | refine Below.setCell ?_ (by simp <;> omega) _))) (fun hHeld => ?_))
          clear hK K
          try simp only [Act.put, List.setIfInBounds_toArray, List.set_cons_zero, List.set_cons_succ]
          refine wpAnyH_done (by kernel_rfl) ?_ _
          (try go_wp2)
          go_meet
          refine ⟨_, _, _, rfl, rfl, rfl, by refine Below.drew ?_; repeat (first | exact Below.refl _ _ | refine Below.alloc ?_ (by simp <;> omega) _), ?_, ?_, ?_⟩ <;> first | exact (alloc3_all w1 _ _ _).1 | exact (alloc3_all w1 _ _ _).2.1 | exact (alloc3_all w1 _ _ _).2.2.1
        exact AllReadyH.nil
      refine AllReadyH.cons rfl (fun K hK => ?_) ?_
      · go_simp
        (refine hK.out _ _ (HSS.out _ (by repeat (first | exact Below.refl _ _ | refine Below.drew ?_ | refine Below.alloc ?_ (by simp <;> omega) _ | refine Below.setCell ?_ (by simp <;> omega) _))) (fun hHeld => ?_))
        clear hK K
        try simp only [Act.put, List.setIfInBounds_toArray, List.set_cons_zero, List.set_cons_succ]
        refine wpAnyH_ready (rs := [25]) (by kernel_rfl) (by simp) ?_
        refine AllReadyH.cons rfl (fun K hK => ?_) ?_
        · go_simp
          (refine hK.out _ _ (HSS.out _ (by repeat (first | exact Below.refl _ _ | refine Below.drew ?_ | refine Below.alloc ?_ (by simp <;> omega) _ | refine Below.setCell ?_ (by simp <;> omega) _))) (fun hHeld => ?_))
          clear hK K
          try simp only [Act.put, List.setIfInBounds_toArray, List.set_cons_zero, List.set_cons_succ]
          refine wpAnyH_ready (rs := [27]) (by kernel_rfl) (by simp) ?_
          refine AllReadyH.cons rfl (fun K hK => ?_) AllReadyH.nil
          go_simp
          (refine hK.out _ _ (HSS.out _ (by repeat (first | exact Below.refl _ _ | refine Below.drew ?_ | refine Below.alloc ?_ (by simp <;> omega) _ | refine Below.setCell ?_ (by simp <;> omega) _))) (fun hHeld => ?_))
          clear hK K
          try simp only [Act.put, List.setIfInBounds_toArray, List.set_cons_zero, List.set_cons_succ]
          refine wpAnyH_ready (rs := [28]) (by kernel_rfl) (by simp) ?_
          refine AllReadyH.cons rfl (fun K hK => ?_) AllReadyH.nil
          go_simp
          (refine hK.out _ _ (HSS.out _ (by repeat (first | exact Below.refl _ _ | refine Below.drew ?_ | refine Below.alloc ?_ (by simp <;> omega) _ | refine Below.setCell ?_ (by simp <;> omega) _))) (fun hHeld => ?_))
          clear hK K
          try simp only [Act.put, List.setIfInBounds_toArray, List.set_cons_zero, List.set_cons_succ]
          refine wpAnyH_ready (rs := [29]) (by kernel_rfl) (by simp) ?_
          refine AllReadyH.cons rfl (fun K hK => ?_) AllReadyH.nil
          go_simp
          (refine hK.out _ _ (HSS.out _ (by repeat (first | exact Below.refl _ _ | refine Below.drew ?_ | refine Below.alloc ?_ (by simp <;> omega) _ | refine Below.setCell ?_ (by simp <;> omega) _))) (fun hHeld => ?_))
          clear hK K
          try simp only [Act.put, List.setIfInBounds_toArray, List.set_cons_zero, List.set_cons_succ]
          refine wpAnyH_done (by kernel_rfl) ?_ _
          (try go_wp2)
          go_meet
          refine ⟨_, _, _, rfl, rfl, rfl, by refine Below.drew ?_; repeat (first | exact Below.refl _ _ | refine Below.alloc ?_ (by simp <;> omega) _), ?_, ?_, ?_⟩ <;> first | exact (alloc3_all w1 _ _ _).1 | exact (alloc3_all w1 _ _ _).2.1 | exact (alloc3_all w1 _ _ _).2.2.1
        exact AllReadyH.nil
      exact AllReadyH.nil
    refine AllReadyH.cons rfl (fun K hK => ?_) ?_
    · go_simp
      (refine hK.out _ _ (HSS.out _ (by repeat (first | exact Below.refl _ _ | refine Below.drew ?_ | refine Below.alloc ?_ (by simp <;> omega) _ | refine Below.setCell ?_ (by simp <;> omega) _))) (fun hHeld => ?_))
      clear hK K
      try simp only [Act.put, List.setIfInBounds_toArray, List.set_cons_zero, List.set_cons_succ]
      refine wpAnyH_ready (rs := [24, 26]) (by kernel_rfl) (by simp) ?_
      refine AllReadyH.cons rfl (fun K hK => ?_) ?_
      · go_simp
        (refine hK.out _ _ (HSS.out _ (by repeat (first | exact Below.refl _ _ | refine Below.drew ?_ | refine Below.alloc ?_ (by simp <;> omega) _ | refine Below.setCell ?_ (by simp <;> omega) _))) (fun hHeld => ?_))
        clear hK K
        try simp only [Act.put, List.setIfInBounds_toArray, List.set_cons_zero, List.set_cons_succ]
        refine wpAnyH_ready (rs := [26]) (by kernel_rfl) (by simp) ?_
        refine AllReadyH.cons rfl (fun K hK => ?_) ?_
        · go_simp
          (refine hK.out _ _ (HSS.out _ (by repeat (first | exact Below.refl _ _ | refine Below.drew ?_ | refine Below.alloc ?_ (by simp <;> omega) _ | refine Below.setCell ?_ (by simp <;> omega) _))) (fun hHeld => ?_))
          clear hK K
          try simp only [Act.put, List.setIfInBounds_toArray, List.set_cons_zero, List.set_cons_succ]
          refine wpAnyH_ready (rs := [27]) (by kernel_rfl) (by simp) ?_
          refine AllReadyH.cons rfl (fun K hK => ?_) AllReadyH.nil
          go_simp
          (refine hK.out _ _ (HSS.out _ (by repeat (first | exact Below.refl _ _ | refine Below.drew ?_ | refine Below.alloc ?_ (by simp <;> omega) _ | refine Below.setCell ?_ (by simp <;> omega) _))) (fun hHeld => ?_))
          clear hK K
          try simp only [Act.put, List.setIfInBounds_toArray, List.set_cons_zero, List.set_cons_succ]
          refine wpAnyH_ready (rs := [28]) (by kernel_rfl) (by simp) ?_
          refine AllReadyH.cons rfl (fun K hK => ?_) AllReadyH.nil
          go_simp
          (refine hK.out _ _ (HSS.out _ (by repeat (first | exact Below.refl _ _ | refine Below.drew ?_ | refine Below.alloc ?_ (by simp <;> omega) _ | refine Below.setCell ?_ (by simp <;> omega) _))) (fun hHeld => ?_))
          clear hK K
          try simp only [Act.put, List.setIfInBounds_toArray, List.set_cons_zero, List.set_cons_succ]
          refine wpAnyH_ready (rs := [29]) (by kernel_rfl) (by simp) ?_
          refine AllReadyH.cons rfl (fun K hK => ?_) AllReadyH.nil
          go_simp
          (refine hK.out _ _ (HSS.out _ (by repeat (first | exact Below.refl _ _ | refine Below.drew ?_ | refine Below.alloc ?_ (by simp <;> omega) _ | refine Below.setCell ?_ (by simp <;> omega) _))) (fun hHeld => ?_))
          clear hK K
          try simp only [Act.put, List.setIfInBounds_toArray, List.set_cons_zero, List.set_cons_succ]
          refine wpAnyH_done (by kernel_rfl) ?_ _
          (try go_wp2)
          go_meet
          refine ⟨_, _, _, rfl, rfl, rfl, by refine Below.drew ?_; repeat (first | exact Below.refl _ _ | refine Below.alloc ?_ (by simp <;> omega) _), ?_, ?_, ?_⟩ <;> first | exact (alloc3_all w1 _ _ _).1 | exact (alloc3_all w1 _ _ _).2.1 | exact (alloc3_all w1 _ _ _).2.2.1
        exact AllReadyH.nil
      refine AllReadyH.cons rfl (fun K hK => ?_) ?_
      · go_simp
        (refine hK.out _ _ (HSS.out _ (by repeat (first | exact Below.refl _ _ | refine Below.drew ?_ | refine Below.alloc ?_ (by simp <;> omega) _ | refine Below.setCell ?_ (by simp <;> omega) _))) (fun hHeld => ?_))
        clear hK K
        try simp only [Act.put, List.setIfInBounds_toArray, List.set_cons_zero, List.set_cons_succ]
        refine wpAnyH_ready (rs := [24]) (by kernel_rfl) (by simp) ?_
        refine AllReadyH.cons rfl (fun K hK => ?_) ?_
        · go_simp
          (refine hK.out _ _ (HSS.out _ (by repeat (first | exact Below.refl _ _ | refine Below.drew ?_ | refine Below.alloc ?_ (by simp <;> omega) _ | refine Below.setCell ?_ (by simp <;> omega) _))) (fun hHeld => ?_))
          clear hK K
          try simp only [Act.put, List.setIfInBounds_toArray, List.set_cons_zero, List.set_cons_succ]
          refine wpAnyH_ready (rs := [27]) (by kernel_rfl) (by simp) ?_
          refine AllReadyH.cons rfl (fun K hK => ?_) AllReadyH.nil
          go_simp
          (refine hK.out _ _ (HSS.out _ (by repeat (first | exact Below.refl _ _ | refine Below.drew ?_ | refine Below.alloc ?_ (by simp <;> omega) _ | refine Below.setCell ?_ (by simp <;> omega) _))) (fun hHeld => ?_))
          clear hK K
          try simp only [Act.put, List.setIfInBounds_toArray, List.set_cons_zero, List.set_cons_succ]
          refine wpAnyH_ready (rs := [28]) (by kernel_rfl) (by simp) ?_
          refine AllReadyH.cons rfl (fun K hK => ?_) AllReadyH.nil
          go_simp
          (refine hK.out _ _ (HSS.out _ (by repeat (first | exact Below.refl _ _ | refine Below.drew ?_ | refine Below.alloc ?_ (by simp <;> omega) _ | refine Below.setCell ?_ (by simp <;> omega) _))) (fun hHeld => ?_))
          clear hK K
          try simp only [Act.put, List.setIfInBounds_toArray, List.set_cons_zero, List.set_cons_succ]
          refine wpAnyH_ready (rs := [29]) (by kernel_rfl) (by simp) ?_
          refine AllReadyH.cons rfl (fun K hK => ?_) AllReadyH.nil
          go_simp
          (refine hK.out _ _ (HSS.out _ (by repeat (first | exact Below.refl _ _ | refine Below.drew ?_ | refine Below.alloc ?_ (by simp <;> omega) _ | refine Below.setCell ?_ (by simp <;> omega) _))) (fun hHeld => ?_))
          clear hK K
          try simp only [Act.put, List.setIfInBounds_toArray, List.set_cons_zero, List.set_cons_succ]
          refine wpAnyH_done (by kernel_rfl) ?_ _
          (try go_wp2)
          go_meet
          refine ⟨_, _, _, rfl, rfl, rfl, by refine Below.drew ?_; repeat (first | exact Below.refl _ _ | refine Below.alloc ?_ (by simp <;> omega) _), ?_, ?_, ?_⟩ <;> first | exact (alloc3_all w1 _ _ _).1 | exact (alloc3_all w1 _ _ _).2.1 | exact (alloc3_all w1 _ _ _).2.2.1
        exact AllReadyH.nil
      exact AllReadyH.nil
    refine AllReadyH.cons rfl (fun K hK => ?_) ?_
    · go_simp
      (refine hK.out _ _ (HSS.out _ (by repeat (first | exact Below.refl _ _ | refine Below.drew ?_ | refine Below.alloc ?_ (by simp <;> omega) _ | refine Below.setCell ?_ (by simp <;> omega) _))) (fun hHeld => ?_))
      clear hK K
      try simp only [Act.put, List.setIfInBounds_toArray, List.set_cons_zero, List.set_cons_succ]
      refine wpAnyH_ready (rs := [24, 25]) (by kernel_rfl) (by simp) ?_
      refine AllReadyH.cons rfl (fun K hK => ?_) ?_
      · go_simp
        (refine hK.out _ _ (HSS.out _ (by repeat (first | exact Below.refl _ _ | refine Below.drew ?_ | refine Below.alloc ?_ (by simp <;> omega) _ | refine Below.setCell ?_ (by simp <;> omega) _))) (fun hHeld => ?_))
        clear hK K
        try simp only [Act.put, List.setIfInBounds_toArray, List.set_cons_zero, List.set_cons_succ]
        refine wpAnyH_ready (rs := [25]) (by kernel_rfl) (by simp) ?_
        refine AllReadyH.cons rfl (fun K hK => ?_) ?_
        · go_simp
          (refine hK.out _ _ (HSS.out _ (by repeat (first | exact Below.refl _ _ | refine Below.drew ?_ | refine Below.alloc ?_ (by simp <;> omega) _ | refine Below.setCell ?_ (by simp <;> omega) _))) (fun hHeld => ?_))
          clear hK K
          try simp only [Act.put, List.setIfInBounds_toArray, List.set_cons_zero, List.set_cons_succ]
          refine wpAnyH_ready (rs := [27]) (by kernel_rfl) (by simp) ?_
          refine AllReadyH.cons rfl (fun K hK => ?_) AllReadyH.nil
          go_simp
          (refine hK.out _ _ (HSS.out _ (by repeat (first | exact Below.refl _ _ | refine Below.drew ?_ | refine Below.alloc ?_ (by simp <;> omega) _ | refine Below.setCell ?_ (by simp <;> omega) _))) (fun hHeld => ?_))
          clear hK K
          try simp only [Act.put, List.setIfInBounds_toArray, List.set_cons_zero, List.set_cons_succ]
          refine wpAnyH_ready (rs := [28]) (by kernel_rfl) (by simp) ?_
          refine AllReadyH.cons rfl (fun K hK => ?_) AllReadyH.nil
          go_simp
          (refine hK.out _ _ (HSS.out _ (by repeat (first | exact Below.refl _ _ | refine Below.drew ?_ | refine Below.alloc ?_ (by simp <;> omega) _ | refine Below.setCell ?_ (by simp <;> omega) _))) (fun hHeld => ?_))
          clear hK K
          try simp only [Act.put, List.setIfInBounds_toArray, List.set_cons_zero, List.set_cons_succ]
          refine wpAnyH_ready (rs := [29]) (by kernel_rfl) (by simp) ?_
          refine AllReadyH.cons rfl (fun K hK => ?_) AllReadyH.nil
          go_simp
          (refine hK.out _ _ (HSS.out _ (by repeat (first | exact Below.refl _ _ | refine Below.drew ?_ | refine Below.alloc ?_ (by simp <;> omega) _ | refine Below.setCell ?_ (by simp <;> omega) _))) (fun hHeld => ?_))
          clear hK K
          try simp only [Act.put, List.setIfInBounds_toArray, List.set_cons_zero, List.set_cons_succ]
          refine wpAnyH_done (by kernel_rfl) ?_ _
          (try go_wp2)
          go_meet
          refine ⟨_, _, _, rfl, rfl, rfl, by refine Below.drew ?_; repeat (first | exact Below.refl _ _ | refine Below.alloc ?_ (by simp <;> omega) _), ?_, ?_, ?_⟩ <;> first | exact (alloc3_all w1 _ _ _).1 | exact (alloc3_all w1 _ _ _).2.1 | exact (alloc3_all w1 _ _ _).2.2.1
        exact AllReadyH.nil
      refine AllReadyH.cons rfl (fun K hK => ?_) ?_
      · go_simp
        (refine hK.out _ _ (HSS.out _ (by repeat (first | exact Below.refl _ _ | refine Below.drew ?_ | refine Below.alloc ?_ (by simp <;> omega) _ | refine Below.setCell ?_ (by simp <;> omega) _))) (fun hHeld => ?_))
        clear hK K
        try simp only [Act.put, List.setIfInBounds_toArray, List.set_cons_zero, List.set_cons_succ]
        refine wpAnyH_ready (rs := [24]) (by kernel_rfl) (by simp) ?_
        refine AllReadyH.cons rfl (fun K hK => ?_) ?_
        · go_simp
          (refine hK.out _ _ (HSS.out _ (by repeat (first | exact Below.refl _ _ | refine Below.drew ?_ | refine Below.alloc ?_ (by simp <;> omega) _ | refine Below.setCell ?_ (by simp <;> omega) _))) (fun hHeld => ?_))
          clear hK K
          try simp only [Act.put, List.setIfInBounds_toArray, List.set_cons_zero, List.set_cons_succ]
          refine wpAnyH_ready (rs := [27]) (by kernel_rfl) (by simp) ?_
          refine AllReadyH.cons rfl (fun K hK => ?_) AllReadyH.nil
          go_simp
          (refine hK.out _ _ (HSS.out _ (by repeat (first | exact Below.refl _ _ | refine Below.drew ?_ | refine Below.alloc ?_ (by simp <;> omega) _ | refine Below.setCell ?_ (by simp <;> omega) _))) (fun hHeld => ?_))
          clear hK K
          try simp only [Act.put, List.setIfInBounds_toArray, List.set_cons_zero, List.set_cons_succ]
          refine wpAnyH_ready (rs := [28]) (by kernel_rfl) (by simp) ?_
          refine AllReadyH.cons rfl (fun K hK => ?_) AllReadyH.nil
          go_simp
          (refine hK.out _ _ (HSS.out _ (by repeat (first | exact Below.refl _ _ | refine Below.drew ?_ | refine Below.alloc ?_ (by simp <;> omega) _ | refine Below.setCell ?_ (by simp <;> omega) _))) (fun hHeld => ?_))
          clear hK K
          try simp only [Act.put, List.setIfInBounds_toArray, List.set_cons_zero, List.set_cons_succ]
          refine wpAnyH_ready (rs := [29]) (by kernel_rfl) (by simp) ?_
          refine AllReadyH.cons rfl (fun K hK => ?_) AllReadyH.nil
          go_simp
          (refine hK.out _ _ (HSS.out _ (by repeat (first | exact Below.refl _ _ | refine Below.drew ?_ | refine Below.alloc ?_ (by simp <;> omega) _ | refine Below.setCell ?_ (by simp <;> omega) _))) (fun hHeld => ?_))
          clear hK K
          try simp only [Act.put, List.setIfInBounds_toArray, List.set_cons_zero, List.set_cons_succ]
          refine wpAnyH_done (by kernel_rfl) ?_ _
          (try go_wp2)
          go_meet
          refine ⟨_, _, _, rfl, rfl, rfl, by refine Below.drew ?_; repeat (first | exact Below.refl _ _ | refine Below.alloc ?_ (by simp <;> omega) _), ?_, ?_, ?_⟩ <;> first | exact (alloc3_all w1 _ _ _).1 | exact (alloc3_all w1 _ _ _).2.1 | exact (alloc3_all w1 _ _ _).2.2.1
        exact AllReadyH.nil
      exact AllReadyH.nil
    exact AllReadyH.nil
  case rest =>
    obtain ⟨b6, b7, b8, rfl, rfl, rfl, hbc, h6, h7, h8⟩ := hcut
    obtain ⟨hn1, hn2, hn3, hLw, hbw⟩ := HY.out
    obtain ⟨wq, hwq⟩ : ∃ wq, wq = wc := ⟨_, rfl⟩
    subst hwq
    have hL := hLw.on hbc
    have HLL := Lib.hid (And.intro hL (And.intro (hbw.trans (hbc.mono hbw.size)) (And.intro hn1.1 hn1.wt)))
    have hV : Vars wq [(b6, z1), (b7, z2), (b8, z3)] := ⟨⟨s1, g1, h6, hn1.below hbc⟩, ⟨s2, g2, h7, hn2.below hbc⟩, ⟨s3, g3, h8, hn3.below hbc⟩, trivial⟩
    have HV := Lib.hid hV
    have HB := Lib.hid (Below.refl wq.heap.size wq)
    clear hbc h6 h7 h8 hn1 hn2 hn3 hLw hbw hL hV HY HSS hR1 hR2 hR3 hc0 hc1 hc2 q0 q1 q2 q3 q4 q5 hne1 hne2 hne3 hne4 hne5 hne6 hnw1 hnw2 hnw3 hnw4 hnw5 hnw6 k0 k1 k2 k3 k4 k5 hbl hbge hwl
    clear s1 s2 s3 g1 g2 g3
    go_upto_region 3 with fail
    go_cut [9, 10] from 63 to 68 (fun vd ve wx => Below wq.heap.size wq wx ∧ ∃ b, vd = .pointer (some ⟨b, 0, none⟩) ∧ ve = .int .i64 (errA (z1 + z2)) ∧ Vars wx ((b, valA (z1 + z2)) :: [(b6, z1), (b7, z2), (b8, z3)]))
    case first =>
      as_aux_lemma =>
        obtain ⟨sv1, gv1, pv1, nv1⟩ := HV.out.get (b := b6) (z := z1) (by simp)
        obtain ⟨yv1, yw1⟩ := num_cells pv1
        obtain ⟨sv2, gv2, pv2, nv2⟩ := HV.out.get (b := b7) (z := z2) (by simp)
        obtain ⟨yv2, yw2⟩ := num_cells pv2
        have hc := (HLL.out.1.on HB.out).addE nv1 nv2
        have HCC := Lib.hid hc
        clear hc pv1 nv1 pv2 nv2
        go_wp2_with (first
          | (go_at_call 16; refine HCC.out.mono ?_; rintro e9 w9 ⟨r9, q9, rfl, hn9, hb9⟩
             have hbA := hb9.alloc hb9.size (.cells #[.int .i64 r9, .pointer q9] 29)
             have HD := Lib.hid (And.intro (HB.out.trans (hbA.mono HB.out.size)) (And.intro (NumAt.new hn9) (HV.out.below hbA)))
             clear hn9 hb9 hbA))
        go_meet
        exact ⟨HD.out.1, _, rfl, rfl, HD.out.2⟩
    obtain ⟨hbx, b9, rfl, rfl, hV⟩ := hcut
    obtain ⟨wn, hwn⟩ : ∃ wn, wn = wc := ⟨_, rfl⟩
    subst hwn
    have HB := Lib.hid hbx
    have HV := Lib.hid hV
    clear hbx hV
    go_upto_region 4 with fail
    go_cut [11, 12] from 69 to 74 (fun vd ve wx => Below wq.heap.size wq wx ∧ ∃ b, vd = .pointer (some ⟨b, 0, none⟩) ∧ ve = .int .i64 (errA (z1 + z2)) ∧ Vars wx ((b, valA (z1 + z2)) :: [(b9, valA (z1 + z2)), (b6, z1), (b7, z2), (b8, z3)]))
    case first =>
      as_aux_lemma =>
        obtain ⟨sv1, gv1, pv1, nv1⟩ := HV.out.get (b := b7) (z := z2) (by simp)
        obtain ⟨yv1, yw1⟩ := num_cells pv1
        obtain ⟨sv2, gv2, pv2, nv2⟩ := HV.out.get (b := b6) (z := z1) (by simp)
        obtain ⟨yv2, yw2⟩ := num_cells pv2
        have hc := (HLL.out.1.on HB.out).addE nv1 nv2
        rw [Int.add_comm z2 z1] at hc
        have HCC := Lib.hid hc
        clear hc pv1 nv1 pv2 nv2
        go_wp2_with (first
          | (go_at_call 16; refine HCC.out.mono ?_; rintro e9 w9 ⟨r9, q9, rfl, hn9, hb9⟩
             have hbA := hb9.alloc hb9.size (.cells #[.int .i64 r9, .pointer q9] 29)
             have HD := Lib.hid (And.intro (HB.out.trans (hbA.mono HB.out.size)) (And.intro (NumAt.new hn9) (HV.out.below hbA)))
             clear hn9 hb9 hbA))
        go_meet
        exact ⟨HD.out.1, _, rfl, rfl, HD.out.2⟩
    obtain ⟨hbx, b11, rfl, rfl, hV⟩ := hcut
    obtain ⟨wn, hwn⟩ : ∃ wn, wn = wc := ⟨_, rfl⟩
    subst hwn
    have HB := Lib.hid hbx
    have HV := Lib.hid hV
    clear hbx hV
    go_upto_region 5 with fail
    go_cut [13, 14] from 75 to 80 (fun vd ve wx => Below wq.heap.size wq wx ∧ ∃ b, vd = .pointer (some ⟨b, 0, none⟩) ∧ ve = .int .i64 (errA (z2 + z3)) ∧ Vars wx ((b, valA (z2 + z3)) :: [(b11, valA (z1 + z2)), (b9, valA (z1 + z2)), (b6, z1), (b7, z2), (b8, z3)]))
    case first =>
      as_aux_lemma =>
        obtain ⟨sv1, gv1, pv1, nv1⟩ := HV.out.get (b := b7) (z := z2) (by simp)
        obtain ⟨yv1, yw1⟩ := num_cells pv1
        obtain ⟨sv2, gv2, pv2, nv2⟩ := HV.out.get (b := b8) (z := z3) (by simp)
        obtain ⟨yv2, yw2⟩ := num_cells pv2
        have hc := (HLL.out.1.on HB.out).addE nv1 nv2
        have HCC := Lib.hid hc
        clear hc pv1 nv1 pv2 nv2
        go_wp2_with (first
          | (go_at_call 16; refine HCC.out.mono ?_; rintro e9 w9 ⟨r9, q9, rfl, hn9, hb9⟩
             have hbA := hb9.alloc hb9.size (.cells #[.int .i64 r9, .pointer q9] 29)
             have HD := Lib.hid (And.intro (HB.out.trans (hbA.mono HB.out.size)) (And.intro (NumAt.new hn9) (HV.out.below hbA)))
             clear hn9 hb9 hbA))
        go_meet
        exact ⟨HD.out.1, _, rfl, rfl, HD.out.2⟩
    obtain ⟨hbx, b13, rfl, rfl, hV⟩ := hcut
    obtain ⟨wn, hwn⟩ : ∃ wn, wn = wc := ⟨_, rfl⟩
    subst hwn
    have HB := Lib.hid hbx
    have HV := Lib.hid hV
    clear hbx hV
    go_upto_region 6 with fail
    go_cut [15, 16] from 81 to 86 (fun vd ve wx => Below wq.heap.size wq wx ∧ ∃ b, vd = .pointer (some ⟨b, 0, none⟩) ∧ ve = .int .i64 (errM z1 z2) ∧ Vars wx ((b, valM z1 z2) :: [(b13, valA (z2 + z3)), (b11, valA (z1 + z2)), (b9, valA (z1 + z2)), (b6, z1), (b7, z2), (b8, z3)]))
    case first =>
      as_aux_lemma =>
        obtain ⟨sv1, gv1, pv1, nv1⟩ := HV.out.get (b := b6) (z := z1) (by simp)
        obtain ⟨yv1, yw1⟩ := num_cells pv1
        obtain ⟨sv2, gv2, pv2, nv2⟩ := HV.out.get (b := b7) (z := z2) (by simp)
        obtain ⟨yv2, yw2⟩ := num_cells pv2
        have hc := (HLL.out.1.on HB.out).mulE nv1 nv2
        have HCC := Lib.hid hc
        clear hc pv1 nv1 pv2 nv2
        go_wp2_with (first
          | (go_at_call 19; refine HCC.out.mono ?_; rintro e9 w9 ⟨r9, q9, rfl, hn9, hb9⟩
             have hbA := hb9.alloc hb9.size (.cells #[.int .i64 r9, .pointer q9] 29)
             have HD := Lib.hid (And.intro (HB.out.trans (hbA.mono HB.out.size)) (And.intro (NumAt.new hn9) (HV.out.below hbA)))
             clear hn9 hb9 hbA))
        go_meet
        exact ⟨HD.out.1, _, rfl, rfl, HD.out.2⟩
    obtain ⟨hbx, b15, rfl, rfl, hV⟩ := hcut
    obtain ⟨wn, hwn⟩ : ∃ wn, wn = wc := ⟨_, rfl⟩
    subst hwn
    have HB := Lib.hid hbx
    have HV := Lib.hid hV
    clear hbx hV
    go_upto_region 7 with fail
    go_cut [17, 18] from 87 to 92 (fun vd ve wx => Below wq.heap.size wq wx ∧ ∃ b, vd = .pointer (some ⟨b, 0, none⟩) ∧ ve = .int .i64 (errM z1 z2) ∧ Vars wx ((b, valM z1 z2) :: [(b15, valM z1 z2), (b13, valA (z2 + z3)), (b11, valA (z1 + z2)), (b9, valA (z1 + z2)), (b6, z1), (b7, z2), (b8, z3)]))
    case first =>
      as_aux_lemma =>
        obtain ⟨sv1, gv1, pv1, nv1⟩ := HV.out.get (b := b7) (z := z2) (by simp)
        obtain ⟨yv1, yw1⟩ := num_cells pv1
        obtain ⟨sv2, gv2, pv2, nv2⟩ := HV.out.get (b := b6) (z := z1) (by simp)
        obtain ⟨yv2, yw2⟩ := num_cells pv2
        have hc := (HLL.out.1.on HB.out).mulE nv1 nv2
        rw [(errM_comm z2 z1).1, (errM_comm z2 z1).2] at hc
        have HCC := Lib.hid hc
        clear hc pv1 nv1 pv2 nv2
        go_wp2_with (first
          | (go_at_call 19; refine HCC.out.mono ?_; rintro e9 w9 ⟨r9, q9, rfl, hn9, hb9⟩
             have hbA := hb9.alloc hb9.size (.cells #[.int .i64 r9, .pointer q9] 29)
             have HD := Lib.hid (And.intro (HB.out.trans (hbA.mono HB.out.size)) (And.intro (NumAt.new hn9) (HV.out.below hbA)))
             clear hn9 hb9 hbA))
        go_meet
        exact ⟨HD.out.1, _, rfl, rfl, HD.out.2⟩
    obtain ⟨hbx, b17, rfl, rfl, hV⟩ := hcut
    obtain ⟨wn, hwn⟩ : ∃ wn, wn = wc := ⟨_, rfl⟩
    subst hwn
    have HB := Lib.hid hbx
    have HV := Lib.hid hV
    clear hbx hV
    go_upto_region 8 with fail
    go_cut [19, 20] from 93 to 98 (fun vd ve wx => Below wq.heap.size wq wx ∧ ∃ b, vd = .pointer (some ⟨b, 0, none⟩) ∧ ve = .int .i64 (errM z1 z3) ∧ Vars wx ((b, valM z1 z3) :: [(b17, valM z1 z2), (b15, valM z1 z2), (b13, valA (z2 + z3)), (b11, valA (z1 + z2)), (b9, valA (z1 + z2)), (b6, z1), (b7, z2), (b8, z3)]))
    case first =>
      as_aux_lemma =>
        obtain ⟨sv1, gv1, pv1, nv1⟩ := HV.out.get (b := b6) (z := z1) (by simp)
        obtain ⟨yv1, yw1⟩ := num_cells pv1
        obtain ⟨sv2, gv2, pv2, nv2⟩ := HV.out.get (b := b8) (z := z3) (by simp)
        obtain ⟨yv2, yw2⟩ := num_cells pv2
        have hc := (HLL.out.1.on HB.out).mulE nv1 nv2
        have HCC := Lib.hid hc
        clear hc pv1 nv1 pv2 nv2
        go_wp2_with (first
          | (go_at_call 19; refine HCC.out.mono ?_; rintro e9 w9 ⟨r9, q9, rfl, hn9, hb9⟩
             have hbA := hb9.alloc hb9.size (.cells #[.int .i64 r9, .pointer q9] 29)
             have HD := Lib.hid (And.intro (HB.out.trans (hbA.mono HB.out.size)) (And.intro (NumAt.new hn9) (HV.out.below hbA)))
             clear hn9 hb9 hbA))
        go_meet
        exact ⟨HD.out.1, _, rfl, rfl, HD.out.2⟩
    obtain ⟨hbx, b19, rfl, rfl, hV⟩ := hcut
    obtain ⟨wn, hwn⟩ : ∃ wn, wn = wc := ⟨_, rfl⟩
    subst hwn
    have HB := Lib.hid hbx
    have HV := Lib.hid hV
    clear hbx hV
    go_upto_region 9 with fail
    go_cut [118] from 99 to 118 (fun t wx => t = .bool false ∧ Below wq.heap.size wq wx ∧ Vars wx [(b19, valM z1 z3), (b17, valM z1 z2), (b15, valM z1 z2), (b13, valA (z2 + z3)), (b11, valA (z1 + z2)), (b9, valA (z1 + z2)), (b6, z1), (b7, z2), (b8, z3)])
    case first =>
      as_aux_lemma =>
        obtain ⟨sv0, gv0, pv0, nv0⟩ := HV.out.get (b := b9) (z := valA (z1 + z2)) (by simp)
        obtain ⟨sv1, gv1, pv1, nv1⟩ := HV.out.get (b := b11) (z := valA (z1 + z2)) (by simp)
        obtain ⟨sv2, gv2, pv2, nv2⟩ := HV.out.get (b := b15) (z := valM z1 z2) (by simp)
        obtain ⟨sv3, gv3, pv3, nv3⟩ := HV.out.get (b := b17) (z := valM z1 z2) (by simp)
        have hC : ∀ W, Below wn.heap.size wn W → W.cell? ⟨b9, 0, none⟩ = some (.int .i64 sv0) ∧ W.cell? ⟨b9, 1, none⟩ = some (.pointer gv0) ∧ W.cell? ⟨b11, 0, none⟩ = some (.int .i64 sv1) ∧ W.cell? ⟨b11, 1, none⟩ = some (.pointer gv1) ∧ W.cell? ⟨b15, 0, none⟩ = some (.int .i64 sv2) ∧ W.cell? ⟨b15, 1, none⟩ = some (.pointer gv2) ∧ W.cell? ⟨b17, 0, none⟩ = some (.int .i64 sv3) ∧ W.cell? ⟨b17, 1, none⟩ = some (.pointer gv3) := by
          intro W hW
          obtain ⟨a0, c0⟩ := num_cells ((hW.block _ (lt_of_some pv0)).trans pv0)
          obtain ⟨a1, c1⟩ := num_cells ((hW.block _ (lt_of_some pv1)).trans pv1)
          obtain ⟨a2, c2⟩ := num_cells ((hW.block _ (lt_of_some pv2)).trans pv2)
          obtain ⟨a3, c3⟩ := num_cells ((hW.block _ (lt_of_some pv3)).trans pv3)
          exact ⟨a0, c0, a1, c1, a2, c2, a3, c3⟩
        have HC := Lib.hid hC
        have hLn := HLL.out.1.on HB.out
        have HS1 := Lib.hid (hLn.same nv0 nv1)
        have HS2 := Lib.hid (hLn.same nv2 nv3)
        have HN := Lib.hid (Below.refl wn.heap.size wn)
        obtain ⟨yv0, yw0, yv1, yw1, yv2, yw2, yv3, yw3⟩ := hC _ (Below.refl _ _)
        clear pv0 pv1 pv2 pv3 nv0 nv1 nv2 nv3 hC hLn
        go_wp2_with (first
          | (go_at_call 25; with_reducible refine (HS1.out _ HN.out).mono ?_; rintro e5 w5 ⟨rfl, hb5⟩
             obtain ⟨yv0, yw0, yv1, yw1, yv2, yw2, yv3, yw3⟩ := HC.out _ hb5
             have HN := Lib.hid hb5
             clear hb5)
          | (go_at_call 25; with_reducible refine (HS2.out _ HN.out).mono ?_; rintro e5 w5 ⟨rfl, hb5⟩
             obtain ⟨yv0, yw0, yv1, yw1, yv2, yw2, yv3, yw3⟩ := HC.out _ hb5
             have HN := Lib.hid hb5
             clear hb5))
        go_meet
        exact ⟨by simp, HB.out.trans (HN.out.mono HB.out.size), HV.out.below HN.out⟩
    obtain ⟨rfl, hbx, hV⟩ := hcut
    obtain ⟨wn, hwn⟩ : ∃ wn, wn = wc := ⟨_, rfl⟩
    subst hwn
    have HB := Lib.hid hbx
    have HV := Lib.hid hV
    clear hbx hV
    go_upto_region 11 with fail
    go_cut [124] from 119 to 124 (fun t wx => t = .bool (errA (z1 + z2) == 0 && errA (z2 + z3) == 0) ∧ wx = wn)
    case first =>
      as_aux_lemma =>
        generalize errA (z1 + z2) = ee0 at *
        generalize errA (z2 + z3) = ee1 at *
        by_cases he0 : ee0 = 0
        · subst he0
          by_cases he1 : ee1 = 0
          · subst he1
            go_wp2_with fail
            go_meet
            exact ⟨by simp [*], rfl⟩
          · have hf1 : (ee1 == 0) = false := by rw [beq_eq_false_iff_ne]; exact he1
            go_wp2_with fail
            go_meet
            exact ⟨by simp [hf1], rfl⟩
        · have hf0 : (ee0 == 0) = false := by rw [beq_eq_false_iff_ne]; exact he0
          go_wp2_with fail
          go_meet
          exact ⟨by simp [hf0], rfl⟩
    obtain ⟨rfl, rfl⟩ := hcut
    go_upto_if 124 with fail
    go_cut [21, 22, 23, 24, 25, 26] from 124 to 161 (fun x21 x22 x23 x24 x25 x26 wx => Below wq.heap.size wq wx ∧ Vars wx [(b19, valM z1 z3), (b17, valM z1 z2), (b15, valM z1 z2), (b13, valA (z2 + z3)), (b11, valA (z1 + z2)), (b9, valA (z1 + z2)), (b6, z1), (b7, z2), (b8, z3)])
    case first =>
      cases hcc : (errA (z1 + z2) == 0 && errA (z2 + z3) == 0)
      · go_wp2_with fail
        go_meet
        exact ⟨HB.out, HV.out⟩
      · rw [Bool.and_eq_true] at hcc
        obtain ⟨hE1, hE3⟩ := hcc
        have hA1 := errA_0 (by simpa using hE1)
        have hA3 := errA_0 (by simpa using hE3)
        have HA := Lib.hid (And.intro hA1 hA3)
        clear hE1 hE3 hA1 hA3
        go_upto_region 12 with fail
        go_cut [21, 22] from 125 to 130 (fun vd ve wx => Below wq.heap.size wq wx ∧ ∃ b, vd = .pointer (some ⟨b, 0, none⟩) ∧ ve = .int .i64 (errA (z1 + z2 + z3)) ∧ Vars wx ((b, valA (z1 + z2 + z3)) :: [(b19, valM z1 z3), (b17, valM z1 z2), (b15, valM z1 z2), (b13, valA (z2 + z3)), (b11, valA (z1 + z2)), (b9, valA (z1 + z2)), (b6, z1), (b7, z2), (b8, z3)]))
        case first =>
          as_aux_lemma =>
            obtain ⟨sv1, gv1, pv1, nv1⟩ := HV.out.get (b := b9) (z := valA (z1 + z2)) (by simp)
            obtain ⟨yv1, yw1⟩ := num_cells pv1
            obtain ⟨sv2, gv2, pv2, nv2⟩ := HV.out.get (b := b8) (z := z3) (by simp)
            obtain ⟨yv2, yw2⟩ := num_cells pv2
            have hc := (HLL.out.1.on HB.out).addE nv1 nv2
            rw [HA.out.1.2] at hc
            have HCC := Lib.hid hc
            clear hc pv1 nv1 pv2 nv2
            go_wp2_with (first
              | (go_at_call 16; refine HCC.out.mono ?_; rintro e9 w9 ⟨r9, q9, rfl, hn9, hb9⟩
                 have hbA := hb9.alloc hb9.size (.cells #[.int .i64 r9, .pointer q9] 29)
                 have HD := Lib.hid (And.intro (HB.out.trans (hbA.mono HB.out.size)) (And.intro (NumAt.new hn9) (HV.out.below hbA)))
                 clear hn9 hb9 hbA))
            go_meet
            exact ⟨HD.out.1, _, rfl, rfl, HD.out.2⟩
        obtain ⟨hbx, b21, rfl, rfl, hV⟩ := hcut
        obtain ⟨wn, hwn⟩ : ∃ wn, wn = wc := ⟨_, rfl⟩
        subst hwn
        have HB := Lib.hid hbx
        have HV := Lib.hid hV
        clear hbx hV
        go_upto_region 13 with fail
        go_cut [23, 24] from 131 to 136 (fun vd ve wx => Below wq.heap.size wq wx ∧ ∃ b, vd = .pointer (some ⟨b, 0, none⟩) ∧ ve = .int .i64 (errA (z1 + z2 + z3)) ∧ Vars wx ((b, valA (z1 + z2 + z3)) :: [(b21, valA (z1 + z2 + z3)), (b19, valM z1 z3), (b17, valM z1 z2), (b15, valM z1 z2), (b13, valA (z2 + z3)), (b11, valA (z1 + z2)), (b9, valA (z1 + z2)), (b6, z1), (b7, z2), (b8, z3)]))
        case first =>
          as_aux_lemma =>
            obtain ⟨sv1, gv1, pv1, nv1⟩ := HV.out.get (b := b6) (z := z1) (by simp)
            obtain ⟨yv1, yw1⟩ := num_cells pv1
            obtain ⟨sv2, gv2, pv2, nv2⟩ := HV.out.get (b := b13) (z := valA (z2 + z3)) (by simp)
            obtain ⟨yv2, yw2⟩ := num_cells pv2
            have hc := (HLL.out.1.on HB.out).addE nv1 nv2
            rw [HA.out.2.2, ← Int.add_assoc] at hc
            have HCC := Lib.hid hc
            clear hc pv1 nv1 pv2 nv2
            go_wp2_with (first
              | (go_at_call 16; refine HCC.out.mono ?_; rintro e9 w9 ⟨r9, q9, rfl, hn9, hb9⟩
                 have hbA := hb9.alloc hb9.size (.cells #[.int .i64 r9, .pointer q9] 29)
                 have HD := Lib.hid (And.intro (HB.out.trans (hbA.mono HB.out.size)) (And.intro (NumAt.new hn9) (HV.out.below hbA)))
                 clear hn9 hb9 hbA))
            go_meet
            exact ⟨HD.out.1, _, rfl, rfl, HD.out.2⟩
        obtain ⟨hbx, b23, rfl, rfl, hV⟩ := hcut
        obtain ⟨wn, hwn⟩ : ∃ wn, wn = wc := ⟨_, rfl⟩
        subst hwn
        have HB := Lib.hid hbx
        have HV := Lib.hid hV
        clear hbx hV
        go_upto_region 14 with fail
        go_cut [25, 26] from 137 to 142 (fun vd ve wx => Below wq.heap.size wq wx ∧ ∃ b, vd = .pointer (some ⟨b, 0, none⟩) ∧ ve = .int .i64 (0) ∧ Vars wx ((b, z1) :: [(b23, valA (z1 + z2 + z3)), (b21, valA (z1 + z2 + z3)), (b19, valM z1 z3), (b17, valM z1 z2), (b15, valM z1 z2), (b13, valA (z2 + z3)), (b11, valA (z1 + z2)), (b9, valA (z1 + z2)), (b6, z1), (b7, z2), (b8, z3)]))
        case first =>
          as_aux_lemma =>
            obtain ⟨sv1, gv1, pv1, nv1⟩ := HV.out.get (b := b9) (z := valA (z1 + z2)) (by simp)
            obtain ⟨yv1, yw1⟩ := num_cells pv1
            obtain ⟨sv2, gv2, pv2, nv2⟩ := HV.out.get (b := b7) (z := z2) (by simp)
            obtain ⟨yv2, yw2⟩ := num_cells pv2
            have hc := (HLL.out.1.on HB.out).subE nv1 nv2
            rw [HA.out.1.2, show z1 + z2 - z2 = z1 by omega, (errA_yes HLL.out.2.2.1).1, (errA_yes HLL.out.2.2.1).2] at hc
            have HCC := Lib.hid hc
            clear hc pv1 nv1 pv2 nv2
            go_wp2_with (first
              | (go_at_call 17; refine HCC.out.mono ?_; rintro e9 w9 ⟨r9, q9, rfl, hn9, hb9⟩
                 have hbA := hb9.alloc hb9.size (.cells #[.int .i64 r9, .pointer q9] 29)
                 have HD := Lib.hid (And.intro (HB.out.trans (hbA.mono HB.out.size)) (And.intro (NumAt.new hn9) (HV.out.below hbA)))
                 clear hn9 hb9 hbA))
            go_meet
            exact ⟨HD.out.1, _, rfl, rfl, HD.out.2⟩
        obtain ⟨hbx, b25, rfl, rfl, hV⟩ := hcut
        obtain ⟨wn, hwn⟩ : ∃ wn, wn = wc := ⟨_, rfl⟩
        subst hwn
        have HB := Lib.hid hbx
        have HV := Lib.hid hV
        clear hbx hV
        go_upto_region 15 with fail
        go_cut [161] from 143 to 161 (fun t wx => t = .bool false ∧ Below wq.heap.size wq wx ∧ Vars wx [(b25, z1), (b23, valA (z1 + z2 + z3)), (b21, valA (z1 + z2 + z3)), (b19, valM z1 z3), (b17, valM z1 z2), (b15, valM z1 z2), (b13, valA (z2 + z3)), (b11, valA (z1 + z2)), (b9, valA (z1 + z2)), (b6, z1), (b7, z2), (b8, z3)])
        case first =>
          as_aux_lemma =>
            obtain ⟨sv0, gv0, pv0, nv0⟩ := HV.out.get (b := b21) (z := valA (z1 + z2 + z3)) (by simp)
            obtain ⟨sv1, gv1, pv1, nv1⟩ := HV.out.get (b := b23) (z := valA (z1 + z2 + z3)) (by simp)
            obtain ⟨sv2, gv2, pv2, nv2⟩ := HV.out.get (b := b25) (z := z1) (by simp)
            obtain ⟨sv3, gv3, pv3, nv3⟩ := HV.out.get (b := b6) (z := z1) (by simp)
            have hC : ∀ W, Below wn.heap.size wn W → W.cell? ⟨b21, 0, none⟩ = some (.int .i64 sv0) ∧ W.cell? ⟨b21, 1, none⟩ = some (.pointer gv0) ∧ W.cell? ⟨b23, 0, none⟩ = some (.int .i64 sv1) ∧ W.cell? ⟨b23, 1, none⟩ = some (.pointer gv1) ∧ W.cell? ⟨b25, 0, none⟩ = some (.int .i64 sv2) ∧ W.cell? ⟨b25, 1, none⟩ = some (.pointer gv2) ∧ W.cell? ⟨b6, 0, none⟩ = some (.int .i64 sv3) ∧ W.cell? ⟨b6, 1, none⟩ = some (.pointer gv3) := by
              intro W hW
              obtain ⟨a0, c0⟩ := num_cells ((hW.block _ (lt_of_some pv0)).trans pv0)
              obtain ⟨a1, c1⟩ := num_cells ((hW.block _ (lt_of_some pv1)).trans pv1)
              obtain ⟨a2, c2⟩ := num_cells ((hW.block _ (lt_of_some pv2)).trans pv2)
              obtain ⟨a3, c3⟩ := num_cells ((hW.block _ (lt_of_some pv3)).trans pv3)
              exact ⟨a0, c0, a1, c1, a2, c2, a3, c3⟩
            have HC := Lib.hid hC
            have hLn := HLL.out.1.on HB.out
            have HS1 := Lib.hid (hLn.same nv0 nv1)
            have HS2 := Lib.hid (hLn.same nv2 nv3)
            have HN := Lib.hid (Below.refl wn.heap.size wn)
            obtain ⟨yv0, yw0, yv1, yw1, yv2, yw2, yv3, yw3⟩ := hC _ (Below.refl _ _)
            clear pv0 pv1 pv2 pv3 nv0 nv1 nv2 nv3 hC hLn
            go_wp2_with (first
              | (go_at_call 25; with_reducible refine (HS1.out _ HN.out).mono ?_; rintro e5 w5 ⟨rfl, hb5⟩
                 obtain ⟨yv0, yw0, yv1, yw1, yv2, yw2, yv3, yw3⟩ := HC.out _ hb5
                 have HN := Lib.hid hb5
                 clear hb5)
              | (go_at_call 25; with_reducible refine (HS2.out _ HN.out).mono ?_; rintro e5 w5 ⟨rfl, hb5⟩
                 obtain ⟨yv0, yw0, yv1, yw1, yv2, yw2, yv3, yw3⟩ := HC.out _ hb5
                 have HN := Lib.hid hb5
                 clear hb5))
            go_meet
            exact ⟨by simp, HB.out.trans (HN.out.mono HB.out.size), HV.out.below HN.out⟩
        obtain ⟨rfl, hbx, hV⟩ := hcut
        obtain ⟨wn, hwn⟩ : ∃ wn, wn = wc := ⟨_, rfl⟩
        subst hwn
        have HB := Lib.hid hbx
        have HV := Lib.hid hV
        clear hbx hV
        go_wp2_with fail
        go_meet
        exact ⟨HB.out, HV.out.2.2.2⟩
    obtain ⟨hbx, hV⟩ := hcut
    obtain ⟨wn, hwn⟩ : ∃ wn, wn = wc := ⟨_, rfl⟩
    subst hwn
    have HB := Lib.hid hbx
    have HV := Lib.hid hV
    clear hbx hV
    go_upto_region 17 with fail
    go_cut [171] from 162 to 171 (fun t wx => t = .bool (errA (z2 + z3) == 0 && errM z1 z2 == 0 && errM z1 z3 == 0) ∧ wx = wn)
    case first =>
      as_aux_lemma =>
        generalize errA (z2 + z3) = ee0 at *
        generalize errM z1 z2 = ee1 at *
        generalize errM z1 z3 = ee2 at *
        by_cases he0 : ee0 = 0
        · subst he0
          by_cases he1 : ee1 = 0
          · subst he1
            by_cases he2 : ee2 = 0
            · subst he2
              go_wp2_with fail
              go_meet
              exact ⟨by simp [*], rfl⟩
            · have hf2 : (ee2 == 0) = false := by rw [beq_eq_false_iff_ne]; exact he2
              go_wp2_with fail
              go_meet
              exact ⟨by simp [hf2], rfl⟩
          · have hf1 : (ee1 == 0) = false := by rw [beq_eq_false_iff_ne]; exact he1
            go_wp2_with fail
            go_meet
            exact ⟨by simp [hf1], rfl⟩
        · have hf0 : (ee0 == 0) = false := by rw [beq_eq_false_iff_ne]; exact he0
          go_wp2_with fail
          go_meet
          exact ⟨by simp [hf0], rfl⟩
    obtain ⟨rfl, rfl⟩ := hcut
    go_upto_if 171 with fail
    go_cut [27, 28, 29, 30] from 171 to 195 (fun x27 x28 x29 x30 wx => Below wq.heap.size wq wx ∧ Vars wx [(b19, valM z1 z3), (b17, valM z1 z2), (b15, valM z1 z2), (b13, valA (z2 + z3)), (b11, valA (z1 + z2)), (b9, valA (z1 + z2)), (b6, z1), (b7, z2), (b8, z3)])
    case first =>
      cases hcc : (errA (z2 + z3) == 0 && errM z1 z2 == 0 && errM z1 z3 == 0)
      · go_wp2_with fail
        go_meet
        exact ⟨HB.out, HV.out⟩
      · rw [Bool.and_eq_true, Bool.and_eq_true] at hcc
        obtain ⟨⟨hE3, hE4⟩, hE6⟩ := hcc
        have hA3 := errA_0 (by simpa using hE3)
        have hA4 := errM_0 (by simpa using hE4)
        have hA6 := errM_0 (by simpa using hE6)
        have HA := Lib.hid (And.intro hA3 (And.intro hA4 hA6))
        clear hE3 hE4 hE6 hA3 hA4 hA6
        go_upto_region 18 with fail
        go_cut [27, 28] from 172 to 177 (fun vd ve wx => Below wq.heap.size wq wx ∧ ∃ b, vd = .pointer (some ⟨b, 0, none⟩) ∧ ve = .int .i64 (errM z1 (z2 + z3)) ∧ Vars wx ((b, valM z1 (z2 + z3)) :: [(b19, valM z1 z3), (b17, valM z1 z2), (b15, valM z1 z2), (b13, valA (z2 + z3)), (b11, valA (z1 + z2)), (b9, valA (z1 + z2)), (b6, z1), (b7, z2), (b8, z3)]))
        case first =>
          as_aux_lemma =>
            obtain ⟨sv1, gv1, pv1, nv1⟩ := HV.out.get (b := b6) (z := z1) (by simp)
            obtain ⟨yv1, yw1⟩ := num_cells pv1
            obtain ⟨sv2, gv2, pv2, nv2⟩ := HV.out.get (b := b13) (z := valA (z2 + z3)) (by simp)
            obtain ⟨yv2, yw2⟩ := num_cells pv2
            have hc := (HLL.out.1.on HB.out).mulE nv1 nv2
            rw [HA.out.1.2] at hc
            have HCC := Lib.hid hc
            clear hc pv1 nv1 pv2 nv2
            go_wp2_with (first
              | (go_at_call 19; refine HCC.out.mono ?_; rintro e9 w9 ⟨r9, q9, rfl, hn9, hb9⟩
                 have hbA := hb9.alloc hb9.size (.cells #[.int .i64 r9, .pointer q9] 29)
                 have HD := Lib.hid (And.intro (HB.out.trans (hbA.mono HB.out.size)) (And.intro (NumAt.new hn9) (HV.out.below hbA)))
                 clear hn9 hb9 hbA))
            go_meet
            exact ⟨HD.out.1, _, rfl, rfl, HD.out.2⟩
        obtain ⟨hbx, b27, rfl, rfl, hV⟩ := hcut
        obtain ⟨wn, hwn⟩ : ∃ wn, wn = wc := ⟨_, rfl⟩
        subst hwn
        have HB := Lib.hid hbx
        have HV := Lib.hid hV
        clear hbx hV
        go_upto_region 19 with fail
        go_cut [29, 30] from 178 to 183 (fun vd ve wx => Below wq.heap.size wq wx ∧ ∃ b, vd = .pointer (some ⟨b, 0, none⟩) ∧ ve = .int .i64 (errA (z1 * (z2 + z3))) ∧ Vars wx ((b, valA (z1 * (z2 + z3))) :: [(b27, valM z1 (z2 + z3)), (b19, valM z1 z3), (b17, valM z1 z2), (b15, valM z1 z2), (b13, valA (z2 + z3)), (b11, valA (z1 + z2)), (b9, valA (z1 + z2)), (b6, z1), (b7, z2), (b8, z3)]))
        case first =>
          as_aux_lemma =>
            obtain ⟨sv1, gv1, pv1, nv1⟩ := HV.out.get (b := b15) (z := valM z1 z2) (by simp)
            obtain ⟨yv1, yw1⟩ := num_cells pv1
            obtain ⟨sv2, gv2, pv2, nv2⟩ := HV.out.get (b := b19) (z := valM z1 z3) (by simp)
            obtain ⟨yv2, yw2⟩ := num_cells pv2
            have hc := (HLL.out.1.on HB.out).addE nv1 nv2
            rw [HA.out.2.1.2, HA.out.2.2.2, ← Int.mul_add] at hc
            have HCC := Lib.hid hc
            clear hc pv1 nv1 pv2 nv2
            go_wp2_with (first
              | (go_at_call 16; refine HCC.out.mono ?_; rintro e9 w9 ⟨r9, q9, rfl, hn9, hb9⟩
                 have hbA := hb9.alloc hb9.size (.cells #[.int .i64 r9, .pointer q9] 29)
                 have HD := Lib.hid (And.intro (HB.out.trans (hbA.mono HB.out.size)) (And.intro (NumAt.new hn9) (HV.out.below hbA)))
                 clear hn9 hb9 hbA))
            go_meet
            exact ⟨HD.out.1, _, rfl, rfl, HD.out.2⟩
        obtain ⟨hbx, b29, rfl, rfl, hV⟩ := hcut
        obtain ⟨wn, hwn⟩ : ∃ wn, wn = wc := ⟨_, rfl⟩
        subst hwn
        have HB := Lib.hid hbx
        have HV := Lib.hid hV
        clear hbx hV
        go_upto_region 20 with fail
        go_cut [195] from 184 to 195 (fun t wx => t = .bool false ∧ Below wq.heap.size wq wx ∧ Vars wx [(b29, valA (z1 * (z2 + z3))), (b27, valM z1 (z2 + z3)), (b19, valM z1 z3), (b17, valM z1 z2), (b15, valM z1 z2), (b13, valA (z2 + z3)), (b11, valA (z1 + z2)), (b9, valA (z1 + z2)), (b6, z1), (b7, z2), (b8, z3)])
        case first =>
          as_aux_lemma =>
            obtain ⟨sv0, gv0, pv0, nv0⟩ := HV.out.get (b := b27) (z := valM z1 (z2 + z3)) (by simp)
            obtain ⟨sv1, gv1, pv1, nv1⟩ := HV.out.get (b := b29) (z := valA (z1 * (z2 + z3))) (by simp)
            have hC : ∀ W, Below wn.heap.size wn W → W.cell? ⟨b27, 0, none⟩ = some (.int .i64 sv0) ∧ W.cell? ⟨b27, 1, none⟩ = some (.pointer gv0) ∧ W.cell? ⟨b29, 0, none⟩ = some (.int .i64 sv1) ∧ W.cell? ⟨b29, 1, none⟩ = some (.pointer gv1) := by
              intro W hW
              obtain ⟨a0, c0⟩ := num_cells ((hW.block _ (lt_of_some pv0)).trans pv0)
              obtain ⟨a1, c1⟩ := num_cells ((hW.block _ (lt_of_some pv1)).trans pv1)
              exact ⟨a0, c0, a1, c1⟩
            have HC := Lib.hid hC
            have hLn := HLL.out.1.on HB.out
            have hs := hLn.same nv0 nv1
            have hsame : errM z1 (z2 + z3) = 0 → errA (z1 * (z2 + z3)) = 0 → decide (valM z1 (z2 + z3) = valA (z1 * (z2 + z3))) = true := fun h1 h2 => by rw [(errM_0 h1).2, (errA_0 h2).2]; simp
            have HN := Lib.hid (Below.refl wn.heap.size wn)
            obtain ⟨yv0, yw0, yv1, yw1⟩ := hC _ (Below.refl _ _)
            generalize errM z1 (z2 + z3) = ee0 at *
            generalize errA (z1 * (z2 + z3)) = ee1 at *
            clear pv0 pv1 nv0 nv1 hC hLn
            by_cases he0 : ee0 = 0
            · subst he0
              by_cases he1 : ee1 = 0
              · subst he1
                rw [hsame rfl rfl] at hs
                have HS1 := Lib.hid hs
                clear hs hsame
                go_wp2_with (first
                  | (go_at_call 25; with_reducible refine (HS1.out _ HN.out).mono ?_; rintro e5 w5 ⟨rfl, hb5⟩
                     obtain ⟨yv0, yw0, yv1, yw1⟩ := HC.out _ hb5
                     have HN := Lib.hid hb5
                     clear hb5))
                go_meet
                exact ⟨by simp, HB.out.trans (HN.out.mono HB.out.size), HV.out.below HN.out⟩
              · have hf1 : (ee1 == 0) = false := by rw [beq_eq_false_iff_ne]; exact he1
                clear hs hsame he1
                go_wp2_with fail
                go_meet
                exact ⟨by simp, HB.out, HV.out⟩
            · have hf0 : (ee0 == 0) = false := by rw [beq_eq_false_iff_ne]; exact he0
              clear hs hsame he0
              go_wp2_with fail
              go_meet
              exact ⟨by simp, HB.out, HV.out⟩
        obtain ⟨rfl, hbx, hV⟩ := hcut
        obtain ⟨wn, hwn⟩ : ∃ wn, wn = wc := ⟨_, rfl⟩
        subst hwn
        have HB := Lib.hid hbx
        have HV := Lib.hid hV
        clear hbx hV
        go_wp2_with fail
        go_meet
        exact ⟨HB.out, HV.out.2.2⟩
    obtain ⟨hbx, hV⟩ := hcut
    obtain ⟨wn, hwn⟩ : ∃ wn, wn = wc := ⟨_, rfl⟩
    subst hwn
    have HB := Lib.hid hbx
    have HV := Lib.hid hV
    clear hbx hV
    go_upto_region 22 with fail
    go_cut [31, 32] from 196 to 201 (fun vd ve wx => Below wq.heap.size wq wx ∧ ∃ b, vd = .pointer (some ⟨b, 0, none⟩) ∧ ve = .int .i64 (0) ∧ Vars wx ((b, 0) :: [(b19, valM z1 z3), (b17, valM z1 z2), (b15, valM z1 z2), (b13, valA (z2 + z3)), (b11, valA (z1 + z2)), (b9, valA (z1 + z2)), (b6, z1), (b7, z2), (b8, z3)]))
    case first =>
      as_aux_lemma =>
        obtain ⟨sv1, gv1, pv1, nv1⟩ := HV.out.get (b := b6) (z := z1) (by simp)
        obtain ⟨yv1, yw1⟩ := num_cells pv1
        have hc := (HLL.out.1.on HB.out).subE nv1 nv1
        rw [show z1 - z1 = 0 by omega, (errA_yes (allowed_i64 i64_0)).1, (errA_yes (allowed_i64 i64_0)).2] at hc
        have HCC := Lib.hid hc
        clear hc pv1 nv1
        go_wp2_with (first
          | (go_at_call 17; refine HCC.out.mono ?_; rintro e9 w9 ⟨r9, q9, rfl, hn9, hb9⟩
             have hbA := hb9.alloc hb9.size (.cells #[.int .i64 r9, .pointer q9] 29)
             have HD := Lib.hid (And.intro (HB.out.trans (hbA.mono HB.out.size)) (And.intro (NumAt.new hn9) (HV.out.below hbA)))
             clear hn9 hb9 hbA))
        go_meet
        exact ⟨HD.out.1, _, rfl, rfl, HD.out.2⟩
    obtain ⟨hbx, b31, rfl, rfl, hV⟩ := hcut
    obtain ⟨wn, hwn⟩ : ∃ wn, wn = wc := ⟨_, rfl⟩
    subst hwn
    have HB := Lib.hid hbx
    have HV := Lib.hid hV
    clear hbx hV
    go_upto_region 23 with fail
    go_cut [33, 34] from 202 to 207 (fun vd ve wx => Below wq.heap.size wq wx ∧ ∃ b, vd = .pointer (some ⟨b, 0, none⟩) ∧ ve = .int .i64 (0) ∧ Vars wx ((b, z1) :: [(b31, 0), (b19, valM z1 z3), (b17, valM z1 z2), (b15, valM z1 z2), (b13, valA (z2 + z3)), (b11, valA (z1 + z2)), (b9, valA (z1 + z2)), (b6, z1), (b7, z2), (b8, z3)]))
    case first =>
      as_aux_lemma =>
        obtain ⟨sv, gv, pv, nv⟩ := HV.out.get (b := b6) (z := z1) (by simp)
        have hCx : ∀ W, Below wn.heap.size wn W → W.cell? ⟨b6, 0, none⟩ = some (.int .i64 sv) ∧ W.cell? ⟨b6, 1, none⟩ = some (.pointer gv) := fun W hW => num_cells ((hW.block _ (lt_of_some pv)).trans pv)
        have hLn := HLL.out.1.on HB.out
        have hM : ∀ W, Below wn.heap.size wn W → Calls Tryd.prog 19 #[.agg #[.int .i64 sv, .pointer gv], .agg #[.int .i64 (1), .pointer none]] W fun e w' => ∃ (r : Int) (q : Option Addr), e = .returned (.tuple #[.agg #[.int .i64 r, .pointer q], .int .i64 (0)]) ∧ NumA cold w' r q (z1) ∧ Below W.heap.size W w' := by
          intro W hW
          have h := (hLn.on hW).mulE (nv.below hW) (NumA.small (B := cold) W (show i64 (1) by unfold i64; omega))
          rw [(errM_yes (by rw [Int.mul_one]; exact HLL.out.2.2.1) (Nat.le_trans (Nat.mul_le_mul HLL.out.2.2.2 wtOne) (by decide))).1, (errM_yes (by rw [Int.mul_one]; exact HLL.out.2.2.1) (Nat.le_trans (Nat.mul_le_mul HLL.out.2.2.2 wtOne) (by decide))).2, Int.mul_one] at h
          exact h
        obtain ⟨e0, e1⟩ := num_cells pv
        have HM := Lib.hid hM
        have HCx := Lib.hid hCx
        clear hM hCx hLn pv nv
        first
          | go_region_held3 (fun w' => w'.cell? ⟨b6, 0, none⟩ = some (.int .i64 sv) ∧ w'.cell? ⟨b6, 1, none⟩ = some (.pointer gv)) (first | exact HCx.out _ HW4.out | exact HCx.out _ ((HW4.out.setCell (by first | exact Nat.le_refl _ | exact HW3.out.size) _).setCell (by first | exact Nat.le_refl _ | exact HW3.out.size) _) | exact HCx.out _ (HW4.out.alloc HW4.out.size _) | exact HCx.out _ HW3.out | exact HCx.out _ (HW3.out.alloc HW3.out.size _) | exact HCx.out _ (by repeat (first | exact Below.refl _ _ | refine Below.drew ?_ | refine Below.alloc ?_ (by simp) _)) | (go_keep; done))
            (first
            | (go_at_call 19; refine (HM.out _ (by first | exact HW3.out | exact HW3.out.alloc HW3.out.size _)).mono ?_; rintro e4 w4 ⟨r4, q4, rfl, hn4, hb4⟩
               have hw4 : Below wn.heap.size wn w4 := Below.trans (by first | exact HW3.out | exact HW3.out.alloc HW3.out.size _) (hb4.mono (by have := HW3.out.size; first | exact this | (simp; omega)))
               (first
                 | (have z4 := (hb4.block w3.heap.size (by simp)).trans (heap_alloc_new w3 (.cells #[.int .i64 0, .pointer none] 29))
                    obtain ⟨z40, z41⟩ := num_cells z4
                    obtain ⟨z42, z43⟩ := num_frozen z4
                    have HZ4 := Lib.hid z4
                    clear z4)
                 | (have z4 := (hb4.block wn.heap.size (lt_ofO HZ3.out)).trans HZ3.out
                    obtain ⟨z40, z41⟩ := num_cells z4
                    obtain ⟨z42, z43⟩ := num_frozen z4
                    have HZ4 := Lib.hid z4
                    clear z4)
                 | skip)
               have HW4 := Lib.hid hw4
               have H4 := Lib.hid hn4
               clear hn4 hb4 hw4)
            | (go_at_call 18; refine (of_calls _ _).mono ?_; rintro e3 w3 ⟨rfl, hb3⟩
               have hw3 : Below wn.heap.size wn w3 := Below.trans (by repeat (first | exact Below.refl _ _ | refine Below.drew ?_ | refine Below.alloc ?_ (by simp) _)) (hb3.mono (by first | exact Nat.le_refl _ | simp))
               (first
                 | (have z3 := (hb3.block wn.heap.size (by simp)).trans (heap_alloc_new wn (.cells #[.int .i64 0, .pointer none] 29))
                    have HZ3 := Lib.hid z3
                    clear z3)
                 | skip)
               have HW3 := Lib.hid hw3
               clear hb3 hw3))
          | fail
        all_goals
          (try go_wp2)
          go_meet
          first
            | exact ⟨HB.out.trans ((HW4.out.alloc HW4.out.size _).mono HB.out.size), _, rfl, rfl, NumAt.new H4.out, HV.out.below (HW4.out.alloc HW4.out.size _)⟩
            | exact ⟨HB.out.trans (((HW4.out.setCell (by first | exact Nat.le_refl _ | exact HW3.out.size) _).setCell (by first | exact Nat.le_refl _ | exact HW3.out.size) _).mono HB.out.size), _, rfl, rfl, NumAt.put HZ4.out H4.out, HV.out.below ((HW4.out.setCell (by first | exact Nat.le_refl _ | exact HW3.out.size) _).setCell (by first | exact Nat.le_refl _ | exact HW3.out.size) _)⟩
    obtain ⟨hbx, b33, rfl, rfl, hV⟩ := hcut
    obtain ⟨wn, hwn⟩ : ∃ wn, wn = wc := ⟨_, rfl⟩
    subst hwn
    have HB := Lib.hid hbx
    have HV := Lib.hid hV
    clear hbx hV
    go_upto_region 24 with fail
    go_cut [35, 36] from 208 to 213 (fun vd ve wx => Below wq.heap.size wq wx ∧ ∃ b, vd = .pointer (some ⟨b, 0, none⟩) ∧ ve = .int .i64 (errM z1 (-2)) ∧ Vars wx ((b, valM z1 (-2)) :: [(b33, z1), (b31, 0), (b19, valM z1 z3), (b17, valM z1 z2), (b15, valM z1 z2), (b13, valA (z2 + z3)), (b11, valA (z1 + z2)), (b9, valA (z1 + z2)), (b6, z1), (b7, z2), (b8, z3)]))
    case first =>
      as_aux_lemma =>
        obtain ⟨sv, gv, pv, nv⟩ := HV.out.get (b := b6) (z := z1) (by simp)
        have hCx : ∀ W, Below wn.heap.size wn W → W.cell? ⟨b6, 0, none⟩ = some (.int .i64 sv) ∧ W.cell? ⟨b6, 1, none⟩ = some (.pointer gv) := fun W hW => num_cells ((hW.block _ (lt_of_some pv)).trans pv)
        have hLn := HLL.out.1.on HB.out
        have hM : ∀ W, Below wn.heap.size wn W → Calls Tryd.prog 19 #[.agg #[.int .i64 sv, .pointer gv], .agg #[.int .i64 (-2), .pointer none]] W fun e w' => ∃ (r : Int) (q : Option Addr), e = .returned (.tuple #[.agg #[.int .i64 r, .pointer q], .int .i64 (errM z1 (-2))]) ∧ NumA cold w' r q (valM z1 (-2)) ∧ Below W.heap.size W w' := by
          intro W hW
          have h := (hLn.on hW).mulE (nv.below hW) (NumA.small (B := cold) W (show i64 (-2) by unfold i64; omega))
          exact h
        obtain ⟨e0, e1⟩ := num_cells pv
        have HM := Lib.hid hM
        have HCx := Lib.hid hCx
        clear hM hCx hLn pv nv
        first
          | go_region_held3 (fun w' => w'.cell? ⟨b6, 0, none⟩ = some (.int .i64 sv) ∧ w'.cell? ⟨b6, 1, none⟩ = some (.pointer gv)) (first | exact HCx.out _ HW4.out | exact HCx.out _ ((HW4.out.setCell (by first | exact Nat.le_refl _ | exact HW3.out.size) _).setCell (by first | exact Nat.le_refl _ | exact HW3.out.size) _) | exact HCx.out _ (HW4.out.alloc HW4.out.size _) | exact HCx.out _ HW3.out | exact HCx.out _ (HW3.out.alloc HW3.out.size _) | exact HCx.out _ (by repeat (first | exact Below.refl _ _ | refine Below.drew ?_ | refine Below.alloc ?_ (by simp) _)) | (go_keep; done))
            (first
            | (go_at_call 19; refine (HM.out _ (by first | exact HW3.out | exact HW3.out.alloc HW3.out.size _)).mono ?_; rintro e4 w4 ⟨r4, q4, rfl, hn4, hb4⟩
               have hw4 : Below wn.heap.size wn w4 := Below.trans (by first | exact HW3.out | exact HW3.out.alloc HW3.out.size _) (hb4.mono (by have := HW3.out.size; first | exact this | (simp; omega)))
               (first
                 | (have z4 := (hb4.block w3.heap.size (by simp)).trans (heap_alloc_new w3 (.cells #[.int .i64 0, .pointer none] 29))
                    obtain ⟨z40, z41⟩ := num_cells z4
                    obtain ⟨z42, z43⟩ := num_frozen z4
                    have HZ4 := Lib.hid z4
                    clear z4)
                 | (have z4 := (hb4.block wn.heap.size (lt_ofO HZ3.out)).trans HZ3.out
                    obtain ⟨z40, z41⟩ := num_cells z4
                    obtain ⟨z42, z43⟩ := num_frozen z4
                    have HZ4 := Lib.hid z4
                    clear z4)
                 | skip)
               have HW4 := Lib.hid hw4
               have H4 := Lib.hid hn4
               clear hn4 hb4 hw4)
            | (go_at_call 18; refine (of_calls _ _).mono ?_; rintro e3 w3 ⟨rfl, hb3⟩
               have hw3 : Below wn.heap.size wn w3 := Below.trans (by repeat (first | exact Below.refl _ _ | refine Below.drew ?_ | refine Below.alloc ?_ (by simp) _)) (hb3.mono (by first | exact Nat.le_refl _ | simp))
               (first
                 | (have z3 := (hb3.block wn.heap.size (by simp)).trans (heap_alloc_new wn (.cells #[.int .i64 0, .pointer none] 29))
                    have HZ3 := Lib.hid z3
                    clear z3)
                 | skip)
               have HW3 := Lib.hid hw3
               clear hb3 hw3))
          | fail
        all_goals
          (try go_wp2)
          go_meet
          first
            | exact ⟨HB.out.trans ((HW4.out.alloc HW4.out.size _).mono HB.out.size), _, rfl, rfl, NumAt.new H4.out, HV.out.below (HW4.out.alloc HW4.out.size _)⟩
            | exact ⟨HB.out.trans (((HW4.out.setCell (by first | exact Nat.le_refl _ | exact HW3.out.size) _).setCell (by first | exact Nat.le_refl _ | exact HW3.out.size) _).mono HB.out.size), _, rfl, rfl, NumAt.put HZ4.out H4.out, HV.out.below ((HW4.out.setCell (by first | exact Nat.le_refl _ | exact HW3.out.size) _).setCell (by first | exact Nat.le_refl _ | exact HW3.out.size) _)⟩
    obtain ⟨hbx, b35, rfl, rfl, hV⟩ := hcut
    obtain ⟨wn, hwn⟩ : ∃ wn, wn = wc := ⟨_, rfl⟩
    subst hwn
    have HB := Lib.hid hbx
    have HV := Lib.hid hV
    clear hbx hV
    go_upto_region 25 with fail
    obtain ⟨sv0, gv0, pv0, nv0⟩ := HV.out.get (b := b31) (z := 0) (by simp)
    obtain ⟨sv1, gv1, pv1, nv1⟩ := HV.out.get (b := b33) (z := z1) (by simp)
    obtain ⟨sv2, gv2, pv2, nv2⟩ := HV.out.get (b := b35) (z := valM z1 (-2)) (by simp)
    obtain ⟨sv3, gv3, pv3, nv3⟩ := HV.out.get (b := b6) (z := z1) (by simp)
    have hC : ∀ W, Below wn.heap.size wn W → W.cell? ⟨b31, 0, none⟩ = some (.int .i64 sv0) ∧ W.cell? ⟨b31, 1, none⟩ = some (.pointer gv0) ∧ W.cell? ⟨b33, 0, none⟩ = some (.int .i64 sv1) ∧ W.cell? ⟨b33, 1, none⟩ = some (.pointer gv1) ∧ W.cell? ⟨b35, 0, none⟩ = some (.int .i64 sv2) ∧ W.cell? ⟨b35, 1, none⟩ = some (.pointer gv2) ∧ W.cell? ⟨b6, 0, none⟩ = some (.int .i64 sv3) ∧ W.cell? ⟨b6, 1, none⟩ = some (.pointer gv3) := by
      intro W hW
      obtain ⟨a0, c0⟩ := num_cells ((hW.block _ (lt_of_some pv0)).trans pv0)
      obtain ⟨a1, c1⟩ := num_cells ((hW.block _ (lt_of_some pv1)).trans pv1)
      obtain ⟨a2, c2⟩ := num_cells ((hW.block _ (lt_of_some pv2)).trans pv2)
      obtain ⟨a3, c3⟩ := num_cells ((hW.block _ (lt_of_some pv3)).trans pv3)
      exact ⟨a0, c0, a1, c1, a2, c2, a3, c3⟩
    have HC := Lib.hid hC
    have hLn := HLL.out.1.on HB.out
    have HS0 := Lib.hid (hLn.sign nv0)
    have HS1 := Lib.hid (hLn.sign nv3)
    have hs2 := hLn.sign nv2
    have HE0 := Lib.hid (hLn.same nv0 (NumA.small (B := cold) wn i64_0))
    have HE1 := Lib.hid (hLn.same nv1 nv3)
    have HO0 := Lib.hid (hLn.of_ 0)
    have HAW := Lib.hid hLn.awake
    have hsw := sgn_wrap z1
    have hs0 : sgn 0 = 0 := by simp [sgn]
    rw [hs0] at HS0
    have htw : errM z1 (-2) = 0 → sgn (valM z1 (-2)) = -sgn z1 := fun h => by rw [(errM_0 h).2]; unfold sgn; repeat (split <;> try omega)
    have HN := Lib.hid (Below.refl wn.heap.size wn).drew
    obtain ⟨yv0, yw0, yv1, yw1, yv2, yw2, yv3, yw3⟩ := hC _ (Below.refl _ _)
    generalize errM z1 (-2) = ee at *
    generalize sgn (valM z1 (-2)) = sm at *
    generalize sgn z1 = sx at *
    clear pv0 pv1 pv2 pv3 nv0 nv1 nv2 nv3 hC hLn hs0
    by_cases he : ee = 0
    · subst he
      rw [htw rfl] at hs2
      have HS2 := Lib.hid hs2
      clear hs2 htw
      first
        | go_region_held3 (fun W => W.cell? ⟨b31, 0, none⟩ = some (.int .i64 sv0) ∧ W.cell? ⟨b31, 1, none⟩ = some (.pointer gv0) ∧ W.cell? ⟨b33, 0, none⟩ = some (.int .i64 sv1) ∧ W.cell? ⟨b33, 1, none⟩ = some (.pointer gv1) ∧ W.cell? ⟨b35, 0, none⟩ = some (.int .i64 sv2) ∧ W.cell? ⟨b35, 1, none⟩ = some (.pointer gv2) ∧ W.cell? ⟨b6, 0, none⟩ = some (.int .i64 sv3) ∧ W.cell? ⟨b6, 1, none⟩ = some (.pointer gv3)) (exact HC.out _ HN.out)
          (first
          | (go_at_call 29; with_reducible refine (HS2.out _ HN.out).mono ?_; rintro e5 w5 ⟨rfl, hb5⟩
             have HN := Lib.hid hb5
             clear hb5)
          | (go_at_call 29; with_reducible refine (HS0.out _ HN.out).mono ?_; rintro e5 w5 ⟨rfl, hb5⟩
             have HN := Lib.hid hb5
             clear hb5)
          | (go_at_call 29; with_reducible refine (HS1.out _ HN.out).mono ?_; rintro e5 w5 ⟨rfl, hb5⟩
             have HN := Lib.hid hb5
             clear hb5)
          | (go_at_call 25; with_reducible refine (HE0.out _ HN.out).mono ?_; rintro e5 w5 ⟨rfl, hb5⟩
             have HN := Lib.hid hb5
             clear hb5)
          | (go_at_call 25; with_reducible refine (HE1.out _ HN.out).mono ?_; rintro e5 w5 ⟨rfl, hb5⟩
             have HN := Lib.hid hb5
             clear hb5)
          | (go_at_call 18; with_reducible refine (HO0.out _ HN.out).mono ?_; rintro e5 w5 ⟨rfl, hb5⟩
             have HN := Lib.hid hb5
             clear hb5)
          | (go_at_call 13; with_reducible refine (HAW.out _ HN.out).mono ?_; rintro e5 w5 ⟨rfl, hb5⟩
             have HN := Lib.hid hb5
             clear hb5))
        | fail
      all_goals
        (try go_wp2)
        refine bodyPost_ret (v := .bool true) (by simp [results, Tryd.results6, go_sem, *]) rfl ⟨rfl, HLL.out.2.1.trans ((HB.out.trans (HN.out.mono HB.out.size)).mono HLL.out.2.1.size)⟩
    · have hf : (ee == 0) = false := by rw [beq_eq_false_iff_ne]; exact he
      have hf2 : (ee != 0) = true := by simp [he]
      clear hs2 htw he
      refine wp_region_held_drew (S := fun W => W.cell? ⟨b31, 0, none⟩ = some (.int .i64 sv0) ∧ W.cell? ⟨b31, 1, none⟩ = some (.pointer gv0) ∧ W.cell? ⟨b33, 0, none⟩ = some (.int .i64 sv1) ∧ W.cell? ⟨b33, 1, none⟩ = some (.pointer gv1) ∧ W.cell? ⟨b35, 0, none⟩ = some (.int .i64 sv2) ∧ W.cell? ⟨b35, 1, none⟩ = some (.pointer gv2) ∧ W.cell? ⟨b6, 0, none⟩ = some (.int .i64 sv3) ∧ W.cell? ⟨b6, 1, none⟩ = some (.pointer gv3)) (by kernel_rfl) (HC.out _ HN.out) (fun hHeld => ?_)
      refine wpAnyH_take (i := 0) (oi := _) (v := ?mv0) rfl (by kernel_rfl) (by kernel_rfl) (by kernel_rfl) (fun _ _ _ h => h) (Or.inl ⟨by rfl, ?mh0⟩) (by assumption) ?mr0
      case mh0 => (intro w hSw; (try dsimp only at hSw); go_simp; try with_reducible rfl)
      try simp only [List.getElem_toArray, List.getElem_cons_succ, List.getElem_cons_zero, Act.put, List.setIfInBounds_toArray, List.set_cons_zero, List.set_cons_succ]
      refine wpAnyH_take (i := 1) (oi := _) (v := ?mv1) rfl (by kernel_rfl) (by kernel_rfl) (by kernel_rfl) (fun _ _ _ h => h) (Or.inl ⟨by rfl, ?mh1⟩) (by assumption) ?mr1
      case mh1 => (intro w hSw; (try dsimp only at hSw); go_simp; try with_reducible rfl)
      try simp only [List.getElem_toArray, List.getElem_cons_succ, List.getElem_cons_zero, Act.put, List.setIfInBounds_toArray, List.set_cons_zero, List.set_cons_succ]
      refine wpAnyH_take (i := 2) (oi := _) (v := ?mv2) rfl (by kernel_rfl) (by kernel_rfl) (by kernel_rfl) (fun _ _ _ h => h) (Or.inl ⟨by rfl, ?mh2⟩) (by assumption) ?mr2
      case mh2 => (intro w hSw; (try dsimp only at hSw); go_simp; try with_reducible rfl)
      try simp only [List.getElem_toArray, List.getElem_cons_succ, List.getElem_cons_zero, Act.put, List.setIfInBounds_toArray, List.set_cons_zero, List.set_cons_succ]
      refine wpAnyH_take (i := 3) (oi := _) (v := ?mv3) rfl (by kernel_rfl) (by kernel_rfl) (by kernel_rfl) (fun _ _ _ h => h) (Or.inl ⟨by rfl, ?mh3⟩) (by assumption) ?mr3
      case mh3 => (intro w hSw; (try dsimp only at hSw); go_simp; try with_reducible rfl)
      try simp only [List.getElem_toArray, List.getElem_cons_succ, List.getElem_cons_zero, Act.put, List.setIfInBounds_toArray, List.set_cons_zero, List.set_cons_succ]
      refine wpAnyH_ready (rs := [4]) (by kernel_rfl) (by simp) ?_
      refine AllReadyH.cons rfl (fun K hK => ?_) AllReadyH.nil
      go_simp
      go_wp2_with (first
        | (go_at_call 29; with_reducible refine (HS0.out _ HN.out).mono ?_; rintro e5 w5 ⟨rfl, hb5⟩
           have HN := Lib.hid hb5
           clear hb5))
      refine hK.out _ _ (HC.out _ HN.out) (fun hHeld => ?_)
      clear hK K
      try simp only [List.getElem_toArray, List.getElem_cons_succ, List.getElem_cons_zero, Act.put, List.setIfInBounds_toArray, List.set_cons_zero, List.set_cons_succ]
      refine wpAnyH_take (i := 5) (oi := _) (v := ?mv5) rfl (by kernel_rfl) (by kernel_rfl) (by kernel_rfl) (fun _ _ _ h => h) (Or.inl ⟨by rfl, ?mh5⟩) (by assumption) ?mr5
      case mh5 => (intro w hSw; (try dsimp only at hSw); go_simp; try with_reducible rfl)
      try simp only [List.getElem_toArray, List.getElem_cons_succ, List.getElem_cons_zero, Act.put, List.setIfInBounds_toArray, List.set_cons_zero, List.set_cons_succ]
      refine wpAnyH_take (i := 6) (oi := _) (v := ?mv6) rfl (by kernel_rfl) (by kernel_rfl) (by kernel_rfl) (fun _ _ _ h => h) (Or.inl ⟨by rfl, ?mh6⟩) (by assumption) ?mr6
      case mh6 => (intro w hSw; (try dsimp only at hSw); go_simp; try with_reducible rfl)
      try simp only [List.getElem_toArray, List.getElem_cons_succ, List.getElem_cons_zero, Act.put, List.setIfInBounds_toArray, List.set_cons_zero, List.set_cons_succ]
      refine wpAnyH_take (i := 7) (oi := _) (v := ?mv7) rfl (by kernel_rfl) (by kernel_rfl) (by kernel_rfl) (fun _ _ _ h => h) (Or.inl ⟨by rfl, ?mh7⟩) (by assumption) ?mr7
      case mh7 => (intro w hSw; (try dsimp only at hSw); go_simp; try with_reducible rfl)
      try simp only [List.getElem_toArray, List.getElem_cons_succ, List.getElem_cons_zero, Act.put, List.setIfInBounds_toArray, List.set_cons_zero, List.set_cons_succ]
      refine wpAnyH_take (i := 8) (oi := _) (v := ?mv8) rfl (by kernel_rfl) (by kernel_rfl) (by kernel_rfl) (fun _ _ _ h => h) (Or.inl ⟨by rfl, ?mh8⟩) (by assumption) ?mr8
      case mh8 => (intro w hSw; (try dsimp only at hSw); go_simp; try with_reducible rfl)
      try simp only [List.getElem_toArray, List.getElem_cons_succ, List.getElem_cons_zero, Act.put, List.setIfInBounds_toArray, List.set_cons_zero, List.set_cons_succ]
      refine wpAnyH_ready (rs := [9]) (by kernel_rfl) (by simp) ?_
      refine AllReadyH.cons rfl (fun K hK => ?_) AllReadyH.nil
      go_simp
      go_wp2_with (first
        | (go_at_call 18; with_reducible refine (HO0.out _ HN.out).mono ?_; rintro e5 w5 ⟨rfl, hb5⟩
           have HN := Lib.hid hb5
           clear hb5))
      refine hK.out _ _ (HC.out _ HN.out) (fun hHeld => ?_)
      clear hK K
      try simp only [List.getElem_toArray, List.getElem_cons_succ, List.getElem_cons_zero, Act.put, List.setIfInBounds_toArray, List.set_cons_zero, List.set_cons_succ]
      refine wpAnyH_ready (rs := [10]) (by kernel_rfl) (by simp) ?_
      refine AllReadyH.cons rfl (fun K hK => ?_) AllReadyH.nil
      go_simp
      go_wp2_with (first
        | (go_at_call 25; with_reducible refine (HE0.out _ HN.out).mono ?_; rintro e5 w5 ⟨rfl, hb5⟩
           have HN := Lib.hid hb5
           clear hb5))
      refine hK.out _ _ (HC.out _ HN.out) (fun hHeld => ?_)
      clear hK K
      try simp only [List.getElem_toArray, List.getElem_cons_succ, List.getElem_cons_zero, Act.put, List.setIfInBounds_toArray, List.set_cons_zero, List.set_cons_succ]
      refine wpAnyH_take (i := 11) (oi := _) (v := ?mv11) rfl (by kernel_rfl) (by kernel_rfl) (by kernel_rfl) (fun _ _ _ h => h) (Or.inl ⟨by rfl, ?mh11⟩) (by assumption) ?mr11
      case mh11 => (intro w hSw; (try dsimp only at hSw); go_simp; try with_reducible rfl)
      try simp only [List.getElem_toArray, List.getElem_cons_succ, List.getElem_cons_zero, Act.put, List.setIfInBounds_toArray, List.set_cons_zero, List.set_cons_succ]
      refine wpAnyH_take (i := 12) (oi := _) (v := ?mv12) rfl (by kernel_rfl) (by kernel_rfl) (by kernel_rfl) (fun _ _ _ h => h) (Or.inl ⟨by rfl, ?mh12⟩) (by assumption) ?mr12
      case mh12 => (intro w hSw; (try dsimp only at hSw); go_simp; try with_reducible rfl)
      try simp only [List.getElem_toArray, List.getElem_cons_succ, List.getElem_cons_zero, Act.put, List.setIfInBounds_toArray, List.set_cons_zero, List.set_cons_succ]
      refine wpAnyH_take (i := 13) (oi := _) (v := ?mv13) rfl (by kernel_rfl) (by kernel_rfl) (by kernel_rfl) (fun _ _ _ h => h) (Or.inl ⟨by rfl, ?mh13⟩) (by assumption) ?mr13
      case mh13 => (intro w hSw; (try dsimp only at hSw); go_simp; try with_reducible rfl)
      try simp only [List.getElem_toArray, List.getElem_cons_succ, List.getElem_cons_zero, Act.put, List.setIfInBounds_toArray, List.set_cons_zero, List.set_cons_succ]
      refine wpAnyH_take (i := 14) (oi := _) (v := ?mv14) rfl (by kernel_rfl) (by kernel_rfl) (by kernel_rfl) (fun _ _ _ h => h) (Or.inl ⟨by rfl, ?mh14⟩) (by assumption) ?mr14
      case mh14 => (intro w hSw; (try dsimp only at hSw); go_simp; try with_reducible rfl)
      try simp only [List.getElem_toArray, List.getElem_cons_succ, List.getElem_cons_zero, Act.put, List.setIfInBounds_toArray, List.set_cons_zero, List.set_cons_succ]
      refine wpAnyH_take (i := 15) (oi := _) (v := ?mv15) rfl (by kernel_rfl) (by kernel_rfl) (by kernel_rfl) (fun _ _ _ h => h) (Or.inl ⟨by rfl, ?mh15⟩) (by assumption) ?mr15
      case mh15 => (intro w hSw; (try dsimp only at hSw); go_simp; try with_reducible rfl)
      try simp only [List.getElem_toArray, List.getElem_cons_succ, List.getElem_cons_zero, Act.put, List.setIfInBounds_toArray, List.set_cons_zero, List.set_cons_succ]
      refine wpAnyH_take (i := 16) (oi := _) (v := ?mv16) rfl (by kernel_rfl) (by kernel_rfl) (by kernel_rfl) (fun _ _ _ h => h) (Or.inl ⟨by rfl, ?mh16⟩) (by assumption) ?mr16
      case mh16 => (intro w hSw; (try dsimp only at hSw); go_simp; try with_reducible rfl)
      try simp only [List.getElem_toArray, List.getElem_cons_succ, List.getElem_cons_zero, Act.put, List.setIfInBounds_toArray, List.set_cons_zero, List.set_cons_succ]
      refine wpAnyH_take (i := 17) (oi := _) (v := ?mv17) rfl (by kernel_rfl) (by kernel_rfl) (by kernel_rfl) (fun _ _ _ h => h) (Or.inl ⟨by rfl, ?mh17⟩) (by assumption) ?mr17
      case mh17 => (intro w hSw; (try dsimp only at hSw); go_simp; try with_reducible rfl)
      try simp only [List.getElem_toArray, List.getElem_cons_succ, List.getElem_cons_zero, Act.put, List.setIfInBounds_toArray, List.set_cons_zero, List.set_cons_succ]
      refine wpAnyH_take (i := 18) (oi := _) (v := ?mv18) rfl (by kernel_rfl) (by kernel_rfl) (by kernel_rfl) (fun _ _ _ h => h) (Or.inl ⟨by rfl, ?mh18⟩) (by assumption) ?mr18
      case mh18 => (intro w hSw; (try dsimp only at hSw); go_simp; try with_reducible rfl)
      try simp only [List.getElem_toArray, List.getElem_cons_succ, List.getElem_cons_zero, Act.put, List.setIfInBounds_toArray, List.set_cons_zero, List.set_cons_succ]
      refine wpAnyH_ready (rs := [19]) (by kernel_rfl) (by simp) ?_
      refine AllReadyH.cons rfl (fun K hK => ?_) AllReadyH.nil
      go_simp
      go_wp2_with (first
        | (go_at_call 25; with_reducible refine (HE1.out _ HN.out).mono ?_; rintro e5 w5 ⟨rfl, hb5⟩
           have HN := Lib.hid hb5
           clear hb5))
      refine hK.out _ _ (HC.out _ HN.out) (fun hHeld => ?_)
      clear hK K
      try simp only [List.getElem_toArray, List.getElem_cons_succ, List.getElem_cons_zero, Act.put, List.setIfInBounds_toArray, List.set_cons_zero, List.set_cons_succ]
      refine wpAnyH_take (i := 20) (oi := _) (v := ?mv20) rfl (by kernel_rfl) (by kernel_rfl) (by kernel_rfl) (fun _ _ _ h => h) (Or.inl ⟨by rfl, ?mh20⟩) (by assumption) ?mr20
      case mh20 => (intro w hSw; (try dsimp only at hSw); go_simp; try with_reducible rfl)
      try simp only [List.getElem_toArray, List.getElem_cons_succ, List.getElem_cons_zero, Act.put, List.setIfInBounds_toArray, List.set_cons_zero, List.set_cons_succ]
      refine wpAnyH_take (i := 21) (oi := _) (v := ?mv21) rfl (by kernel_rfl) (by kernel_rfl) (by kernel_rfl) (fun _ _ _ h => h) (Or.inl ⟨by rfl, ?mh21⟩) (by assumption) ?mr21
      case mh21 => (intro w hSw; (try dsimp only at hSw); go_simp; try with_reducible rfl)
      try simp only [List.getElem_toArray, List.getElem_cons_succ, List.getElem_cons_zero, Act.put, List.setIfInBounds_toArray, List.set_cons_zero, List.set_cons_succ]
      refine wpAnyH_take (i := 22) (oi := _) (v := ?mv22) rfl (by kernel_rfl) (by kernel_rfl) (by kernel_rfl) (fun _ _ _ h => h) (Or.inl ⟨by rfl, ?mh22⟩) (by assumption) ?mr22
      case mh22 => (intro w hSw; (try dsimp only at hSw); go_simp; try with_reducible rfl)
      try simp only [List.getElem_toArray, List.getElem_cons_succ, List.getElem_cons_zero, Act.put, List.setIfInBounds_toArray, List.set_cons_zero, List.set_cons_succ]
      refine wpAnyH_take (i := 23) (oi := _) (v := ?mv23) rfl (by kernel_rfl) (by kernel_rfl) (by kernel_rfl) (fun _ _ _ h => h) (Or.inl ⟨by rfl, ?mh23⟩) (by assumption) ?mr23
      case mh23 => (intro w hSw; (try dsimp only at hSw); go_simp; try with_reducible rfl)
      try simp only [List.getElem_toArray, List.getElem_cons_succ, List.getElem_cons_zero, Act.put, List.setIfInBounds_toArray, List.set_cons_zero, List.set_cons_succ]
      refine wpAnyH_take (i := 24) (oi := _) (v := ?mv24) rfl (by kernel_rfl) (by kernel_rfl) (by kernel_rfl) (fun _ _ _ h => h) (Or.inl ⟨by rfl, ?mh24⟩) (by assumption) ?mr24
      case mh24 => (intro w hSw; (try dsimp only at hSw); go_simp; try with_reducible rfl)
      try simp only [List.getElem_toArray, List.getElem_cons_succ, List.getElem_cons_zero, Act.put, List.setIfInBounds_toArray, List.set_cons_zero, List.set_cons_succ]
      refine wpAnyH_take (i := 25) (oi := _) (v := undef) rfl (by kernel_rfl) (by kernel_rfl) (by kernel_rfl) (fun _ _ _ h => h) (Or.inr ⟨by rfl, rfl⟩) (by assumption) ?_
      try simp only [List.getElem_toArray, List.getElem_cons_succ, List.getElem_cons_zero, Act.put, List.setIfInBounds_toArray, List.set_cons_zero, List.set_cons_succ]
      refine wpAnyH_take (i := 26) (oi := _) (v := undef) rfl (by kernel_rfl) (by kernel_rfl) (by kernel_rfl) (fun _ _ _ h => h) (Or.inr ⟨by rfl, rfl⟩) (by assumption) ?_
      try simp only [List.getElem_toArray, List.getElem_cons_succ, List.getElem_cons_zero, Act.put, List.setIfInBounds_toArray, List.set_cons_zero, List.set_cons_succ]
      refine wpAnyH_take (i := 27) (oi := _) (v := undef) rfl (by kernel_rfl) (by kernel_rfl) (by kernel_rfl) (fun _ _ _ h => h) (Or.inr ⟨by rfl, rfl⟩) (by assumption) ?_
      try simp only [List.getElem_toArray, List.getElem_cons_succ, List.getElem_cons_zero, Act.put, List.setIfInBounds_toArray, List.set_cons_zero, List.set_cons_succ]
      refine wpAnyH_take (i := 28) (oi := _) (v := undef) rfl (by kernel_rfl) (by kernel_rfl) (by kernel_rfl) (fun _ _ _ h => h) (Or.inr ⟨by rfl, rfl⟩) (by assumption) ?_
      try simp only [List.getElem_toArray, List.getElem_cons_succ, List.getElem_cons_zero, Act.put, List.setIfInBounds_toArray, List.set_cons_zero, List.set_cons_succ]
      refine wpAnyH_take (i := 29) (oi := _) (v := undef) rfl (by kernel_rfl) (by kernel_rfl) (by kernel_rfl) (fun _ _ _ h => h) (Or.inr ⟨by rfl, rfl⟩) (by assumption) ?_
      try simp only [List.getElem_toArray, List.getElem_cons_succ, List.getElem_cons_zero, Act.put, List.setIfInBounds_toArray, List.set_cons_zero, List.set_cons_succ]
      refine wpAnyH_take (i := 30) (oi := _) (v := undef) rfl (by kernel_rfl) (by kernel_rfl) (by kernel_rfl) (fun _ _ _ h => h) (Or.inr ⟨by rfl, rfl⟩) (by assumption) ?_
      try simp only [List.getElem_toArray, List.getElem_cons_succ, List.getElem_cons_zero, Act.put, List.setIfInBounds_toArray, List.set_cons_zero, List.set_cons_succ]
      refine wpAnyH_take (i := 31) (oi := _) (v := ?mv31) rfl (by kernel_rfl) (by kernel_rfl) (by kernel_rfl) (fun _ _ _ h => h) (Or.inl ⟨by rfl, ?mh31⟩) (by assumption) ?mr31
      case mh31 => (intro w hSw; (try dsimp only at hSw); go_simp; try with_reducible rfl)
      try simp only [List.getElem_toArray, List.getElem_cons_succ, List.getElem_cons_zero, Act.put, List.setIfInBounds_toArray, List.set_cons_zero, List.set_cons_succ]
      refine wpAnyH_take (i := 32) (oi := _) (v := ?mv32) rfl (by kernel_rfl) (by kernel_rfl) (by kernel_rfl) (fun _ _ _ h => h) (Or.inl ⟨by rfl, ?mh32⟩) (by assumption) ?mr32
      case mh32 => (intro w hSw; (try dsimp only at hSw); go_simp; try with_reducible rfl)
      try simp only [List.getElem_toArray, List.getElem_cons_succ, List.getElem_cons_zero, Act.put, List.setIfInBounds_toArray, List.set_cons_zero, List.set_cons_succ]
      refine wpAnyH_take (i := 33) (oi := _) (v := ?mv33) rfl (by kernel_rfl) (by kernel_rfl) (by kernel_rfl) (fun _ _ _ h => h) (Or.inl ⟨by rfl, ?mh33⟩) (by assumption) ?mr33
      case mh33 => (intro w hSw; (try dsimp only at hSw); go_simp; try with_reducible rfl)
      try simp only [List.getElem_toArray, List.getElem_cons_succ, List.getElem_cons_zero, Act.put, List.setIfInBounds_toArray, List.set_cons_zero, List.set_cons_succ]
      refine wpAnyH_ready (rs := [34]) (by kernel_rfl) (by simp) ?_
      refine AllReadyH.cons rfl (fun K hK => ?_) AllReadyH.nil
      go_simp
      go_wp2_with (first
        | (go_at_call 13; with_reducible refine (HAW.out _ HN.out).mono ?_; rintro e5 w5 ⟨rfl, hb5⟩
           have HN := Lib.hid hb5
           clear hb5))
      refine hK.out _ _ (HC.out _ HN.out) (fun hHeld => ?_)
      clear hK K
      try simp only [List.getElem_toArray, List.getElem_cons_succ, List.getElem_cons_zero, Act.put, List.setIfInBounds_toArray, List.set_cons_zero, List.set_cons_succ]
      refine wpAnyH_take (i := 35) (oi := _) (v := ?mv35) rfl (by kernel_rfl) (by kernel_rfl) (by kernel_rfl) (fun _ _ _ h => h) (Or.inl ⟨by rfl, ?mh35⟩) (by assumption) ?mr35
      case mh35 => (intro w hSw; (try dsimp only at hSw); go_simp; try with_reducible rfl)
      try simp only [List.getElem_toArray, List.getElem_cons_succ, List.getElem_cons_zero, Act.put, List.setIfInBounds_toArray, List.set_cons_zero, List.set_cons_succ]
      refine wpAnyH_take (i := 36) (oi := _) (v := ?mv36) rfl (by kernel_rfl) (by kernel_rfl) (by kernel_rfl) (fun _ _ _ h => h) (Or.inl ⟨by rfl, ?mh36⟩) (by assumption) ?mr36
      case mh36 => (intro w hSw; (try dsimp only at hSw); go_simp; try with_reducible rfl)
      try simp only [List.getElem_toArray, List.getElem_cons_succ, List.getElem_cons_zero, Act.put, List.setIfInBounds_toArray, List.set_cons_zero, List.set_cons_succ]
      refine wpAnyH_done (by kernel_rfl) ?_ _
      (try go_wp2)
      refine bodyPost_ret (v := .bool true) (by simp [results, Tryd.results6, go_sem, *]) rfl ⟨rfl, HLL.out.2.1.trans ((HB.out.trans (HN.out.mono HB.out.size)).mono HLL.out.2.1.size)⟩
end Go.Proofs.YtfhoimblabmkkaaDoor
