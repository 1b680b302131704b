import Derived.Test.YteochdnjpchdnaaDoorK2
set_option linter.unusedVariables false
set_option linter.unusedSimpArgs false
namespace Go.Proofs.YteochdnjpchdnaaDoor
open Go.RowKit
set_option linter.unusedVariables false

/-- three numbers that a law has picked -/
def PickS (w1 : World) (s1 s2 s3 : Int) (g1 g2 g3 : Option Addr) (v6 v7 v8 : Value) (wx : World) : Prop :=
  ∃ b6 b7 b8, v6 = .pointer (some ⟨b6, 0, none⟩) ∧ v7 = .pointer (some ⟨b7, 0, none⟩) ∧ v8 = .pointer (some ⟨b8, 0, none⟩) ∧ Below w1.heap.size w1 wx ∧
    wx.heap[b6]? = some (.cells #[.int .i64 s1, .pointer g1] 29 (0, 0)) ∧ wx.heap[b7]? = some (.cells #[.int .i64 s2, .pointer g2] 29 (0, 0)) ∧ wx.heap[b8]? = some (.cells #[.int .i64 s3, .pointer g3] 29 (0, 0))

theorem wtOne3 : wt 1 ≤ 1 := by
  have h := (wt_one 0 0 (by decide)).1
  have h0 : wt 0 = 0 := by unfold wt; rw [naf0]; rfl
  simpa [h0] using h

set_option maxRecDepth 100000 in
set_option maxHeartbeats 8000000 in
/-- ████ NumShifts -/
theorem NumShifts_calls {w : World} {v : Value} {os : List OV} (hr : RowV w 4 v os.length (flatO os)) (hi : ∀ o ∈ os, i64 o.2.1 ∧ i64 o.2.2.1 ∧ i64 o.2.2.2) (tab : Tab w) (h0 : 0 < w.heap.size) (a0 a1 a2 : Int) (ia0 : i64 a0) (ia1 : i64 a1) (ia2 : i64 a2) :
    Calls Tryd.prog 7 #[v, .agg #[.int .i64 a0, .int .i64 a1, .int .i64 a2]] w fun e w' => e = .returned (.bool true) ∧ Below w.heap.size w w' := by
  obtain ⟨ax, cx, rfl⟩ := hr.shape
  obtain ⟨wB, hwB⟩ : ∃ wB, wB = w.alloc (.cells #[.int .i64 a0, .int .i64 a1, .int .i64 a2] 56) := ⟨_, rfl⟩
  have hbB : Below w.heap.size w wB := by rw [hwB]; exact (Below.refl _ _).alloc (Nat.le_refl _) _
  have p0 : wB.heap[w.heap.size]? = some (.cells #[.int .i64 a0, .int .i64 a1, .int .i64 a2] 56 (0, 0)) := by rw [hwB]; exact heap_alloc_new w _
  have hL := LawW.of tab h0 hbB
  have hMade := made_calls (w := wB) (hr.below hbB (Nat.le_refl _)) hi (hL wB (Below.refl _ _)).1 (hL wB (Below.refl _ _)).2
  have HX := Lib.hid (And.intro hbB (And.intro p0 (And.intro hL (And.intro ia0 (And.intro ia1 ia2)))))
  clear hr hi tab h0 hbB p0 hL
  subst hwB
  go_enter Tryd.func7, Tryd.ntmps7
  go_upto_region 2 with (first
    | (go_at_call 27; refine hMade.mono ?_; rintro e1 w1 ⟨a, n, c, rfl, hn3, hn27, hM⟩
       have H1 := Lib.hid hM
       clear hM))
  obtain ⟨ns, zs, hl, hown, hv, hb1, hm⟩ := H1.out
  obtain ⟨hbB, p0, hL, ia0, ia1, ia2⟩ := HX.out
  obtain ⟨b, rfl⟩ : ∃ b, a = some ⟨b, 0, none⟩ := by
    obtain ⟨_, h2⟩ := hown
    rcases h2 with ⟨e, _⟩ | ⟨g', cap, cur, ev, _⟩
    · simp only [Value.slice.injEq] at e; omega
    · cases ev; exact ⟨g', rfl⟩
  have hbl := (hown.lt b rfl).2
  have hbge := (hown.lt b rfl).1
  have hp1 := (hb1.block _ (lt_of_some p0)).trans p0
  have hNn : (0 : Int) < (n : Int) := by omega
  obtain ⟨j1, hj1⟩ := Int.eq_ofNat_of_zero_le (Int.emod_nonneg a0 (show (n : Int) ≠ 0 by omega))
  obtain ⟨j2, hj2⟩ := Int.eq_ofNat_of_zero_le (Int.emod_nonneg a1 (show (n : Int) ≠ 0 by omega))
  obtain ⟨j3, hj3⟩ := Int.eq_ofNat_of_zero_le (Int.emod_nonneg a2 (show (n : Int) ≠ 0 by omega))
  have hl1 : j1 < n := by have := Int.emod_lt_of_pos a0 hNn; omega
  have hl2 : j2 < n := by have := Int.emod_lt_of_pos a1 hNn; omega
  have hl3 : j3 < n := by have := Int.emod_lt_of_pos a2 hNn; omega
  have hR1 : ∀ W, Calls Tryd.prog 34 #[.int .i64 a0, .int .i64 (n : Int)] W fun e w' => e = .returned (.int .i64 (j1 : Int)) ∧ W = w' := fun W => by rw [← hj1]; exact rest_calls a0 _ ia0 hNn (by omega) W
  have hR2 : ∀ W, Calls Tryd.prog 34 #[.int .i64 a1, .int .i64 (n : Int)] W fun e w' => e = .returned (.int .i64 (j2 : Int)) ∧ W = w' := fun W => by rw [← hj2]; exact rest_calls a1 _ ia1 hNn (by omega) W
  have hR3 : ∀ W, Calls Tryd.prog 34 #[.int .i64 a2, .int .i64 (n : Int)] W fun e w' => e = .returned (.int .i64 (j3 : Int)) ∧ W = w' := fun W => by rw [← hj3]; exact rest_calls a2 _ ia2 hNn (by omega) W
  subst hl
  have hzl := hv.len
  have hn1 := (hv.get j1 hl1 (by omega)).cold
  have hn2 := (hv.get j2 hl2 (by omega)).cold
  have hn3' := (hv.get j3 hl3 (by omega)).cold
  obtain ⟨q0, q1⟩ := RowC.num (RowV.of_own hown).rowC j1 hl1
  obtain ⟨q2, q3⟩ := RowC.num (RowV.of_own hown).rowC j2 hl2
  obtain ⟨q4, q5⟩ := RowC.num (RowV.of_own hown).rowC j3 hl3
  generalize ns[j1] = t1 at q0 q1 hn1
  generalize ns[j2] = t2 at q2 q3 hn2
  generalize ns[j3] = t3 at q4 q5 hn3'
  obtain ⟨s1, g1⟩ := t1
  obtain ⟨s2, g2⟩ := t2
  obtain ⟨s3, g3⟩ := t3
  simp only at q0 q1 q2 q3 q4 q5 hn1 hn2 hn3'
  generalize zs[j1]'(by omega) = z1 at hn1
  generalize zs[j2]'(by omega) = z2 at hn2
  generalize zs[j3]'(by omega) = z3 at hn3'
  have hc0 : w1.cell? ⟨w.heap.size, 0, none⟩ = some (.int .i64 a0) := by simp [World.cell?, hp1]
  have hc1 : w1.cell? ⟨w.heap.size, 1, none⟩ = some (.int .i64 a1) := by simp [World.cell?, hp1]
  have hc2 : w1.cell? ⟨w.heap.size, 2, none⟩ = some (.int .i64 a2) := by simp [World.cell?, hp1]
  have hwl := lt_of_some hp1
  have hLw := hL.on hb1
  have hbw := hbB.trans (hb1.mono hbB.size)
  have HY := Lib.hid (And.intro hn1 (And.intro hn2 (And.intro hn3' (And.intro hLw hbw))))
  generalize hpl : ns.length = L at *
  have k0 : (0 : Int) ≤ (j1 : Int) := by omega
  have k1 : (0 : Int) ≤ (j2 : Int) := by omega
  have k2 : (0 : Int) ≤ (j3 : Int) := by omega
  have k3 : (j1 : Int) < (L : Int) := by omega
  have k4 : (j2 : Int) < (L : Int) := by omega
  have k5 : (j3 : Int) < (L : Int) := by omega
  clear hpl hown hv hb1 hm hbB p0 hL ia0 ia1 ia2 hp1 hj1 hj2 hj3 hl1 hl2 hl3 hn1 hn2 hn3' hLw hbw H1 HX hzl hn27 hn3 hNn hMade
  simp only [Nat.zero_add] at q0 q1 q2 q3 q4 q5
  have hne1 : ¬ b = w1.heap.size := by omega
  have hne2 : ¬ w1.heap.size = b := by omega
  have hne3 : ¬ b = w1.heap.size + 1 := by omega
  have hne4 : ¬ w1.heap.size + 1 = b := by omega
  have hne5 : ¬ b = w1.heap.size + 1 + 1 := by omega
  have hne6 : ¬ w1.heap.size + 1 + 1 = b := by omega
  have hnw1 : ¬ w.heap.size = w1.heap.size := by omega
  have hnw2 : ¬ w1.heap.size = w.heap.size := by omega
  have hnw3 : ¬ w.heap.size = w1.heap.size + 1 := by omega
  have hnw4 : ¬ w1.heap.size + 1 = w.heap.size := by omega
  have hnw5 : ¬ w.heap.size = w1.heap.size + 1 + 1 := by omega
  have hnw6 : ¬ w1.heap.size + 1 + 1 = w.heap.size := by omega
  have hSS : ∀ W, Below w1.heap.size w1 W → W.cell? ⟨w.heap.size, 0, none⟩ = some (.int .i64 a0) ∧ W.cell? ⟨w.heap.size, 1, none⟩ = some (.int .i64 a1) ∧ W.cell? ⟨w.heap.size, 2, none⟩ = some (.int .i64 a2) ∧ W.cell? ⟨b, j1 * 2, none⟩ = some (.int .i64 s1) ∧ W.cell? ⟨b, j1 * 2 + 1, none⟩ = some (.pointer g1) ∧
      W.cell? ⟨b, j2 * 2, none⟩ = some (.int .i64 s2) ∧ W.cell? ⟨b, j2 * 2 + 1, none⟩ = some (.pointer g2) ∧ W.cell? ⟨b, j3 * 2, none⟩ = some (.int .i64 s3) ∧ W.cell? ⟨b, j3 * 2 + 1, none⟩ = some (.pointer g3) := fun W hW =>
    ⟨(hW.cell (p := ⟨w.heap.size, 0, none⟩) hwl).trans hc0, (hW.cell (p := ⟨w.heap.size, 1, none⟩) hwl).trans hc1, (hW.cell (p := ⟨w.heap.size, 2, none⟩) hwl).trans hc2, (hW.cell (p := ⟨b, j1 * 2, none⟩) hbl).trans q0, (hW.cell (p := ⟨b, j1 * 2 + 1, none⟩) hbl).trans q1, (hW.cell (p := ⟨b, j2 * 2, none⟩) hbl).trans q2, (hW.cell (p := ⟨b, j2 * 2 + 1, none⟩) hbl).trans q3, (hW.cell (p := ⟨b, j3 * 2, none⟩) hbl).trans q4, (hW.cell (p := ⟨b, j3 * 2 + 1, none⟩) hbl).trans q5⟩
  have HSS := Lib.hid hSS
  clear hSS
  go_cut [6, 7, 8] from 37 to 60 (fun v6 v7 v8 wx => PickS w1 s1 s2 s3 g1 g2 g3 v6 v7 v8 wx)
  case first =>
    refine wp_region_held_drew (S := fun w' => w'.cell? ⟨w.heap.size, 0, none⟩ = some (.int .i64 a0) ∧ w'.cell? ⟨w.heap.size, 1, none⟩ = some (.int .i64 a1) ∧ w'.cell? ⟨w.heap.size, 2, none⟩ = some (.int .i64 a2) ∧ w'.cell? ⟨b, j1 * 2, none⟩ = some (.int .i64 s1) ∧ w'.cell? ⟨b, j1 * 2 + 1, none⟩ = some (.pointer g1) ∧ w'.cell? ⟨b, j2 * 2, none⟩ = some (.int .i64 s2) ∧ w'.cell? ⟨b, j2 * 2 + 1, none⟩ = some (.pointer g2) ∧ w'.cell? ⟨b, j3 * 2, none⟩ = some (.int .i64 s3) ∧ w'.cell? ⟨b, j3 * 2 + 1, none⟩ = some (.pointer g3)) (by kernel_rfl) (HSS.out _ ((Below.refl _ _).drew)) (fun hHeld => ?_)
    refine wpAnyH_take (i := 0) (oi := _) (v := ?v0) rfl (by kernel_rfl) (by kernel_rfl) (by kernel_rfl) (fun _ _ _ h => h) (Or.inl ⟨by rfl, ?h0⟩) (by assumption) ?r0
    case h0 => (intro w hSw; (try dsimp only at hSw); go_simp; try with_reducible rfl)
    try simp only [Act.put, List.setIfInBounds_toArray, List.set_cons_zero, List.set_cons_succ]
    refine wpAnyH_take (i := 1) (oi := _) (v := ?v1) rfl (by kernel_rfl) (by kernel_rfl) (by kernel_rfl) (fun _ _ _ h => h) (Or.inl ⟨by rfl, ?h1⟩) (by assumption) ?r1
    case h1 => (intro w hSw; (try dsimp only at hSw); go_simp; try with_reducible rfl)
    try simp only [Act.put, List.setIfInBounds_toArray, List.set_cons_zero, List.set_cons_succ]
    refine wpAnyH_take (i := 2) (oi := _) (v := ?v2) rfl (by kernel_rfl) (by kernel_rfl) (by kernel_rfl) (fun _ _ _ h => h) (Or.inl ⟨by rfl, ?h2⟩) (by assumption) ?r2
    case h2 => (intro w hSw; (try dsimp only at hSw); go_simp; try with_reducible rfl)
    try simp only [Act.put, List.setIfInBounds_toArray, List.set_cons_zero, List.set_cons_succ]
    refine wpAnyH_take (i := 3) (oi := _) (v := ?v3) rfl (by kernel_rfl) (by kernel_rfl) (by kernel_rfl) (fun _ _ _ h => h) (Or.inl ⟨by rfl, ?h3⟩) (by assumption) ?r3
    case h3 => (intro w hSw; (try dsimp only at hSw); go_simp; try with_reducible rfl)
    try simp only [Act.put, List.setIfInBounds_toArray, List.set_cons_zero, List.set_cons_succ]
    refine wpAnyH_take (i := 4) (oi := _) (v := ?v4) rfl (by kernel_rfl) (by kernel_rfl) (by kernel_rfl) (fun _ _ _ h => h) (Or.inl ⟨by rfl, ?h4⟩) (by assumption) ?r4
    case h4 => (intro w hSw; (try dsimp only at hSw); go_simp; try with_reducible rfl)
    try simp only [Act.put, List.setIfInBounds_toArray, List.set_cons_zero, List.set_cons_succ]
    refine call_take (i := 5) (oi := _) (v := .int .i64 (j1 : Int)) rfl (by kernel_rfl) (by kernel_rfl) (by kernel_rfl) (fun _ _ _ h => h) (by rfl) (fun w => by go_simp) (fun w => hR1 w) (by assumption) ?_
    try simp only [Act.put, List.setIfInBounds_toArray, List.set_cons_zero, List.set_cons_succ]
    refine wpAnyH_take (i := 6) (oi := _) (v := ?v6) rfl (by kernel_rfl) (by kernel_rfl) (by kernel_rfl) (fun _ _ _ h => h) (Or.inl ⟨by rfl, ?h6⟩) (by assumption) ?r6
    case h6 => (intro w hSw; (try dsimp only at hSw); go_simp; try with_reducible rfl)
    try simp only [Act.put, List.setIfInBounds_toArray, List.set_cons_zero, List.set_cons_succ]
    refine wpAnyH_take (i := 7) (oi := _) (v := ?v7) rfl (by kernel_rfl) (by kernel_rfl) (by kernel_rfl) (fun _ _ _ h => h) (Or.inl ⟨by rfl, ?h7⟩) (by assumption) ?r7
    case h7 => (intro w hSw; (try dsimp only at hSw); go_simp; try with_reducible rfl)
    try simp only [Act.put, List.setIfInBounds_toArray, List.set_cons_zero, List.set_cons_succ]
    refine wpAnyH_take (i := 8) (oi := _) (v := ?v8) rfl (by kernel_rfl) (by kernel_rfl) (by kernel_rfl) (fun _ _ _ h => h) (Or.inl ⟨by rfl, ?h8⟩) (by assumption) ?r8
    case h8 => (intro w hSw; (try dsimp only at hSw); go_simp; try with_reducible rfl)
    try simp only [Act.put, List.setIfInBounds_toArray, List.set_cons_zero, List.set_cons_succ]
    refine wpAnyH_take (i := 9) (oi := _) (v := ?v9) rfl (by kernel_rfl) (by kernel_rfl) (by kernel_rfl) (fun _ _ _ h => h) (Or.inl ⟨by rfl, ?h9⟩) (by assumption) ?r9
    case h9 => (intro w hSw; (try dsimp only at hSw); go_simp; try with_reducible rfl)
    try simp only [Act.put, List.setIfInBounds_toArray, List.set_cons_zero, List.set_cons_succ]
    refine wpAnyH_take (i := 10) (oi := _) (v := ?v10) rfl (by kernel_rfl) (by kernel_rfl) (by kernel_rfl) (fun _ _ _ h => h) (Or.inl ⟨by rfl, ?h10⟩) (by assumption) ?r10
    case h10 => (intro w hSw; (try dsimp only at hSw); go_simp; try with_reducible rfl)
    try simp only [Act.put, List.setIfInBounds_toArray, List.set_cons_zero, List.set_cons_succ]
    refine wpAnyH_take (i := 11) (oi := _) (v := ?v11) rfl (by kernel_rfl) (by kernel_rfl) (by kernel_rfl) (fun _ _ _ h => h) (Or.inl ⟨by rfl, ?h11⟩) (by assumption) ?r11
    case h11 => (intro w hSw; (try dsimp only at hSw); go_simp; try with_reducible rfl)
    try simp only [Act.put, List.setIfInBounds_toArray, List.set_cons_zero, List.set_cons_succ]
    refine wpAnyH_take (i := 12) (oi := _) (v := ?v12) rfl (by kernel_rfl) (by kernel_rfl) (by kernel_rfl) (fun _ _ _ h => h) (Or.inl ⟨by rfl, ?h12⟩) (by assumption) ?r12
    case h12 => (intro w hSw; (try dsimp only at hSw); go_simp; try with_reducible rfl)
    try simp only [Act.put, List.setIfInBounds_toArray, List.set_cons_zero, List.set_cons_succ]
    refine call_take (i := 13) (oi := _) (v := .int .i64 (j2 : Int)) rfl (by kernel_rfl) (by kernel_rfl) (by kernel_rfl) (fun _ _ _ h => h) (by rfl) (fun w => by go_simp) (fun w => hR2 w) (by assumption) ?_
    try simp only [Act.put, List.setIfInBounds_toArray, List.set_cons_zero, List.set_cons_succ]
    refine wpAnyH_take (i := 14) (oi := _) (v := ?v14) rfl (by kernel_rfl) (by kernel_rfl) (by kernel_rfl) (fun _ _ _ h => h) (Or.inl ⟨by rfl, ?h14⟩) (by assumption) ?r14
    case h14 => (intro w hSw; (try dsimp only at hSw); go_simp; try with_reducible rfl)
    try simp only [Act.put, List.setIfInBounds_toArray, List.set_cons_zero, List.set_cons_succ]
    refine wpAnyH_take (i := 15) (oi := _) (v := ?v15) rfl (by kernel_rfl) (by kernel_rfl) (by kernel_rfl) (fun _ _ _ h => h) (Or.inl ⟨by rfl, ?h15⟩) (by assumption) ?r15
    case h15 => (intro w hSw; (try dsimp only at hSw); go_simp; try with_reducible rfl)
    try simp only [Act.put, List.setIfInBounds_toArray, List.set_cons_zero, List.set_cons_succ]
    refine wpAnyH_take (i := 16) (oi := _) (v := ?v16) rfl (by kernel_rfl) (by kernel_rfl) (by kernel_rfl) (fun _ _ _ h => h) (Or.inl ⟨by rfl, ?h16⟩) (by assumption) ?r16
    case h16 => (intro w hSw; (try dsimp only at hSw); go_simp; try with_reducible rfl)
    try simp only [Act.put, List.setIfInBounds_toArray, List.set_cons_zero, List.set_cons_succ]
    refine wpAnyH_take (i := 17) (oi := _) (v := ?v17) rfl (by kernel_rfl) (by kernel_rfl) (by kernel_rfl) (fun _ _ _ h => h) (Or.inl ⟨by rfl, ?h17⟩) (by assumption) ?r17
    case h17 => (intro w hSw; (try dsimp only at hSw); go_simp; try with_reducible rfl)
    try simp only [Act.put, List.setIfInBounds_toArray, List.set_cons_zero, List.set_cons_succ]
    refine wpAnyH_take (i := 18) (oi := _) (v := ?v18) rfl (by kernel_rfl) (by kernel_rfl) (by kernel_rfl) (fun _ _ _ h => h) (Or.inl ⟨by rfl, ?h18⟩) (by assumption) ?r18
    case h18 => (intro w hSw; (try dsimp only at hSw); go_simp; try with_reducible rfl)
    try simp only [Act.put, List.setIfInBounds_toArray, List.set_cons_zero, List.set_cons_succ]
    refine wpAnyH_take (i := 19) (oi := _) (v := ?v19) rfl (by kernel_rfl) (by kernel_rfl) (by kernel_rfl) (fun _ _ _ h => h) (Or.inl ⟨by rfl, ?h19⟩) (by assumption) ?r19
    case h19 => (intro w hSw; (try dsimp only at hSw); go_simp; try with_reducible rfl)
    try simp only [Act.put, List.setIfInBounds_toArray, List.set_cons_zero, List.set_cons_succ]
    refine wpAnyH_take (i := 20) (oi := _) (v := ?v20) rfl (by kernel_rfl) (by kernel_rfl) (by kernel_rfl) (fun _ _ _ h => h) (Or.inl ⟨by rfl, ?h20⟩) (by assumption) ?r20
    case h20 => (intro w hSw; (try dsimp only at hSw); go_simp; try with_reducible rfl)
    try simp only [Act.put, List.setIfInBounds_toArray, List.set_cons_zero, List.set_cons_succ]
    refine call_take (i := 21) (oi := _) (v := .int .i64 (j3 : Int)) rfl (by kernel_rfl) (by kernel_rfl) (by kernel_rfl) (fun _ _ _ h => h) (by rfl) (fun w => by go_simp) (fun w => hR3 w) (by assumption) ?_
    try simp only [Act.put, List.setIfInBounds_toArray, List.set_cons_zero, List.set_cons_succ]
    refine wpAnyH_take (i := 22) (oi := _) (v := ?v22) rfl (by kernel_rfl) (by kernel_rfl) (by kernel_rfl) (fun _ _ _ h => h) (Or.inl ⟨by rfl, ?h22⟩) (by assumption) ?r22
    case h22 => (intro w hSw; (try dsimp only at hSw); go_simp; try with_reducible rfl)
    try simp only [Act.put, List.setIfInBounds_toArray, List.set_cons_zero, List.set_cons_succ]
    refine wpAnyH_take (i := 23) (oi := _) (v := ?v23) rfl (by kernel_rfl) (by kernel_rfl) (by kernel_rfl) (fun _ _ _ h => h) (Or.inl ⟨by rfl, ?h23⟩) (by assumption) ?r23
    case h23 => (intro w hSw; (try dsimp only at hSw); go_simp; try with_reducible rfl)
    try simp only [Act.put, List.setIfInBounds_toArray, List.set_cons_zero, List.set_cons_succ]
    refine wpAnyH_ready (rs := [24, 25, 26]) (by kernel_rfl) (by simp) ?_
    refine AllReadyH.cons rfl (fun K hK => ?_) ?_
    · go_simp
      (refine hK.out _ _ (HSS.out _ (by repeat (first | exact Below.refl _ _ | refine Below.drew ?_ | refine Below.alloc ?_ (by simp <;> omega) _ | refine Below.setCell ?_ (by simp <;> omega) _))) (fun hHeld => ?_))
      clear hK K
      try simp only [Act.put, List.setIfInBounds_toArray, List.set_cons_zero, List.set_cons_succ]
      refine wpAnyH_ready (rs := [25, 26]) (by kernel_rfl) (by simp) ?_
      refine AllReadyH.cons rfl (fun K hK => ?_) ?_
      · go_simp
        (refine hK.out _ _ (HSS.out _ (by repeat (first | exact Below.refl _ _ | refine Below.drew ?_ | refine Below.alloc ?_ (by simp <;> omega) _ | refine Below.setCell ?_ (by simp <;> omega) _))) (fun hHeld => ?_))
        clear hK K
        try simp only [Act.put, List.setIfInBounds_toArray, List.set_cons_zero, List.set_cons_succ]
        refine wpAnyH_ready (rs := [26]) (by kernel_rfl) (by simp) ?_
        refine AllReadyH.cons rfl (fun K hK => ?_) ?_
        · go_simp
          (refine hK.out _ _ (HSS.out _ (by repeat (first | exact Below.refl _ _ | refine Below.drew ?_ | refine Below.alloc ?_ (by simp <;> omega) _ | refine Below.setCell ?_ (by simp <;> omega) _))) (fun hHeld => ?_))
          clear hK K
          try simp only [Act.put, List.setIfInBounds_toArray, List.set_cons_zero, List.set_cons_succ]
          refine wpAnyH_ready (rs := [27]) (by kernel_rfl) (by simp) ?_
          refine AllReadyH.cons rfl (fun K hK => ?_) AllReadyH.nil
          go_simp
          (refine hK.out _ _ (HSS.out _ (by repeat (first | exact Below.refl _ _ | refine Below.drew ?_ | refine Below.alloc ?_ (by simp <;> omega) _ | refine Below.setCell ?_ (by simp <;> omega) _))) (fun hHeld => ?_))
          clear hK K
          try simp only [Act.put, List.setIfInBounds_toArray, List.set_cons_zero, List.set_cons_succ]
          refine wpAnyH_ready (rs := [28]) (by kernel_rfl) (by simp) ?_
          refine AllReadyH.cons rfl (fun K hK => ?_) AllReadyH.nil
          go_simp
          (refine hK.out _ _ (HSS.out _ (by repeat (first | exact Below.refl _ _ | refine Below.drew ?_ | refine Below.alloc ?_ (by simp <;> omega) _ | refine Below.setCell ?_ (by simp <;> omega) _))) (fun hHeld => ?_))
          clear hK K
          try simp only [Act.put, List.setIfInBounds_toArray, List.set_cons_zero, List.set_cons_succ]
          refine wpAnyH_ready (rs := [29]) (by kernel_rfl) (by simp) ?_
          refine AllReadyH.cons rfl (fun K hK => ?_) AllReadyH.nil
          go_simp
          (refine hK.out _ _ (HSS.out _ (by repeat (first | exact Below.refl _ _ | refine Below.drew ?_ | refine Below.alloc ?_ (by simp <;> omega) _ | refine Below.setCell ?_ (by simp <;> omega) _))) (fun hHeld => ?_))
          clear hK K
          try simp only [Act.put, List.setIfInBounds_toArray, List.set_cons_zero, List.set_cons_succ]
          refine wpAnyH_done (by kernel_rfl) ?_ _
          (try go_wp2)
          go_meet
          refine ⟨_, _, _, rfl, rfl, rfl, by refine Below.drew ?_; repeat (first | exact Below.refl _ _ | refine Below.alloc ?_ (by simp <;> omega) _), ?_, ?_, ?_⟩ <;> first | exact (alloc3_all w1 _ _ _).1 | exact (alloc3_all w1 _ _ _).2.1 | exact (alloc3_all w1 _ _ _).2.2.1
        exact AllReadyH.nil
      refine AllReadyH.cons rfl (fun K hK => ?_) ?_
      · go_simp
        (refine hK.out _ _ (HSS.out _ (by repeat (first | exact Below.refl _ _ | refine Below.drew ?_ | refine Below.alloc ?_ (by simp <;> omega) _ | refine Below.setCell ?_ (by simp <;> omega) _))) (fun hHeld => ?_))
        clear hK K
        try simp only [Act.put, List.setIfInBounds_toArray, List.set_cons_zero, List.set_cons_succ]
        refine wpAnyH_ready (rs := [25]) (by kernel_rfl) (by simp) ?_
        refine AllReadyH.cons rfl (fun K hK => ?_) ?_
        · go_simp
          (refine hK.out _ _ (HSS.out _ (by repeat (first | exact Below.refl _ _ | refine Below.drew ?_ | refine Below.alloc ?_ (by simp <;> omega) _ | refine Below.setCell ?_ (by simp <;> omega) _))) (fun hHeld => ?_))
          clear hK K
          try simp only [Act.put, List.setIfInBounds_toArray, List.set_cons_zero, List.set_cons_succ]
          refine wpAnyH_ready (rs := [27]) (by kernel_rfl) (by simp) ?_
          refine AllReadyH.cons rfl (fun K hK => ?_) AllReadyH.nil
          go_simp
          (refine hK.out _ _ (HSS.out _ (by repeat (first | exact Below.refl _ _ | refine Below.drew ?_ | refine Below.alloc ?_ (by simp <;> omega) _ | refine Below.setCell ?_ (by simp <;> omega) _))) (fun hHeld => ?_))
          clear hK K
          try simp only [Act.put, List.setIfInBounds_toArray, List.set_cons_zero, List.set_cons_succ]
          refine wpAnyH_ready (rs := [28]) (by kernel_rfl) (by simp) ?_
          refine AllReadyH.cons rfl (fun K hK => ?_) AllReadyH.nil
          go_simp
          (refine hK.out _ _ (HSS.out _ (by repeat (first | exact Below.refl _ _ | refine Below.drew ?_ | refine Below.alloc ?_ (by simp <;> omega) _ | refine Below.setCell ?_ (by simp <;> omega) _))) (fun hHeld => ?_))
          clear hK K
          try simp only [Act.put, List.setIfInBounds_toArray, List.set_cons_zero, List.set_cons_succ]
          refine wpAnyH_ready (rs := [29]) (by kernel_rfl) (by simp) ?_
          refine AllReadyH.cons rfl (fun K hK => ?_) AllReadyH.nil
          go_simp
          (refine hK.out _ _ (HSS.out _ (by repeat (first | exact Below.refl _ _ | refine Below.drew ?_ | refine Below.alloc ?_ (by simp <;> omega) _ | refine Below.setCell ?_ (by simp <;> omega) _))) (fun hHeld => ?_))
          clear hK K
          try simp only [Act.put, List.setIfInBounds_toArray, List.set_cons_zero, List.set_cons_succ]
          refine wpAnyH_done (by kernel_rfl) ?_ _
          (try go_wp2)
          go_meet
          refine ⟨_, _, _, rfl, rfl, rfl, by refine Below.drew ?_; repeat (first | exact Below.refl _ _ | refine Below.alloc ?_ (by simp <;> omega) _), ?_, ?_, ?_⟩ <;> first | exact (alloc3_all w1 _ _ _).1 | exact (alloc3_all w1 _ _ _).2.1 | exact (alloc3_all w1 _ _ _).2.2.1
        exact AllReadyH.nil
      exact AllReadyH.nil
    refine AllReadyH.cons rfl (fun K hK => ?_) ?_
    · go_simp
      (refine hK.out _ _ (HSS.out _ (by repeat (first | exact Below.refl _ _ | refine Below.drew ?_ | refine Below.alloc ?_ (by simp <;> omega) _ | refine Below.setCell ?_ (by simp <;> omega) _))) (fun hHeld => ?_))
      clear hK K
      try simp only [Act.put, List.setIfInBounds_toArray, List.set_cons_zero, List.set_cons_succ]
      refine wpAnyH_ready (rs := [24, 26]) (by kernel_rfl) (by simp) ?_
      refine AllReadyH.cons rfl (fun K hK => ?_) ?_
      · go_simp
        (refine hK.out _ _ (HSS.out _ (by repeat (first | exact Below.refl _ _ | refine Below.drew ?_ | refine Below.alloc ?_ (by simp <;> omega) _ | refine Below.setCell ?_ (by simp <;> omega) _))) (fun hHeld => ?_))
        clear hK K
        try simp only [Act.put, List.setIfInBounds_toArray, List.set_cons_zero, List.set_cons_succ]
        refine wpAnyH_ready (rs := [26]) (by kernel_rfl) (by simp) ?_
        refine AllReadyH.cons rfl (fun K hK => ?_) ?_
        · go_simp
          (refine hK.out _ _ (HSS.out _ (by repeat (first | exact Below.refl _ _ | refine Below.drew ?_ | refine Below.alloc ?_ (by simp <;> omega) _ | refine Below.setCell ?_ (by simp <;> omega) _))) (fun hHeld => ?_))
          clear hK K
          try simp only [Act.put, List.setIfInBounds_toArray, List.set_cons_zero, List.set_cons_succ]
          refine wpAnyH_ready (rs := [27]) (by kernel_rfl) (by simp) ?_
          refine AllReadyH.cons rfl (fun K hK => ?_) AllReadyH.nil
          go_simp
          (refine hK.out _ _ (HSS.out _ (by repeat (first | exact Below.refl _ _ | refine Below.drew ?_ | refine Below.alloc ?_ (by simp <;> omega) _ | refine Below.setCell ?_ (by simp <;> omega) _))) (fun hHeld => ?_))
          clear hK K
          try simp only [Act.put, List.setIfInBounds_toArray, List.set_cons_zero, List.set_cons_succ]
          refine wpAnyH_ready (rs := [28]) (by kernel_rfl) (by simp) ?_
          refine AllReadyH.cons rfl (fun K hK => ?_) AllReadyH.nil
          go_simp
          (refine hK.out _ _ (HSS.out _ (by repeat (first | exact Below.refl _ _ | refine Below.drew ?_ | refine Below.alloc ?_ (by simp <;> omega) _ | refine Below.setCell ?_ (by simp <;> omega) _))) (fun hHeld => ?_))
          clear hK K
          try simp only [Act.put, List.setIfInBounds_toArray, List.set_cons_zero, List.set_cons_succ]
          refine wpAnyH_ready (rs := [29]) (by kernel_rfl) (by simp) ?_
          refine AllReadyH.cons rfl (fun K hK => ?_) AllReadyH.nil
          go_simp
          (refine hK.out _ _ (HSS.out _ (by repeat (first | exact Below.refl _ _ | refine Below.drew ?_ | refine Below.alloc ?_ (by simp <;> omega) _ | refine Below.setCell ?_ (by simp <;> omega) _))) (fun hHeld => ?_))
          clear hK K
          try simp only [Act.put, List.setIfInBounds_toArray, List.set_cons_zero, List.set_cons_succ]
          refine wpAnyH_done (by kernel_rfl) ?_ _
          (try go_wp2)
          go_meet
          refine ⟨_, _, _, rfl, rfl, rfl, by refine Below.drew ?_; repeat (first | exact Below.refl _ _ | refine Below.alloc ?_ (by simp <;> omega) _), ?_, ?_, ?_⟩ <;> first | exact (alloc3_all w1 _ _ _).1 | exact (alloc3_all w1 _ _ _).2.1 | exact (alloc3_all w1 _ _ _).2.2.1
        exact AllReadyH.nil
      refine AllReadyH.cons rfl (fun K hK => ?_) ?_
      · go_simp
        (refine hK.out _ _ (HSS.out _ (by repeat (first | exact Below.refl _ _ | refine Below.drew ?_ | refine Below.alloc ?_ (by simp <;> omega) _ | refine Below.setCell ?_ (by simp <;> omega) _))) (fun hHeld => ?_))
        clear hK K
        try simp only [Act.put, List.setIfInBounds_toArray, List.set_cons_zero, List.set_cons_succ]
        refine wpAnyH_ready (rs := [24]) (by kernel_rfl) (by simp) ?_
        refine AllReadyH.cons rfl (fun K hK => ?_) ?_
        · go_simp
          (refine hK.out _ _ (HSS.out _ (by repeat (first | exact Below.refl _ _ | refine Below.drew ?_ | refine Below.alloc ?_ (by simp <;> omega) _ | refine Below.setCell ?_ (by simp <;> omega) _))) (fun hHeld => ?_))
          clear hK K
          try simp only [Act.put, List.setIfInBounds_toArray, List.set_cons_zero, List.set_cons_succ]
          refine wpAnyH_ready (rs := [27]) (by kernel_rfl) (by simp) ?_
          refine AllReadyH.cons rfl (fun K hK => ?_) AllReadyH.nil
          go_simp
          (refine hK.out _ _ (HSS.out _ (by repeat (first | exact Below.refl _ _ | refine Below.drew ?_ | refine Below.alloc ?_ (by simp <;> omega) _ | refine Below.setCell ?_ (by simp <;> omega) _))) (fun hHeld => ?_))
          clear hK K
          try simp only [Act.put, List.setIfInBounds_toArray, List.set_cons_zero, List.set_cons_succ]
          refine wpAnyH_ready (rs := [28]) (by kernel_rfl) (by simp) ?_
          refine AllReadyH.cons rfl (fun K hK => ?_) AllReadyH.nil
          go_simp
          (refine hK.out _ _ (HSS.out _ (by repeat (first | exact Below.refl _ _ | refine Below.drew ?_ | refine Below.alloc ?_ (by simp <;> omega) _ | refine Below.setCell ?_ (by simp <;> omega) _))) (fun hHeld => ?_))
          clear hK K
          try simp only [Act.put, List.setIfInBounds_toArray, List.set_cons_zero, List.set_cons_succ]
          refine wpAnyH_ready (rs := [29]) (by kernel_rfl) (by simp) ?_
          refine AllReadyH.cons rfl (fun K hK => ?_) AllReadyH.nil
          go_simp
          (refine hK.out _ _ (HSS.out _ (by repeat (first | exact Below.refl _ _ | refine Below.drew ?_ | refine Below.alloc ?_ (by simp <;> omega) _ | refine Below.setCell ?_ (by simp <;> omega) _))) (fun hHeld => ?_))
          clear hK K
          try simp only [Act.put, List.setIfInBounds_toArray, List.set_cons_zero, List.set_cons_succ]
          refine wpAnyH_done (by kernel_rfl) ?_ _
          (try go_wp2)
          go_meet
          refine ⟨_, _, _, rfl, rfl, rfl, by refine Below.drew ?_; repeat (first | exact Below.refl _ _ | refine Below.alloc ?_ (by simp <;> omega) _), ?_, ?_, ?_⟩ <;> first | exact (alloc3_all w1 _ _ _).1 | exact (alloc3_all w1 _ _ _).2.1 | exact (alloc3_all w1 _ _ _).2.2.1
        exact AllReadyH.nil
      exact AllReadyH.nil
    refine AllReadyH.cons rfl (fun K hK => ?_) ?_
    · go_simp
      (refine hK.out _ _ (HSS.out _ (by repeat (first | exact Below.refl _ _ | refine Below.drew ?_ | refine Below.alloc ?_ (by simp <;> omega) _ | refine Below.setCell ?_ (by simp <;> omega) _))) (fun hHeld => ?_))
      clear hK K
      try simp only [Act.put, List.setIfInBounds_toArray, List.set_cons_zero, List.set_cons_succ]
      refine wpAnyH_ready (rs := [24, 25]) (by kernel_rfl) (by simp) ?_
      refine AllReadyH.cons rfl (fun K hK => ?_) ?_
      · go_simp
        (refine hK.out _ _ (HSS.out _ (by repeat (first | exact Below.refl _ _ | refine Below.drew ?_ | refine Below.alloc ?_ (by simp <;> omega) _ | refine Below.setCell ?_ (by simp <;> omega) _))) (fun hHeld => ?_))
        clear hK K
        try simp only [Act.put, List.setIfInBounds_toArray, List.set_cons_zero, List.set_cons_succ]
        refine wpAnyH_ready (rs := [25]) (by kernel_rfl) (by simp) ?_
        refine AllReadyH.cons rfl (fun K hK => ?_) ?_
        · go_simp
          (refine hK.out _ _ (HSS.out _ (by repeat (first | exact Below.refl _ _ | refine Below.drew ?_ | refine Below.alloc ?_ (by simp <;> omega) _ | refine Below.setCell ?_ (by simp <;> omega) _))) (fun hHeld => ?_))
          clear hK K
          try simp only [Act.put, List.setIfInBounds_toArray, List.set_cons_zero, List.set_cons_succ]
          refine wpAnyH_ready (rs := [27]) (by kernel_rfl) (by simp) ?_
          refine AllReadyH.cons rfl (fun K hK => ?_) AllReadyH.nil
          go_simp
          (refine hK.out _ _ (HSS.out _ (by repeat (first | exact Below.refl _ _ | refine Below.drew ?_ | refine Below.alloc ?_ (by simp <;> omega) _ | refine Below.setCell ?_ (by simp <;> omega) _))) (fun hHeld => ?_))
          clear hK K
          try simp only [Act.put, List.setIfInBounds_toArray, List.set_cons_zero, List.set_cons_succ]
          refine wpAnyH_ready (rs := [28]) (by kernel_rfl) (by simp) ?_
          refine AllReadyH.cons rfl (fun K hK => ?_) AllReadyH.nil
          go_simp
          (refine hK.out _ _ (HSS.out _ (by repeat (first | exact Below.refl _ _ | refine Below.drew ?_ | refine Below.alloc ?_ (by simp <;> omega) _ | refine Below.setCell ?_ (by simp <;> omega) _))) (fun hHeld => ?_))
          clear hK K
          try simp only [Act.put, List.setIfInBounds_toArray, List.set_cons_zero, List.set_cons_succ]
          refine wpAnyH_ready (rs := [29]) (by kernel_rfl) (by simp) ?_
          refine AllReadyH.cons rfl (fun K hK => ?_) AllReadyH.nil
          go_simp
          (refine hK.out _ _ (HSS.out _ (by repeat (first | exact Below.refl _ _ | refine Below.drew ?_ | refine Below.alloc ?_ (by simp <;> omega) _ | refine Below.setCell ?_ (by simp <;> omega) _))) (fun hHeld => ?_))
          clear hK K
          try simp only [Act.put, List.setIfInBounds_toArray, List.set_cons_zero, List.set_cons_succ]
          refine wpAnyH_done (by kernel_rfl) ?_ _
          (try go_wp2)
          go_meet
          refine ⟨_, _, _, rfl, rfl, rfl, by refine Below.drew ?_; repeat (first | exact Below.refl _ _ | refine Below.alloc ?_ (by simp <;> omega) _), ?_, ?_, ?_⟩ <;> first | exact (alloc3_all w1 _ _ _).1 | exact (alloc3_all w1 _ _ _).2.1 | exact (alloc3_all w1 _ _ _).2.2.1
        exact AllReadyH.nil
      refine AllReadyH.cons rfl (fun K hK => ?_) ?_
      · go_simp
        (refine hK.out _ _ (HSS.out _ (by repeat (first | exact Below.refl _ _ | refine Below.drew ?_ | refine Below.alloc ?_ (by simp <;> omega) _ | refine Below.setCell ?_ (by simp <;> omega) _))) (fun hHeld => ?_))
        clear hK K
        try simp only [Act.put, List.setIfInBounds_toArray, List.set_cons_zero, List.set_cons_succ]
        refine wpAnyH_ready (rs := [24]) (by kernel_rfl) (by simp) ?_
        refine AllReadyH.cons rfl (fun K hK => ?_) ?_
        · go_simp
          (refine hK.out _ _ (HSS.out _ (by repeat (first | exact Below.refl _ _ | refine Below.drew ?_ | refine Below.alloc ?_ (by simp <;> omega) _ | refine Below.setCell ?_ (by simp <;> omega) _))) (fun hHeld => ?_))
          clear hK K
          try simp only [Act.put, List.setIfInBounds_toArray, List.set_cons_zero, List.set_cons_succ]
          refine wpAnyH_ready (rs := [27]) (by kernel_rfl) (by simp) ?_
          refine AllReadyH.cons rfl (fun K hK => ?_) AllReadyH.nil
          go_simp
          (refine hK.out _ _ (HSS.out _ (by repeat (first | exact Below.refl _ _ | refine Below.drew ?_ | refine Below.alloc ?_ (by simp <;> omega) _ | refine Below.setCell ?_ (by simp <;> omega) _))) (fun hHeld => ?_))
          clear hK K
          try simp only [Act.put, List.setIfInBounds_toArray, List.set_cons_zero, List.set_cons_succ]
          refine wpAnyH_ready (rs := [28]) (by kernel_rfl) (by simp) ?_
          refine AllReadyH.cons rfl (fun K hK => ?_) AllReadyH.nil
          go_simp
          (refine hK.out _ _ (HSS.out _ (by repeat (first | exact Below.refl _ _ | refine Below.drew ?_ | refine Below.alloc ?_ (by simp <;> omega) _ | refine Below.setCell ?_ (by simp <;> omega) _))) (fun hHeld => ?_))
          clear hK K
          try simp only [Act.put, List.setIfInBounds_toArray, List.set_cons_zero, List.set_cons_succ]
          refine wpAnyH_ready (rs := [29]) (by kernel_rfl) (by simp) ?_
          refine AllReadyH.cons rfl (fun K hK => ?_) AllReadyH.nil
          go_simp
          (refine hK.out _ _ (HSS.out _ (by repeat (first | exact Below.refl _ _ | refine Below.drew ?_ | refine Below.alloc ?_ (by simp <;> omega) _ | refine Below.setCell ?_ (by simp <;> omega) _))) (fun hHeld => ?_))
          clear hK K
          try simp only [Act.put, List.setIfInBounds_toArray, List.set_cons_zero, List.set_cons_succ]
          refine wpAnyH_done (by kernel_rfl) ?_ _
          (try go_wp2)
          go_meet
          refine ⟨_, _, _, rfl, rfl, rfl, by refine Below.drew ?_; repeat (first | exact Below.refl _ _ | refine Below.alloc ?_ (by simp <;> omega) _), ?_, ?_, ?_⟩ <;> first | exact (alloc3_all w1 _ _ _).1 | exact (alloc3_all w1 _ _ _).2.1 | exact (alloc3_all w1 _ _ _).2.2.1
        exact AllReadyH.nil
      exact AllReadyH.nil
    exact AllReadyH.nil
  case rest =>
    obtain ⟨b6, b7, b8, rfl, rfl, rfl, hbc, h6, h7, h8⟩ := hcut
    obtain ⟨hn1, hn2, hn3, hLw, hbw⟩ := HY.out
    obtain ⟨wq, hwq⟩ : ∃ wq, wq = wc := ⟨_, rfl⟩
    subst hwq
    have hL := hLw.on hbc
    have HLL := Lib.hid (And.intro hL (And.intro (hbw.trans (hbc.mono hbw.size)) (And.intro hn1.1 hn1.wt)))
    have hV : Vars wq [(b6, z1), (b7, z2), (b8, z3)] := ⟨⟨s1, g1, h6, hn1.below hbc⟩, ⟨s2, g2, h7, hn2.below hbc⟩, ⟨s3, g3, h8, hn3.below hbc⟩, trivial⟩
    have HV := Lib.hid hV
    have HB := Lib.hid (Below.refl wq.heap.size wq)
    clear hbc h6 h7 h8 hn1 hn2 hn3 hLw hbw hL hV HY HSS hR1 hR2 hR3 hc0 hc1 hc2 q0 q1 q2 q3 q4 q5 hne1 hne2 hne3 hne4 hne5 hne6 hnw1 hnw2 hnw3 hnw4 hnw5 hnw6 k0 k1 k2 k3 k4 k5 hbl hbge hwl
    clear s1 s2 s3 g1 g2 g3
    go_upto_region 3 with fail
    go_cut [9, 10] from 61 to 66 (fun vd ve wx => Below wq.heap.size wq wx ∧ ∃ b, vd = .pointer (some ⟨b, 0, none⟩) ∧ ve = .int .i64 (errS z1 z2) ∧ Vars wx ((b, valS z1 z2) :: [(b6, z1), (b7, z2), (b8, z3)]))
    case first =>
      as_aux_lemma =>
        obtain ⟨sv1, gv1, pv1, nv1⟩ := HV.out.get (b := b6) (z := z1) (by simp)
        obtain ⟨yv1, yw1⟩ := num_cells pv1
        obtain ⟨sv2, gv2, pv2, nv2⟩ := HV.out.get (b := b7) (z := z2) (by simp)
        obtain ⟨yv2, yw2⟩ := num_cells pv2
        have hc := (HLL.out.1.on HB.out).shiftE nv1 nv2
        have HCC := Lib.hid hc
        clear hc pv1 nv1 pv2 nv2
        go_wp2_with (first
          | (go_at_call 20; refine HCC.out.mono ?_; rintro e9 w9 ⟨r9, q9, rfl, hn9, hb9⟩
             have hbA := hb9.alloc hb9.size (.cells #[.int .i64 r9, .pointer q9] 29)
             have HD := Lib.hid (And.intro (HB.out.trans (hbA.mono HB.out.size)) (And.intro (NumAt.new hn9) (HV.out.below hbA)))
             clear hn9 hb9 hbA))
        go_meet
        exact ⟨HD.out.1, _, rfl, rfl, HD.out.2⟩
    obtain ⟨hbx, b9, rfl, rfl, hV⟩ := hcut
    obtain ⟨wn, hwn⟩ : ∃ wn, wn = wc := ⟨_, rfl⟩
    subst hwn
    have HB := Lib.hid hbx
    have HV := Lib.hid hV
    clear hbx hV
    go_upto_region 4 with fail
    go_cut [69] from 67 to 69 (fun t wx => t = .bool (decide (0 ≤ sgn z2)) ∧ Below wq.heap.size wq wx ∧ Vars wx [(b9, valS z1 z2), (b6, z1), (b7, z2), (b8, z3)])
    case first =>
      as_aux_lemma =>
        obtain ⟨sv0, gv0, pv0, nv0⟩ := HV.out.get (b := b7) (z := z2) (by simp)
        have hC : ∀ W, Below wn.heap.size wn W → W.cell? ⟨b7, 0, none⟩ = some (.int .i64 sv0) ∧ W.cell? ⟨b7, 1, none⟩ = some (.pointer gv0) := by
          intro W hW
          obtain ⟨a0, c0⟩ := num_cells ((hW.block _ (lt_of_some pv0)).trans pv0)
          exact ⟨a0, c0⟩
        have HC := Lib.hid hC
        have hLn := HLL.out.1.on HB.out
        have HS := Lib.hid (hLn.sign nv0)
        have HN := Lib.hid (Below.refl wn.heap.size wn)
        obtain ⟨yv0, yw0⟩ := hC _ (Below.refl _ _)
        clear pv0 nv0 hC hLn
        go_wp2_with (first
          | (go_at_call 29; with_reducible refine (HS.out _ HN.out).mono ?_; rintro e5 w5 ⟨rfl, hb5⟩
             obtain ⟨yv0, yw0⟩ := HC.out _ hb5
             have HN := Lib.hid hb5
             clear hb5))
        go_meet
        exact ⟨by first | rfl | simp, HB.out.trans (HN.out.mono HB.out.size), HV.out.below HN.out⟩
    obtain ⟨rfl, hbx, hV⟩ := hcut
    obtain ⟨wn, hwn⟩ : ∃ wn, wn = wc := ⟨_, rfl⟩
    subst hwn
    have HB := Lib.hid hbx
    have HV := Lib.hid hV
    clear hbx hV
    go_upto_if 69 with fail
    go_cut [] from 69 to 125 (fun wx => Below wq.heap.size wq wx ∧ Vars wx [(b9, valS z1 z2), (b6, z1), (b7, z2), (b8, z3)])
    case first =>
      cases hcc : (decide (0 ≤ sgn z2))
      rotate_left
      · have hy0 : 0 ≤ z2 := by
          have h := of_decide_eq_true hcc
          unfold sgn at h
          by_cases hz : z2 < 0
          · rw [if_pos hz] at h; omega
          · omega
        have HY0 := Lib.hid hy0
        clear hy0 hcc
        go_upto_region 5 with fail
        go_cut [11, 12] from 70 to 75 (fun vd ve wx => Below wq.heap.size wq wx ∧ ∃ b, vd = .pointer (some ⟨b, 0, none⟩) ∧ ve = .int .i64 (errS 1 z2) ∧ Vars wx ((b, valS 1 z2) :: [(b9, valS z1 z2), (b6, z1), (b7, z2), (b8, z3)]))
        case first =>
          as_aux_lemma =>
            obtain ⟨sv0, gv0, pv0, nv0⟩ := HV.out.get (b := b7) (z := z2) (by simp)
            have hC : ∀ W, Below wn.heap.size wn W → W.cell? ⟨b7, 0, none⟩ = some (.int .i64 sv0) ∧ W.cell? ⟨b7, 1, none⟩ = some (.pointer gv0) := by
              intro W hW
              obtain ⟨a0, c0⟩ := num_cells ((hW.block _ (lt_of_some pv0)).trans pv0)
              exact ⟨a0, c0⟩
            have HC := Lib.hid hC
            have hLn := HLL.out.1.on HB.out
            have hM : ∀ W, Below wn.heap.size wn W → Calls Tryd.prog 20 #[.agg #[.int .i64 (1), .pointer none], .agg #[.int .i64 sv0, .pointer gv0]] W fun e w' => ∃ (r : Int) (q : Option Addr), e = .returned (.tuple #[.agg #[.int .i64 r, .pointer q], .int .i64 (errS 1 z2)]) ∧ NumA cold w' r q (valS 1 z2) ∧ Below W.heap.size W w' := by
              intro W hW
              have h := (hLn.on hW).shiftE (NumA.small (B := cold) W (show i64 (1) by unfold i64; omega)) (nv0.below hW)
              exact h
            obtain ⟨yv0, yw0⟩ := hC _ (Below.refl _ _)
            have HM := Lib.hid hM
            clear hM hC hLn pv0 nv0
            first
              | go_region_held3 (fun w' => w'.cell? ⟨b7, 0, none⟩ = some (.int .i64 sv0) ∧ w'.cell? ⟨b7, 1, none⟩ = some (.pointer gv0)) (first | exact HC.out _ HW4.out | exact HC.out _ ((HW4.out.setCell (by first | exact Nat.le_refl _ | exact HW3.out.size) _).setCell (by first | exact Nat.le_refl _ | exact HW3.out.size) _) | exact HC.out _ (HW4.out.alloc HW4.out.size _) | exact HC.out _ HW3.out | exact HC.out _ (HW3.out.alloc HW3.out.size _) | exact HC.out _ (by repeat (first | exact Below.refl _ _ | refine Below.drew ?_ | refine Below.alloc ?_ (by simp) _)) | (go_keep; done))
                (first
                | (go_at_call 20; refine (HM.out _ (by first | exact HW3.out | exact HW3.out.alloc HW3.out.size _)).mono ?_; rintro e4 w4 ⟨r4, q4, rfl, hn4, hb4⟩
                   have hw4 : Below wn.heap.size wn w4 := Below.trans (by first | exact HW3.out | exact HW3.out.alloc HW3.out.size _) (hb4.mono (by have := HW3.out.size; first | exact this | (simp; omega)))
                   (first
                     | (have z4 := (hb4.block w3.heap.size (by simp)).trans (heap_alloc_new w3 (.cells #[.int .i64 0, .pointer none] 29))
                        obtain ⟨z40, z41⟩ := num_cells z4
                        obtain ⟨z42, z43⟩ := num_frozen z4
                        have HZ4 := Lib.hid z4
                        clear z4)
                     | (have z4 := (hb4.block wn.heap.size (lt_ofO HZ3.out)).trans HZ3.out
                        obtain ⟨z40, z41⟩ := num_cells z4
                        obtain ⟨z42, z43⟩ := num_frozen z4
                        have HZ4 := Lib.hid z4
                        clear z4)
                     | skip)
                   have HW4 := Lib.hid hw4
                   have H4 := Lib.hid hn4
                   clear hn4 hb4 hw4)
                | (go_at_call 18; refine (of_calls _ _).mono ?_; rintro e3 w3 ⟨rfl, hb3⟩
                   have hw3 : Below wn.heap.size wn w3 := Below.trans (by repeat (first | exact Below.refl _ _ | refine Below.drew ?_ | refine Below.alloc ?_ (by simp) _)) (hb3.mono (by first | exact Nat.le_refl _ | simp))
                   (first
                     | (have z3 := (hb3.block wn.heap.size (by simp)).trans (heap_alloc_new wn (.cells #[.int .i64 0, .pointer none] 29))
                        have HZ3 := Lib.hid z3
                        clear z3)
                     | skip)
                   have HW3 := Lib.hid hw3
                   clear hb3 hw3))
              | fail
            all_goals
              (try go_wp2)
              go_meet
              first
                | exact ⟨HB.out.trans ((HW4.out.alloc HW4.out.size _).mono HB.out.size), _, rfl, rfl, NumAt.new H4.out, HV.out.below (HW4.out.alloc HW4.out.size _)⟩
                | exact ⟨HB.out.trans (((HW4.out.setCell (by first | exact Nat.le_refl _ | exact HW3.out.size) _).setCell (by first | exact Nat.le_refl _ | exact HW3.out.size) _).mono HB.out.size), _, rfl, rfl, NumAt.put HZ4.out H4.out, HV.out.below ((HW4.out.setCell (by first | exact Nat.le_refl _ | exact HW3.out.size) _).setCell (by first | exact Nat.le_refl _ | exact HW3.out.size) _)⟩
        obtain ⟨hbx, b11, rfl, rfl, hV⟩ := hcut
        obtain ⟨wn, hwn⟩ : ∃ wn, wn = wc := ⟨_, rfl⟩
        subst hwn
        have HB := Lib.hid hbx
        have HV := Lib.hid hV
        clear hbx hV
        go_upto_region 6 with fail
        go_cut [13, 14] from 76 to 81 (fun vd ve wx => Below wq.heap.size wq wx ∧ ∃ b, vd = .pointer (some ⟨b, 0, none⟩) ∧ ve = .int .i64 (errM z1 (valS 1 z2)) ∧ Vars wx ((b, valM z1 (valS 1 z2)) :: [(b11, valS 1 z2), (b9, valS z1 z2), (b6, z1), (b7, z2), (b8, z3)]))
        case first =>
          as_aux_lemma =>
            obtain ⟨sv1, gv1, pv1, nv1⟩ := HV.out.get (b := b6) (z := z1) (by simp)
            obtain ⟨yv1, yw1⟩ := num_cells pv1
            obtain ⟨sv2, gv2, pv2, nv2⟩ := HV.out.get (b := b11) (z := valS 1 z2) (by simp)
            obtain ⟨yv2, yw2⟩ := num_cells pv2
            have hc := (HLL.out.1.on HB.out).mulE nv1 nv2
            have HCC := Lib.hid hc
            clear hc pv1 nv1 pv2 nv2
            go_wp2_with (first
              | (go_at_call 19; refine HCC.out.mono ?_; rintro e9 w9 ⟨r9, q9, rfl, hn9, hb9⟩
                 have hbA := hb9.alloc hb9.size (.cells #[.int .i64 r9, .pointer q9] 29)
                 have HD := Lib.hid (And.intro (HB.out.trans (hbA.mono HB.out.size)) (And.intro (NumAt.new hn9) (HV.out.below hbA)))
                 clear hn9 hb9 hbA))
            go_meet
            exact ⟨HD.out.1, _, rfl, rfl, HD.out.2⟩
        obtain ⟨hbx, b13, rfl, rfl, hV⟩ := hcut
        obtain ⟨wn, hwn⟩ : ∃ wn, wn = wc := ⟨_, rfl⟩
        subst hwn
        have HB := Lib.hid hbx
        have HV := Lib.hid hV
        clear hbx hV
        go_upto_region 7 with fail
        go_cut [94] from 82 to 94 (fun t wx => t = .bool false ∧ Below wq.heap.size wq wx ∧ Vars wx [(b13, valM z1 (valS 1 z2)), (b11, valS 1 z2), (b9, valS z1 z2), (b6, z1), (b7, z2), (b8, z3)])
        case first =>
          as_aux_lemma =>
            obtain ⟨sv0, gv0, pv0, nv0⟩ := HV.out.get (b := b9) (z := valS z1 z2) (by simp)
            obtain ⟨sv1, gv1, pv1, nv1⟩ := HV.out.get (b := b13) (z := valM z1 (valS 1 z2)) (by simp)
            have hC : ∀ W, Below wn.heap.size wn W → W.cell? ⟨b9, 0, none⟩ = some (.int .i64 sv0) ∧ W.cell? ⟨b9, 1, none⟩ = some (.pointer gv0) ∧ W.cell? ⟨b13, 0, none⟩ = some (.int .i64 sv1) ∧ W.cell? ⟨b13, 1, none⟩ = some (.pointer gv1) := by
              intro W hW
              obtain ⟨a0, c0⟩ := num_cells ((hW.block _ (lt_of_some pv0)).trans pv0)
              obtain ⟨a1, c1⟩ := num_cells ((hW.block _ (lt_of_some pv1)).trans pv1)
              exact ⟨a0, c0, a1, c1⟩
            have HC := Lib.hid hC
            have hLn := HLL.out.1.on HB.out
            have hs := hLn.same nv0 nv1
            have hp : errS 1 z2 = 0 → errS z1 z2 = errM z1 (valS 1 z2) ∧ decide (valS z1 z2 = valM z1 (valS 1 z2)) = true := fun h => by
              have k := shift_product HLL.out.2.2.2 wtOne3 HY0.out h (wt_power HY0.out h)
              exact ⟨k.1, by rw [k.2]; simp⟩
            have HN := Lib.hid (Below.refl wn.heap.size wn)
            obtain ⟨yv0, yw0, yv1, yw1⟩ := hC _ (Below.refl _ _)
            generalize errS 1 z2 = ee0 at *
            generalize errS z1 z2 = ee1 at *
            generalize errM z1 (valS 1 z2) = ee2 at *
            clear pv0 pv1 nv0 nv1 hC hLn
            by_cases he0 : ee0 = 0
            · subst he0
              obtain ⟨h1, h2⟩ := hp rfl
              subst h1
              rw [h2] at hs
              have HS1 := Lib.hid hs
              have hne : (ee1 != ee1) = false := by simp
              clear hs hp h2
              go_wp2_with (first
                | (go_at_call 25; with_reducible refine (HS1.out _ HN.out).mono ?_; rintro e5 w5 ⟨rfl, hb5⟩
                   obtain ⟨yv0, yw0, yv1, yw1⟩ := HC.out _ hb5
                   have HN := Lib.hid hb5
                   clear hb5))
              go_meet
              exact ⟨by simp, HB.out.trans (HN.out.mono HB.out.size), HV.out.below HN.out⟩
            · have hf0 : (ee0 == 0) = false := by rw [beq_eq_false_iff_ne]; exact he0
              clear hs hp he0
              go_wp2_with fail
              go_meet
              exact ⟨by simp, HB.out, HV.out⟩
        obtain ⟨rfl, hbx, hV⟩ := hcut
        obtain ⟨wn, hwn⟩ : ∃ wn, wn = wc := ⟨_, rfl⟩
        subst hwn
        have HB := Lib.hid hbx
        have HV := Lib.hid hV
        clear hbx hV
        go_wp2_with fail
        go_meet
        exact ⟨HB.out, HV.out.2.2⟩
      · have hy0 : z2 < 0 := by
          have h := of_decide_eq_false hcc
          unfold sgn at h
          by_cases hz : z2 < 0
          · exact hz
          · rw [if_neg hz] at h; split at h <;> omega
        clear hcc
        go_upto_region 9 with fail
        obtain ⟨sv0, gv0, pv0, nv0⟩ := HV.out.get (b := b6) (z := z1) (by simp)
        have hC : ∀ W, Below wn.heap.size wn W → W.cell? ⟨b6, 0, none⟩ = some (.int .i64 sv0) ∧ W.cell? ⟨b6, 1, none⟩ = some (.pointer gv0) := by
          intro W hW
          obtain ⟨a0, c0⟩ := num_cells ((hW.block _ (lt_of_some pv0)).trans pv0)
          exact ⟨a0, c0⟩
        have HC := Lib.hid hC
        have hLn := HLL.out.1.on HB.out
        have HT := Lib.hid (hLn.terms nv0)
        obtain ⟨yv0, yw0⟩ := hC _ (Below.refl _ _)
        clear pv0 nv0 hC hLn
        go_upto_region 11 with (first
          | (go_at_call 28; refine (HT.out _ (Below.refl _ _)).mono ?_; rintro e5 w5 ⟨a5, c5, ts, rfl, hl5, ho5, hf5, hb5⟩
             have H5 := Lib.hid (And.intro hl5 (And.intro ho5 (And.intro hf5 hb5)))
             clear hl5 ho5 hf5 hb5))
        obtain ⟨hl5, ho5, hf5, hb5⟩ := H5.out
        clear HC HT H5
        obtain ⟨wn0, hwn0⟩ : ∃ wn0, wn0 = wn := ⟨_, rfl⟩
        subst hwn0
        have HB0 := HB
        have HB := Lib.hid (HB0.out.trans (hb5.mono HB0.out.size))
        have HV0 := HV
        have HV := Lib.hid (HV0.out.below hb5)
        clear HB0 HV0
        by_cases hw0 : wt z1 = 0
        · have hne : (errS z1 z2 == 4) = false := by
            rw [beq_eq_false_iff_ne]; exact fun h => errS_4.1 h (reaches_none hw0 z2)
          rw [hw0] at hl5
          have hl0 : ¬ (0 : Int) < (ts.length : Int) := by omega
          generalize ts.length = N at *
          generalize errS z1 z2 = ee1 at *
          clear hw0 hl5 ho5 hf5 hb5 hy0
          go_wp2_with fail
          go_meet
          exact ⟨HB.out, HV.out⟩
        · obtain ⟨n, hn⟩ : ∃ n, wt z1 = n + 1 := ⟨wt z1 - 1, by omega⟩
          obtain ⟨l, t, hlt, hll⟩ := last_of hn
          rw [hn] at hl5
          obtain ⟨tm, tsg, tg, hin, hti, htm, hnt⟩ := hf5.last hlt hl5
          obtain ⟨b, rfl⟩ : ∃ b, a5 = some ⟨b, 0, none⟩ := by
            obtain ⟨_, h2⟩ := ho5
            rcases h2 with ⟨e, _⟩ | ⟨g', cap, cur, ev, _⟩
            · simp only [Value.slice.injEq] at e; omega
            · cases ev; exact ⟨g', rfl⟩
          obtain ⟨x0, x1, x2⟩ := RowC.term (RowV.of_own ho5).rowC n hin
          rw [hti] at x1 x2
          clear x0 hti
          simp only [Nat.zero_add] at x1 x2
          have hn300 : n ≤ 300 := by have := HLL.out.2.2.2; omega
          have hbl := (ho5.lt b rfl).2
          obtain ⟨sv0, gv0, pv0, nv0⟩ := HV.out.get (b := b7) (z := z2) (by simp)
          have hLn := HLL.out.1.on HB.out
          have hA := hLn.addE hnt nv0
          have hC : ∀ W, Below w5.heap.size w5 W → W.cell? ⟨b, n * 3 + 1, none⟩ = some (.int .i64 tsg) ∧ W.cell? ⟨b, n * 3 + 2, none⟩ = some (.pointer tg) ∧ W.cell? ⟨b7, 0, none⟩ = some (.int .i64 sv0) ∧ W.cell? ⟨b7, 1, none⟩ = some (.pointer gv0) := fun W hW => by
            obtain ⟨a0, c0⟩ := num_cells ((hW.block _ (lt_of_some pv0)).trans pv0)
            exact ⟨(hW.cell (p := ⟨b, n * 3 + 1, none⟩) hbl).trans x1, (hW.cell (p := ⟨b, n * 3 + 2, none⟩) hbl).trans x2, a0, c0⟩
          obtain ⟨_, _, yv0, yw0⟩ := hC _ (Below.refl _ _)
          have hle5 : ts.length = n + 1 := hl5
          clear hin ho5 hf5 hl5
          generalize hNN : ts.length = N at *
          have hl0 : (0 : Int) < (N : Int) := by omega
          have hidx : ((N : Int) - 1).toNat = n := by omega
          have hw1 : IntKind.i64.wrap ((N : Int) - 1) = (N : Int) - 1 := IntWalk.i64_in _ (by omega)
          have k0 : (1 : Int) ≤ (N : Int) := by omega
          have k9 : (N : Int) ≤ 9223372036854775807 := by omega
          have k2 : (0 : Int) ≤ (N : Int) - 1 := by omega
          have k3 : (N : Int) - 1 < (N : Int) := by omega
          have hE := fun h => err_other (y := z2) hlt h
          have HA : ∀ W, Below w5.heap.size w5 W → Calls Tryd.prog 16 #[.agg #[.int .i64 tsg, .pointer tg], .agg #[.int .i64 sv0, .pointer gv0]] W fun e w' => ∃ (r : Int) (q : Option Addr), e = .returned (.tuple #[.agg #[.int .i64 r, .pointer q], .int .i64 (errA ((t.2 : Int) + z2))]) ∧ NumA cold w' r q (valA ((t.2 : Int) + z2)) ∧ Below W.heap.size W w' := fun W hW => (hLn.on hW).addE (hnt.below hW) (nv0.below hW)
          have HA := Lib.hid HA
          have HC := Lib.hid hC
          have HE := Lib.hid hE
          clear hE hC hA hLn hNN hn hll hlt htm hb5 hle5 hw0 hy0 pv0 nv0 hnt hbl
          go_upto_region 12 with fail
          go_cut [17, 18] from 97 to 111 (fun vd ve wx => Below wq.heap.size wq wx ∧ ∃ b, vd = .pointer (some ⟨b, 0, none⟩) ∧ ve = .int .i64 (errA ((t.2 : Int) + z2)) ∧ Vars wx ((b, valA ((t.2 : Int) + z2)) :: [(b9, valS z1 z2), (b6, z1), (b7, z2), (b8, z3)]))
          case first =>
            as_aux_lemma =>
              first
                | go_region_held3 (fun w' => w'.cell? ⟨b, n * 3 + 1, none⟩ = some (.int .i64 tsg) ∧ w'.cell? ⟨b, n * 3 + 2, none⟩ = some (.pointer tg) ∧ w'.cell? ⟨b7, 0, none⟩ = some (.int .i64 sv0) ∧ w'.cell? ⟨b7, 1, none⟩ = some (.pointer gv0)) (first | exact HC.out _ HW4.out | exact HC.out _ (HW4.out.alloc HW4.out.size _) | exact HC.out _ ((HW4.out.setCell (by first | exact Nat.le_refl _ | simp) _).setCell (by first | exact Nat.le_refl _ | simp) _) | exact HC.out _ (by repeat (first | exact Below.refl _ _ | refine Below.drew ?_ | refine Below.alloc ?_ (by simp) _)) | (go_keep; done))
                  (first
                  | (go_at_call 16; refine (HA.out _ (by repeat (first | exact Below.refl _ _ | refine Below.drew ?_ | refine Below.alloc ?_ (by simp) _))).mono ?_; rintro e4 w4 ⟨r4, q4, rfl, hn4, hb4⟩
                     have hw4 : Below w5.heap.size w5 w4 := Below.trans (by repeat (first | exact Below.refl _ _ | refine Below.drew ?_ | refine Below.alloc ?_ (by simp) _)) (hb4.mono (by first | exact Nat.le_refl _ | simp))
                     (first
                       | (have z4 := (hb4.block w5.heap.size (by simp)).trans (heap_alloc_new w5 (.cells #[.int .i64 0, .pointer none] 29))
                          obtain ⟨z40, z41⟩ := num_cells z4
                          obtain ⟨z42, z43⟩ := num_frozen z4
                          have HZ4 := Lib.hid z4
                          clear z4)
                       | skip)
                     have HW4 := Lib.hid hw4
                     have H4 := Lib.hid hn4
                     clear hn4 hb4 hw4))
                | fail
              all_goals
                (try go_wp2)
                go_meet
                first
                  | exact ⟨HB.out.trans ((HW4.out.alloc HW4.out.size _).mono HB.out.size), _, rfl, rfl, NumAt.new H4.out, HV.out.below (HW4.out.alloc HW4.out.size _)⟩
                  | exact ⟨HB.out.trans (((HW4.out.setCell (by first | exact Nat.le_refl _ | simp) _).setCell (by first | exact Nat.le_refl _ | simp) _).mono HB.out.size), _, rfl, rfl, NumAt.put HZ4.out H4.out, HV.out.below ((HW4.out.setCell (by first | exact Nat.le_refl _ | simp) _).setCell (by first | exact Nat.le_refl _ | simp) _)⟩
          obtain ⟨hbx, b17, rfl, rfl, hV⟩ := hcut
          clear HC HA x1 x2 yv0 yw0
          obtain ⟨wn, hwn⟩ : ∃ wn, wn = wc := ⟨_, rfl⟩
          subst hwn
          have HB := Lib.hid hbx
          have HV := Lib.hid hV
          clear hbx hV
          by_cases heA : errA ((t.2 : Int) + z2) = 0
          rotate_left
          · have hf0 : (errA ((t.2 : Int) + z2) != 0) = true := by simp [heA]
            generalize errA ((t.2 : Int) + z2) = ee0 at *
            generalize errS z1 z2 = ee1 at *
            clear heA HE
            have HAW := Lib.hid ((HLL.out.1.on HB.out).awake)
            go_wp2_with (first
              | (go_at_call 13; with_reducible refine (HAW.out _ (by repeat (first | exact Below.refl _ _ | refine Below.drew ?_))).mono ?_; rintro e5 w5 ⟨rfl, hb5⟩
                 have HN := Lib.hid hb5
                 clear hb5))
            refine bodyPost_ret (v := .bool true) (by simp [results, Tryd.results7, go_sem, *]) rfl ⟨rfl, HLL.out.2.1.trans ((HB.out.trans (HN.out.mono HB.out.size)).mono HLL.out.2.1.size)⟩
          · have hE := HE.out heA
            rw [heA]
            obtain ⟨sv0, gv0, pv0, nv0⟩ := HV.out.get (b := b17) (z := valA ((t.2 : Int) + z2)) (by simp)
            have hC : ∀ W, Below wn.heap.size wn W → W.cell? ⟨b17, 0, none⟩ = some (.int .i64 sv0) ∧ W.cell? ⟨b17, 1, none⟩ = some (.pointer gv0) := by
              intro W hW
              obtain ⟨a0, c0⟩ := num_cells ((hW.block _ (lt_of_some pv0)).trans pv0)
              exact ⟨a0, c0⟩
            have HC := Lib.hid hC
            have hLn := HLL.out.1.on HB.out
            have HS := Lib.hid (hLn.sign nv0)
            have HN := Lib.hid (Below.refl wn.heap.size wn)
            obtain ⟨yv0, yw0⟩ := hC _ (Below.refl _ _)
            generalize sgn (valA ((t.2 : Int) + z2)) = sv at *
            generalize errS z1 z2 = ee1 at *
            have hx : ((ee1 == 4) == decide (0 ≤ sv)) = false := by rw [hE]; cases decide (0 ≤ sv) <;> rfl
            clear pv0 nv0 hC hLn hE heA
            go_wp2_with (first
              | (go_at_call 29; with_reducible refine (HS.out _ HN.out).mono ?_; rintro e5 w5 ⟨rfl, hb5⟩
                 obtain ⟨yv0, yw0⟩ := HC.out _ hb5
                 have HN := Lib.hid hb5
                 clear hb5))
            go_meet
            exact ⟨HB.out.trans (HN.out.mono HB.out.size), (HV.out.below HN.out).2⟩
    obtain ⟨hbx, hV⟩ := hcut
    obtain ⟨wn, hwn⟩ : ∃ wn, wn = wc := ⟨_, rfl⟩
    subst hwn
    have HB := Lib.hid hbx
    have HV := Lib.hid hV
    clear hbx hV
    by_cases hE : errS z1 z2 = 0
    rotate_left
    · have hf0 : (errS z1 z2 != 0) = true := by simp [hE]
      generalize errS z1 z2 = ee1 at *
      clear hE
      have HAW := Lib.hid ((HLL.out.1.on HB.out).awake)
      go_wp2_with (first
        | (go_at_call 13; with_reducible refine (HAW.out _ (by repeat (first | exact Below.refl _ _ | refine Below.drew ?_))).mono ?_; rintro e5 w5 ⟨rfl, hb5⟩
           have HN := Lib.hid hb5
           clear hb5))
      refine bodyPost_ret (v := .bool true) (by simp [results, Tryd.results7, go_sem, *]) rfl ⟨rfl, HLL.out.2.1.trans ((HB.out.trans (HN.out.mono HB.out.size)).mono HLL.out.2.1.size)⟩
    obtain ⟨hr, hal, hval⟩ := errS_0 hE
    rw [hE]
    have hbk := shift_back hr
    have HS := Lib.hid (And.intro hr (And.intro hal (And.intro hval hbk)))
    clear hE hr hal hval hbk
    go_upto_region 20 with fail
    go_cut [19, 20] from 129 to 135 (fun vd ve wx => Below wq.heap.size wq wx ∧ ∃ b, vd = .pointer (some ⟨b, 0, none⟩) ∧ ve = .int .i64 (0) ∧ Vars wx ((b, z1) :: [(b9, valS z1 z2), (b6, z1), (b7, z2), (b8, z3)]))
    case first =>
      as_aux_lemma =>
        obtain ⟨sv0, gv0, pv0, nv0⟩ := HV.out.get (b := b9) (z := valS z1 z2) (by simp)
        obtain ⟨sv1, gv1, pv1, nv1⟩ := HV.out.get (b := b7) (z := z2) (by simp)
        have hC : ∀ W, Below wn.heap.size wn W → W.cell? ⟨b9, 0, none⟩ = some (.int .i64 sv0) ∧ W.cell? ⟨b9, 1, none⟩ = some (.pointer gv0) ∧ W.cell? ⟨b7, 0, none⟩ = some (.int .i64 sv1) ∧ W.cell? ⟨b7, 1, none⟩ = some (.pointer gv1) := by
          intro W hW
          obtain ⟨a0, c0⟩ := num_cells ((hW.block _ (lt_of_some pv0)).trans pv0)
          obtain ⟨a1, c1⟩ := num_cells ((hW.block _ (lt_of_some pv1)).trans pv1)
          exact ⟨a0, c0, a1, c1⟩
        have HC := Lib.hid hC
        have hLn := HLL.out.1.on HB.out
        have hM : ∀ (W : World) (r0 : Int) (q0 : Option Addr), Below wn.heap.size wn W → NumA cold W r0 q0 (-(z2)) → Calls Tryd.prog 20 #[.agg #[.int .i64 sv0, .pointer gv0], .agg #[.int .i64 r0, .pointer q0]] W fun e w' => ∃ (r : Int) (q : Option Addr), e = .returned (.tuple #[.agg #[.int .i64 r, .pointer q], .int .i64 (0)]) ∧ NumA cold w' r q (z1) ∧ Below W.heap.size W w' := by
          intro W r0 q0 hW hn0
          have h := (hLn.on hW).shiftE (nv0.below hW) hn0
          rw [HS.out.2.2.1, (errS_yes HS.out.2.2.2.1 (by rw [HS.out.2.2.2.2]; exact HLL.out.2.2.1)).1, (errS_yes HS.out.2.2.2.1 (by rw [HS.out.2.2.2.2]; exact HLL.out.2.2.1)).2, HS.out.2.2.2.2] at h
          exact h
        obtain ⟨yv0, yw0, yv1, yw1⟩ := hC _ (Below.refl _ _)
        have HM := Lib.hid hM
        have hG : ∀ (W : World), Below wn.heap.size wn W → Calls Tryd.prog 26 #[.agg #[.int .i64 sv1, .pointer gv1]] W fun e w' => ∃ (r : Int) (q : Option Addr), e = .returned (.agg #[.int .i64 r, .pointer q]) ∧ NumA cold w' r q (-(z2)) ∧ Below W.heap.size W w' := fun W hW => by
          refine (Neg_calls (nv1.below hW).cold (hLn W hW).1 (hLn W hW).2 (fun k hk => hk.elim)).mono ?_
          rintro e w' ⟨r, q, rfl, hn, hb⟩
          exact ⟨r, q, rfl, hn, hb⟩
        have HG := Lib.hid hG
        clear hG
        clear hM hC hLn pv0 nv0 pv1 nv1
        first
          | go_region_held3 (fun w' => w'.cell? ⟨b9, 0, none⟩ = some (.int .i64 sv0) ∧ w'.cell? ⟨b9, 1, none⟩ = some (.pointer gv0) ∧ w'.cell? ⟨b7, 0, none⟩ = some (.int .i64 sv1) ∧ w'.cell? ⟨b7, 1, none⟩ = some (.pointer gv1)) (first | exact HC.out _ HW4.out | exact HC.out _ ((HW4.out.setCell (by first | exact Nat.le_refl _ | exact HW3.out.size) _).setCell (by first | exact Nat.le_refl _ | exact HW3.out.size) _) | exact HC.out _ (HW4.out.alloc HW4.out.size _) | exact HC.out _ HW3.out | exact HC.out _ (HW3.out.alloc HW3.out.size _) | exact HC.out _ (by repeat (first | exact Below.refl _ _ | refine Below.drew ?_ | refine Below.alloc ?_ (by simp) _)) | (go_keep; done))
            (first
            | (go_at_call 20; refine (HM.out _ _ _ (by first | exact HW3.out | exact HW3.out.alloc HW3.out.size _) (by first | exact H3.out | exact H3.out.below ((Below.refl _ _).alloc (Nat.le_refl _) _))).mono ?_; rintro e4 w4 ⟨r4, q4, rfl, hn4, hb4⟩
               have hw4 : Below wn.heap.size wn w4 := Below.trans (by first | exact HW3.out | exact HW3.out.alloc HW3.out.size _) (hb4.mono (by have := HW3.out.size; first | exact this | (simp; omega)))
               (first
                 | (have z4 := (hb4.block w3.heap.size (by simp)).trans (heap_alloc_new w3 (.cells #[.int .i64 0, .pointer none] 29))
                    obtain ⟨z40, z41⟩ := num_cells z4
                    obtain ⟨z42, z43⟩ := num_frozen z4
                    have HZ4 := Lib.hid z4
                    clear z4)
                 | (have z4 := (hb4.block wn.heap.size (lt_ofO HZ3.out)).trans HZ3.out
                    obtain ⟨z40, z41⟩ := num_cells z4
                    obtain ⟨z42, z43⟩ := num_frozen z4
                    have HZ4 := Lib.hid z4
                    clear z4)
                 | skip)
               have HW4 := Lib.hid hw4
               have H4 := Lib.hid hn4
               clear hn4 hb4 hw4)
            | (go_at_call 26; refine (HG.out _ (by repeat (first | exact Below.refl _ _ | refine Below.drew ?_ | refine Below.alloc ?_ (by simp) _))).mono ?_; rintro e3 w3 ⟨r3, q3, rfl, hn3, hb3⟩
               have hw3 : Below wn.heap.size wn w3 := Below.trans (by repeat (first | exact Below.refl _ _ | refine Below.drew ?_ | refine Below.alloc ?_ (by simp) _)) (hb3.mono (by first | exact Nat.le_refl _ | simp))
               (first
                 | (have z3 := (hb3.block wn.heap.size (by simp)).trans (heap_alloc_new wn (.cells #[.int .i64 0, .pointer none] 29))
                    have HZ3 := Lib.hid z3
                    clear z3)
                 | skip)
               have HW3 := Lib.hid hw3
               have H3 := Lib.hid hn3; clear hn3; clear hb3 hw3))
          | fail
        all_goals
          (try go_wp2)
          go_meet
          first
            | exact ⟨HB.out.trans ((HW4.out.alloc HW4.out.size _).mono HB.out.size), _, rfl, rfl, NumAt.new H4.out, HV.out.below (HW4.out.alloc HW4.out.size _)⟩
            | exact ⟨HB.out.trans (((HW4.out.setCell (by first | exact Nat.le_refl _ | exact HW3.out.size) _).setCell (by first | exact Nat.le_refl _ | exact HW3.out.size) _).mono HB.out.size), _, rfl, rfl, NumAt.put HZ4.out H4.out, HV.out.below ((HW4.out.setCell (by first | exact Nat.le_refl _ | exact HW3.out.size) _).setCell (by first | exact Nat.le_refl _ | exact HW3.out.size) _)⟩
    obtain ⟨hbx, b19, rfl, rfl, hV⟩ := hcut
    obtain ⟨wn, hwn⟩ : ∃ wn, wn = wc := ⟨_, rfl⟩
    subst hwn
    have HB := Lib.hid hbx
    have HV := Lib.hid hV
    clear hbx hV
    go_upto_region 21 with fail
    go_cut [143] from 136 to 143 (fun t wx => t = .bool false ∧ Below wq.heap.size wq wx ∧ Vars wx [(b19, z1), (b9, valS z1 z2), (b6, z1), (b7, z2), (b8, z3)])
    case first =>
      as_aux_lemma =>
        obtain ⟨sv0, gv0, pv0, nv0⟩ := HV.out.get (b := b19) (z := z1) (by simp)
        obtain ⟨sv1, gv1, pv1, nv1⟩ := HV.out.get (b := b6) (z := z1) (by simp)
        have hC : ∀ W, Below wn.heap.size wn W → W.cell? ⟨b19, 0, none⟩ = some (.int .i64 sv0) ∧ W.cell? ⟨b19, 1, none⟩ = some (.pointer gv0) ∧ W.cell? ⟨b6, 0, none⟩ = some (.int .i64 sv1) ∧ W.cell? ⟨b6, 1, none⟩ = some (.pointer gv1) := by
          intro W hW
          obtain ⟨a0, c0⟩ := num_cells ((hW.block _ (lt_of_some pv0)).trans pv0)
          obtain ⟨a1, c1⟩ := num_cells ((hW.block _ (lt_of_some pv1)).trans pv1)
          exact ⟨a0, c0, a1, c1⟩
        have HC := Lib.hid hC
        have hLn := HLL.out.1.on HB.out
        have HS1 := Lib.hid (hLn.same nv0 nv1)
        have HN := Lib.hid (Below.refl wn.heap.size wn)
        obtain ⟨yv0, yw0, yv1, yw1⟩ := hC _ (Below.refl _ _)
        clear pv0 pv1 nv0 nv1 hC hLn
        go_wp2_with (first
          | (go_at_call 25; with_reducible refine (HS1.out _ HN.out).mono ?_; rintro e5 w5 ⟨rfl, hb5⟩
             obtain ⟨yv0, yw0, yv1, yw1⟩ := HC.out _ hb5
             have HN := Lib.hid hb5
             clear hb5))
        go_meet
        exact ⟨by simp, HB.out.trans (HN.out.mono HB.out.size), HV.out.below HN.out⟩
    obtain ⟨rfl, hbx, hV⟩ := hcut
    obtain ⟨wn, hwn⟩ : ∃ wn, wn = wc := ⟨_, rfl⟩
    subst hwn
    have HB := Lib.hid hbx
    have HV := Lib.hid hV
    clear hbx hV
    go_upto_region 23 with fail
    go_cut [21, 22] from 144 to 149 (fun vd ve wx => Below wq.heap.size wq wx ∧ ∃ b, vd = .pointer (some ⟨b, 0, none⟩) ∧ ve = .int .i64 (errS (valS z1 z2) z3) ∧ Vars wx ((b, valS (valS z1 z2) z3) :: [(b19, z1), (b9, valS z1 z2), (b6, z1), (b7, z2), (b8, z3)]))
    case first =>
      as_aux_lemma =>
        obtain ⟨sv1, gv1, pv1, nv1⟩ := HV.out.get (b := b9) (z := valS z1 z2) (by simp)
        obtain ⟨yv1, yw1⟩ := num_cells pv1
        obtain ⟨sv2, gv2, pv2, nv2⟩ := HV.out.get (b := b8) (z := z3) (by simp)
        obtain ⟨yv2, yw2⟩ := num_cells pv2
        have hc := (HLL.out.1.on HB.out).shiftE nv1 nv2
        have HCC := Lib.hid hc
        clear hc pv1 nv1 pv2 nv2
        go_wp2_with (first
          | (go_at_call 20; refine HCC.out.mono ?_; rintro e9 w9 ⟨r9, q9, rfl, hn9, hb9⟩
             have hbA := hb9.alloc hb9.size (.cells #[.int .i64 r9, .pointer q9] 29)
             have HD := Lib.hid (And.intro (HB.out.trans (hbA.mono HB.out.size)) (And.intro (NumAt.new hn9) (HV.out.below hbA)))
             clear hn9 hb9 hbA))
        go_meet
        exact ⟨HD.out.1, _, rfl, rfl, HD.out.2⟩
    obtain ⟨hbx, b21, rfl, rfl, hV⟩ := hcut
    obtain ⟨wn, hwn⟩ : ∃ wn, wn = wc := ⟨_, rfl⟩
    subst hwn
    have HB := Lib.hid hbx
    have HV := Lib.hid hV
    clear hbx hV
    go_upto_region 24 with fail
    go_cut [23, 24] from 150 to 155 (fun vd ve wx => Below wq.heap.size wq wx ∧ ∃ b, vd = .pointer (some ⟨b, 0, none⟩) ∧ ve = .int .i64 (errA (z2 + z3)) ∧ Vars wx ((b, valA (z2 + z3)) :: [(b21, valS (valS z1 z2) z3), (b19, z1), (b9, valS z1 z2), (b6, z1), (b7, z2), (b8, z3)]))
    case first =>
      as_aux_lemma =>
        obtain ⟨sv1, gv1, pv1, nv1⟩ := HV.out.get (b := b7) (z := z2) (by simp)
        obtain ⟨yv1, yw1⟩ := num_cells pv1
        obtain ⟨sv2, gv2, pv2, nv2⟩ := HV.out.get (b := b8) (z := z3) (by simp)
        obtain ⟨yv2, yw2⟩ := num_cells pv2
        have hc := (HLL.out.1.on HB.out).addE nv1 nv2
        have HCC := Lib.hid hc
        clear hc pv1 nv1 pv2 nv2
        go_wp2_with (first
          | (go_at_call 16; refine HCC.out.mono ?_; rintro e9 w9 ⟨r9, q9, rfl, hn9, hb9⟩
             have hbA := hb9.alloc hb9.size (.cells #[.int .i64 r9, .pointer q9] 29)
             have HD := Lib.hid (And.intro (HB.out.trans (hbA.mono HB.out.size)) (And.intro (NumAt.new hn9) (HV.out.below hbA)))
             clear hn9 hb9 hbA))
        go_meet
        exact ⟨HD.out.1, _, rfl, rfl, HD.out.2⟩
    obtain ⟨hbx, b23, rfl, rfl, hV⟩ := hcut
    obtain ⟨wn, hwn⟩ : ∃ wn, wn = wc := ⟨_, rfl⟩
    subst hwn
    have HB := Lib.hid hbx
    have HV := Lib.hid hV
    clear hbx hV
    go_upto_region 25 with fail
    go_cut [157] from 156 to 157 (fun t wx => t = .bool (errA (z2 + z3) == 0) ∧ wx = wn)
    case first =>
      as_aux_lemma =>
        generalize errA (z2 + z3) = ee0 at *
        by_cases he0 : ee0 = 0
        · subst he0
          go_wp2_with fail
          go_meet
          exact ⟨by simp [*], rfl⟩
        · have hf0 : (ee0 == 0) = false := by rw [beq_eq_false_iff_ne]; exact he0
          go_wp2_with fail
          go_meet
          exact ⟨by simp [hf0], rfl⟩
    obtain ⟨rfl, hwx⟩ := hcut
    have hwx2 := hwx.symm
    clear hwx
    subst hwx2
    go_upto_if 157 with fail
    go_cut [] from 157 to 175 (fun wx => Below wq.heap.size wq wx ∧ Vars wx [(b23, valA (z2 + z3)), (b21, valS (valS z1 z2) z3), (b19, z1), (b9, valS z1 z2), (b6, z1), (b7, z2), (b8, z3)])
    case first =>
      cases hcc : (errA (z2 + z3) == 0)
      · go_wp2_with fail
        go_meet
        exact ⟨HB.out, HV.out⟩
      · skip
        have HA := Lib.hid (errA_0 (by simpa using hcc))
        clear hcc
        go_upto_region 26 with fail
        go_cut [25, 26] from 158 to 163 (fun vd ve wx => Below wq.heap.size wq wx ∧ ∃ b, vd = .pointer (some ⟨b, 0, none⟩) ∧ ve = .int .i64 (errS z1 (z2 + z3)) ∧ Vars wx ((b, valS z1 (z2 + z3)) :: [(b23, valA (z2 + z3)), (b21, valS (valS z1 z2) z3), (b19, z1), (b9, valS z1 z2), (b6, z1), (b7, z2), (b8, z3)]))
        case first =>
          as_aux_lemma =>
            obtain ⟨sv1, gv1, pv1, nv1⟩ := HV.out.get (b := b6) (z := z1) (by simp)
            obtain ⟨yv1, yw1⟩ := num_cells pv1
            obtain ⟨sv2, gv2, pv2, nv2⟩ := HV.out.get (b := b23) (z := valA (z2 + z3)) (by simp)
            obtain ⟨yv2, yw2⟩ := num_cells pv2
            have hc := (HLL.out.1.on HB.out).shiftE nv1 nv2
            rw [HA.out.2] at hc
            have HCC := Lib.hid hc
            clear hc pv1 nv1 pv2 nv2
            go_wp2_with (first
              | (go_at_call 20; refine HCC.out.mono ?_; rintro e9 w9 ⟨r9, q9, rfl, hn9, hb9⟩
                 have hbA := hb9.alloc hb9.size (.cells #[.int .i64 r9, .pointer q9] 29)
                 have HD := Lib.hid (And.intro (HB.out.trans (hbA.mono HB.out.size)) (And.intro (NumAt.new hn9) (HV.out.below hbA)))
                 clear hn9 hb9 hbA))
            go_meet
            exact ⟨HD.out.1, _, rfl, rfl, HD.out.2⟩
        obtain ⟨hbx, b25, rfl, rfl, hV⟩ := hcut
        obtain ⟨wn, hwn⟩ : ∃ wn, wn = wc := ⟨_, rfl⟩
        subst hwn
        have HB := Lib.hid hbx
        have HV := Lib.hid hV
        clear hbx hV
        go_upto_region 27 with fail
        go_cut [175] from 164 to 175 (fun t wx => t = .bool false ∧ Below wq.heap.size wq wx ∧ Vars wx [(b25, valS z1 (z2 + z3)), (b23, valA (z2 + z3)), (b21, valS (valS z1 z2) z3), (b19, z1), (b9, valS z1 z2), (b6, z1), (b7, z2), (b8, z3)])
        case first =>
          as_aux_lemma =>
            obtain ⟨sv0, gv0, pv0, nv0⟩ := HV.out.get (b := b21) (z := valS (valS z1 z2) z3) (by simp)
            obtain ⟨sv1, gv1, pv1, nv1⟩ := HV.out.get (b := b25) (z := valS z1 (z2 + z3)) (by simp)
            have hC : ∀ W, Below wn.heap.size wn W → W.cell? ⟨b21, 0, none⟩ = some (.int .i64 sv0) ∧ W.cell? ⟨b21, 1, none⟩ = some (.pointer gv0) ∧ W.cell? ⟨b25, 0, none⟩ = some (.int .i64 sv1) ∧ W.cell? ⟨b25, 1, none⟩ = some (.pointer gv1) := by
              intro W hW
              obtain ⟨a0, c0⟩ := num_cells ((hW.block _ (lt_of_some pv0)).trans pv0)
              obtain ⟨a1, c1⟩ := num_cells ((hW.block _ (lt_of_some pv1)).trans pv1)
              exact ⟨a0, c0, a1, c1⟩
            have HC := Lib.hid hC
            have hLn := HLL.out.1.on HB.out
            have hs := hLn.same nv0 nv1
            have hp : errS (valS z1 z2) z3 = 0 → errS z1 (z2 + z3) = 0 ∧ decide (valS (valS z1 z2) z3 = valS z1 (z2 + z3)) = true := fun h => by
              obtain ⟨k1, k2, k3⟩ := errS_0 h
              rw [HS.out.2.2.1] at k1 k2 k3
              rw [reaches_comp HS.out.1] at k1
              rw [shiftZ_comp HS.out.1] at k2 k3
              rw [HS.out.2.2.1, k3, (errS_yes k1 k2).1, (errS_yes k1 k2).2]
              exact ⟨rfl, by simp⟩
            have HN := Lib.hid (Below.refl wn.heap.size wn)
            obtain ⟨yv0, yw0, yv1, yw1⟩ := hC _ (Below.refl _ _)
            generalize errS (valS z1 z2) z3 = ee0 at *
            generalize errS z1 (z2 + z3) = ee1 at *
            clear pv0 pv1 nv0 nv1 hC hLn
            by_cases he0 : ee0 = 0
            · subst he0
              obtain ⟨h1, h2⟩ := hp rfl
              subst h1
              rw [h2] at hs
              have HS1 := Lib.hid hs
              clear hs hp h2
              go_wp2_with (first
                | (go_at_call 25; with_reducible refine (HS1.out _ HN.out).mono ?_; rintro e5 w5 ⟨rfl, hb5⟩
                   obtain ⟨yv0, yw0, yv1, yw1⟩ := HC.out _ hb5
                   have HN := Lib.hid hb5
                   clear hb5))
              go_meet
              exact ⟨by simp, HB.out.trans (HN.out.mono HB.out.size), HV.out.below HN.out⟩
            · have hf0 : (ee0 == 0) = false := by rw [beq_eq_false_iff_ne]; exact he0
              clear hs hp he0
              go_wp2_with fail
              go_meet
              exact ⟨by simp, HB.out, HV.out⟩
        obtain ⟨rfl, hbx, hV⟩ := hcut
        obtain ⟨wn, hwn⟩ : ∃ wn, wn = wc := ⟨_, rfl⟩
        subst hwn
        have HB := Lib.hid hbx
        have HV := Lib.hid hV
        clear hbx hV
        go_wp2_with fail
        go_meet
        exact ⟨HB.out, HV.out.2⟩
    obtain ⟨hbx, hV⟩ := hcut
    obtain ⟨wn, hwn⟩ : ∃ wn, wn = wc := ⟨_, rfl⟩
    subst hwn
    have HB := Lib.hid hbx
    have HV := Lib.hid hV
    clear hbx hV
    go_upto_region 29 with fail
    go_cut [27, 28] from 176 to 181 (fun vd ve wx => Below wq.heap.size wq wx ∧ ∃ b, vd = .pointer (some ⟨b, 0, none⟩) ∧ ve = .int .i64 (errA (z1 + z3)) ∧ Vars wx ((b, valA (z1 + z3)) :: [(b23, valA (z2 + z3)), (b21, valS (valS z1 z2) z3), (b19, z1), (b9, valS z1 z2), (b6, z1), (b7, z2), (b8, z3)]))
    case first =>
      as_aux_lemma =>
        obtain ⟨sv1, gv1, pv1, nv1⟩ := HV.out.get (b := b6) (z := z1) (by simp)
        obtain ⟨yv1, yw1⟩ := num_cells pv1
        obtain ⟨sv2, gv2, pv2, nv2⟩ := HV.out.get (b := b8) (z := z3) (by simp)
        obtain ⟨yv2, yw2⟩ := num_cells pv2
        have hc := (HLL.out.1.on HB.out).addE nv1 nv2
        have HCC := Lib.hid hc
        clear hc pv1 nv1 pv2 nv2
        go_wp2_with (first
          | (go_at_call 16; refine HCC.out.mono ?_; rintro e9 w9 ⟨r9, q9, rfl, hn9, hb9⟩
             have hbA := hb9.alloc hb9.size (.cells #[.int .i64 r9, .pointer q9] 29)
             have HD := Lib.hid (And.intro (HB.out.trans (hbA.mono HB.out.size)) (And.intro (NumAt.new hn9) (HV.out.below hbA)))
             clear hn9 hb9 hbA))
        go_meet
        exact ⟨HD.out.1, _, rfl, rfl, HD.out.2⟩
    obtain ⟨hbx, b27, rfl, rfl, hV⟩ := hcut
    obtain ⟨wn, hwn⟩ : ∃ wn, wn = wc := ⟨_, rfl⟩
    subst hwn
    have HB := Lib.hid hbx
    have HV := Lib.hid hV
    clear hbx hV
    go_upto_region 30 with fail
    go_cut [29, 30] from 182 to 187 (fun vd ve wx => Below wq.heap.size wq wx ∧ ∃ b, vd = .pointer (some ⟨b, 0, none⟩) ∧ ve = .int .i64 (errS z3 z2) ∧ Vars wx ((b, valS z3 z2) :: [(b27, valA (z1 + z3)), (b23, valA (z2 + z3)), (b21, valS (valS z1 z2) z3), (b19, z1), (b9, valS z1 z2), (b6, z1), (b7, z2), (b8, z3)]))
    case first =>
      as_aux_lemma =>
        obtain ⟨sv1, gv1, pv1, nv1⟩ := HV.out.get (b := b8) (z := z3) (by simp)
        obtain ⟨yv1, yw1⟩ := num_cells pv1
        obtain ⟨sv2, gv2, pv2, nv2⟩ := HV.out.get (b := b7) (z := z2) (by simp)
        obtain ⟨yv2, yw2⟩ := num_cells pv2
        have hc := (HLL.out.1.on HB.out).shiftE nv1 nv2
        have HCC := Lib.hid hc
        clear hc pv1 nv1 pv2 nv2
        go_wp2_with (first
          | (go_at_call 20; refine HCC.out.mono ?_; rintro e9 w9 ⟨r9, q9, rfl, hn9, hb9⟩
             have hbA := hb9.alloc hb9.size (.cells #[.int .i64 r9, .pointer q9] 29)
             have HD := Lib.hid (And.intro (HB.out.trans (hbA.mono HB.out.size)) (And.intro (NumAt.new hn9) (HV.out.below hbA)))
             clear hn9 hb9 hbA))
        go_meet
        exact ⟨HD.out.1, _, rfl, rfl, HD.out.2⟩
    obtain ⟨hbx, b29, rfl, rfl, hV⟩ := hcut
    obtain ⟨wn, hwn⟩ : ∃ wn, wn = wc := ⟨_, rfl⟩
    subst hwn
    have HB := Lib.hid hbx
    have HV := Lib.hid hV
    clear hbx hV
    go_upto_region 31 with fail
    go_cut [193] from 188 to 193 (fun t wx => t = .bool (errA (z1 + z3) == 0 && errS z3 z2 == 0) ∧ wx = wn)
    case first =>
      as_aux_lemma =>
        generalize errA (z1 + z3) = ee0 at *
        generalize errS z3 z2 = ee1 at *
        by_cases he0 : ee0 = 0
        · subst he0
          by_cases he1 : ee1 = 0
          · subst he1
            go_wp2_with fail
            go_meet
            exact ⟨by simp [*], rfl⟩
          · have hf1 : (ee1 == 0) = false := by rw [beq_eq_false_iff_ne]; exact he1
            go_wp2_with fail
            go_meet
            exact ⟨by simp [hf1], rfl⟩
        · have hf0 : (ee0 == 0) = false := by rw [beq_eq_false_iff_ne]; exact he0
          go_wp2_with fail
          go_meet
          exact ⟨by simp [hf0], rfl⟩
    obtain ⟨rfl, hwx⟩ := hcut
    have hwx2 := hwx.symm
    clear hwx
    subst hwx2
    go_upto_if 193 with fail
    go_cut [] from 193 to 217 (fun wx => Below wq.heap.size wq wx ∧ Vars wx [(b29, valS z3 z2), (b27, valA (z1 + z3)), (b23, valA (z2 + z3)), (b21, valS (valS z1 z2) z3), (b19, z1), (b9, valS z1 z2), (b6, z1), (b7, z2), (b8, z3)])
    case first =>
      cases hcc : (errA (z1 + z3) == 0 && errS z3 z2 == 0)
      · go_wp2_with fail
        go_meet
        exact ⟨HB.out, HV.out⟩
      · rw [Bool.and_eq_true] at hcc
        have HA := Lib.hid (And.intro (errA_0 (by simpa using hcc.1)) (errS_0 (by simpa using hcc.2)))
        clear hcc
        go_upto_region 32 with fail
        go_cut [31, 32] from 194 to 199 (fun vd ve wx => Below wq.heap.size wq wx ∧ ∃ b, vd = .pointer (some ⟨b, 0, none⟩) ∧ ve = .int .i64 (errS (z1 + z3) z2) ∧ Vars wx ((b, valS (z1 + z3) z2) :: [(b29, valS z3 z2), (b27, valA (z1 + z3)), (b23, valA (z2 + z3)), (b21, valS (valS z1 z2) z3), (b19, z1), (b9, valS z1 z2), (b6, z1), (b7, z2), (b8, z3)]))
        case first =>
          as_aux_lemma =>
            obtain ⟨sv1, gv1, pv1, nv1⟩ := HV.out.get (b := b27) (z := valA (z1 + z3)) (by simp)
            obtain ⟨yv1, yw1⟩ := num_cells pv1
            obtain ⟨sv2, gv2, pv2, nv2⟩ := HV.out.get (b := b7) (z := z2) (by simp)
            obtain ⟨yv2, yw2⟩ := num_cells pv2
            have hc := (HLL.out.1.on HB.out).shiftE nv1 nv2
            rw [HA.out.1.2] at hc
            have HCC := Lib.hid hc
            clear hc pv1 nv1 pv2 nv2
            go_wp2_with (first
              | (go_at_call 20; refine HCC.out.mono ?_; rintro e9 w9 ⟨r9, q9, rfl, hn9, hb9⟩
                 have hbA := hb9.alloc hb9.size (.cells #[.int .i64 r9, .pointer q9] 29)
                 have HD := Lib.hid (And.intro (HB.out.trans (hbA.mono HB.out.size)) (And.intro (NumAt.new hn9) (HV.out.below hbA)))
                 clear hn9 hb9 hbA))
            go_meet
            exact ⟨HD.out.1, _, rfl, rfl, HD.out.2⟩
        obtain ⟨hbx, b31, rfl, rfl, hV⟩ := hcut
        obtain ⟨wn, hwn⟩ : ∃ wn, wn = wc := ⟨_, rfl⟩
        subst hwn
        have HB := Lib.hid hbx
        have HV := Lib.hid hV
        clear hbx hV
        go_upto_region 33 with fail
        go_cut [33, 34] from 200 to 205 (fun vd ve wx => Below wq.heap.size wq wx ∧ ∃ b, vd = .pointer (some ⟨b, 0, none⟩) ∧ ve = .int .i64 (errA (valS z1 z2 + valS z3 z2)) ∧ Vars wx ((b, valA (valS z1 z2 + valS z3 z2)) :: [(b31, valS (z1 + z3) z2), (b29, valS z3 z2), (b27, valA (z1 + z3)), (b23, valA (z2 + z3)), (b21, valS (valS z1 z2) z3), (b19, z1), (b9, valS z1 z2), (b6, z1), (b7, z2), (b8, z3)]))
        case first =>
          as_aux_lemma =>
            obtain ⟨sv1, gv1, pv1, nv1⟩ := HV.out.get (b := b9) (z := valS z1 z2) (by simp)
            obtain ⟨yv1, yw1⟩ := num_cells pv1
            obtain ⟨sv2, gv2, pv2, nv2⟩ := HV.out.get (b := b29) (z := valS z3 z2) (by simp)
            obtain ⟨yv2, yw2⟩ := num_cells pv2
            have hc := (HLL.out.1.on HB.out).addE nv1 nv2
            have HCC := Lib.hid hc
            clear hc pv1 nv1 pv2 nv2
            go_wp2_with (first
              | (go_at_call 16; refine HCC.out.mono ?_; rintro e9 w9 ⟨r9, q9, rfl, hn9, hb9⟩
                 have hbA := hb9.alloc hb9.size (.cells #[.int .i64 r9, .pointer q9] 29)
                 have HD := Lib.hid (And.intro (HB.out.trans (hbA.mono HB.out.size)) (And.intro (NumAt.new hn9) (HV.out.below hbA)))
                 clear hn9 hb9 hbA))
            go_meet
            exact ⟨HD.out.1, _, rfl, rfl, HD.out.2⟩
        obtain ⟨hbx, b33, rfl, rfl, hV⟩ := hcut
        obtain ⟨wn, hwn⟩ : ∃ wn, wn = wc := ⟨_, rfl⟩
        subst hwn
        have HB := Lib.hid hbx
        have HV := Lib.hid hV
        clear hbx hV
        go_upto_region 34 with fail
        go_cut [217] from 206 to 217 (fun t wx => t = .bool false ∧ Below wq.heap.size wq wx ∧ Vars wx [(b33, valA (valS z1 z2 + valS z3 z2)), (b31, valS (z1 + z3) z2), (b29, valS z3 z2), (b27, valA (z1 + z3)), (b23, valA (z2 + z3)), (b21, valS (valS z1 z2) z3), (b19, z1), (b9, valS z1 z2), (b6, z1), (b7, z2), (b8, z3)])
        case first =>
          as_aux_lemma =>
            obtain ⟨sv0, gv0, pv0, nv0⟩ := HV.out.get (b := b31) (z := valS (z1 + z3) z2) (by simp)
            obtain ⟨sv1, gv1, pv1, nv1⟩ := HV.out.get (b := b33) (z := valA (valS z1 z2 + valS z3 z2)) (by simp)
            have hC : ∀ W, Below wn.heap.size wn W → W.cell? ⟨b31, 0, none⟩ = some (.int .i64 sv0) ∧ W.cell? ⟨b31, 1, none⟩ = some (.pointer gv0) ∧ W.cell? ⟨b33, 0, none⟩ = some (.int .i64 sv1) ∧ W.cell? ⟨b33, 1, none⟩ = some (.pointer gv1) := by
              intro W hW
              obtain ⟨a0, c0⟩ := num_cells ((hW.block _ (lt_of_some pv0)).trans pv0)
              obtain ⟨a1, c1⟩ := num_cells ((hW.block _ (lt_of_some pv1)).trans pv1)
              exact ⟨a0, c0, a1, c1⟩
            have HC := Lib.hid hC
            have hLn := HLL.out.1.on HB.out
            have hs := hLn.same nv0 nv1
            have hp : errS (z1 + z3) z2 = 0 → errA (valS z1 z2 + valS z3 z2) = 0 → decide (valS (z1 + z3) z2 = valA (valS z1 z2 + valS z3 z2)) = true := fun h h2 => by
              obtain ⟨k1, k2, k3⟩ := errS_0 h
              rw [k3, (errA_0 h2).2, HS.out.2.2.1, HA.out.2.2.2, shift_add HS.out.1 HA.out.2.1 k1]; simp
            have HN := Lib.hid (Below.refl wn.heap.size wn)
            obtain ⟨yv0, yw0, yv1, yw1⟩ := hC _ (Below.refl _ _)
            generalize errS (z1 + z3) z2 = ee0 at *
            generalize errA (valS z1 z2 + valS z3 z2) = ee1 at *
            clear pv0 pv1 nv0 nv1 hC hLn
            by_cases he0 : ee0 = 0
            · subst he0
              by_cases he1 : ee1 = 0
              · subst he1
                rw [hp rfl rfl] at hs
                have HS1 := Lib.hid hs
                clear hs hp
                go_wp2_with (first
                  | (go_at_call 25; with_reducible refine (HS1.out _ HN.out).mono ?_; rintro e5 w5 ⟨rfl, hb5⟩
                     obtain ⟨yv0, yw0, yv1, yw1⟩ := HC.out _ hb5
                     have HN := Lib.hid hb5
                     clear hb5))
                go_meet
                exact ⟨by simp, HB.out.trans (HN.out.mono HB.out.size), HV.out.below HN.out⟩
              · have hf1 : (ee1 == 0) = false := by rw [beq_eq_false_iff_ne]; exact he1
                clear hs hp he1
                go_wp2_with fail
                go_meet
                exact ⟨by simp, HB.out, HV.out⟩
            · have hf0 : (ee0 == 0) = false := by rw [beq_eq_false_iff_ne]; exact he0
              clear hs hp he0
              go_wp2_with fail
              go_meet
              exact ⟨by simp, HB.out, HV.out⟩
        obtain ⟨rfl, hbx, hV⟩ := hcut
        obtain ⟨wn, hwn⟩ : ∃ wn, wn = wc := ⟨_, rfl⟩
        subst hwn
        have HB := Lib.hid hbx
        have HV := Lib.hid hV
        clear hbx hV
        go_wp2_with fail
        go_meet
        exact ⟨HB.out, HV.out.2.2⟩
    obtain ⟨hbx, hV⟩ := hcut
    obtain ⟨wn, hwn⟩ : ∃ wn, wn = wc := ⟨_, rfl⟩
    subst hwn
    have HB := Lib.hid hbx
    have HV := Lib.hid hV
    clear hbx hV
    have HAW := Lib.hid ((HLL.out.1.on HB.out).awake)
    go_wp2_with (first
      | (go_at_call 13; with_reducible refine (HAW.out _ (by repeat (first | exact Below.refl _ _ | refine Below.drew ?_))).mono ?_; rintro e5 w5 ⟨rfl, hb5⟩
         have HN := Lib.hid hb5
         clear hb5))
    refine bodyPost_ret (v := .bool true) (by simp [results, Tryd.results7, go_sem, *]) rfl ⟨rfl, HLL.out.2.1.trans ((HB.out.trans (HN.out.mono HB.out.size)).mono HLL.out.2.1.size)⟩
end Go.Proofs.YteochdnjpchdnaaDoor
