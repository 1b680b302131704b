import Derived.Test.YteochdnjpchdnaaDoorK2
set_option linter.unusedVariables false
set_option linter.unusedSimpArgs false
namespace Go.Proofs.YteochdnjpchdnaaDoor
open Go.RowKit
set_option linter.unusedVariables false

set_option maxRecDepth 100000 in
set_option maxHeartbeats 8000000 in
/-- ████ NumPowers -/
theorem NumPowers_calls {w : World} {v : Value} {os : List OV} (hr : RowV w 4 v os.length (flatO os)) (hi : ∀ o ∈ os, i64 o.2.1 ∧ i64 o.2.2.1 ∧ i64 o.2.2.2) (tab : Tab w) (h0 : 0 < w.heap.size) (a0 a1 : Int) (ia0 : i64 a0) (ia1 : i64 a1) :
    Calls Tryd.prog 8 #[v, .int .i64 a0, .int .i64 a1] w fun e w' => e = .returned (.bool true) ∧ Below w.heap.size w w' := by
  obtain ⟨ax, cx, rfl⟩ := hr.shape
  have hL := LawW.of tab h0 (Below.refl w.heap.size w)
  have hMade := made_calls (w := w) hr hi tab h0
  have HX := Lib.hid (And.intro hL (And.intro ia0 ia1))
  clear hr hi tab h0 hL
  go_enter Tryd.func8, Tryd.ntmps8
  go_upto_region 2 with (first
    | (go_at_call 27; refine hMade.mono ?_; rintro e1 w1 ⟨a, n, c, rfl, hn3, hn27, hM⟩
       have H1 := Lib.hid hM
       clear hM))
  obtain ⟨ns, zs, hl, hown, hv, hb1, hm⟩ := H1.out
  obtain ⟨hL, ia0, ia1⟩ := HX.out
  obtain ⟨b, rfl⟩ : ∃ b, a = some ⟨b, 0, none⟩ := by
    obtain ⟨_, h2⟩ := hown
    rcases h2 with ⟨e, _⟩ | ⟨g', cap, cur, ev, _⟩
    · simp only [Value.slice.injEq] at e; omega
    · cases ev; exact ⟨g', rfl⟩
  have hbl := (hown.lt b rfl).2
  have hNn : (0 : Int) < (n : Int) := by omega
  obtain ⟨j1, hj1⟩ := Int.eq_ofNat_of_zero_le (Int.emod_nonneg a0 (show (n : Int) ≠ 0 by omega))
  obtain ⟨j2, hj2⟩ := Int.eq_ofNat_of_zero_le (Int.emod_nonneg a1 (show (n : Int) ≠ 0 by omega))
  have hl1 : j1 < n := by have := Int.emod_lt_of_pos a0 hNn; omega
  have hl2 : j2 < n := by have := Int.emod_lt_of_pos a1 hNn; omega
  have hR1 : ∀ W, Calls Tryd.prog 34 #[.int .i64 a0, .int .i64 (n : Int)] W fun e w' => e = .returned (.int .i64 (j1 : Int)) ∧ W = w' := fun W => by rw [← hj1]; exact rest_calls a0 _ ia0 hNn (by omega) W
  have hR2 : ∀ W, Calls Tryd.prog 34 #[.int .i64 a1, .int .i64 (n : Int)] W fun e w' => e = .returned (.int .i64 (j2 : Int)) ∧ W = w' := fun W => by rw [← hj2]; exact rest_calls a1 _ ia1 hNn (by omega) W
  subst hl
  have hzl := hv.len
  have hn1 := (hv.get j1 hl1 (by omega)).cold
  have hn2 := (hv.get j2 hl2 (by omega)).cold
  have hm1 := hm _ (List.getElem_mem (l := zs) (n := j1) (by omega))
  have hm2 := hm _ (List.getElem_mem (l := zs) (n := j2) (by omega))
  obtain ⟨q0, q1⟩ := RowC.num (RowV.of_own hown).rowC j1 hl1
  obtain ⟨q2, q3⟩ := RowC.num (RowV.of_own hown).rowC j2 hl2
  generalize ns[j1] = t1 at q0 q1 hn1
  generalize ns[j2] = t2 at q2 q3 hn2
  obtain ⟨s1, g1⟩ := t1
  obtain ⟨s2, g2⟩ := t2
  simp only [Nat.zero_add] at q0 q1 q2 q3 hn1 hn2
  generalize zs[j1]'(by omega) = z1 at hn1 hm1
  generalize zs[j2]'(by omega) = z2 at hn2 hm2
  have hLw := hL.on hb1
  have HY := Lib.hid (And.intro hn1 (And.intro hn2 (And.intro hLw (And.intro hb1 (And.intro hm1 hm2)))))
  generalize hpl : ns.length = L at *
  have k0 : (0 : Int) ≤ (j1 : Int) := by omega
  have k1 : (0 : Int) ≤ (j2 : Int) := by omega
  have k3 : (j1 : Int) < (L : Int) := by omega
  have k4 : (j2 : Int) < (L : Int) := by omega
  have hne1 : ¬ b = w1.heap.size := by omega
  have hne2 : ¬ w1.heap.size = b := by omega
  have hne3 : ¬ b = w1.heap.size + 1 := by omega
  have hne4 : ¬ w1.heap.size + 1 = b := by omega
  clear hpl hown hv hb1 hm hL ia0 ia1 hj1 hj2 hl1 hl2 hn1 hn2 hLw H1 HX hzl hn27 hn3 hNn hMade hm1 hm2
  go_cut [8, 9] from 25 to 38 (fun v6 v7 wx => PickT w1 s1 s2 g1 g2 v6 v7 wx)
  case first =>
    as_aux_lemma =>
    first
      | go_region_held3 (fun w' => w'.cell? ⟨b, j1 * 2, none⟩ = some (.int .i64 s1) ∧ w'.cell? ⟨b, j1 * 2 + 1, none⟩ = some (.pointer g1) ∧ w'.cell? ⟨b, j2 * 2, none⟩ = some (.int .i64 s2) ∧ w'.cell? ⟨b, j2 * 2 + 1, none⟩ = some (.pointer g2)) (first | (go_keep; done) | ((try dsimp only); refine ⟨?_, ?_, ?_, ?_⟩ <;> (go_keep; done)))
        (first
        | (have hq := H1
           go_at_call 34; refine (hR2 _).mono ?_; rintro e6 w6 ⟨rfl, rfl⟩)
        | (go_at_call 34; refine (hR1 _).mono ?_; rintro e5 w5 ⟨rfl, rfl⟩
           have H1 := Lib.hid True.intro))
      | fail
    all_goals
      (try go_wp2)
      go_meet
      first | exact pick_new _ _ _ _ _ | exact pick_new' _ _ _ _ _
  case rest =>
    obtain ⟨b8, b9, rfl, rfl, hbx, h8, h9, hge8, hge9, hne⟩ := hcut
    obtain ⟨hn1, hn2, hLw, hbw, hm1, hm2⟩ := HY.out
    obtain ⟨wq, hwq⟩ : ∃ wq, wq = w1 := ⟨_, rfl⟩
    subst hwq
    have HLL := Lib.hid (And.intro hLw (And.intro hbw (And.intro hm1 (And.intro hm2 (And.intro hge8 (And.intro hge9 (And.intro hne (And.intro hn1.1 hn2.1))))))))
    have hV : Vars wc [(b8, z1), (b9, z2)] := ⟨⟨s1, g1, h8, hn1.below hbx⟩, ⟨s2, g2, h9, hn2.below hbx⟩, trivial⟩
    clear h8 h9 hge8 hge9 hne hn1 hn2 hLw hbw hm1 hm2 HY hR1 hR2 q0 q1 q2 q3 hne1 hne2 hne3 hne4 k0 k1 k3 k4 hbl
    clear s1 s2 g1 g2
    obtain ⟨wn, hwn⟩ : ∃ wn, wn = wc := ⟨_, rfl⟩
    subst hwn
    have HB := Lib.hid hbx
    have HV := Lib.hid hV
    clear hbx hV
    go_upto_region 3 with fail
    go_cut [41] from 39 to 41 (fun t wx => t = .bool (decide (sgn z1 < 0)) ∧ Below wq.heap.size wq wx ∧ Vars wx [(b8, z1), (b9, z2)])
    case first =>
      as_aux_lemma =>
        obtain ⟨sv0, gv0, pv0, nv0⟩ := HV.out.get (b := b8) (z := z1) (by simp)
        have hC : ∀ W, Below wn.heap.size wn W → W.cell? ⟨b8, 0, none⟩ = some (.int .i64 sv0) ∧ W.cell? ⟨b8, 1, none⟩ = some (.pointer gv0) := by
          intro W hW
          obtain ⟨a0, c0⟩ := num_cells ((hW.block _ (lt_of_some pv0)).trans pv0)
          exact ⟨a0, c0⟩
        have HC := Lib.hid hC
        have hLn := HLL.out.1.on HB.out
        have HS := Lib.hid (hLn.sign nv0)
        have HN := Lib.hid (Below.refl wn.heap.size wn)
        obtain ⟨yv0, yw0⟩ := hC _ (Below.refl _ _)
        clear pv0 nv0 hC hLn
        go_wp2_with (first
          | (go_at_call 29; with_reducible refine (HS.out _ HN.out).mono ?_; rintro e5 w5 ⟨rfl, hb5⟩
             obtain ⟨yv0, yw0⟩ := HC.out _ hb5
             have HN := Lib.hid hb5
             clear hb5))
        go_meet
        exact ⟨by first | rfl | simp, HB.out.trans (HN.out.mono HB.out.size), HV.out.below HN.out⟩
    obtain ⟨rfl, hbx, hV⟩ := hcut
    obtain ⟨wn, hwn⟩ : ∃ wn, wn = wc := ⟨_, rfl⟩
    subst hwn
    have HB := Lib.hid hbx
    have HV := Lib.hid hV
    clear hbx hV
    go_upto_if 41 with fail
    go_cut [] from 41 to 43 (fun wx => Below wq.heap.size wq wx ∧ Vars wx [(b8, (z1.natAbs : Int)), (b9, z2)])
    case first =>
      as_aux_lemma =>
        cases hcc : (decide (sgn z1 < 0))
        · have he := (abs_of z1).2 (of_decide_eq_false hcc)
          have hV : Vars wn [(b8, (z1.natAbs : Int)), (b9, z2)] := by rw [he]; exact HV.out
          have HV := Lib.hid hV
          clear he hV hcc
          go_wp2_with fail
          go_meet
          exact ⟨HB.out, HV.out⟩
        · have he := (abs_of z1).1 (of_decide_eq_true hcc)
          obtain ⟨sv0, gv0, pv0, nv0⟩ := HV.out.get (b := b8) (z := z1) (by simp)
          have hC : ∀ W, Below wn.heap.size wn W → W.cell? ⟨b8, 0, none⟩ = some (.int .i64 sv0) ∧ W.cell? ⟨b8, 1, none⟩ = some (.pointer gv0) := by
            intro W hW
            obtain ⟨a0, c0⟩ := num_cells ((hW.block _ (lt_of_some pv0)).trans pv0)
            exact ⟨a0, c0⟩
          have HC := Lib.hid hC
          have hLn := HLL.out.1.on HB.out
          have HG := Lib.hid (hLn.neg nv0)
          obtain ⟨yv0, yw0⟩ := hC _ (Below.refl _ _)
          have HP0 := Lib.hid (And.intro pv0 he)
          clear pv0 nv0 hC hLn he hcc
          go_wp2_with (first
            | (go_at_call 26; refine (HG.out _ (Below.refl _ _)).mono ?_; rintro e3 w3 ⟨r3, q3, rfl, hn3, hb3⟩
               have z3 := (hb3.block _ (lt_of_some HP0.out.1)).trans HP0.out.1
               obtain ⟨z30, z31⟩ := num_cells z3
               obtain ⟨z32, z33⟩ := num_frozen z3
               have H3 := Lib.hid (And.intro hn3 (And.intro hb3 z3))
               clear hn3 hb3 z3))
          go_meet
          obtain ⟨hn3, hb3, z3⟩ := H3.out
          have hVb := HV.out.below hb3
          have hpa := NumAt.put z3 hn3
          have hbb := ((HB.out.trans (hb3.mono HB.out.size)).setCell (p := ⟨b8, 0, none⟩) HLL.out.2.2.2.2.1 (.int .i64 r3)).setCell (p := ⟨b8, 1, none⟩) HLL.out.2.2.2.2.1 (.pointer q3)
          rw [← HP0.out.2] at hpa
          exact ⟨hbb, hpa, Vars.put z3 _ _ (l := [(b9, z2)]) hVb.2 (fun e he => by rw [List.mem_singleton.1 he]; exact fun h => HLL.out.2.2.2.2.2.2.1 h.symm)⟩
    obtain ⟨hbx, hV⟩ := hcut
    obtain ⟨wn, hwn⟩ : ∃ wn, wn = wc := ⟨_, rfl⟩
    subst hwn
    have HB := Lib.hid hbx
    have HV := Lib.hid hV
    clear hbx hV
    go_upto_region 5 with fail
    go_cut [46] from 44 to 46 (fun t wx => t = .bool (decide (sgn z2 < 0)) ∧ Below wq.heap.size wq wx ∧ Vars wx [(b8, (z1.natAbs : Int)), (b9, z2)])
    case first =>
      as_aux_lemma =>
        obtain ⟨sv0, gv0, pv0, nv0⟩ := HV.out.get (b := b9) (z := z2) (by simp)
        have hC : ∀ W, Below wn.heap.size wn W → W.cell? ⟨b9, 0, none⟩ = some (.int .i64 sv0) ∧ W.cell? ⟨b9, 1, none⟩ = some (.pointer gv0) := by
          intro W hW
          obtain ⟨a0, c0⟩ := num_cells ((hW.block _ (lt_of_some pv0)).trans pv0)
          exact ⟨a0, c0⟩
        have HC := Lib.hid hC
        have hLn := HLL.out.1.on HB.out
        have HS := Lib.hid (hLn.sign nv0)
        have HN := Lib.hid (Below.refl wn.heap.size wn)
        obtain ⟨yv0, yw0⟩ := hC _ (Below.refl _ _)
        clear pv0 nv0 hC hLn
        go_wp2_with (first
          | (go_at_call 29; with_reducible refine (HS.out _ HN.out).mono ?_; rintro e5 w5 ⟨rfl, hb5⟩
             obtain ⟨yv0, yw0⟩ := HC.out _ hb5
             have HN := Lib.hid hb5
             clear hb5))
        go_meet
        exact ⟨by first | rfl | simp, HB.out.trans (HN.out.mono HB.out.size), HV.out.below HN.out⟩
    obtain ⟨rfl, hbx, hV⟩ := hcut
    obtain ⟨wn, hwn⟩ : ∃ wn, wn = wc := ⟨_, rfl⟩
    subst hwn
    have HB := Lib.hid hbx
    have HV := Lib.hid hV
    clear hbx hV
    go_upto_if 46 with fail
    go_cut [] from 46 to 48 (fun wx => Below wq.heap.size wq wx ∧ Vars wx [(b8, (z1.natAbs : Int)), (b9, (z2.natAbs : Int))])
    case first =>
      as_aux_lemma =>
        cases hcc : (decide (sgn z2 < 0))
        · have he := (abs_of z2).2 (of_decide_eq_false hcc)
          have hV : Vars wn [(b8, (z1.natAbs : Int)), (b9, (z2.natAbs : Int))] := by rw [he]; exact HV.out
          have HV := Lib.hid hV
          clear he hV hcc
          go_wp2_with fail
          go_meet
          exact ⟨HB.out, HV.out⟩
        · have he := (abs_of z2).1 (of_decide_eq_true hcc)
          obtain ⟨sv0, gv0, pv0, nv0⟩ := HV.out.get (b := b9) (z := z2) (by simp)
          have hC : ∀ W, Below wn.heap.size wn W → W.cell? ⟨b9, 0, none⟩ = some (.int .i64 sv0) ∧ W.cell? ⟨b9, 1, none⟩ = some (.pointer gv0) := by
            intro W hW
            obtain ⟨a0, c0⟩ := num_cells ((hW.block _ (lt_of_some pv0)).trans pv0)
            exact ⟨a0, c0⟩
          have HC := Lib.hid hC
          have hLn := HLL.out.1.on HB.out
          have HG := Lib.hid (hLn.neg nv0)
          obtain ⟨yv0, yw0⟩ := hC _ (Below.refl _ _)
          have HP0 := Lib.hid (And.intro pv0 he)
          clear pv0 nv0 hC hLn he hcc
          go_wp2_with (first
            | (go_at_call 26; refine (HG.out _ (Below.refl _ _)).mono ?_; rintro e3 w3 ⟨r3, q3, rfl, hn3, hb3⟩
               have z3 := (hb3.block _ (lt_of_some HP0.out.1)).trans HP0.out.1
               obtain ⟨z30, z31⟩ := num_cells z3
               obtain ⟨z32, z33⟩ := num_frozen z3
               have H3 := Lib.hid (And.intro hn3 (And.intro hb3 z3))
               clear hn3 hb3 z3))
          go_meet
          obtain ⟨hn3, hb3, z3⟩ := H3.out
          have hVb := HV.out.below hb3
          have hpa := NumAt.put z3 hn3
          have hbb := ((HB.out.trans (hb3.mono HB.out.size)).setCell (p := ⟨b9, 0, none⟩) HLL.out.2.2.2.2.2.1 (.int .i64 r3)).setCell (p := ⟨b9, 1, none⟩) HLL.out.2.2.2.2.2.1 (.pointer q3)
          rw [← HP0.out.2] at hpa
          exact ⟨hbb, (Vars.put z3 _ _ (l := [(b8, (z1.natAbs : Int))]) ⟨hVb.1, trivial⟩ (fun e he => by rw [List.mem_singleton.1 he]; exact HLL.out.2.2.2.2.2.2.1)).1, hpa, trivial⟩
    obtain ⟨hbx, hV⟩ := hcut
    obtain ⟨wn, hwn⟩ : ∃ wn, wn = wc := ⟨_, rfl⟩
    subst hwn
    have HB := Lib.hid hbx
    have HV := Lib.hid hV
    clear hbx hV
    have HQ := Lib.hid (And.intro (allowed_abs HLL.out.2.2.2.2.2.2.2.1) (And.intro (allowed_abs HLL.out.2.2.2.2.2.2.2.2) (And.intro (show weightZ (z1.natAbs : Int) ≤ 120 by rw [weight_abs]; exact HLL.out.2.2.1.2) (show weightZ (z2.natAbs : Int) ≤ 120 by rw [weight_abs]; exact HLL.out.2.2.2.1.2))))
    have HLL := Lib.hid (And.intro HLL.out.1 HLL.out.2.1)
    generalize z1.natAbs = y1 at *
    generalize z2.natAbs = y2 at *
    go_upto_region 7 with fail
    go_cut [10, 11] from 49 to 54 (fun vd ve wx => Below wq.heap.size wq wx ∧ ∃ b, vd = .pointer (some ⟨b, 0, none⟩) ∧ ve = .int .i64 (errS 1 (y1 : Int)) ∧ Vars wx ((b, valS 1 (y1 : Int)) :: [(b8, (y1 : Int)), (b9, (y2 : Int))]))
    case first =>
      as_aux_lemma =>
        obtain ⟨sv0, gv0, pv0, nv0⟩ := HV.out.get (b := b8) (z := (y1 : Int)) (by simp)
        have hC : ∀ W, Below wn.heap.size wn W → W.cell? ⟨b8, 0, none⟩ = some (.int .i64 sv0) ∧ W.cell? ⟨b8, 1, none⟩ = some (.pointer gv0) := by
          intro W hW
          obtain ⟨a0, c0⟩ := num_cells ((hW.block _ (lt_of_some pv0)).trans pv0)
          exact ⟨a0, c0⟩
        have HC := Lib.hid hC
        have hLn := HLL.out.1.on HB.out
        have hM : ∀ W, Below wn.heap.size wn W → Calls Tryd.prog 20 #[.agg #[.int .i64 (1), .pointer none], .agg #[.int .i64 sv0, .pointer gv0]] W fun e w' => ∃ (r : Int) (q : Option Addr), e = .returned (.tuple #[.agg #[.int .i64 r, .pointer q], .int .i64 (errS 1 (y1 : Int))]) ∧ NumA cold w' r q (valS 1 (y1 : Int)) ∧ Below W.heap.size W w' := by
          intro W hW
          have h := (hLn.on hW).shiftE (NumA.small (B := cold) W (show i64 (1) by unfold i64; omega)) (nv0.below hW)
          exact h
        obtain ⟨yv0, yw0⟩ := hC _ (Below.refl _ _)
        have HM := Lib.hid hM
        clear hM hC hLn pv0 nv0
        first
          | go_region_held3 (fun w' => w'.cell? ⟨b8, 0, none⟩ = some (.int .i64 sv0) ∧ w'.cell? ⟨b8, 1, none⟩ = some (.pointer gv0)) (first | exact HC.out _ HW4.out | exact HC.out _ ((HW4.out.setCell (by first | exact Nat.le_refl _ | exact HW3.out.size) _).setCell (by first | exact Nat.le_refl _ | exact HW3.out.size) _) | exact HC.out _ (HW4.out.alloc HW4.out.size _) | exact HC.out _ HW3.out | exact HC.out _ (HW3.out.alloc HW3.out.size _) | exact HC.out _ (by repeat (first | exact Below.refl _ _ | refine Below.drew ?_ | refine Below.alloc ?_ (by simp) _)) | (go_keep; done))
            (first
            | (go_at_call 20; refine (HM.out _ (by first | exact HW3.out | exact HW3.out.alloc HW3.out.size _)).mono ?_; rintro e4 w4 ⟨r4, q4, rfl, hn4, hb4⟩
               have hw4 : Below wn.heap.size wn w4 := Below.trans (by first | exact HW3.out | exact HW3.out.alloc HW3.out.size _) (hb4.mono (by have := HW3.out.size; first | exact this | (simp; omega)))
               (first
                 | (have z4 := (hb4.block w3.heap.size (by simp)).trans (heap_alloc_new w3 (.cells #[.int .i64 0, .pointer none] 29))
                    obtain ⟨z40, z41⟩ := num_cells z4
                    obtain ⟨z42, z43⟩ := num_frozen z4
                    have HZ4 := Lib.hid z4
                    clear z4)
                 | (have z4 := (hb4.block wn.heap.size (lt_ofO HZ3.out)).trans HZ3.out
                    obtain ⟨z40, z41⟩ := num_cells z4
                    obtain ⟨z42, z43⟩ := num_frozen z4
                    have HZ4 := Lib.hid z4
                    clear z4)
                 | skip)
               have HW4 := Lib.hid hw4
               have H4 := Lib.hid hn4
               clear hn4 hb4 hw4)
            | (go_at_call 18; refine (of_calls _ _).mono ?_; rintro e3 w3 ⟨rfl, hb3⟩
               have hw3 : Below wn.heap.size wn w3 := Below.trans (by repeat (first | exact Below.refl _ _ | refine Below.drew ?_ | refine Below.alloc ?_ (by simp) _)) (hb3.mono (by first | exact Nat.le_refl _ | simp))
               (first
                 | (have z3 := (hb3.block wn.heap.size (by simp)).trans (heap_alloc_new wn (.cells #[.int .i64 0, .pointer none] 29))
                    have HZ3 := Lib.hid z3
                    clear z3)
                 | skip)
               have HW3 := Lib.hid hw3
               clear hb3 hw3))
          | fail
        all_goals
          (try go_wp2)
          go_meet
          first
            | exact ⟨HB.out.trans ((HW4.out.alloc HW4.out.size _).mono HB.out.size), _, rfl, rfl, NumAt.new H4.out, HV.out.below (HW4.out.alloc HW4.out.size _)⟩
            | exact ⟨HB.out.trans (((HW4.out.setCell (by first | exact Nat.le_refl _ | exact HW3.out.size) _).setCell (by first | exact Nat.le_refl _ | exact HW3.out.size) _).mono HB.out.size), _, rfl, rfl, NumAt.put HZ4.out H4.out, HV.out.below ((HW4.out.setCell (by first | exact Nat.le_refl _ | exact HW3.out.size) _).setCell (by first | exact Nat.le_refl _ | exact HW3.out.size) _)⟩
    obtain ⟨hbx, b10, rfl, rfl, hV⟩ := hcut
    obtain ⟨wn, hwn⟩ : ∃ wn, wn = wc := ⟨_, rfl⟩
    subst hwn
    have HB := Lib.hid hbx
    have HV := Lib.hid hV
    clear hbx hV
    go_upto_region 8 with fail
    go_cut [12, 13] from 55 to 60 (fun vd ve wx => Below wq.heap.size wq wx ∧ ∃ b, vd = .pointer (some ⟨b, 0, none⟩) ∧ ve = .int .i64 (errS 1 (y2 : Int)) ∧ Vars wx ((b, valS 1 (y2 : Int)) :: [(b10, valS 1 (y1 : Int)), (b8, (y1 : Int)), (b9, (y2 : Int))]))
    case first =>
      as_aux_lemma =>
        obtain ⟨sv0, gv0, pv0, nv0⟩ := HV.out.get (b := b9) (z := (y2 : Int)) (by simp)
        have hC : ∀ W, Below wn.heap.size wn W → W.cell? ⟨b9, 0, none⟩ = some (.int .i64 sv0) ∧ W.cell? ⟨b9, 1, none⟩ = some (.pointer gv0) := by
          intro W hW
          obtain ⟨a0, c0⟩ := num_cells ((hW.block _ (lt_of_some pv0)).trans pv0)
          exact ⟨a0, c0⟩
        have HC := Lib.hid hC
        have hLn := HLL.out.1.on HB.out
        have hM : ∀ W, Below wn.heap.size wn W → Calls Tryd.prog 20 #[.agg #[.int .i64 (1), .pointer none], .agg #[.int .i64 sv0, .pointer gv0]] W fun e w' => ∃ (r : Int) (q : Option Addr), e = .returned (.tuple #[.agg #[.int .i64 r, .pointer q], .int .i64 (errS 1 (y2 : Int))]) ∧ NumA cold w' r q (valS 1 (y2 : Int)) ∧ Below W.heap.size W w' := by
          intro W hW
          have h := (hLn.on hW).shiftE (NumA.small (B := cold) W (show i64 (1) by unfold i64; omega)) (nv0.below hW)
          exact h
        obtain ⟨yv0, yw0⟩ := hC _ (Below.refl _ _)
        have HM := Lib.hid hM
        clear hM hC hLn pv0 nv0
        first
          | go_region_held3 (fun w' => w'.cell? ⟨b9, 0, none⟩ = some (.int .i64 sv0) ∧ w'.cell? ⟨b9, 1, none⟩ = some (.pointer gv0)) (first | exact HC.out _ HW4.out | exact HC.out _ ((HW4.out.setCell (by first | exact Nat.le_refl _ | exact HW3.out.size) _).setCell (by first | exact Nat.le_refl _ | exact HW3.out.size) _) | exact HC.out _ (HW4.out.alloc HW4.out.size _) | exact HC.out _ HW3.out | exact HC.out _ (HW3.out.alloc HW3.out.size _) | exact HC.out _ (by repeat (first | exact Below.refl _ _ | refine Below.drew ?_ | refine Below.alloc ?_ (by simp) _)) | (go_keep; done))
            (first
            | (go_at_call 20; refine (HM.out _ (by first | exact HW3.out | exact HW3.out.alloc HW3.out.size _)).mono ?_; rintro e4 w4 ⟨r4, q4, rfl, hn4, hb4⟩
               have hw4 : Below wn.heap.size wn w4 := Below.trans (by first | exact HW3.out | exact HW3.out.alloc HW3.out.size _) (hb4.mono (by have := HW3.out.size; first | exact this | (simp; omega)))
               (first
                 | (have z4 := (hb4.block w3.heap.size (by simp)).trans (heap_alloc_new w3 (.cells #[.int .i64 0, .pointer none] 29))
                    obtain ⟨z40, z41⟩ := num_cells z4
                    obtain ⟨z42, z43⟩ := num_frozen z4
                    have HZ4 := Lib.hid z4
                    clear z4)
                 | (have z4 := (hb4.block wn.heap.size (lt_ofO HZ3.out)).trans HZ3.out
                    obtain ⟨z40, z41⟩ := num_cells z4
                    obtain ⟨z42, z43⟩ := num_frozen z4
                    have HZ4 := Lib.hid z4
                    clear z4)
                 | skip)
               have HW4 := Lib.hid hw4
               have H4 := Lib.hid hn4
               clear hn4 hb4 hw4)
            | (go_at_call 18; refine (of_calls _ _).mono ?_; rintro e3 w3 ⟨rfl, hb3⟩
               have hw3 : Below wn.heap.size wn w3 := Below.trans (by repeat (first | exact Below.refl _ _ | refine Below.drew ?_ | refine Below.alloc ?_ (by simp) _)) (hb3.mono (by first | exact Nat.le_refl _ | simp))
               (first
                 | (have z3 := (hb3.block wn.heap.size (by simp)).trans (heap_alloc_new wn (.cells #[.int .i64 0, .pointer none] 29))
                    have HZ3 := Lib.hid z3
                    clear z3)
                 | skip)
               have HW3 := Lib.hid hw3
               clear hb3 hw3))
          | fail
        all_goals
          (try go_wp2)
          go_meet
          first
            | exact ⟨HB.out.trans ((HW4.out.alloc HW4.out.size _).mono HB.out.size), _, rfl, rfl, NumAt.new H4.out, HV.out.below (HW4.out.alloc HW4.out.size _)⟩
            | exact ⟨HB.out.trans (((HW4.out.setCell (by first | exact Nat.le_refl _ | exact HW3.out.size) _).setCell (by first | exact Nat.le_refl _ | exact HW3.out.size) _).mono HB.out.size), _, rfl, rfl, NumAt.put HZ4.out H4.out, HV.out.below ((HW4.out.setCell (by first | exact Nat.le_refl _ | exact HW3.out.size) _).setCell (by first | exact Nat.le_refl _ | exact HW3.out.size) _)⟩
    obtain ⟨hbx, b12, rfl, rfl, hV⟩ := hcut
    obtain ⟨wn, hwn⟩ : ∃ wn, wn = wc := ⟨_, rfl⟩
    subst hwn
    have HB := Lib.hid hbx
    have HV := Lib.hid hV
    clear hbx hV
    have hp1 := pow_err (Int.natCast_nonneg y1) HQ.out.1 HQ.out.2.2.1
    have hp2 := pow_err (Int.natCast_nonneg y2) HQ.out.2.1 HQ.out.2.2.2
    have hv1 := fun h => pow_val (Int.natCast_nonneg y1) h
    have hv2 := fun h => pow_val (Int.natCast_nonneg y2) h
    have hh1 : errS 1 (y1 : Int) = 0 → hgt (y1 : Int) ≤ 99 := fun h => by
      have h1 := (errS_0 h).2.1.2.1
      rw [← (errS_0 h).2.2, hv1 h, Int.toNat_natCast, hgt_pow] at h1
      omega
    simp only [Int.toNat_natCast] at hv1 hv2
    by_cases he1 : errS 1 (y1 : Int) = 0
    rotate_left
    · have hg : hgt (y1 : Int) = 100 := by rcases hp1 with h | h; exact absurd h he1; exact h.2
      have hf0 : (errS 1 (y1 : Int) != 0) = true := by simp [he1]
      obtain ⟨sv0, gv0, pv0, nv0⟩ := HV.out.get (b := b8) (z := (y1 : Int)) (by simp)
      obtain ⟨sv1, gv1, pv1, nv1⟩ := HV.out.get (b := b9) (z := (y2 : Int)) (by simp)
      have hC : ∀ W, Below wn.heap.size wn W → W.cell? ⟨b8, 0, none⟩ = some (.int .i64 sv0) ∧ W.cell? ⟨b8, 1, none⟩ = some (.pointer gv0) ∧ W.cell? ⟨b9, 0, none⟩ = some (.int .i64 sv1) ∧ W.cell? ⟨b9, 1, none⟩ = some (.pointer gv1) := by
        intro W hW
        obtain ⟨a0, c0⟩ := num_cells ((hW.block _ (lt_of_some pv0)).trans pv0)
        obtain ⟨a1, c1⟩ := num_cells ((hW.block _ (lt_of_some pv1)).trans pv1)
        exact ⟨a0, c0, a1, c1⟩
      have HC := Lib.hid hC
      have hLn := HLL.out.1.on HB.out
      have HS1 := Lib.hid (hLn.height nv0)
      have HS2 := Lib.hid (hLn.height nv1)
      have HAW := Lib.hid hLn.awake
      have HN := Lib.hid (Below.refl wn.heap.size wn)
      obtain ⟨yv0, yw0, yv1, yw1⟩ := hC _ (Below.refl _ _)
      rw [hg] at HS1
      generalize errS 1 (y1 : Int) = ee1 at *
      generalize errS 1 (y2 : Int) = ee2 at *
      clear pv0 pv1 nv0 nv1 hC hLn hg he1 hp1 hp2 hv1 hv2 hh1
      go_wp2_with (first
        | (go_at_call 30; with_reducible refine (HS1.out _ HN.out).mono ?_; rintro e5 w5 ⟨rfl, hb5⟩
           obtain ⟨yv0, yw0, yv1, yw1⟩ := HC.out _ hb5
           have HN := Lib.hid hb5
           clear hb5)
        | (go_at_call 13; with_reducible refine (HAW.out _ HN.out).mono ?_; rintro e5 w5 ⟨rfl, hb5⟩
           obtain ⟨yv0, yw0, yv1, yw1⟩ := HC.out _ hb5
           have HN := Lib.hid hb5
           clear hb5))
      refine bodyPost_ret (v := .bool true) (by simp [results, Tryd.results8, go_sem, *]) rfl ⟨rfl, HLL.out.2.trans ((HB.out.trans (HN.out.mono HB.out.size)).mono HLL.out.2.size)⟩
    by_cases he2 : errS 1 (y2 : Int) = 0
    rotate_left
    · have hg : hgt (y2 : Int) = 100 := by rcases hp2 with h | h; exact absurd h he2; exact h.2
      have hf0 : (errS 1 (y2 : Int) != 0) = true := by simp [he2]
      have hn1 : ((hgt (y1 : Int) : Int) == 100) = false := by rw [beq_eq_false_iff_ne]; have := hh1 he1; omega
      rw [he1]
      obtain ⟨sv0, gv0, pv0, nv0⟩ := HV.out.get (b := b8) (z := (y1 : Int)) (by simp)
      obtain ⟨sv1, gv1, pv1, nv1⟩ := HV.out.get (b := b9) (z := (y2 : Int)) (by simp)
      have hC : ∀ W, Below wn.heap.size wn W → W.cell? ⟨b8, 0, none⟩ = some (.int .i64 sv0) ∧ W.cell? ⟨b8, 1, none⟩ = some (.pointer gv0) ∧ W.cell? ⟨b9, 0, none⟩ = some (.int .i64 sv1) ∧ W.cell? ⟨b9, 1, none⟩ = some (.pointer gv1) := by
        intro W hW
        obtain ⟨a0, c0⟩ := num_cells ((hW.block _ (lt_of_some pv0)).trans pv0)
        obtain ⟨a1, c1⟩ := num_cells ((hW.block _ (lt_of_some pv1)).trans pv1)
        exact ⟨a0, c0, a1, c1⟩
      have HC := Lib.hid hC
      have hLn := HLL.out.1.on HB.out
      have HS1 := Lib.hid (hLn.height nv0)
      have HS2 := Lib.hid (hLn.height nv1)
      have HAW := Lib.hid hLn.awake
      have HN := Lib.hid (Below.refl wn.heap.size wn)
      obtain ⟨yv0, yw0, yv1, yw1⟩ := hC _ (Below.refl _ _)
      rw [hg] at HS2
      generalize hgt (y1 : Int) = hg1 at *
      generalize errS 1 (y2 : Int) = ee2 at *
      clear pv0 pv1 nv0 nv1 hC hLn hg he1 he2 hp1 hp2 hv1 hv2 hh1
      go_wp2_with (first
        | (go_at_call 30; with_reducible refine (HS1.out _ HN.out).mono ?_; rintro e5 w5 ⟨rfl, hb5⟩
           obtain ⟨yv0, yw0, yv1, yw1⟩ := HC.out _ hb5
           have HN := Lib.hid hb5
           clear hb5)
        | (go_at_call 30; with_reducible refine (HS2.out _ HN.out).mono ?_; rintro e5 w5 ⟨rfl, hb5⟩
           obtain ⟨yv0, yw0, yv1, yw1⟩ := HC.out _ hb5
           have HN := Lib.hid hb5
           clear hb5)
        | (go_at_call 13; with_reducible refine (HAW.out _ HN.out).mono ?_; rintro e5 w5 ⟨rfl, hb5⟩
           obtain ⟨yv0, yw0, yv1, yw1⟩ := HC.out _ hb5
           have HN := Lib.hid hb5
           clear hb5))
      refine bodyPost_ret (v := .bool true) (by simp [results, Tryd.results8, go_sem, *]) rfl ⟨rfl, HLL.out.2.trans ((HB.out.trans (HN.out.mono HB.out.size)).mono HLL.out.2.size)⟩
    rw [he1, he2]
    have hV := HV.out
    rw [hv1 he1, hv2 he2] at hV
    have ha1 := (errS_0 he1).2.1
    have ha2 := (errS_0 he2).2.1
    rw [← (errS_0 he1).2.2, hv1 he1] at ha1
    rw [← (errS_0 he2).2.2, hv2 he2] at ha2
    obtain ⟨P1, hP1⟩ : ∃ P1 : Int, P1 = 2 ^ y1 := ⟨_, rfl⟩
    obtain ⟨P2, hP2⟩ : ∃ P2 : Int, P2 = 2 ^ y2 := ⟨_, rfl⟩
    rw [← hP1, ← hP2] at hV
    rw [← hP1] at ha1
    rw [← hP2] at ha2
    have HP := Lib.hid (And.intro hP1 (And.intro hP2 (And.intro ha1 (And.intro ha2 (hh1 he1)))))
    have HV := Lib.hid hV
    clear hp1 hp2 hv1 hv2 hh1 he1 he2 hV ha1 ha2 hP1 hP2
    go_upto_region 11 with fail
    obtain ⟨sv0, gv0, pv0, nv0⟩ := HV.out.get (b := b10) (z := P1) (by simp)
    have hC : ∀ W, Below wn.heap.size wn W → W.cell? ⟨b10, 0, none⟩ = some (.int .i64 sv0) ∧ W.cell? ⟨b10, 1, none⟩ = some (.pointer gv0) := by
      intro W hW
      obtain ⟨a0, c0⟩ := num_cells ((hW.block _ (lt_of_some pv0)).trans pv0)
      exact ⟨a0, c0⟩
    have HC := Lib.hid hC
    have hLn := HLL.out.1.on HB.out
    have HT := Lib.hid (hLn.terms nv0)
    obtain ⟨yv0, yw0⟩ := hC _ (Below.refl _ _)
    clear pv0 nv0 hC hLn
    go_upto_region 12 with (first
      | (go_at_call 28; refine (HT.out _ (Below.refl _ _)).mono ?_; rintro e5 w5 ⟨a5, c5, ts, rfl, hl5, ho5, hf5, hb5⟩
         have H5 := Lib.hid (And.intro hl5 (And.intro ho5 (And.intro hf5 hb5)))
         clear hl5 ho5 hf5 hb5))
    obtain ⟨hl5, ho5, hf5, hb5⟩ := H5.out
    clear HC HT H5
    obtain ⟨wn0, hwn0⟩ : ∃ wn0, wn0 = wn := ⟨_, rfl⟩
    subst hwn0
    have HB0 := HB
    have HB := Lib.hid (HB0.out.trans (hb5.mono HB0.out.size))
    have HV0 := HV
    have HV := Lib.hid (HV0.out.below hb5)
    clear HB0 HV0
    have hnf : naf P1 = [(false, y1)] := by rw [HP.out.1]; exact naf_pow y1
    rw [hnf] at hf5
    have hw1 : wt P1 = 1 := by unfold wt; rw [hnf]; rfl
    rw [hw1] at hl5
    obtain ⟨hin, htm, hnt⟩ : ∃ h : 0 < ts.length, ts[0].1 = false ∧ NumA cold w5 ts[0].2.1 ts[0].2.2 (y1 : Int) := ⟨by omega, (hf5.get 0 (by omega) (by simp)).1, (hf5.get 0 (by omega) (by simp)).2⟩
    obtain ⟨b, rfl⟩ : ∃ b, a5 = some ⟨b, 0, none⟩ := by
      obtain ⟨_, h2⟩ := ho5
      rcases h2 with ⟨e, _⟩ | ⟨g', cap, cur, ev, _⟩
      · simp only [Value.slice.injEq] at e; omega
      · cases ev; exact ⟨g', rfl⟩
    obtain ⟨x0, x1, x2⟩ := RowC.term (RowV.of_own ho5).rowC 0 hin
    have hbl := (ho5.lt b rfl).2
    generalize ts[0] = t0 at *
    obtain ⟨tm, tsg, tg⟩ := t0
    simp only [Nat.zero_add, Nat.zero_mul] at x0 x1 x2 htm hnt
    subst htm
    generalize hNN : ts.length = N at *
    obtain rfl : N = 1 := by omega
    clear hNN hl5 ho5 hf5 hb5 hnf hw1 hin
    obtain ⟨wn, hwn⟩ : ∃ wn, wn = w5 := ⟨_, rfl⟩
    subst hwn
    go_upto_region 12 with fail
    go_cut [120] from 80 to 120 (fun t wx => t = .bool false ∧ Below wq.heap.size wq wx ∧ Vars wx [(b12, P2), (b10, P1), (b8, (y1 : Int)), (b9, (y2 : Int))])
    case first =>
      as_aux_lemma =>
        obtain ⟨sv0, gv0, pv0, nv0⟩ := HV.out.get (b := b10) (z := P1) (by simp)
        obtain ⟨sv1, gv1, pv1, nv1⟩ := HV.out.get (b := b8) (z := (y1 : Int)) (by simp)
        obtain ⟨sv2, gv2, pv2, nv2⟩ := HV.out.get (b := b12) (z := P2) (by simp)
        obtain ⟨sv3, gv3, pv3, nv3⟩ := HV.out.get (b := b9) (z := (y2 : Int)) (by simp)
        have hC : ∀ W, Below wn.heap.size wn W → W.cell? ⟨b10, 0, none⟩ = some (.int .i64 sv0) ∧ W.cell? ⟨b10, 1, none⟩ = some (.pointer gv0) ∧ W.cell? ⟨b8, 0, none⟩ = some (.int .i64 sv1) ∧ W.cell? ⟨b8, 1, none⟩ = some (.pointer gv1) ∧ W.cell? ⟨b12, 0, none⟩ = some (.int .i64 sv2) ∧ W.cell? ⟨b12, 1, none⟩ = some (.pointer gv2) ∧ W.cell? ⟨b9, 0, none⟩ = some (.int .i64 sv3) ∧ W.cell? ⟨b9, 1, none⟩ = some (.pointer gv3) := by
          intro W hW
          obtain ⟨a0, c0⟩ := num_cells ((hW.block _ (lt_of_some pv0)).trans pv0)
          obtain ⟨a1, c1⟩ := num_cells ((hW.block _ (lt_of_some pv1)).trans pv1)
          obtain ⟨a2, c2⟩ := num_cells ((hW.block _ (lt_of_some pv2)).trans pv2)
          obtain ⟨a3, c3⟩ := num_cells ((hW.block _ (lt_of_some pv3)).trans pv3)
          exact ⟨a0, c0, a1, c1, a2, c2, a3, c3⟩
        have HC := Lib.hid hC
        have hLn := HLL.out.1.on HB.out
        have hc1 := hLn.cmp nv0 nv1
        have hc2 := hLn.cmp nv0 nv2
        have hc3 := hLn.cmp nv1 nv3
        have hs4 := hLn.same hnt nv1
        have hh5 := hLn.height nv0
        have hh6 := hLn.height nv1
        obtain ⟨hP1, hP2, ha1, ha2, h99⟩ := HP.out
        rw [show sgn (P1 - (y1 : Int)) = 1 by rw [hP1]; exact sgn_pos (by have := pow_gt y1; omega)] at hc1
        rw [show sgn (P1 - P2) = sgn ((y1 : Int) - (y2 : Int)) by rw [hP1, hP2]; exact pow_cmp y1 y2] at hc2
        rw [show hgt P1 = hgt (y1 : Int) + 1 by rw [hP1, hgt_pow]] at hh5
        have h5c : ((hgt (y1 : Int) + 1 : Nat) : Int) = (hgt (y1 : Int) : Int) + 1 := by omega
        rw [h5c] at hh5
        have HS1 := Lib.hid hc1
        have HS2 := Lib.hid hc2
        have HS3 := Lib.hid hc3
        have HS4 := Lib.hid hs4
        have HS5 := Lib.hid hh5
        have HS6 := Lib.hid hh6
        have hC2 : ∀ W, Below wn.heap.size wn W → (W.cell? ⟨b, 0, none⟩ = some (.bool false) ∧ W.cell? ⟨b, 1, none⟩ = some (.int .i64 tsg) ∧ W.cell? ⟨b, 2, none⟩ = some (.pointer tg)) ∧ (W.cell? ⟨b10, 0, none⟩ = some (.int .i64 sv0) ∧ W.cell? ⟨b10, 1, none⟩ = some (.pointer gv0) ∧ W.cell? ⟨b8, 0, none⟩ = some (.int .i64 sv1) ∧ W.cell? ⟨b8, 1, none⟩ = some (.pointer gv1) ∧ W.cell? ⟨b12, 0, none⟩ = some (.int .i64 sv2) ∧ W.cell? ⟨b12, 1, none⟩ = some (.pointer gv2) ∧ W.cell? ⟨b9, 0, none⟩ = some (.int .i64 sv3) ∧ W.cell? ⟨b9, 1, none⟩ = some (.pointer gv3)) := fun W hW =>
          ⟨⟨(hW.cell (p := ⟨b, 0, none⟩) hbl).trans x0, (hW.cell (p := ⟨b, 1, none⟩) hbl).trans x1, (hW.cell (p := ⟨b, 2, none⟩) hbl).trans x2⟩, hC W hW⟩
        have HC2 := Lib.hid hC2
        have HN := Lib.hid (Below.refl wn.heap.size wn).drew
        generalize sgn ((y1 : Int) - (y2 : Int)) = sc at *
        have hwr : IntKind.i64.wrap ((hgt (y1 : Int) : Int) + 1) = (hgt (y1 : Int) : Int) + 1 := IntWalk.i64_in _ (by omega)
        generalize hgt (y1 : Int) = hg1 at *
        obtain ⟨⟨x0, x1, x2⟩, yv0, yw0, yv1, yw1, yv2, yw2, yv3, yw3⟩ := hC2 _ (Below.refl _ _)
        clear pv0 pv1 pv2 pv3 nv0 nv1 nv2 nv3 hC hC2 hLn hc1 hc2 hc3 hs4 hh5 hh6 hP1 hP2 ha1 ha2 h99 hnt hbl h5c
        first
          | go_region_held3 (fun W => (W.cell? ⟨b, 0, none⟩ = some (.bool false) ∧ W.cell? ⟨b, 1, none⟩ = some (.int .i64 tsg) ∧ W.cell? ⟨b, 2, none⟩ = some (.pointer tg)) ∧ (W.cell? ⟨b10, 0, none⟩ = some (.int .i64 sv0) ∧ W.cell? ⟨b10, 1, none⟩ = some (.pointer gv0) ∧ W.cell? ⟨b8, 0, none⟩ = some (.int .i64 sv1) ∧ W.cell? ⟨b8, 1, none⟩ = some (.pointer gv1) ∧ W.cell? ⟨b12, 0, none⟩ = some (.int .i64 sv2) ∧ W.cell? ⟨b12, 1, none⟩ = some (.pointer gv2) ∧ W.cell? ⟨b9, 0, none⟩ = some (.int .i64 sv3) ∧ W.cell? ⟨b9, 1, none⟩ = some (.pointer gv3))) (exact HC2.out _ HN.out)
            (first
            | (go_at_call 23; with_reducible refine (HS1.out _ HN.out).mono ?_; rintro e5 w5 ⟨rfl, hb5⟩
               have HN := Lib.hid hb5
               clear hb5)
            | (go_at_call 23; with_reducible refine (HS2.out _ HN.out).mono ?_; rintro e5 w5 ⟨rfl, hb5⟩
               have HN := Lib.hid hb5
               clear hb5)
            | (go_at_call 23; with_reducible refine (HS3.out _ HN.out).mono ?_; rintro e5 w5 ⟨rfl, hb5⟩
               have HN := Lib.hid hb5
               clear hb5)
            | (go_at_call 25; with_reducible refine (HS4.out _ HN.out).mono ?_; rintro e5 w5 ⟨rfl, hb5⟩
               have HN := Lib.hid hb5
               clear hb5)
            | (go_at_call 30; with_reducible refine (HS5.out _ HN.out).mono ?_; rintro e5 w5 ⟨rfl, hb5⟩
               have HN := Lib.hid hb5
               clear hb5)
            | (go_at_call 30; with_reducible refine (HS6.out _ HN.out).mono ?_; rintro e5 w5 ⟨rfl, hb5⟩
               have HN := Lib.hid hb5
               clear hb5))
          | fail
        all_goals
          (try go_wp2)
          go_meet
          exact ⟨by simp, HB.out.trans (HN.out.mono HB.out.size), HV.out.below HN.out⟩
    obtain ⟨rfl, hbx, hV⟩ := hcut
    clear x0 x1 x2 hnt hbl
    obtain ⟨wn, hwn⟩ : ∃ wn, wn = wc := ⟨_, rfl⟩
    subst hwn
    have HB := Lib.hid hbx
    have HV := Lib.hid hV
    clear hbx hV
    go_upto_region 14 with fail
    go_cut [15, 16] from 121 to 126 (fun vd ve wx => Below wq.heap.size wq wx ∧ ∃ b, vd = .pointer (some ⟨b, 0, none⟩) ∧ ve = .int .i64 (errA ((y1 : Int) + 1)) ∧ Vars wx ((b, valA ((y1 : Int) + 1)) :: [(b12, P2), (b10, P1), (b8, (y1 : Int)), (b9, (y2 : Int))]))
    case first =>
      as_aux_lemma =>
        obtain ⟨sv0, gv0, pv0, nv0⟩ := HV.out.get (b := b8) (z := (y1 : Int)) (by simp)
        have hC : ∀ W, Below wn.heap.size wn W → W.cell? ⟨b8, 0, none⟩ = some (.int .i64 sv0) ∧ W.cell? ⟨b8, 1, none⟩ = some (.pointer gv0) := by
          intro W hW
          obtain ⟨a0, c0⟩ := num_cells ((hW.block _ (lt_of_some pv0)).trans pv0)
          exact ⟨a0, c0⟩
        have HC := Lib.hid hC
        have hLn := HLL.out.1.on HB.out
        have hM : ∀ W, Below wn.heap.size wn W → Calls Tryd.prog 16 #[.agg #[.int .i64 sv0, .pointer gv0], .agg #[.int .i64 (1), .pointer none]] W fun e w' => ∃ (r : Int) (q : Option Addr), e = .returned (.tuple #[.agg #[.int .i64 r, .pointer q], .int .i64 (errA ((y1 : Int) + 1))]) ∧ NumA cold w' r q (valA ((y1 : Int) + 1)) ∧ Below W.heap.size W w' := by
          intro W hW
          have h := (hLn.on hW).addE (nv0.below hW) (NumA.small (B := cold) W (show i64 (1) by unfold i64; omega))
          exact h
        obtain ⟨yv0, yw0⟩ := hC _ (Below.refl _ _)
        have HM := Lib.hid hM
        clear hM hC hLn pv0 nv0
        first
          | go_region_held3 (fun w' => w'.cell? ⟨b8, 0, none⟩ = some (.int .i64 sv0) ∧ w'.cell? ⟨b8, 1, none⟩ = some (.pointer gv0)) (first | exact HC.out _ HW4.out | exact HC.out _ ((HW4.out.setCell (by first | exact Nat.le_refl _ | exact HW3.out.size) _).setCell (by first | exact Nat.le_refl _ | exact HW3.out.size) _) | exact HC.out _ (HW4.out.alloc HW4.out.size _) | exact HC.out _ HW3.out | exact HC.out _ (HW3.out.alloc HW3.out.size _) | exact HC.out _ (by repeat (first | exact Below.refl _ _ | refine Below.drew ?_ | refine Below.alloc ?_ (by simp) _)) | (go_keep; done))
            (first
            | (go_at_call 16; refine (HM.out _ (by first | exact HW3.out | exact HW3.out.alloc HW3.out.size _)).mono ?_; rintro e4 w4 ⟨r4, q4, rfl, hn4, hb4⟩
               have hw4 : Below wn.heap.size wn w4 := Below.trans (by first | exact HW3.out | exact HW3.out.alloc HW3.out.size _) (hb4.mono (by have := HW3.out.size; first | exact this | (simp; omega)))
               (first
                 | (have z4 := (hb4.block w3.heap.size (by simp)).trans (heap_alloc_new w3 (.cells #[.int .i64 0, .pointer none] 29))
                    obtain ⟨z40, z41⟩ := num_cells z4
                    obtain ⟨z42, z43⟩ := num_frozen z4
                    have HZ4 := Lib.hid z4
                    clear z4)
                 | (have z4 := (hb4.block wn.heap.size (lt_ofO HZ3.out)).trans HZ3.out
                    obtain ⟨z40, z41⟩ := num_cells z4
                    obtain ⟨z42, z43⟩ := num_frozen z4
                    have HZ4 := Lib.hid z4
                    clear z4)
                 | skip)
               have HW4 := Lib.hid hw4
               have H4 := Lib.hid hn4
               clear hn4 hb4 hw4)
            | (go_at_call 18; refine (of_calls _ _).mono ?_; rintro e3 w3 ⟨rfl, hb3⟩
               have hw3 : Below wn.heap.size wn w3 := Below.trans (by repeat (first | exact Below.refl _ _ | refine Below.drew ?_ | refine Below.alloc ?_ (by simp) _)) (hb3.mono (by first | exact Nat.le_refl _ | simp))
               (first
                 | (have z3 := (hb3.block wn.heap.size (by simp)).trans (heap_alloc_new wn (.cells #[.int .i64 0, .pointer none] 29))
                    have HZ3 := Lib.hid z3
                    clear z3)
                 | skip)
               have HW3 := Lib.hid hw3
               clear hb3 hw3))
          | fail
        all_goals
          (try go_wp2)
          go_meet
          first
            | exact ⟨HB.out.trans ((HW4.out.alloc HW4.out.size _).mono HB.out.size), _, rfl, rfl, NumAt.new H4.out, HV.out.below (HW4.out.alloc HW4.out.size _)⟩
            | exact ⟨HB.out.trans (((HW4.out.setCell (by first | exact Nat.le_refl _ | exact HW3.out.size) _).setCell (by first | exact Nat.le_refl _ | exact HW3.out.size) _).mono HB.out.size), _, rfl, rfl, NumAt.put HZ4.out H4.out, HV.out.below ((HW4.out.setCell (by first | exact Nat.le_refl _ | exact HW3.out.size) _).setCell (by first | exact Nat.le_refl _ | exact HW3.out.size) _)⟩
    obtain ⟨hbx, b15, rfl, rfl, hV⟩ := hcut
    obtain ⟨wn, hwn⟩ : ∃ wn, wn = wc := ⟨_, rfl⟩
    subst hwn
    have HB := Lib.hid hbx
    have HV := Lib.hid hV
    clear hbx hV
    go_upto_region 15 with fail
    go_cut [17, 18] from 127 to 132 (fun vd ve wx => Below wq.heap.size wq wx ∧ ∃ b, vd = .pointer (some ⟨b, 0, none⟩) ∧ ve = .int .i64 (errA (P1 + P1)) ∧ Vars wx ((b, valA (P1 + P1)) :: [(b15, valA ((y1 : Int) + 1)), (b12, P2), (b10, P1), (b8, (y1 : Int)), (b9, (y2 : Int))]))
    case first =>
      as_aux_lemma =>
        obtain ⟨sv1, gv1, pv1, nv1⟩ := HV.out.get (b := b10) (z := P1) (by simp)
        obtain ⟨yv1, yw1⟩ := num_cells pv1
        have hc := (HLL.out.1.on HB.out).addE nv1 nv1
        have HCC := Lib.hid hc
        clear hc pv1 nv1
        go_wp2_with (first
          | (go_at_call 16; refine HCC.out.mono ?_; rintro e9 w9 ⟨r9, q9, rfl, hn9, hb9⟩
             have hbA := hb9.alloc hb9.size (.cells #[.int .i64 r9, .pointer q9] 29)
             have HD := Lib.hid (And.intro (HB.out.trans (hbA.mono HB.out.size)) (And.intro (NumAt.new hn9) (HV.out.below hbA)))
             clear hn9 hb9 hbA))
        go_meet
        exact ⟨HD.out.1, _, rfl, rfl, HD.out.2⟩
    obtain ⟨hbx, b17, rfl, rfl, hV⟩ := hcut
    obtain ⟨wn, hwn⟩ : ∃ wn, wn = wc := ⟨_, rfl⟩
    subst hwn
    have HB := Lib.hid hbx
    have HV := Lib.hid hV
    clear hbx hV
    go_upto_region 16 with fail
    go_cut [138] from 133 to 138 (fun t wx => t = .bool (errA ((y1 : Int) + 1) == 0 && errA (P1 + P1) == 0) ∧ wx = wn)
    case first =>
      as_aux_lemma =>
        generalize errA ((y1 : Int) + 1) = ee0 at *
        generalize errA (P1 + P1) = ee1 at *
        by_cases he0 : ee0 = 0
        · subst he0
          by_cases he1 : ee1 = 0
          · subst he1
            go_wp2_with fail
            go_meet
            exact ⟨by simp [*], rfl⟩
          · have hf1 : (ee1 == 0) = false := by rw [beq_eq_false_iff_ne]; exact he1
            go_wp2_with fail
            go_meet
            exact ⟨by simp [hf1], rfl⟩
        · have hf0 : (ee0 == 0) = false := by rw [beq_eq_false_iff_ne]; exact he0
          go_wp2_with fail
          go_meet
          exact ⟨by simp [hf0], rfl⟩
    obtain ⟨rfl, hwx⟩ := hcut
    have hwx2 := hwx.symm
    clear hwx
    subst hwx2
    go_upto_if 138 with fail
    go_cut [] from 138 to 152 (fun wx => Below wq.heap.size wq wx ∧ Vars wx [(b17, valA (P1 + P1)), (b15, valA ((y1 : Int) + 1)), (b12, P2), (b10, P1), (b8, (y1 : Int)), (b9, (y2 : Int))])
    case first =>
      cases hcc : (errA ((y1 : Int) + 1) == 0 && errA (P1 + P1) == 0)
      · go_wp2_with fail
        go_meet
        exact ⟨HB.out, HV.out⟩
      · rw [Bool.and_eq_true] at hcc
        have HA := Lib.hid (And.intro (errA_0 (by simpa using hcc.1)) (errA_0 (by simpa using hcc.2)))
        clear hcc
        have hd : reaches 1 ((y1 : Int) + 1) ∧ shiftZ 1 ((y1 : Int) + 1) = P1 + P1 := by
          have h1 := reaches_nat 1 (y1 + 1)
          have h2 := shiftZ_nat 1 (y1 + 1)
          rw [show ((y1 + 1 : Nat) : Int) = (y1 : Int) + 1 by omega] at h1 h2
          exact ⟨h1, by rw [h2, HP.out.1, Int.one_mul, pow_double]⟩
        have HD := Lib.hid hd
        clear hd
        go_upto_region 17 with fail
        go_cut [19, 20] from 139 to 144 (fun vd ve wx => Below wq.heap.size wq wx ∧ ∃ b, vd = .pointer (some ⟨b, 0, none⟩) ∧ ve = .int .i64 (0) ∧ Vars wx ((b, P1 + P1) :: [(b17, valA (P1 + P1)), (b15, valA ((y1 : Int) + 1)), (b12, P2), (b10, P1), (b8, (y1 : Int)), (b9, (y2 : Int))]))
        case first =>
          as_aux_lemma =>
            obtain ⟨sv0, gv0, pv0, nv0⟩ := HV.out.get (b := b15) (z := valA ((y1 : Int) + 1)) (by simp)
            have hC : ∀ W, Below wn.heap.size wn W → W.cell? ⟨b15, 0, none⟩ = some (.int .i64 sv0) ∧ W.cell? ⟨b15, 1, none⟩ = some (.pointer gv0) := by
              intro W hW
              obtain ⟨a0, c0⟩ := num_cells ((hW.block _ (lt_of_some pv0)).trans pv0)
              exact ⟨a0, c0⟩
            have HC := Lib.hid hC
            have hLn := HLL.out.1.on HB.out
            have hM : ∀ W, Below wn.heap.size wn W → Calls Tryd.prog 20 #[.agg #[.int .i64 (1), .pointer none], .agg #[.int .i64 sv0, .pointer gv0]] W fun e w' => ∃ (r : Int) (q : Option Addr), e = .returned (.tuple #[.agg #[.int .i64 r, .pointer q], .int .i64 (0)]) ∧ NumA cold w' r q (P1 + P1) ∧ Below W.heap.size W w' := by
              intro W hW
              have h := (hLn.on hW).shiftE (NumA.small (B := cold) W (show i64 (1) by unfold i64; omega)) (nv0.below hW)
              rw [HA.out.1.2, (errS_yes HD.out.1 (by rw [HD.out.2]; exact HA.out.2.1)).1, (errS_yes HD.out.1 (by rw [HD.out.2]; exact HA.out.2.1)).2, HD.out.2] at h
              exact h
            obtain ⟨yv0, yw0⟩ := hC _ (Below.refl _ _)
            have HM := Lib.hid hM
            clear hM hC hLn pv0 nv0
            first
              | go_region_held3 (fun w' => w'.cell? ⟨b15, 0, none⟩ = some (.int .i64 sv0) ∧ w'.cell? ⟨b15, 1, none⟩ = some (.pointer gv0)) (first | exact HC.out _ HW4.out | exact HC.out _ ((HW4.out.setCell (by first | exact Nat.le_refl _ | exact HW3.out.size) _).setCell (by first | exact Nat.le_refl _ | exact HW3.out.size) _) | exact HC.out _ (HW4.out.alloc HW4.out.size _) | exact HC.out _ HW3.out | exact HC.out _ (HW3.out.alloc HW3.out.size _) | exact HC.out _ (by repeat (first | exact Below.refl _ _ | refine Below.drew ?_ | refine Below.alloc ?_ (by simp) _)) | (go_keep; done))
                (first
                | (go_at_call 20; refine (HM.out _ (by first | exact HW3.out | exact HW3.out.alloc HW3.out.size _)).mono ?_; rintro e4 w4 ⟨r4, q4, rfl, hn4, hb4⟩
                   have hw4 : Below wn.heap.size wn w4 := Below.trans (by first | exact HW3.out | exact HW3.out.alloc HW3.out.size _) (hb4.mono (by have := HW3.out.size; first | exact this | (simp; omega)))
                   (first
                     | (have z4 := (hb4.block w3.heap.size (by simp)).trans (heap_alloc_new w3 (.cells #[.int .i64 0, .pointer none] 29))
                        obtain ⟨z40, z41⟩ := num_cells z4
                        obtain ⟨z42, z43⟩ := num_frozen z4
                        have HZ4 := Lib.hid z4
                        clear z4)
                     | (have z4 := (hb4.block wn.heap.size (lt_ofO HZ3.out)).trans HZ3.out
                        obtain ⟨z40, z41⟩ := num_cells z4
                        obtain ⟨z42, z43⟩ := num_frozen z4
                        have HZ4 := Lib.hid z4
                        clear z4)
                     | skip)
                   have HW4 := Lib.hid hw4
                   have H4 := Lib.hid hn4
                   clear hn4 hb4 hw4)
                | (go_at_call 18; refine (of_calls _ _).mono ?_; rintro e3 w3 ⟨rfl, hb3⟩
                   have hw3 : Below wn.heap.size wn w3 := Below.trans (by repeat (first | exact Below.refl _ _ | refine Below.drew ?_ | refine Below.alloc ?_ (by simp) _)) (hb3.mono (by first | exact Nat.le_refl _ | simp))
                   (first
                     | (have z3 := (hb3.block wn.heap.size (by simp)).trans (heap_alloc_new wn (.cells #[.int .i64 0, .pointer none] 29))
                        have HZ3 := Lib.hid z3
                        clear z3)
                     | skip)
                   have HW3 := Lib.hid hw3
                   clear hb3 hw3))
              | fail
            all_goals
              (try go_wp2)
              go_meet
              first
                | exact ⟨HB.out.trans ((HW4.out.alloc HW4.out.size _).mono HB.out.size), _, rfl, rfl, NumAt.new H4.out, HV.out.below (HW4.out.alloc HW4.out.size _)⟩
                | exact ⟨HB.out.trans (((HW4.out.setCell (by first | exact Nat.le_refl _ | exact HW3.out.size) _).setCell (by first | exact Nat.le_refl _ | exact HW3.out.size) _).mono HB.out.size), _, rfl, rfl, NumAt.put HZ4.out H4.out, HV.out.below ((HW4.out.setCell (by first | exact Nat.le_refl _ | exact HW3.out.size) _).setCell (by first | exact Nat.le_refl _ | exact HW3.out.size) _)⟩
        obtain ⟨hbx, b19, rfl, rfl, hV⟩ := hcut
        obtain ⟨wn, hwn⟩ : ∃ wn, wn = wc := ⟨_, rfl⟩
        subst hwn
        have HB := Lib.hid hbx
        have HV := Lib.hid hV
        clear hbx hV
        go_upto_region 18 with fail
        go_cut [152] from 145 to 152 (fun t wx => t = .bool false ∧ Below wq.heap.size wq wx ∧ Vars wx [(b19, P1 + P1), (b17, valA (P1 + P1)), (b15, valA ((y1 : Int) + 1)), (b12, P2), (b10, P1), (b8, (y1 : Int)), (b9, (y2 : Int))])
        case first =>
          as_aux_lemma =>
            obtain ⟨sv0, gv0, pv0, nv0⟩ := HV.out.get (b := b19) (z := P1 + P1) (by simp)
            obtain ⟨sv1, gv1, pv1, nv1⟩ := HV.out.get (b := b17) (z := valA (P1 + P1)) (by simp)
            have hC : ∀ W, Below wn.heap.size wn W → W.cell? ⟨b19, 0, none⟩ = some (.int .i64 sv0) ∧ W.cell? ⟨b19, 1, none⟩ = some (.pointer gv0) ∧ W.cell? ⟨b17, 0, none⟩ = some (.int .i64 sv1) ∧ W.cell? ⟨b17, 1, none⟩ = some (.pointer gv1) := by
              intro W hW
              obtain ⟨a0, c0⟩ := num_cells ((hW.block _ (lt_of_some pv0)).trans pv0)
              obtain ⟨a1, c1⟩ := num_cells ((hW.block _ (lt_of_some pv1)).trans pv1)
              exact ⟨a0, c0, a1, c1⟩
            have HC := Lib.hid hC
            have hLn := HLL.out.1.on HB.out
            have hs := hLn.same nv0 nv1
            rw [show decide (P1 + P1 = valA (P1 + P1)) = true by rw [HA.out.2.2]; simp] at hs
            have HS1 := Lib.hid hs
            have HN := Lib.hid (Below.refl wn.heap.size wn)
            obtain ⟨yv0, yw0, yv1, yw1⟩ := hC _ (Below.refl _ _)
            clear pv0 pv1 nv0 nv1 hC hLn hs
            go_wp2_with (first
              | (go_at_call 25; with_reducible refine (HS1.out _ HN.out).mono ?_; rintro e5 w5 ⟨rfl, hb5⟩
                 obtain ⟨yv0, yw0, yv1, yw1⟩ := HC.out _ hb5
                 have HN := Lib.hid hb5
                 clear hb5))
            go_meet
            exact ⟨by simp, HB.out.trans (HN.out.mono HB.out.size), HV.out.below HN.out⟩
        obtain ⟨rfl, hbx, hV⟩ := hcut
        obtain ⟨wn, hwn⟩ : ∃ wn, wn = wc := ⟨_, rfl⟩
        subst hwn
        have HB := Lib.hid hbx
        have HV := Lib.hid hV
        clear hbx hV
        go_wp2_with fail
        go_meet
        exact ⟨HB.out, HV.out.2⟩
    obtain ⟨hbx, hV⟩ := hcut
    obtain ⟨wn, hwn⟩ : ∃ wn, wn = wc := ⟨_, rfl⟩
    subst hwn
    have HB := Lib.hid hbx
    have HV := Lib.hid hV
    clear hbx hV
    go_upto_region 20 with fail
    go_cut [21, 22] from 153 to 158 (fun vd ve wx => Below wq.heap.size wq wx ∧ ∃ b, vd = .pointer (some ⟨b, 0, none⟩) ∧ ve = .int .i64 (errA (P1 + P2)) ∧ Vars wx ((b, valA (P1 + P2)) :: [(b17, valA (P1 + P1)), (b15, valA ((y1 : Int) + 1)), (b12, P2), (b10, P1), (b8, (y1 : Int)), (b9, (y2 : Int))]))
    case first =>
      as_aux_lemma =>
        obtain ⟨sv1, gv1, pv1, nv1⟩ := HV.out.get (b := b10) (z := P1) (by simp)
        obtain ⟨yv1, yw1⟩ := num_cells pv1
        obtain ⟨sv2, gv2, pv2, nv2⟩ := HV.out.get (b := b12) (z := P2) (by simp)
        obtain ⟨yv2, yw2⟩ := num_cells pv2
        have hc := (HLL.out.1.on HB.out).addE nv1 nv2
        have HCC := Lib.hid hc
        clear hc pv1 nv1 pv2 nv2
        go_wp2_with (first
          | (go_at_call 16; refine HCC.out.mono ?_; rintro e9 w9 ⟨r9, q9, rfl, hn9, hb9⟩
             have hbA := hb9.alloc hb9.size (.cells #[.int .i64 r9, .pointer q9] 29)
             have HD := Lib.hid (And.intro (HB.out.trans (hbA.mono HB.out.size)) (And.intro (NumAt.new hn9) (HV.out.below hbA)))
             clear hn9 hb9 hbA))
        go_meet
        exact ⟨HD.out.1, _, rfl, rfl, HD.out.2⟩
    obtain ⟨hbx, b21, rfl, rfl, hV⟩ := hcut
    obtain ⟨wn, hwn⟩ : ∃ wn, wn = wc := ⟨_, rfl⟩
    subst hwn
    have HB := Lib.hid hbx
    have HV := Lib.hid hV
    clear hbx hV
    go_upto_region 21 with fail
    by_cases he : errA (P1 + P2) = 0
    · have hp : 0 < P1 ∧ 0 < P2 := by rw [HP.out.1, HP.out.2.1]; exact ⟨pow_pos y1, pow_pos y2⟩
      obtain ⟨sv0, gv0, pv0, nv0⟩ := HV.out.get (b := b21) (z := valA (P1 + P2)) (by simp)
      obtain ⟨sv1, gv1, pv1, nv1⟩ := HV.out.get (b := b10) (z := P1) (by simp)
      obtain ⟨sv2, gv2, pv2, nv2⟩ := HV.out.get (b := b12) (z := P2) (by simp)
      have hC : ∀ W, Below wn.heap.size wn W → W.cell? ⟨b21, 0, none⟩ = some (.int .i64 sv0) ∧ W.cell? ⟨b21, 1, none⟩ = some (.pointer gv0) ∧ W.cell? ⟨b10, 0, none⟩ = some (.int .i64 sv1) ∧ W.cell? ⟨b10, 1, none⟩ = some (.pointer gv1) ∧ W.cell? ⟨b12, 0, none⟩ = some (.int .i64 sv2) ∧ W.cell? ⟨b12, 1, none⟩ = some (.pointer gv2) := by
        intro W hW
        obtain ⟨a0, c0⟩ := num_cells ((hW.block _ (lt_of_some pv0)).trans pv0)
        obtain ⟨a1, c1⟩ := num_cells ((hW.block _ (lt_of_some pv1)).trans pv1)
        obtain ⟨a2, c2⟩ := num_cells ((hW.block _ (lt_of_some pv2)).trans pv2)
        exact ⟨a0, c0, a1, c1, a2, c2⟩
      have HC := Lib.hid hC
      have hLn := HLL.out.1.on HB.out
      have hc1 := hLn.cmp nv0 nv1
      have hc2 := hLn.cmp nv0 nv2
      rw [(errA_0 he).2, show sgn (P1 + P2 - P1) = 1 from sgn_pos (by omega)] at hc1
      rw [(errA_0 he).2, show sgn (P1 + P2 - P2) = 1 from sgn_pos (by omega)] at hc2
      rw [he]
      have HS1 := Lib.hid hc1
      have HS2 := Lib.hid hc2
      have HAW := Lib.hid hLn.awake
      have HN := Lib.hid (Below.refl wn.heap.size wn)
      obtain ⟨yv0, yw0, yv1, yw1, yv2, yw2⟩ := hC _ (Below.refl _ _)
      clear pv0 pv1 pv2 nv0 nv1 nv2 hC hLn hc1 hc2 he hp
      go_wp2_with (first
        | (go_at_call 23; with_reducible refine (HS1.out _ HN.out).mono ?_; rintro e5 w5 ⟨rfl, hb5⟩
           obtain ⟨yv0, yw0, yv1, yw1, yv2, yw2⟩ := HC.out _ hb5
           have HN := Lib.hid hb5
           clear hb5)
        | (go_at_call 23; with_reducible refine (HS2.out _ HN.out).mono ?_; rintro e5 w5 ⟨rfl, hb5⟩
           obtain ⟨yv0, yw0, yv1, yw1, yv2, yw2⟩ := HC.out _ hb5
           have HN := Lib.hid hb5
           clear hb5)
        | (go_at_call 13; with_reducible refine (HAW.out _ HN.out).mono ?_; rintro e5 w5 ⟨rfl, hb5⟩
           obtain ⟨yv0, yw0, yv1, yw1, yv2, yw2⟩ := HC.out _ hb5
           have HN := Lib.hid hb5
           clear hb5))
      refine bodyPost_ret (v := .bool true) (by simp [results, Tryd.results8, go_sem, *]) rfl ⟨rfl, HLL.out.2.trans ((HB.out.trans (HN.out.mono HB.out.size)).mono HLL.out.2.size)⟩
    · have hf0 : (errA (P1 + P2) != 0) = true := by simp [he]
      generalize errA (P1 + P2) = ee0 at *
      clear he
      have HAW := Lib.hid ((HLL.out.1.on HB.out).awake)
      have HN := Lib.hid (Below.refl wn.heap.size wn)
      go_wp2_with (first
        | (go_at_call 13; with_reducible refine (HAW.out _ HN.out).mono ?_; rintro e5 w5 ⟨rfl, hb5⟩
           have HN := Lib.hid hb5
           clear hb5))
      refine bodyPost_ret (v := .bool true) (by simp [results, Tryd.results8, go_sem, *]) rfl ⟨rfl, HLL.out.2.trans ((HB.out.trans (HN.out.mono HB.out.size)).mono HLL.out.2.size)⟩
end Go.Proofs.YteochdnjpchdnaaDoor
