import Derived.Test.YteochdnjpchdnaaDoorK2
import Derived.Deep.CutRange
import Derived.Lib.SmallJoins
set_option linter.unusedVariables false
set_option linter.unusedSimpArgs false
namespace Go.Proofs.YteochdnjpchdnaaDoor
open Go.RowKit
set_option linter.unusedVariables false

set_option maxRecDepth 100000 in
set_option maxHeartbeats 8000000 in
/-- ████ NumOwn -/
theorem NumOwn_calls {w : World} {v : Value} {os : List OV} (hr : RowV w 4 v os.length (flatO os)) (hi : ∀ o ∈ os, i64 o.2.1 ∧ i64 o.2.2.1 ∧ i64 o.2.2.2) (tab : Tab w) (h0 : 0 < w.heap.size) (a0 a1 : Int) (ia0 : i64 a0) (ia1 : i64 a1) :
    Calls Tryd.prog 10 #[v, .int .i64 a0, .int .i64 a1] w fun e w' => e = .returned (.bool true) ∧ Below w.heap.size w w' := by
  obtain ⟨ax, cx, rfl⟩ := hr.shape
  have hL := LawW.of tab h0 (Below.refl w.heap.size w)
  have hMade := made_calls (w := w) hr hi tab h0
  have HX := Lib.hid (And.intro hL (And.intro ia0 ia1))
  clear hr hi tab h0 hL
  go_enter Tryd.func10, Tryd.ntmps10
  go_upto_region 2 with (first
    | (go_at_call 27; refine hMade.mono ?_; rintro e1 w1 ⟨a, n, c, rfl, hn3, hn27, hM⟩
       have H1 := Lib.hid hM
       clear hM))
  obtain ⟨ns, zs, hl, hown, hv, hb1, hm⟩ := H1.out
  obtain ⟨hL, ia0, ia1⟩ := HX.out
  obtain ⟨b, rfl⟩ : ∃ b, a = some ⟨b, 0, none⟩ := by
    obtain ⟨_, h2⟩ := hown
    rcases h2 with ⟨e, _⟩ | ⟨g', cap, cur, ev, _⟩
    · simp only [Value.slice.injEq] at e; omega
    · cases ev; exact ⟨g', rfl⟩
  have hbl := (hown.lt b rfl).2
  have hNn : (0 : Int) < (n : Int) := by omega
  obtain ⟨j1, hj1⟩ := Int.eq_ofNat_of_zero_le (Int.emod_nonneg a0 (show (n : Int) ≠ 0 by omega))
  obtain ⟨j2, hj2⟩ := Int.eq_ofNat_of_zero_le (Int.emod_nonneg a1 (show (n : Int) ≠ 0 by omega))
  have hl1 : j1 < n := by have := Int.emod_lt_of_pos a0 hNn; omega
  have hl2 : j2 < n := by have := Int.emod_lt_of_pos a1 hNn; omega
  have hR1 : ∀ W, Calls Tryd.prog 34 #[.int .i64 a0, .int .i64 (n : Int)] W fun e w' => e = .returned (.int .i64 (j1 : Int)) ∧ W = w' := fun W => by rw [← hj1]; exact rest_calls a0 _ ia0 hNn (by omega) W
  have hR2 : ∀ W, Calls Tryd.prog 34 #[.int .i64 a1, .int .i64 (n : Int)] W fun e w' => e = .returned (.int .i64 (j2 : Int)) ∧ W = w' := fun W => by rw [← hj2]; exact rest_calls a1 _ ia1 hNn (by omega) W
  subst hl
  have hzl := hv.len
  have hn1 := (hv.get j1 hl1 (by omega)).cold
  have hn2 := (hv.get j2 hl2 (by omega)).cold
  have hm1 := hm _ (List.getElem_mem (l := zs) (n := j1) (by omega))
  have hm2 := hm _ (List.getElem_mem (l := zs) (n := j2) (by omega))
  obtain ⟨q0, q1⟩ := RowC.num (RowV.of_own hown).rowC j1 hl1
  obtain ⟨q2, q3⟩ := RowC.num (RowV.of_own hown).rowC j2 hl2
  generalize ns[j1] = t1 at q0 q1 hn1
  generalize ns[j2] = t2 at q2 q3 hn2
  obtain ⟨s1, g1⟩ := t1
  obtain ⟨s2, g2⟩ := t2
  simp only [Nat.zero_add] at q0 q1 q2 q3 hn1 hn2
  generalize zs[j1]'(by omega) = z1 at hn1 hm1
  generalize zs[j2]'(by omega) = z2 at hn2 hm2
  have hLw := hL.on hb1
  have HY := Lib.hid (And.intro hn1 (And.intro hn2 (And.intro hLw (And.intro hb1 (And.intro hm1 hm2)))))
  generalize hpl : ns.length = L at *
  have k0 : (0 : Int) ≤ (j1 : Int) := by omega
  have k1 : (0 : Int) ≤ (j2 : Int) := by omega
  have k3 : (j1 : Int) < (L : Int) := by omega
  have k4 : (j2 : Int) < (L : Int) := by omega
  have hne1 : ¬ b = w1.heap.size := by omega
  have hne2 : ¬ w1.heap.size = b := by omega
  have hne3 : ¬ b = w1.heap.size + 1 := by omega
  have hne4 : ¬ w1.heap.size + 1 = b := by omega
  clear hpl hown hv hb1 hm hL ia0 ia1 hj1 hj2 hl1 hl2 hn1 hn2 hLw H1 HX hzl hn27 hn3 hNn hMade hm1 hm2
  go_cut [8, 9] from 22 to 35 (fun v6 v7 wx => PickT w1 s1 s2 g1 g2 v6 v7 wx)
  case first =>
    as_aux_lemma =>
    first
      | go_region_held3 (fun w' => w'.cell? ⟨b, j1 * 2, none⟩ = some (.int .i64 s1) ∧ w'.cell? ⟨b, j1 * 2 + 1, none⟩ = some (.pointer g1) ∧ w'.cell? ⟨b, j2 * 2, none⟩ = some (.int .i64 s2) ∧ w'.cell? ⟨b, j2 * 2 + 1, none⟩ = some (.pointer g2)) (first | (go_keep; done) | ((try dsimp only); refine ⟨?_, ?_, ?_, ?_⟩ <;> (go_keep; done)))
        (first
        | (have hq := H1
           go_at_call 34; refine (hR2 _).mono ?_; rintro e6 w6 ⟨rfl, rfl⟩)
        | (go_at_call 34; refine (hR1 _).mono ?_; rintro e5 w5 ⟨rfl, rfl⟩
           have H1 := Lib.hid True.intro))
      | fail
    all_goals
      (try go_wp2)
      go_meet
      first | exact pick_new _ _ _ _ _ | exact pick_new' _ _ _ _ _
  case rest =>
    obtain ⟨b8, b9, rfl, rfl, hbx, h8, h9, hge8, hge9, hne⟩ := hcut
    obtain ⟨hn1, hn2, hLw, hbw, hm1, hm2⟩ := HY.out
    obtain ⟨wq, hwq⟩ : ∃ wq, wq = w1 := ⟨_, rfl⟩
    subst hwq
    have HLL := Lib.hid (And.intro hLw (And.intro hbw (And.intro hm1 (And.intro hm2 (And.intro hge8 (And.intro hge9 (And.intro hne (And.intro hn1.1 hn2.1))))))))
    have hV : Vars wc [(b8, z1), (b9, z2)] := ⟨⟨s1, g1, h8, hn1.below hbx⟩, ⟨s2, g2, h9, hn2.below hbx⟩, trivial⟩
    clear h8 h9 hge8 hge9 hne hn1 hn2 hLw hbw hm1 hm2 HY hR1 hR2 q0 q1 q2 q3 hne1 hne2 hne3 hne4 k0 k1 k3 k4 hbl
    clear s1 s2 g1 g2
    obtain ⟨wn, hwn⟩ : ∃ wn, wn = wc := ⟨_, rfl⟩
    subst hwn
    have HB := Lib.hid hbx
    have HV := Lib.hid hV
    clear hbx hV
    have HZ := Lib.hid (And.intro HLL.out.2.2.2.2.2.2.2.1 (bytes_bound HLL.out.2.2.2.2.2.2.2.1))
    have HLL := Lib.hid (And.intro HLL.out.1 HLL.out.2.1)
    go_upto_region 3 with fail
    go_cut [10] from 36 to 39 (fun v wx => Below wq.heap.size wq wx ∧ Vars wx [(b8, z1), (b9, z2)] ∧ ∃ a c, v = .slice a (bytesZ z1).length c ∧ RowV wx 1 (.slice a (bytesZ z1).length c) (bytesZ z1).length (byV (bytesZ z1)))
    case first =>
      as_aux_lemma =>
        obtain ⟨sv0, gv0, pv0, nv0⟩ := HV.out.get (b := b8) (z := z1) (by simp)
        have hC : ∀ W, Below wn.heap.size wn W → W.cell? ⟨b8, 0, none⟩ = some (.int .i64 sv0) ∧ W.cell? ⟨b8, 1, none⟩ = some (.pointer gv0) := by
          intro W hW
          obtain ⟨a0, c0⟩ := num_cells ((hW.block _ (lt_of_some pv0)).trans pv0)
          exact ⟨a0, c0⟩
        have HC := Lib.hid hC
        have hLn := HLL.out.1.on HB.out
        have hby := hLn.bytes nv0
        obtain ⟨yv0, yw0⟩ := hC _ (Below.refl _ _)
        obtain ⟨i0, hi, hz0, hz1, hz2⟩ := info_parts infoe8
        have hb1 : Below wn.heap.size wn (wn.alloc (.cells #[] 5)) := (Below.refl _ _).alloc (Nat.le_refl _) _
        have ho1 : (wn.alloc (.cells #[] 5)).ownsRow wn.heap.size 5 1 (.slice (some ⟨wn.heap.size, 0, none⟩) 0 0) 0 [] := World.ownsRow_lit wn #[] 0 (Nat.le_refl _) (by decide) rfl
        have HBY := Lib.hid hby
        have hA : 0 + (bytesZ z1).length ≤ maxLen := by have := HZ.out.2; unfold maxLen; omega
        have hB2 : (0 + (bytesZ z1).length) * 1 ≤ 140737488355328 := by have := HZ.out.2; omega
        have HH := Lib.hid (And.intro hi (And.intro hz0 (And.intro hz1 (And.intro hz2 (And.intro hA (And.intro hB2 (And.intro hb1 ho1)))))))
        have hy := hC _ hb1
        clear pv0 nv0 hC hLn hby hi hz0 hz1 hz2 hA hB2 hb1 ho1
        obtain ⟨yv0, yw0⟩ := hy
        have HONE := Lib.hid (byV_one (bytesZ z1))
        go_wp2_with (first
          | (at_builtin; refine wpList_append_v rfl _ _ 62 rfl wn.heap.size 5 i0 (.int .u8 0) 1 1 Tryd.underlying62 HH.out.1 HH.out.2.1 HH.out.2.2.1 HH.out.2.2.2.1 rfl (by decide) _ 0 [] rfl H5.out.1 _ _ _ rfl H5.out.2.1 HONE.out HH.out.2.2.2.2.1 HH.out.2.2.2.2.2.1 H5.out.2.2.size ?_; intro v6 w6 hown6 hg6
             obtain ⟨a6, c6, rfl⟩ := (RowV.of_own hown6).shape
             have H6 := Lib.hid (And.intro hown6 hg6)
             clear hown6 hg6)
          | (go_at_call 35; refine (HBY.out _ HH.out.2.2.2.2.2.2.1).mono ?_; rintro e5 w5 ⟨a5, c5, rfl, ho5, hb5⟩
             have H5 := Lib.hid (And.intro (ownsRow_belowAll HH.out.2.2.2.2.2.2.2 hb5) (And.intro (RowV.of_own ho5) (HH.out.2.2.2.2.2.2.1.trans (hb5.mono HH.out.2.2.2.2.2.2.1.size))))
             clear ho5 hb5))
        go_meet
        obtain ⟨hown6, hg6⟩ := H6.out
        have hbx : Below wn.heap.size wn w6 := H5.out.2.2.grown hg6 H5.out.2.2.size (fun k hk => (H5.out.1.lt k hk).1)
        simp only [Nat.zero_add, List.nil_append] at hown6 ⊢
        exact ⟨HB.out.trans (hbx.mono HB.out.size), HV.out.below hbx, _, _, rfl, RowV.of_own hown6⟩
    obtain ⟨hbx, hV, a10, c10, rfl, hrow⟩ := hcut
    have HR := Lib.hid hrow
    clear hrow
    obtain ⟨wn, hwn⟩ : ∃ wn, wn = wc := ⟨_, rfl⟩
    subst hwn
    have HB := Lib.hid hbx
    have HV := Lib.hid hV
    clear hbx hV
    go_upto_region 4 with fail
    obtain ⟨sv0, gv0, pv0, nv0⟩ := HV.out.get (b := b8) (z := z1) (by simp)
    obtain ⟨sv1, gv1, pv1, nv1⟩ := HV.out.get (b := b9) (z := z2) (by simp)
    have hC : ∀ W, Below wn.heap.size wn W → W.cell? ⟨b8, 0, none⟩ = some (.int .i64 sv0) ∧ W.cell? ⟨b8, 1, none⟩ = some (.pointer gv0) ∧ W.cell? ⟨b9, 0, none⟩ = some (.int .i64 sv1) ∧ W.cell? ⟨b9, 1, none⟩ = some (.pointer gv1) := by
      intro W hW
      obtain ⟨a0, c0⟩ := num_cells ((hW.block _ (lt_of_some pv0)).trans pv0)
      obtain ⟨a1, c1⟩ := num_cells ((hW.block _ (lt_of_some pv1)).trans pv1)
      exact ⟨a0, c0, a1, c1⟩
    have HC := Lib.hid hC
    have hLn := HLL.out.1.on HB.out
    have HT := Lib.hid (hLn.terms0 nv0)
    have hx300 := nv0.wt
    have HP1 := Lib.hid pv1
    obtain ⟨yv0, yw0, yv1, yw1⟩ := hC _ (Below.refl _ _)
    clear pv0 nv0 nv1 pv1 hC hLn
    go_wp2_with (first
      | (go_at_call 28; refine (HT.out _ (Below.refl _ _)).mono ?_; rintro e5 w5 ⟨a5, c5, ts, rfl, hl5, ho5, hf5, hb5⟩
         have H5 := Lib.hid (And.intro hl5 (And.intro ho5 hb5))
         clear hl5 ho5 hf5 hb5))
    obtain ⟨hl5, ho5, hb5⟩ := H5.out
    have hrb := RowB3.of_flat ts
    generalize flatT ts = xs0 at *
    generalize ts.length = N at *
    have hN : N ≤ 300 := by omega
    have HST := Lib.hid (And.intro ho5 (And.intro hrb hb5))
    clear hl5 ho5 hb5 hrb H5 HT hx300
    go_loopw [12] (fun i wl => ∃ k : Nat, k ≤ N ∧ i = .int .i64 k ∧ Below wn.heap.size wn wl ∧ ∃ xs, wl.ownsRow wn.heap.size 50 3 (.slice a5 N c5) N xs ∧ RowB3 N xs) (fun i _ => N - (intOf i).toNat)
    case atStart => exact ⟨0, by omega, by simp, HST.out.2.2, _, HST.out.1, HST.out.2.1⟩
    case round =>
      obtain ⟨k, hkl, rfl, hbl, xs, hown, hrb⟩ := hrel
      clear HST
      by_cases hlt : k < N
      · obtain ⟨b, rfl⟩ : ∃ b, a5 = some ⟨b, 0, none⟩ := by
          obtain ⟨g', cap, e⟩ := Go.Joins.ownsRow_form hown (by omega)
          cases e; exact ⟨g', rfl⟩
        have hbg := (hown.lt b rfl).1
        obtain ⟨hxl, hxm⟩ := hrb
        obtain ⟨m, hm⟩ := hxm k hlt
        obtain ⟨u1, hu1⟩ := cell_some (xs := xs) (i := k * 3 + 1) (by omega)
        obtain ⟨u2, hu2⟩ := cell_some (xs := xs) (i := k * 3 + 2) (by omega)
        have x0 := (hown.cellAt (k * 3) (by omega)).trans hm
        have x1 := (hown.cellAt (k * 3 + 1) (by omega)).trans hu1
        have x2 := (hown.cellAt (k * 3 + 2) (by omega)).trans hu2
        have f0 := hown.frozenAt (k * 3)
        have f1 := hown.frozenAt (k * 3 + 1)
        have f2 := hown.frozenAt (k * 3 + 2)
        obtain ⟨y1, y2⟩ := num_cells ((hbl.block _ (lt_of_some HP1.out)).trans HP1.out)
        have hlt' : (k : Int) < (N : Int) := by omega
        have HQ := Lib.hid (And.intro hbl (And.intro hown (And.intro (show RowB3 N xs from ⟨hxl, hxm⟩) hbg)))
        clear hbl hown hxl hxm hm hu1 hu2 hbg yv0 yw0 yv1 yw1
        go_wp2
        go_region
        go_wp2
        obtain ⟨hbl, hown, hrb, hbg⟩ := HQ.out
        refine ⟨⟨k + 1, by omega, by go_num, ?_, _, (((hown.drew.stored (k * 3) _).1.stored (k * 3 + 1) _).1.stored (k * 3 + 2) _).1, hrb.set3 hlt⟩, by simp [intOf]; omega⟩
        exact ((hbl.drew.setCell (p := ⟨b, k * 3, none⟩) hbg _).setCell (p := ⟨b, k * 3 + 1, none⟩) hbg _).setCell (p := ⟨b, k * 3 + 2, none⟩) hbg _
      · have hkn : k = N := by omega
        subst hkn
        have hlt' : ¬ ((k : Int) < (k : Int)) := by omega
        have hbx := HB.out.trans (hbl.mono HB.out.size)
        have hV := HV.out.below hbl
        have HR := Lib.hid (HR.out.below hbl (Nat.le_refl _))
        obtain ⟨wc, hwc⟩ : ∃ wc, wc = wr := ⟨_, rfl⟩
        subst hwc
        clear hbl hown hrb hlt hkl yv0 yw0 yv1 yw1 HC HP1
        obtain ⟨wn, hwn⟩ : ∃ wn, wn = wc := ⟨_, rfl⟩
        subst hwn
        have HB := Lib.hid hbx
        have HV := Lib.hid hV
        clear hbx hV
        go_upto_region 9 with fail
        obtain ⟨sv0, gv0, pv0, nv0⟩ := HV.out.get (b := b8) (z := z1) (by simp)
        have hC : ∀ W, Below wn.heap.size wn W → W.cell? ⟨b8, 0, none⟩ = some (.int .i64 sv0) ∧ W.cell? ⟨b8, 1, none⟩ = some (.pointer gv0) := by
          intro W hW
          obtain ⟨a0, c0⟩ := num_cells ((hW.block _ (lt_of_some pv0)).trans pv0)
          exact ⟨a0, c0⟩
        have HC := Lib.hid hC
        have hLn := HLL.out.1.on HB.out
        have HT := Lib.hid (hLn.bytes nv0)
        obtain ⟨yv0, yw0⟩ := hC _ (Below.refl _ _)
        clear pv0 nv0 hC hLn
        go_wp2_with (first
          | (go_at_call 35; refine (HT.out _ (Below.refl _ _)).mono ?_; rintro e5 w5 ⟨a6, c6, rfl, ho5, hb5⟩
             have H5 := Lib.hid (And.intro ho5 hb5)
             clear ho5 hb5))
        obtain ⟨ho5, hb5⟩ := H5.out
        have hM := HZ.out.2
        obtain ⟨M, hMM⟩ : ∃ M, M = (bytesZ z1).length := ⟨_, rfl⟩
        have hxl : (byV (bytesZ z1)).length = M := by rw [byV_len, hMM]
        have hob : w5.ownsRow wn.heap.size 5 1 (.slice a6 M c6) M (byV (bytesZ z1)) := by rw [hMM]; exact ho5
        rw [← hMM]
        rw [← hMM] at hM
        generalize byV (bytesZ z1) = xs0 at hob hxl
        have HST := Lib.hid (And.intro hob (And.intro hxl hb5))
        have HMM := Lib.hid hMM
        clear hob hxl hb5 ho5 H5 HT hMM
        go_loopw [14] (fun i wl => ∃ k : Nat, k ≤ M ∧ i = .int .i64 k ∧ Below wn.heap.size wn wl ∧ ∃ xs, wl.ownsRow wn.heap.size 5 1 (.slice a6 M c6) M xs ∧ xs.length = M) (fun i _ => M - (intOf i).toNat)
        case atStart => exact ⟨0, by omega, by simp, HST.out.2.2, _, HST.out.1, HST.out.2.1⟩
        case round =>
          obtain ⟨k, hkl, rfl, hbl, xs, hown, hxl⟩ := hrel
          clear HST
          by_cases hlt : k < M
          · obtain ⟨b, rfl⟩ : ∃ b, a6 = some ⟨b, 0, none⟩ := by
              obtain ⟨g', cap, e⟩ := Go.Joins.ownsRow_form hown (by omega)
              cases e; exact ⟨g', rfl⟩
            have hbg := (hown.lt b rfl).1
            obtain ⟨u1, hu1⟩ := cell_some (xs := xs) (i := k) (by omega)
            have x0 := (hown.cellAt k (by omega)).trans hu1
            have f0 := hown.frozenAt k
            have hlt' : (k : Int) < (M : Int) := by omega
            have HQ := Lib.hid (And.intro hbl (And.intro hown (And.intro hxl hbg)))
            clear hbl hown hxl hu1 hbg yv0 yw0
            go_wp2
            obtain ⟨hbl, hown, hxl, hbg⟩ := HQ.out
            refine ⟨⟨k + 1, by omega, by go_num, ?_, _, (hown.stored k _).1, by simp [hxl]⟩, by simp [intOf]; omega⟩
            exact hbl.setCell (p := ⟨b, k, none⟩) hbg _
          · have hkn : k = M := by omega
            subst hkn
            have hlt' : ¬ ((k : Int) < (k : Int)) := by omega
            have hMM := HMM.out
            clear HMM
            subst hMM
            have hbx := HB.out.trans (hbl.mono HB.out.size)
            have hV := HV.out.below hbl
            have HR := Lib.hid (HR.out.below hbl (Nat.le_refl _))
            obtain ⟨wc, hwc⟩ : ∃ wc, wc = wr := ⟨_, rfl⟩
            subst hwc
            clear hbl hown hxl hlt hkl yv0 yw0 HC
            obtain ⟨wn, hwn⟩ : ∃ wn, wn = wc := ⟨_, rfl⟩
            subst hwn
            have HB := Lib.hid hbx
            have HV := Lib.hid hV
            clear hbx hV
            go_upto_region 14 with fail
            obtain ⟨sv0, gv0, pv0, nv0⟩ := HV.out.get (b := b8) (z := z1) (by simp)
            obtain ⟨sv1, gv1, pv1, nv1⟩ := HV.out.get (b := b9) (z := z2) (by simp)
            have hC : ∀ W, Below wn.heap.size wn W → W.cell? ⟨b8, 0, none⟩ = some (.int .i64 sv0) ∧ W.cell? ⟨b8, 1, none⟩ = some (.pointer gv0) ∧ W.cell? ⟨b9, 0, none⟩ = some (.int .i64 sv1) ∧ W.cell? ⟨b9, 1, none⟩ = some (.pointer gv1) := by
              intro W hW
              obtain ⟨a0, c0⟩ := num_cells ((hW.block _ (lt_of_some pv0)).trans pv0)
              obtain ⟨a1, c1⟩ := num_cells ((hW.block _ (lt_of_some pv1)).trans pv1)
              exact ⟨a0, c0, a1, c1⟩
            have HC := Lib.hid hC
            have hLn := HLL.out.1.on HB.out
            have HA := Lib.hid (hLn.addD nv0 nv1)
            have HS := Lib.hid (hLn.subD nv1 nv0)
            have HM := Lib.hid (hLn.mulD nv0 nv1)
            have HF := Lib.hid (hLn.shiftD nv0 nv1)
            have HN := Lib.hid (Below.refl wn.heap.size wn)
            obtain ⟨yv0, yw0, yv1, yw1⟩ := hC _ (Below.refl _ _)
            clear pv0 pv1 nv0 nv1 hC hLn
            go_upto_region 18 with (first
              | (go_at_call 16; with_reducible refine (HA.out _ HN.out).mono ?_; rintro e5 w5 ⟨r5, E5, q5, rfl, hb5⟩
                 obtain ⟨yv0, yw0, yv1, yw1⟩ := HC.out _ hb5
                 have HN := Lib.hid hb5
                 clear hb5)
              | (go_at_call 17; with_reducible refine (HS.out _ HN.out).mono ?_; rintro e5 w5 ⟨r5, E5, q5, rfl, hb5⟩
                 obtain ⟨yv0, yw0, yv1, yw1⟩ := HC.out _ hb5
                 have HN := Lib.hid hb5
                 clear hb5)
              | (go_at_call 19; with_reducible refine (HM.out _ HN.out).mono ?_; rintro e5 w5 ⟨r5, E5, q5, rfl, hb5⟩
                 obtain ⟨yv0, yw0, yv1, yw1⟩ := HC.out _ hb5
                 have HN := Lib.hid hb5
                 clear hb5)
              | (go_at_call 20; with_reducible refine (HF.out _ HN.out).mono ?_; rintro e5 w5 ⟨r5, E5, q5, rfl, hb5⟩
                 obtain ⟨yv0, yw0, yv1, yw1⟩ := HC.out _ hb5
                 have HN := Lib.hid hb5
                 clear hb5))
            have hbx := HB.out.trans (HN.out.mono HB.out.size)
            have hV := HV.out.below HN.out
            have HR := Lib.hid (HR.out.below HN.out (Nat.le_refl _))
            obtain ⟨wc, hwc⟩ : ∃ wc, wc = w5 := ⟨_, rfl⟩
            subst hwc
            clear HC HA HS HM HF HN yv0 yw0 yv1 yw1
            obtain ⟨wn, hwn⟩ : ∃ wn, wn = wc := ⟨_, rfl⟩
            subst hwn
            have HB := Lib.hid hbx
            have HV := Lib.hid hV
            clear hbx hV
            obtain ⟨sv0, gv0, pv0, nv0⟩ := HV.out.get (b := b8) (z := z1) (by simp)
            have hLn := HLL.out.1.on HB.out
            have HT := Lib.hid (hLn.terms0 nv0)
            have hC : ∀ W, Below wn.heap.size wn W → W.cell? ⟨b8, 0, none⟩ = some (.int .i64 sv0) ∧ W.cell? ⟨b8, 1, none⟩ = some (.pointer gv0) := fun W hW => num_cells ((hW.block _ (lt_of_some pv0)).trans pv0)
            have HC := Lib.hid hC
            have hx300 := nv0.wt
            clear hC hLn
            go_cut [15, 16] from 82 to 85 (fun vo vk wx => ∃ (ao ak : Option Addr) (co ck : Nat) (tso tsk : List TV), vo = .slice ao tso.length co ∧ vk = .slice ak tso.length ck ∧ tso.length = wt z1 ∧ tsk.length = tso.length ∧ FitsV cold wn tso ((naf z1).map ofT) ∧ FitsV cold wn tsk ((naf z1).map ofT) ∧ TwoR wn (.slice ao tso.length co) (.slice ak tso.length ck) tso.length 0 tso tsk wx)
            case first =>
              as_aux_lemma =>
                obtain ⟨yv0, yw0⟩ := HC.out _ (Below.refl _ _)
                clear pv0 nv0
                first
                  | go_region_held3 (fun W => W.cell? ⟨b8, 0, none⟩ = some (.int .i64 sv0) ∧ W.cell? ⟨b8, 1, none⟩ = some (.pointer gv0)) (first | exact HC.out _ (by first | exact H6.out.2.2.2 | exact H6.out.2.2.2.drew) | exact HC.out _ (by first | exact H5.out.2.2.2 | exact H5.out.2.2.2.drew) | exact HC.out _ (by repeat (first | exact Below.refl _ _ | refine Below.drew ?_)) | (go_keep; done))
                    (first
                    | (have hq := H5
                       go_at_call 28; refine (HT.out _ H5.out.2.2.2).mono ?_; rintro e6 w6 ⟨a6, c6, ts6, rfl, hl6, ho6, hf6, hb6⟩
                       have H6 := Lib.hid (And.intro hl6 (And.intro ho6 (And.intro hf6 (hq.out.2.2.2.trans (hb6.mono hq.out.2.2.2.size)))))
                       have HO6 := Lib.hid (ownsRow_belowAll hq.out.2.1 hb6)
                       have HZ6 := Lib.hid hq.out.2.2.2.size
                       clear hl6 ho6 hf6 hb6 hq)
                    | (go_at_call 28; refine (HT.out _ (by repeat (first | exact Below.refl _ _ | refine Below.drew ?_))).mono ?_; rintro e5 w5 ⟨a5, c5, ts5, rfl, hl5, ho5, hf5, hb5⟩
                       have hw5 : Below wn.heap.size wn w5 := Below.trans (by repeat (first | exact Below.refl _ _ | refine Below.drew ?_)) (hb5.mono (by first | exact Nat.le_refl _ | simp))
                       have H5 := Lib.hid (And.intro hl5 (And.intro ho5 (And.intro hf5 hw5)))
                       clear hl5 ho5 hf5 hb5))
                  | fail
                all_goals
                  (try go_wp2)
                  go_meet
                  obtain ⟨hl5, ho5, hf5, hb5⟩ := H5.out
                  obtain ⟨hl6, ho6, hf6, hb6⟩ := H6.out
                  have ho5' := HO6.out
                  have hn56 : ∀ j, (Value.slice a5 ts5.length c5).ownBlock = some j → (Value.slice a6 ts6.length c6).ownBlock ≠ some j := fun j hj hj2 => by
                    have h1 := (ho5.lt j hj).2
                    have h2 := (ho6.lt j hj2).1
                    omega
                  have hb0 := HZ6.out
                  have ho6' := ownsRow_base ho6 hb0
                  have e56 : ts5.length = ts6.length := by omega
                  first
                    | exact ⟨_, _, _, _, ts5, ts6, rfl, by rw [e56], hl5, e56.symm, hf5, hf6, hb6, ⟨_, ho5', flatT_len _, fun i _ => rfl⟩, by rw [e56]; exact ho6', by rw [e56]; rw [← e56]; exact fun j hj hj2 => hn56 j hj (by rw [← e56]; exact hj2)⟩
                    | exact ⟨_, _, _, _, ts6, ts5, rfl, by rw [e56], hl6, e56, hf6, hf5, hb6, ⟨_, ho6', flatT_len _, fun i _ => rfl⟩, by rw [← e56]; exact ho5', fun j hj hj2 => hn56 j (by rw [e56]; exact hj2) hj⟩
            obtain ⟨ao, ak, co, ck, tso, tsk, rfl, rfl, hlo, hlk, hfo, hfk, hTR⟩ := hcut
            clear pv0 nv0 HC HT
            go_upto_region 19 with fail
            have hLn := (HLL.out.1.on HB.out).on hTR.1
            have hS := hLn.sumD (v := .slice ao tso.length co) (RowV.of_own (by obtain ⟨xs, h1, h2, h3⟩ := hTR.2.1; rw [List.ext_getElem? (fun i => h3 i (by omega))] at h1; exact h1)) (hfo.below hTR.1) (by omega)
            have HS := Lib.hid hS
            have HTR := Lib.hid hTR
            have HF := Lib.hid (And.intro hlo (And.intro hlk (And.intro hfo hfk)))
            have hN : tso.length ≤ 300 := by omega
            obtain ⟨N, hNN⟩ : ∃ N, N = tso.length := ⟨_, rfl⟩
            rw [← hNN] at HTR HS hN ⊢
            have HNN := Lib.hid hNN
            clear hLn hS hTR hlo hlk hfo hfk hNN hx300
            go_wp2_with (first
              | (go_at_call 31; refine HS.out.mono ?_; rintro e5 w5 ⟨r5, E5, q5, rfl, hb5⟩
                 have H5 := Lib.hid hb5
                 clear hb5))
            have hst : TwoR wn (.slice ao N co) (.slice ak N ck) N 0 tso tsk w5 := by
              obtain ⟨h1, ⟨xs, h2, h3, h4⟩, h5, h6⟩ := HTR.out
              exact ⟨h1.trans (H5.out.mono h1.size), ⟨xs, ownsRow_belowAll h2 H5.out, h3, h4⟩, ownsRow_belowAll h5 H5.out, h6⟩
            have HST := Lib.hid hst
            clear hst H5 HS HTR
            go_loopw [17] (fun i wl => ∃ k : Nat, k ≤ N ∧ i = .int .i64 k ∧ TwoR wn (.slice ao N co) (.slice ak N ck) N k tso tsk wl) (fun i _ => N - (intOf i).toNat)
            case atStart => exact ⟨0, by omega, by simp, HST.out⟩
            case round =>
              obtain ⟨k, hkl, rfl, hTR⟩ := hrel
              clear HST
              by_cases hlt : k < N
              · have hTR0 := hTR
                obtain ⟨hbl, ⟨xs, hown, hxl, hxs⟩, hkept, hne⟩ := hTR
                obtain ⟨b, rfl⟩ : ∃ b, ao = some ⟨b, 0, none⟩ := by
                  obtain ⟨g', cap, e⟩ := Go.Joins.ownsRow_form hown (by omega)
                  cases e; exact ⟨g', rfl⟩
                obtain ⟨d, rfl⟩ : ∃ d, ak = some ⟨d, 0, none⟩ := by
                  obtain ⟨g', cap, e⟩ := Go.Joins.ownsRow_form hkept (by omega)
                  cases e; exact ⟨g', rfl⟩
                obtain ⟨hlo, hlk, hfo, hfk⟩ := HF.out
                have hNN := HNN.out
                have hko : k < tso.length := by omega
                have hkk : k < tsk.length := by omega
                have hkz : k < ((naf z1).map ofT).length := by rw [← hfo.len]; exact hko
                obtain ⟨m1, n1⟩ := hfo.get k hko hkz
                obtain ⟨m2, n2⟩ := hfk.get k hkk hkz
                obtain ⟨x0, x1, x2⟩ := flatT_get tso k hko
                obtain ⟨v0, v1, v2⟩ := flatT_get tsk k hkk
                rw [← hxs _ (by omega)] at x0 x1 x2
                have c0 := (hown.cellAt (k * 3) (by omega)).trans x0
                have c1 := (hown.cellAt (k * 3 + 1) (by omega)).trans x1
                have c2 := (hown.cellAt (k * 3 + 2) (by omega)).trans x2
                have d0 := (hkept.cellAt (k * 3) (by omega)).trans v0
                have d1 := (hkept.cellAt (k * 3 + 1) (by omega)).trans v1
                have d2 := (hkept.cellAt (k * 3 + 2) (by omega)).trans v2
                have hlb := (hown.lt b rfl).2
                have hld := (hkept.lt d rfl).2
                have hs := ((HLL.out.1.on HB.out).on hbl).same (n1.below hbl) (n2.below hbl)
                rw [show decide ((((naf z1).map ofT)[k]).2 = (((naf z1).map ofT)[k]).2) = true by simp] at hs
                rw [← m2] at m1
                clear m2 n1 n2 x0 x1 x2 v0 v1 v2
                generalize tso[k] = t1 at *
                generalize tsk[k] = t2 at *
                obtain ⟨mo, so, go⟩ := t1
                obtain ⟨mk, sk, gk⟩ := t2
                simp only at m1 c0 c1 c2 d0 d1 d2 hs
                subst m1
                have hC : ∀ W, Below wr.heap.size wr W → W.cell? ⟨b, k * 3, none⟩ = some (.bool mo) ∧ W.cell? ⟨b, k * 3 + 1, none⟩ = some (.int .i64 so) ∧ W.cell? ⟨b, k * 3 + 2, none⟩ = some (.pointer go) ∧ W.cell? ⟨d, k * 3, none⟩ = some (.bool mo) ∧ W.cell? ⟨d, k * 3 + 1, none⟩ = some (.int .i64 sk) ∧ W.cell? ⟨d, k * 3 + 2, none⟩ = some (.pointer gk) := fun W hW =>
                  ⟨(hW.cell (p := ⟨b, k * 3, none⟩) hlb).trans c0, (hW.cell (p := ⟨b, k * 3 + 1, none⟩) hlb).trans c1, (hW.cell (p := ⟨b, k * 3 + 2, none⟩) hlb).trans c2, (hW.cell (p := ⟨d, k * 3, none⟩) hld).trans d0, (hW.cell (p := ⟨d, k * 3 + 1, none⟩) hld).trans d1, (hW.cell (p := ⟨d, k * 3 + 2, none⟩) hld).trans d2⟩
                have HC := Lib.hid hC
                have HS := Lib.hid hs
                have HQ := Lib.hid (And.intro hTR0 hown)
                have hlt' : (k : Int) < (N : Int) := by omega
                have hmm : (mo != mo) = false := by simp
                have HN := Lib.hid (Below.refl wr.heap.size wr).drew
                clear hTR0 hbl hown hxl hxs hkept hne hlo hlk hfo hfk hNN hko hkk hkz hlb hld hs hC
                go_upto_region 23 with fail
                first
                  | go_region_held3 (fun W => W.cell? ⟨b, k * 3, none⟩ = some (.bool mo) ∧ W.cell? ⟨b, k * 3 + 1, none⟩ = some (.int .i64 so) ∧ W.cell? ⟨b, k * 3 + 2, none⟩ = some (.pointer go) ∧ W.cell? ⟨d, k * 3, none⟩ = some (.bool mo) ∧ W.cell? ⟨d, k * 3 + 1, none⟩ = some (.int .i64 sk) ∧ W.cell? ⟨d, k * 3 + 2, none⟩ = some (.pointer gk)) (exact HC.out _ HN.out)
                    (first
                    | (go_at_call 25; with_reducible refine (HS.out _ HN.out).mono ?_; rintro e5 w5 ⟨rfl, hb5⟩
                       obtain ⟨c0, c1, c2, d0, d1, d2⟩ := HC.out _ hb5
                       have f0 := (ownsRow_belowAll HQ.out.2 hb5).frozenAt (k * 3)
                       have HN := Lib.hid hb5
                       clear hb5))
                  | fail
                all_goals
                  (try go_wp2)
                  refine ⟨⟨k + 1, by omega, by go_num, ?_⟩, by simp [intOf]; omega⟩
                  exact HQ.out.1.next HN.out _
              · have hkn : k = N := by omega
                subst hkn
                have hlt' : ¬ ((k : Int) < (k : Int)) := by omega
                have hbl := hTR.1
                have hbx := HB.out.trans (hbl.mono HB.out.size)
                have hV := HV.out.below hbl
                have HR := Lib.hid (HR.out.below hbl (Nat.le_refl _))
                obtain ⟨wc, hwc⟩ : ∃ wc, wc = wr := ⟨_, rfl⟩
                subst hwc
                clear hbl hTR hlt hkl HF HNN
                obtain ⟨wn, hwn⟩ : ∃ wn, wn = wc := ⟨_, rfl⟩
                subst hwn
                have HB := Lib.hid hbx
                have HV := Lib.hid hV
                clear hbx hV
                go_upto_region 26 with fail
                go_cut [18, 19] from 123 to 127 (fun vd ve wx => Below wn.heap.size wn wx ∧ ∃ b, vd = .pointer (some ⟨b, 0, none⟩) ∧ ve = .int .i64 0 ∧ Vars wx ((b, z1) :: [(b8, z1), (b9, z2)]))
                case first =>
                  as_aux_lemma =>
                    have hl := (HLL.out.1.on HB.out).loadY HZ.out.1 HR.out
                    have HL := Lib.hid hl
                    clear hl
                    go_wp2_with (first
                      | (go_at_call 36; refine HL.out.mono ?_; rintro e9 w9 ⟨r9, q9, rfl, hn9, hb9⟩
                         have hbA := hb9.alloc hb9.size (.cells #[.int .i64 r9, .pointer q9] 29)
                         have HD := Lib.hid (And.intro hbA (And.intro (NumAt.new hn9) (HV.out.below hbA)))
                         clear hn9 hb9 hbA))
                    go_meet
                    exact ⟨HD.out.1, _, rfl, rfl, HD.out.2⟩
                obtain ⟨hbx0, b18, rfl, rfl, hV⟩ := hcut
                have hbx := HB.out.trans (hbx0.mono HB.out.size)
                have HR := Lib.hid (HR.out.below hbx0 (Nat.le_refl _))
                clear hbx0
                obtain ⟨wn, hwn⟩ : ∃ wn, wn = wc := ⟨_, rfl⟩
                subst hwn
                have HB := Lib.hid hbx
                have HV := Lib.hid hV
                clear hbx hV
                go_upto_region 27 with fail
                obtain ⟨sv0, gv0, pv0, nv0⟩ := HV.out.get (b := b18) (z := z1) (by simp)
                obtain ⟨sv1, gv1, pv1, nv1⟩ := HV.out.get (b := b8) (z := z1) (by simp)
                have hC : ∀ W, Below wn.heap.size wn W → W.cell? ⟨b18, 0, none⟩ = some (.int .i64 sv0) ∧ W.cell? ⟨b18, 1, none⟩ = some (.pointer gv0) ∧ W.cell? ⟨b8, 0, none⟩ = some (.int .i64 sv1) ∧ W.cell? ⟨b8, 1, none⟩ = some (.pointer gv1) := by
                  intro W hW
                  obtain ⟨a0, c0⟩ := num_cells ((hW.block _ (lt_of_some pv0)).trans pv0)
                  obtain ⟨a1, c1⟩ := num_cells ((hW.block _ (lt_of_some pv1)).trans pv1)
                  exact ⟨a0, c0, a1, c1⟩
                have HC := Lib.hid hC
                have hLn := HLL.out.1.on HB.out
                have HY := Lib.hid (hLn.bytes nv1)
                have hc := hLn.cmp nv0 nv1
                rw [show sgn (z1 - z1) = 0 by rw [Int.sub_self]; rfl] at hc
                have HCM := Lib.hid hc
                have hs := hLn.same nv0 nv1
                rw [show decide (z1 = z1) = true by simp] at hs
                have HS := Lib.hid hs
                have HAW := Lib.hid hLn.awake
                have HN := Lib.hid (Below.refl wn.heap.size wn)
                have hSM : ∀ (W : World) (v : Value), RowV W 1 v (bytesZ z1).length (byV (bytesZ z1)) → RowV W 1 (.slice a10 (bytesZ z1).length c10) (bytesZ z1).length (byV (bytesZ z1)) → Calls Tryd.prog 37 #[v, .slice a10 (bytesZ z1).length c10] W fun e w' => e = .returned (.bool true) ∧ W = w' := fun W v h1 h2 => by
                  have h := Same_calls h1 h2 (byteL_bytesZ z1) (byteL_bytesZ z1)
                  rw [show decide (bytesZ z1 = bytesZ z1) = true by simp] at h
                  exact h
                have HSM := Lib.hid hSM
                obtain ⟨yv0, yw0, yv1, yw1⟩ := hC _ (Below.refl _ _)
                clear pv0 pv1 nv0 nv1 hC hLn hc hs hSM
                go_wp2_with (first
                  | (go_at_call 35; refine (HY.out _ HN.out).mono ?_; rintro e5 w5 ⟨a5, c5, rfl, ho5, hb5⟩
                     obtain ⟨yv0, yw0, yv1, yw1⟩ := HC.out _ hb5
                     have HRY := Lib.hid (And.intro (RowV.of_own ho5) (HR.out.below hb5 (Nat.le_refl _)))
                     have HN := Lib.hid hb5
                     clear ho5 hb5)
                  | (go_at_call 37; refine (HSM.out _ _ HRY.out.1 HRY.out.2).mono ?_; rintro e5 w5 ⟨rfl, rfl⟩)
                  | (go_at_call 23; with_reducible refine (HCM.out _ HN.out).mono ?_; rintro e5 w5 ⟨rfl, hb5⟩
                     obtain ⟨yv0, yw0, yv1, yw1⟩ := HC.out _ hb5
                     have HN := Lib.hid hb5
                     clear hb5)
                  | (go_at_call 25; with_reducible refine (HS.out _ HN.out).mono ?_; rintro e5 w5 ⟨rfl, hb5⟩
                     obtain ⟨yv0, yw0, yv1, yw1⟩ := HC.out _ hb5
                     have HN := Lib.hid hb5
                     clear hb5)
                  | (go_at_call 13; with_reducible refine (HAW.out _ HN.out).mono ?_; rintro e5 w5 ⟨rfl, hb5⟩
                     have HN := Lib.hid hb5
                     clear hb5))
                refine bodyPost_ret (v := .bool true) (by simp [results, Tryd.results10, go_sem, *]) rfl ⟨rfl, HLL.out.2.trans ((HB.out.trans (HN.out.mono HB.out.size)).mono HLL.out.2.size)⟩
end Go.Proofs.YteochdnjpchdnaaDoor
