import Derived.Test.YtlclanmbebjfkaaDoorJ5
import Derived.Test.YtlclanmbebjfkaaDoorK8
import Derived.Test.YtlclanmbebjfkaaDoorF6
import Derived.Deep.CutRange
import Derived.Deep.LoopGhost
import Derived.Deep.AppendLies
import Derived.Deep.RegionHeld3
import Derived.Lib.SmallJoins
set_option linter.unusedVariables false
set_option linter.unusedSimpArgs false
namespace Go.Proofs.YtlclanmbebjfkaaDoor
open Go.RowKit
set_option linter.unusedVariables false

set_option maxRecDepth 100000 in
set_option maxHeartbeats 8000000 in
/-- ████ NumForm -/
theorem NumForm_calls {w : World} {v : Value} {os : List OV} (hr : RowV w 4 v os.length (flatO os)) (hi : ∀ o ∈ os, i64 o.2.1 ∧ i64 o.2.2.1 ∧ i64 o.2.2.2) (tab : Tab w) (h0 : 0 < w.heap.size) :
    Calls Tryd.prog 3 #[v] w fun e w' => e = .returned (.bool true) ∧ Below w.heap.size w w' := by
  obtain ⟨ax, cx, rfl⟩ := hr.shape
  have hL := LawW.of tab h0 (Below.refl w.heap.size w)
  have hMade := made_calls (w := w) hr hi tab h0
  have HX := Lib.hid hL
  clear hr hi tab h0 hL
  go_enter Tryd.func3, Tryd.ntmps3
  go_upto_region 2 with (first
    | (go_at_call 4; refine hMade.mono ?_; rintro e1 w1 ⟨a, m, c, rfl, hn3, hn27, hM⟩
       have H1 := Lib.hid hM
       clear hM))
  obtain ⟨ns, zs, hl, hown, hv, hb1, hm⟩ := H1.out
  have hL := HX.out
  obtain ⟨b, rfl⟩ : ∃ b, a = some ⟨b, 0, none⟩ := by
    obtain ⟨_, h2⟩ := hown
    rcases h2 with ⟨e, _⟩ | ⟨g', cap, cur, ev, _⟩
    · simp only [Value.slice.injEq] at e; omega
    · cases ev; exact ⟨g', rfl⟩
  have hbl := (hown.lt b rfl).2
  subst hl
  have hnv : NumsV cold w1 ns zs := hv.imp (fun s g z h => h.cold)
  have hlc := (RowV.of_own hown).rowC
  obtain ⟨wq, hwq⟩ : ∃ wq, wq = w1 := ⟨_, rfl⟩
  subst hwq
  have hAT : ∀ i, i < ns.length → ∃ (s : Int) (g : Option Addr) (z : Int), NumA cold wq s g z ∧ wt z ≤ 40 ∧ weightZ z ≤ 120 ∧ ∀ W, Below wq.heap.size wq W → W.cell? ⟨b, i * 2, none⟩ = some (.int .i64 s) ∧ W.cell? ⟨b, i * 2 + 1, none⟩ = some (.pointer g) := fun i hi => by
    obtain ⟨q0, q1⟩ := RowC.num hlc _ hi
    simp only [Nat.zero_add] at q0 q1
    have hz : i < zs.length := by rw [← hnv.len]; exact hi
    refine ⟨_, _, zs[i], hnv.get i hi hz, (hm _ (List.getElem_mem hz)).1, (hm _ (List.getElem_mem hz)).2, fun W hW => ⟨(hW.cell (p := ⟨b, i * 2, none⟩) hbl).trans q0, (hW.cell (p := ⟨b, i * 2 + 1, none⟩) hbl).trans q1⟩⟩
  have hLw := hL.on hb1
  have HLL := Lib.hid (And.intro hLw (And.intro hb1 True.intro))
  have HAT := Lib.hid hAT
  have hL27 : (ns.length : Int) ≤ 27 := by omega
  obtain ⟨L, hLL⟩ : ∃ L, L = ns.length := ⟨_, rfl⟩
  rw [← hLL] at hL27 HAT ⊢
  obtain ⟨wn, hwn⟩ : ∃ wn, wn = wq := ⟨_, rfl⟩
  have hbx : Below wq.heap.size wq wn := by rw [hwn]; exact Below.refl _ _
  rw [← hwn]
  have HB := Lib.hid hbx
  clear H1 HX hMade hown hv hm hlc hL hLw hnv hn3 hn27 hb1 hAT hLL hwn hbx
  go_upto_region 3 with fail
  go_loopg [4] L (fun rem i wl => ∃ k : Nat, k + rem = L ∧ i = .int .i64 k ∧ Below wq.heap.size wq wl)
  case atStart => exact ⟨0, by omega, rfl, HB.out⟩
  case round =>
    obtain ⟨i, hir, rfl, hB⟩ := hrel
    clear HB
    obtain ⟨gq, hgq⟩ : ∃ gq, gq = gk := ⟨_, rfl⟩
    subst hgq
    by_cases hlt : i < L
    · have hlt' : (i : Int) < (L : Int) := by omega
      obtain ⟨s, g, z, hn, hw40, hw120, hcell⟩ := HAT.out i hlt
      have hnB := hn.below hB
      obtain ⟨x0, x1⟩ := hcell _ hB
      have HC := Lib.hid hcell
      have HN0 := Lib.hid (And.intro hn (And.intro hw40 hw120))
      have hT := ((HLL.out.1.on hB).terms0 hnB) _ (Below.refl _ _)
      have HT := Lib.hid hT
      have HBR := Lib.hid hB
      clear hn hcell hT hB hnB hw40 hw120
      go_upto_region 6 with (first
        | (go_at_call 5; refine HT.out.mono ?_; rintro e5 w5 ⟨a5, c5, ts, rfl, hlen, ho, hf, hb5⟩
           have H5 := Lib.hid (And.intro hlen (And.intro ho (And.intro hf hb5)))
           clear hlen ho hf hb5))
      obtain ⟨N, hN⟩ : ∃ N, N = ts.length := ⟨_, rfl⟩
      have hN40 : (N : Int) ≤ 40 := by have := HN0.out.2.1; have := H5.out.1; omega
      have hNz : N = (naf z).length := by rw [hN, H5.out.1]; rfl
      have hb5 := H5.out.2.2.2
      have ho5 := H5.out.2.1
      have hf5 := H5.out.2.2.1
      rw [← hN] at ho5 ⊢
      obtain ⟨wm, hwm⟩ : ∃ wm, wm = w5 := ⟨_, rfl⟩
      subst hwm
      have HTS := Lib.hid (And.intro hNz (And.intro ho5 (And.intro (hf5.below hb5) (And.intro hb5 hN))))
      clear hNz ho5 hf5 hb5 H5 HT hN x0 x1
      have hTC : ∀ j, j < N → ∃ (m : Bool) (sj : Int) (gj : Option Addr) (e : Nat) (ba : Nat), (naf z)[j]? = some (m, e) ∧ ts[j]? = some (m, sj, gj) ∧ NumA cold wm sj gj (e : Int) ∧ a5 = some ⟨ba, 0, none⟩ ∧ ∀ W, Below wm.heap.size wm W → W.cell? ⟨ba, j * 3, none⟩ = some (.bool m) ∧ W.cell? ⟨ba, j * 3 + 1, none⟩ = some (.int .i64 sj) ∧ W.cell? ⟨ba, j * 3 + 2, none⟩ = some (.pointer gj) := fun j hj => by
        obtain ⟨hNz, ho5, hf5, hb5, hN⟩ := HTS.out
        have h1 : j < ts.length := by omega
        have h2 : j < (naf z).length := by omega
        have h3 := hf5.get j h1 (by rw [List.length_map]; exact h2)
        simp only [List.getElem_map, ofT] at h3
        obtain ⟨y0, y1, y2⟩ := flatT_get ts j h1
        obtain ⟨ba, rfl⟩ : ∃ ba, a5 = some ⟨ba, 0, none⟩ := by
          obtain ⟨g', cap, e⟩ := Go.Joins.ownsRow_form ho5 (by omega)
          cases e; exact ⟨g', rfl⟩
        have hla := (ho5.lt ba rfl).2
        have z0 := (ho5.cellAt (j * 3) (by omega)).trans y0
        have z1 := (ho5.cellAt (j * 3 + 1) (by omega)).trans y1
        have z2 := (ho5.cellAt (j * 3 + 2) (by omega)).trans y2
        rw [h3.1] at z0
        refine ⟨(naf z)[j].1, ts[j].2.1, ts[j].2.2, (naf z)[j].2, ba, ?_, ?_, h3.2, rfl, fun W hW => ⟨(hW.cell (p := ⟨ba, j * 3, none⟩) hla).trans z0, (hW.cell (p := ⟨ba, j * 3 + 1, none⟩) hla).trans z1, (hW.cell (p := ⟨ba, j * 3 + 2, none⟩) hla).trans z2⟩⟩
        · rw [List.getElem?_eq_getElem h2]
        · rw [List.getElem?_eq_getElem h1, ← h3.1]
      have HTC := Lib.hid hTC
      clear hTC
      go_upto_region 9 with fail
      go_loopg [6, 7, 8] N (fun rem vh vb vj wl => ∃ (j : Nat) (a7 : Option Addr) (c7 : Nat), j + rem = N ∧ vj = .int .i64 j ∧ vh = .int .i64 (hgtL ((naf z).take j) : Nat) ∧ vb = .slice a7 j c7 ∧ Below wm.heap.size wm wl ∧ wl.ownsRow wm.heap.size 31 3 (.slice a7 j c7) j (flatT (ts.reverse.take j)))
      case atStart =>
        exact ⟨0, _, _, by omega, rfl, rfl, rfl, (Below.refl _ _).alloc (Nat.le_refl _) _, World.ownsRow_lit wm #[] 0 (Nat.le_refl _) (by decide) rfl⟩
      case round =>
        obtain ⟨j, a7, c7, hjr, rfl, rfl, rfl, hbl, ho7⟩ := hrel
        by_cases hj : j < N
        · have hj' : (j : Int) < (N : Int) := by omega
          obtain ⟨m, sj, gj, e, ba, hze, hte, hne, rfl, hcj⟩ := HTC.out j hj
          have hnl := hne.below hbl
          obtain ⟨x0, x1, x2⟩ := hcj _ hbl
          have hsg := ((HLL.out.1.on (HBR.out.trans (HTS.out.2.2.2.1.mono HBR.out.size))).on hbl).sign hnl
          have HSG := Lib.hid hsg
          have hs0 : ¬ sgn (e : Int) < 0 := by unfold sgn; split <;> (try split) <;> omega
          obtain ⟨wl, hwl⟩ : ∃ wl, wl = wr := ⟨_, rfl⟩
          subst hwl
          have HCJ := Lib.hid hcj
          have HE := Lib.hid (And.intro hze (And.intro hte hne))
          have HO7 := Lib.hid ho7
          have HBL := Lib.hid hbl
          clear hsg hcj hze hte hne ho7 hbl hnl
          go_upto_region 11 with fail
          go_cut [42] from 36 to 42 (fun t wx => t = .bool false ∧ Below wl.heap.size wl wx)
          case first =>
            as_aux_lemma =>
              go_wp2_with (first
                | (go_at_call 6; refine (HSG.out _ (Below.refl _ _)).mono ?_; rintro e9 w9 ⟨rfl, hb9⟩
                   have H9 := Lib.hid hb9
                   clear hb9))
              go_meet
              exact ⟨by simp [hs0], H9.out⟩
          obtain ⟨rfl, hbw⟩ := hcut
          obtain ⟨wn, hwn⟩ : ∃ wn, wn = wc := ⟨_, rfl⟩
          subst hwn
          have HBW := Lib.hid hbw
          clear hbw x0 x1 x2
          go_upto_if 44 with fail
          go_cut [] from 43 to 67 (fun wx => Below wn.heap.size wn wx)
          case first =>
            as_aux_lemma =>
              by_cases h0 : j = 0
              · have h0' : ¬ (0 : Int) < (j : Int) := by omega
                clear h0
                go_wp2_with fail
                go_meet
                exact Below.refl _ _
              · have h0' : (0 : Int) < (j : Int) := by omega
                obtain ⟨p, hp⟩ : ∃ p, j = p + 1 := ⟨j - 1, by omega⟩
                obtain ⟨m2, s2, g2, e2, ba2, hze2, hte2, hne2, hba2, hcj2⟩ := HTC.out p (by omega)
                cases hba2
                have hbm := HBL.out.trans (HBW.out.mono HBL.out.size)
                have hall : allowedZ ((e2 : Int) - (e : Int)) := diff_allowed (z := z) HN0.out.2.2 (HN0.out.1.1.2.1) (List.mem_of_getElem? hze2) (List.mem_of_getElem? HE.out.1)
                have hgap : e + 2 ≤ e2 := by
                  have h2 := List.getElem?_eq_some_iff.1 hze2
                  have h1 := List.getElem?_eq_some_iff.1 HE.out.1
                  obtain ⟨l1, k1⟩ := h1
                  obtain ⟨l2, k2⟩ := h2
                  subst hp
                  have := form_gap l1
                  rw [k1, k2] at this
                  exact this
                have hLm := (HLL.out.1.on (HBR.out.trans (HTS.out.2.2.2.1.mono HBR.out.size))).on hbm
                have hM : ∀ W, Below wn.heap.size wn W → Calls Tryd.prog 7 #[.agg #[.int .i64 s2, .pointer g2], .agg #[.int .i64 sj, .pointer gj]] W fun ee w' => ∃ (r : Int) (q : Option Addr), ee = .returned (.tuple #[.agg #[.int .i64 r, .pointer q], .int .i64 0]) ∧ NumA cold w' r q ((e2 : Int) - (e : Int)) ∧ Below W.heap.size W w' := fun W hW =>
                  (hLm.on hW).subY ((hne2.below hbm).below hW) ((HE.out.2.2.below hbm).below hW) hall _ (Below.refl _ _)
                have hwt : IntKind.i64.wrap ((j : Int) - 1) = (p : Int) := by rw [IntWalk.i64_in _ (by omega)]; omega
                have hp0 : (0 : Int) ≤ (p : Int) := by omega
                have hp1 : (p : Int) < (N : Int) := by omega
                have hC := fun W (hW : Below wn.heap.size wn W) => And.intro (hcj2 W (hbm.trans (hW.mono hbm.size))) (HCJ.out W (hbm.trans (hW.mono hbm.size)))
                have HC2 := Lib.hid hC
                have HM := Lib.hid hM
                have HG := Lib.hid hgap
                have HLM := Lib.hid hLm
                have HPJ := Lib.hid hp
                clear hC hM hall hgap hze2 hte2 hne2 hcj2 hLm hbm hp h0
                go_upto_region 14 with fail
                go_cut [9, 10] from 44 to 59 (fun vp ve wx => Below wn.heap.size wn wx ∧ ∃ bp, vp = .pointer (some ⟨bp, 0, none⟩) ∧ ve = .int .i64 0 ∧ NumAt cold wx bp ((e2 : Int) - (e : Int)))
                case first =>
                  as_aux_lemma =>
                    obtain ⟨⟨_, x1, x2⟩, _, x3, x4⟩ := HC2.out _ (Below.refl _ _)
                    have hC4 := fun W (hW : Below wn.heap.size wn W) => And.intro (HC2.out W hW).1.2 (HC2.out W hW).2.2
                    have HC4 := Lib.hid hC4
                    clear hC4
                    first
                      | go_region_held3 (fun W => (W.cell? ⟨ba, p * 3 + 1, none⟩ = some (.int .i64 s2) ∧ W.cell? ⟨ba, p * 3 + 2, none⟩ = some (.pointer g2)) ∧ W.cell? ⟨ba, j * 3 + 1, none⟩ = some (.int .i64 sj) ∧ W.cell? ⟨ba, j * 3 + 2, none⟩ = some (.pointer gj)) (first | exact HC4.out _ HW4.out | exact HC4.out _ (HW4.out.alloc HW4.out.size _) | exact HC4.out _ ((HW4.out.setCell (Nat.le_refl _) _).setCell (Nat.le_refl _) _) | exact HC4.out _ (by repeat (first | exact Below.refl _ _ | refine Below.drew ?_ | refine Below.alloc ?_ (by simp) _)) | (go_keep; done))
                          (first
                          | (go_at_call 7; refine (HM.out _ (by repeat (first | exact Below.refl _ _ | refine Below.drew ?_ | refine Below.alloc ?_ (by simp) _))).mono ?_; rintro e4 w4 ⟨r4, q4, rfl, hn4, hb4⟩
                             have hw4 : Below wn.heap.size wn w4 := Below.trans (by repeat (first | exact Below.refl _ _ | refine Below.drew ?_ | refine Below.alloc ?_ (by simp) _)) (hb4.mono (by first | exact Nat.le_refl _ | simp))
                             (first
                               | (have z4 := (hb4.block wn.heap.size (by simp)).trans (heap_alloc_new wn (.cells #[.int .i64 0, .pointer none] 28))
                                  obtain ⟨z40, z41⟩ := num_cells z4
                                  obtain ⟨z42, z43⟩ := num_frozen z4
                                  have HZ4 := Lib.hid z4
                                  clear z4)
                               | skip)
                             have HW4 := Lib.hid hw4
                             have H4 := Lib.hid hn4
                             clear hn4 hb4 hw4))
                      | fail
                    all_goals
                      (try go_wp2)
                      go_meet
                      first
                        | exact ⟨HW4.out.alloc HW4.out.size _, _, rfl, rfl, NumAt.new H4.out⟩
                        | exact ⟨(HW4.out.setCell (Nat.le_refl _) _).setCell (Nat.le_refl _) _, _, rfl, rfl, NumAt.put HZ4.out H4.out⟩
                obtain ⟨hbw, bp, rfl, rfl, hP⟩ := hcut
                obtain ⟨wo, hwo⟩ : ∃ wo, wo = wc := ⟨_, rfl⟩
                subst hwo
                have HBO := Lib.hid hbw
                have HP := Lib.hid hP
                clear hbw hP
                go_upto_region 15 with fail
                go_cut [67] from 60 to 67 (fun t wx => t = .bool false ∧ Below wo.heap.size wo wx)
                case first =>
                  as_aux_lemma =>
                    obtain ⟨s0, g0, p0, n0⟩ := HP.out
                    obtain ⟨c0, c1⟩ := num_cells p0
                    have hLo := HLM.out.on HBO.out
                    have hcm := hLo.cmp n0 (NumA.small (B := cold) wo (show i64 2 by unfold i64; omega))
                    have hof := hLo.of_ 2
                    have hsv : ¬ sgn ((e2 : Int) - (e : Int) - 2) < 0 := by
                      have := HG.out
                      unfold sgn
                      split <;> (try split) <;> omega
                    generalize sgn ((e2 : Int) - (e : Int) - 2) = sv at *
                    have hS := fun W (hW : Below wo.heap.size wo W) => num_cells ((hW.block _ (lt_of_some p0)).trans p0)
                    have HS := Lib.hid hS
                    have HCM := Lib.hid hcm
                    have HOF := Lib.hid hof
                    have HN := Lib.hid (Below.refl wo.heap.size wo)
                    clear hcm hof hLo hS p0 n0
                    first
                      | go_region_held3 (fun W => W.cell? ⟨bp, 0, none⟩ = some (.int .i64 s0) ∧ W.cell? ⟨bp, 1, none⟩ = some (.pointer g0)) (exact HS.out _ (by repeat (first | with_reducible exact HN.out | with_reducible exact Below.refl _ _ | with_reducible refine Below.drew ?_ | with_reducible refine below_drewN ?_ _)))
                          (first
                          | (go_at_call 9; refine (HOF.out _ (by repeat (first | with_reducible exact HN.out | with_reducible exact Below.refl _ _ | with_reducible refine Below.drew ?_ | with_reducible refine below_drewN ?_ _))).mono ?_; rintro e5 w5 ⟨rfl, hb5⟩
                             have HN := Lib.hid hb5
                             clear hb5)
                          | (go_at_call 8; refine (HCM.out _ (by repeat (first | with_reducible exact HN.out | with_reducible exact Below.refl _ _ | with_reducible refine Below.drew ?_ | with_reducible refine below_drewN ?_ _))).mono ?_; rintro e5 w5 ⟨rfl, hb5⟩
                             have HN := Lib.hid hb5
                             clear hb5))
                      | fail
                    all_goals
                      (try go_wp2)
                      go_meet
                      exact ⟨by simp [hsv], HN.out⟩
                obtain ⟨rfl, hbx⟩ := hcut
                have HQ := Lib.hid (HBO.out.trans (hbx.mono HBO.out.size))
                clear hbx
                go_wp2
                go_meet
                exact HQ.out
          obtain ⟨wo, hwo⟩ : ∃ wo, wo = wc := ⟨_, rfl⟩
          subst hwo
          have HBO := Lib.hid hcut
          clear hcut
          have hbo := (HBL.out.trans (HBW.out.mono HBL.out.size)).trans (HBO.out.mono (Nat.le_trans HBL.out.size HBW.out.size))
          have hLo := (HLL.out.1.on (HBR.out.trans (HTS.out.2.2.2.1.mono HBR.out.size))).on hbo
          have HBO2 := Lib.hid hbo
          have HLO := Lib.hid hLo
          clear hbo hLo
          go_upto_region 17 with fail
          go_cut [6] from 68 to 76 (fun vh wx => vh = .int .i64 (hgtL ((naf z).take (j + 1)) : Nat) ∧ Below wo.heap.size wo wx)
          case first =>
            as_aux_lemma =>
              obtain ⟨_, x1, x2⟩ := HCJ.out _ HBO2.out
              have hhc := HLO.out.height (HE.out.2.2.below HBO2.out)
              have hh100 : hgt (e : Int) ≤ 100 := HE.out.2.2.1.2.1
              obtain ⟨l1, k1⟩ := List.getElem?_eq_some_iff.1 HE.out.1
              have hsucc := hgt_take_succ l1
              rw [k1] at hsucc
              generalize hgt (e : Int) = hh at *
              have hwr : IntKind.i64.wrap ((hh : Int) + 1) = (hh : Int) + 1 := by rw [IntWalk.i64_in _ (by omega)]
              have HHC := Lib.hid hhc
              have HSC := Lib.hid hsucc
              have HN := Lib.hid (Below.refl wo.heap.size wo)
              clear hhc hsucc l1 k1
              generalize hgtL ((naf z).take j) = h0 at *
              go_wp2_with (first
                | (go_at_call 10; with_reducible refine (HHC.out _ HN.out).mono ?_; rintro e5 w5 ⟨rfl, hb5⟩
                   have HN := Lib.hid hb5
                   clear hb5))
              go_meet
              exact ⟨by rw [HSC.out]; congr 1; omega, HN.out⟩
          obtain ⟨rfl, hbx⟩ := hcut
          obtain ⟨wu, hwu⟩ : ∃ wu, wu = wc := ⟨_, rfl⟩
          subst hwu
          have hbu := HBO2.out.trans (hbx.mono HBO2.out.size)
          have ho8 := ownsRow_belowAll (ownsRow_belowAll (ownsRow_belowAll HO7.out HBW.out) HBO.out) hbx
          obtain ⟨q, hq⟩ : ∃ q, N = q + j + 1 := ⟨N - 1 - j, by omega⟩
          obtain ⟨m3, s3, g3, e3, ba3, hze3, hte3, hne3, hba3, hcj3⟩ := HTC.out q (by omega)
          cases hba3
          obtain ⟨x0, x1, x2⟩ := hcj3 _ hbu
          have hw1 : IntKind.i64.wrap ((N : Int) - 1) = (N : Int) - 1 := IntWalk.i64_in _ (by omega)
          have hw2 : IntKind.i64.wrap ((N : Int) - 1 - (j : Int)) = (q : Int) := by rw [IntWalk.i64_in _ (by omega)]; omega
          have hq0 : (0 : Int) ≤ (q : Int) := by omega
          have hq1 : (q : Int) < (N : Int) := by omega
          have hrev : flatT (ts.reverse.take j) ++ cellsT (m3, s3, g3) = flatT (ts.reverse.take (j + 1)) := by
            have hl : ts.length = N := by have := HTS.out.2.2.2.2; omega
            have hg : ts.reverse[j]? = some (m3, s3, g3) := by
              rw [List.getElem?_reverse (by omega), hl, show N - 1 - j = q by omega]
              exact hte3
            rw [List.take_add_one, hg]
            simp [flatT]
          obtain ⟨i1, hi1, hy1, hy2, hy3⟩ := info_parts infoeT
          have HH := Lib.hid (And.intro hi1 (And.intro hy1 (And.intro hy2 hy3)))
          have HRV := Lib.hid (And.intro hrev (And.intro hbu ho8))
          have hsz := hbu.size
          clear hbu ho8 hq hze3 hte3 hne3 hcj3 hi1 hy1 hy2 hy3 hrev hbx
          go_wp2_with (first
            | (at_builtin; refine wpList_append_own_at _ rfl _ _ 25 rfl wm.heap.size 31 i1 zT 3 24 Tryd.underlying25 HH.out.1 HH.out.2.1 HH.out.2.2.1 HH.out.2.2.2 rfl (by decide) _ _ _ rfl (HRV.out.2.2.alloc _) ⟨wu.heap.size, 0, none⟩ 1 1 (cellsT (m3, s3, g3)) rfl rfl (news_alloc wu _ _ _) (by simp [cellsT, Value.oneCell']) (by unfold maxLen; omega) (by omega) (by simp; omega) ?_; intro v8 w8 hown8 hg8 _ hat8
               obtain ⟨a8, c8, rfl⟩ := (RowV.of_own hown8).shape
               have H8 := Lib.hid (And.intro hown8 hg8)
               clear hown8 hg8 hat8))
          go_roundg (gk - 1)
          case measure => omega
          case rel =>
            refine ⟨j + 1, a8, c8, by omega, by go_num, rfl, rfl, ?_, ?_⟩
            · exact (HRV.out.2.1.alloc HRV.out.2.1.size _).grown H8.out.2 (by simp; omega) (fun k hk => (HRV.out.2.2.lt k hk).1)
            · rw [← HRV.out.1]
              exact H8.out.1
        · have hj' : ¬ (j : Int) < (N : Int) := by omega
          have hjN : j = N := by omega
          subst hjN
          have hall : hgtL ((naf z).take j) = hgt z := by rw [show j = (naf z).length from HTS.out.1]; exact hgt_take_all z
          have hrv : ts.reverse.take j = ts.reverse := List.take_of_length_le (by rw [List.length_reverse]; have := HTS.out.2.2.2.2; omega)
          rw [hrv] at ho7
          have hLz := (HLL.out.1.on (HBR.out.trans (HTS.out.2.2.2.1.mono HBR.out.size))).on hbl
          have hfz := HTS.out.2.2.1.below hbl
          have hnz := (HN0.out.1.below HBR.out).below (HTS.out.2.2.2.1.trans (hbl.mono HTS.out.2.2.2.1.size))
          have hoz := ownsRow_belowAll HTS.out.2.1 hbl
          have hbq := (HBR.out.trans (HTS.out.2.2.2.1.mono HBR.out.size)).trans (hbl.mono (Nat.le_trans HBR.out.size HTS.out.2.2.2.1.size))
          obtain ⟨wz, hwz⟩ : ∃ wz, wz = wr := ⟨_, rfl⟩
          subst hwz
          have HZ := Lib.hid (And.intro hLz (And.intro hfz (And.intro hnz (And.intro hoz (And.intro ho7 hbq)))))
          have HWZ := Lib.hid hbl
          clear hLz hfz hnz hoz ho7 hbq hrv hbl hjr
          rw [hall]
          clear hall
          go_upto_region 19 with fail
          go_cut [11, 12] from 88 to 92 (fun vd ve wx => Below wz.heap.size wz wx ∧ ∃ b, vd = .pointer (some ⟨b, 0, none⟩) ∧ ve = .int .i64 0 ∧ NumAt cold wx b z)
          case first =>
            as_aux_lemma =>
              have hlen : ts.length = j := by have := HTS.out.2.2.2.2; omega
              have hc := HZ.out.1.sumU (v := .slice a5 j c5) (ts := ts) (vs := (naf z).map ofT) (by rw [hlen]; exact RowV.of_own HZ.out.2.2.2.1) HZ.out.2.1 (by omega)
              rw [(form_sum HZ.out.2.2.1.1 (List.Perm.refl _)).1, (form_sum HZ.out.2.2.1.1 (List.Perm.refl _)).2] at hc
              have HCC := Lib.hid hc
              clear hc hlen
              go_wp2_with (first
                | (go_at_call 11; refine HCC.out.mono ?_; rintro e9 w9 ⟨r9, q9, rfl, hn9, hb9⟩
                   have hbA := hb9.alloc hb9.size (.cells #[.int .i64 r9, .pointer q9] 28)
                   have HD := Lib.hid (And.intro hbA (NumAt.new hn9))
                   clear hn9 hb9 hbA))
              go_meet
              exact ⟨HD.out.1, _, rfl, rfl, HD.out.2⟩
          obtain ⟨hbx, b11, rfl, rfl, hP⟩ := hcut
          obtain ⟨wu, hwu⟩ : ∃ wu, wu = wc := ⟨_, rfl⟩
          subst hwu
          have HU := Lib.hid (And.intro hbx hP)
          clear hbx hP
          go_upto_region 20 with fail
          go_cut [13, 14] from 93 to 97 (fun vd ve wx => Below wu.heap.size wu wx ∧ ∃ b, vd = .pointer (some ⟨b, 0, none⟩) ∧ ve = .int .i64 0 ∧ NumAt cold wx b z)
          case first =>
            as_aux_lemma =>
              have hlen : ts.reverse.length = j := by rw [List.length_reverse]; have := HTS.out.2.2.2.2; omega
              have hc := (HZ.out.1.on HU.out.1).sumU (v := .slice a7 j c7) (ts := ts.reverse) (vs := ((naf z).map ofT).reverse) (by rw [hlen]; exact RowV.of_own (ownsRow_belowAll HZ.out.2.2.2.2.1 HU.out.1)) ((HZ.out.2.1.below HU.out.1).reverse) (by omega)
              rw [(form_sum HZ.out.2.2.1.1 (List.reverse_perm _)).1, (form_sum HZ.out.2.2.1.1 (List.reverse_perm _)).2] at hc
              have HCC := Lib.hid hc
              clear hc hlen
              go_wp2_with (first
                | (go_at_call 11; refine HCC.out.mono ?_; rintro e9 w9 ⟨r9, q9, rfl, hn9, hb9⟩
                   have hbA := hb9.alloc hb9.size (.cells #[.int .i64 r9, .pointer q9] 28)
                   have HD := Lib.hid (And.intro hbA (NumAt.new hn9))
                   clear hn9 hb9 hbA))
              go_meet
              exact ⟨HD.out.1, _, rfl, rfl, HD.out.2⟩
          obtain ⟨hbx, b13, rfl, rfl, hP⟩ := hcut
          obtain ⟨wv, hwv⟩ : ∃ wv, wv = wc := ⟨_, rfl⟩
          subst hwv
          have hzv := HU.out.1.trans (hbx.mono HU.out.1.size)
          have hqv := HZ.out.2.2.2.2.2.trans (hzv.mono HZ.out.2.2.2.2.2.size)
          have HV := Lib.hid (And.intro (HZ.out.1.on hzv) (And.intro (HU.out.2.below hbx) (And.intro hP (And.intro (HZ.out.2.2.1.below hzv) (And.intro hqv hzv)))))
          clear hbx hP hzv hqv
          go_upto_region 21 with fail
          go_cut [144] from 98 to 144 (fun t wx => t = .bool false ∧ Below wv.heap.size wv wx)
          case first =>
            as_aux_lemma =>
              obtain ⟨hLv, ⟨s0, g0, p0, n0⟩, ⟨s1, g1, p1, n1⟩, hnv, hqv, hzv⟩ := HV.out
              have hs0 := hLv.same n0 hnv
              have hs1 := hLv.same n1 hnv
              rw [show decide (z = z) = true by simp] at hs0 hs1
              have hh := hLv.height hnv
              have hw := hLv.weight hnv
              have hd : ∀ W, Below wv.heap.size wv W → Calls Tryd.prog 14 #[.agg #[.int .i64 s, .pointer g], .slice none 0 0] W fun e w' => ∃ (a : Option Addr) (c : Nat), e = .returned (.slice a (weightZ z) c) ∧ Below wv.heap.size wv w' := fun W hW => by
                refine (distinct_calls hLv (partsZ z) (partsZ_closed z) (by have := HN0.out.2.2; unfold weightZ at this; omega) (z.natAbs + 1) z (Nat.lt_succ_self _) (partsZ_mem z) s g hnv.cold W (.slice none 0 0) [] hW ⟨[], rfl, World.ownsRow_nil .., by simp⟩ List.nodup_nil (by simp)).mono ?_
                rintro e w' ⟨v', rfl, hS, hg, _⟩
                obtain ⟨a, c, rfl⟩ := hS.shape
                refine ⟨a, c, by rw [dis_len], hW.trans (Below.mono ⟨hg.os, hg.tape, hg.output, hg.size, fun k hk => hg.block k hk (by simp [Value.ownBlock])⟩ hW.size)⟩
              have hC := fun W (hW : Below wv.heap.size wv W) => And.intro (num_cells ((hW.block _ (lt_of_some p0)).trans p0)) (And.intro (num_cells ((hW.block _ (lt_of_some p1)).trans p1)) (HC.out W (hqv.trans (hW.mono hqv.size))))
              have HC2 := Lib.hid hC
              have HS0 := Lib.hid hs0
              have HS1 := Lib.hid hs1
              have HH := Lib.hid hh
              have HW := Lib.hid hw
              have HDI := Lib.hid hd
              have HN := Lib.hid (Below.refl wv.heap.size wv)
              clear hs0 hs1 hh hw hd hC p0 p1 n0 n1 hLv hnv hqv hzv
              first
                | go_region_held3 (fun W => (W.cell? ⟨b11, 0, none⟩ = some (.int .i64 s0) ∧ W.cell? ⟨b11, 1, none⟩ = some (.pointer g0)) ∧ (W.cell? ⟨b13, 0, none⟩ = some (.int .i64 s1) ∧ W.cell? ⟨b13, 1, none⟩ = some (.pointer g1)) ∧ W.cell? ⟨b, i * 2, none⟩ = some (.int .i64 s) ∧ W.cell? ⟨b, i * 2 + 1, none⟩ = some (.pointer g)) (exact HC2.out _ (by repeat (first | with_reducible exact HN.out | with_reducible exact Below.refl _ _ | with_reducible refine Below.drew ?_ | with_reducible refine below_drewN ?_ _)))
                    (first
                    | (go_at_call 12; with_reducible refine (HS0.out _ (by repeat (first | with_reducible exact HN.out | with_reducible exact Below.refl _ _ | with_reducible refine Below.drew ?_ | with_reducible refine below_drewN ?_ _))).mono ?_; rintro e5 w5 ⟨rfl, hb5⟩
                       have HN := Lib.hid hb5
                       clear hb5)
                    | (go_at_call 12; with_reducible refine (HS1.out _ (by repeat (first | with_reducible exact HN.out | with_reducible exact Below.refl _ _ | with_reducible refine Below.drew ?_ | with_reducible refine below_drewN ?_ _))).mono ?_; rintro e5 w5 ⟨rfl, hb5⟩
                       have HN := Lib.hid hb5
                       clear hb5)
                    | (go_at_call 10; refine (HH.out _ (by repeat (first | with_reducible exact HN.out | with_reducible exact Below.refl _ _ | with_reducible refine Below.drew ?_ | with_reducible refine below_drewN ?_ _))).mono ?_; rintro e5 w5 ⟨rfl, hb5⟩
                       have HN := Lib.hid hb5
                       clear hb5)
                    | (go_at_call 13; refine (HW.out _ (by repeat (first | with_reducible exact HN.out | with_reducible exact Below.refl _ _ | with_reducible refine Below.drew ?_ | with_reducible refine below_drewN ?_ _))).mono ?_; rintro e5 w5 ⟨rfl, hb5⟩
                       have HN := Lib.hid hb5
                       clear hb5)
                    | (go_at_call 14; refine (HDI.out _ (by repeat (first | with_reducible exact HN.out | with_reducible exact Below.refl _ _ | with_reducible refine Below.drew ?_ | with_reducible refine below_drewN ?_ _))).mono ?_; rintro e5 w5 ⟨a5, c5, rfl, hb5⟩
                       have HN := Lib.hid hb5
                       clear hb5))
                | fail
              all_goals
                (try go_wp2)
                go_meet
                exact ⟨by simp, HN.out⟩
          obtain ⟨rfl, hbx⟩ := hcut
          obtain ⟨wx, hwx⟩ : ∃ wx, wx = wc := ⟨_, rfl⟩
          subst hwx
          have hzx := HV.out.2.2.2.2.2.trans (hbx.mono HV.out.2.2.2.2.2.size)
          have HX2 := Lib.hid (And.intro (HV.out.1.on hbx) (And.intro (HV.out.2.2.2.1.below hbx) (And.intro (HV.out.2.2.2.2.1.trans (hbx.mono HV.out.2.2.2.2.1.size)) hzx)))
          have hcl := fun W (hW : Below wx.heap.size wx W) => HC.out W (HX2.out.2.2.1.trans (hW.mono HX2.out.2.2.1.size))
          have HCL := Lib.hid hcl
          clear hbx hzx hcl
          go_upto_region 23 with fail
          go_cut [172] from 145 to 172 (fun t wy => t = .bool false ∧ Below wx.heap.size wx wy)
          case first =>
            as_aux_lemma =>
              have hsg := HX2.out.1.sign HX2.out.2.1
              have HN := Lib.hid (Below.refl wx.heap.size wx)
              by_cases hj0 : j = 0
              · have hz0 : z = 0 := (form_empty z).1 (by rw [← HTS.out.1]; exact hj0)
                rw [hz0, sgn_zero] at hsg
                have HSG := Lib.hid hsg
                have HC2 := HCL
                have hj2 : ((j : Int) == 0) = true := by rw [hj0]; rfl
                have hj3 : ¬ (0 : Int) < (j : Int) := by omega
                have hj4 : ¬ 0 < j := by omega
                have hj5 : (j == 0) = true := by rw [hj0]; rfl
                clear hsg hj0 hz0
                refine wp_region_held_drew (S := fun W => W.cell? ⟨b, i * 2, none⟩ = some (.int .i64 s) ∧ W.cell? ⟨b, i * 2 + 1, none⟩ = some (.pointer g)) (by kernel_rfl) (by exact HC2.out _ (by repeat (first | with_reducible exact HN.out | with_reducible exact Below.refl _ _ | with_reducible refine Below.drew ?_ | with_reducible refine below_drewN ?_ _))) (fun hHeld => ?_)
                refine wpAnyH_take (i := 0) (oi := _) (v := ?mvp0) rfl (by kernel_rfl) (by kernel_rfl) (by kernel_rfl) (fun _ _ _ h => h) (Or.inl ⟨by rfl, ?mhp0⟩) (by assumption) ?mrp0
                case mhp0 => (intro w hSw; (try dsimp only at hSw); go_simp; try with_reducible rfl)
                try simp only [List.getElem_toArray, List.getElem_cons_succ, List.getElem_cons_zero, Act.put, List.setIfInBounds_toArray, List.set_cons_zero, List.set_cons_succ]
                refine wpAnyH_take (i := 1) (oi := _) (v := ?mvp1) rfl (by kernel_rfl) (by kernel_rfl) (by kernel_rfl) (fun _ _ _ h => h) (Or.inl ⟨by rfl, ?mhp1⟩) (by assumption) ?mrp1
                case mhp1 => (intro w hSw; (try dsimp only at hSw); go_simp; try with_reducible rfl)
                try simp only [List.getElem_toArray, List.getElem_cons_succ, List.getElem_cons_zero, Act.put, List.setIfInBounds_toArray, List.set_cons_zero, List.set_cons_succ]
                refine wpAnyH_take (i := 2) (oi := _) (v := ?mvp2) rfl (by kernel_rfl) (by kernel_rfl) (by kernel_rfl) (fun _ _ _ h => h) (Or.inl ⟨by rfl, ?mhp2⟩) (by assumption) ?mrp2
                case mhp2 => (intro w hSw; (try dsimp only at hSw); go_simp; try with_reducible rfl)
                try simp only [List.getElem_toArray, List.getElem_cons_succ, List.getElem_cons_zero, Act.put, List.setIfInBounds_toArray, List.set_cons_zero, List.set_cons_succ]
                refine wpAnyH_take (i := 3) (oi := _) (v := ?mvp3) rfl (by kernel_rfl) (by kernel_rfl) (by kernel_rfl) (fun _ _ _ h => h) (Or.inl ⟨by rfl, ?mhp3⟩) (by assumption) ?mrp3
                case mhp3 => (intro w hSw; (try dsimp only at hSw); go_simp; try with_reducible rfl)
                try simp only [List.getElem_toArray, List.getElem_cons_succ, List.getElem_cons_zero, Act.put, List.setIfInBounds_toArray, List.set_cons_zero, List.set_cons_succ]
                refine wpAnyH_take (i := 4) (oi := _) (v := undef) rfl (by kernel_rfl) (by kernel_rfl) (by kernel_rfl) (fun _ _ _ h => h) (Or.inr ⟨by rfl, rfl⟩) (by assumption) ?_
                try simp only [List.getElem_toArray, List.getElem_cons_succ, List.getElem_cons_zero, Act.put, List.setIfInBounds_toArray, List.set_cons_zero, List.set_cons_succ]
                refine wpAnyH_take (i := 5) (oi := _) (v := undef) rfl (by kernel_rfl) (by kernel_rfl) (by kernel_rfl) (fun _ _ _ h => h) (Or.inr ⟨by rfl, rfl⟩) (by assumption) ?_
                try simp only [List.getElem_toArray, List.getElem_cons_succ, List.getElem_cons_zero, Act.put, List.setIfInBounds_toArray, List.set_cons_zero, List.set_cons_succ]
                refine wpAnyH_take (i := 6) (oi := _) (v := undef) rfl (by kernel_rfl) (by kernel_rfl) (by kernel_rfl) (fun _ _ _ h => h) (Or.inr ⟨by rfl, rfl⟩) (by assumption) ?_
                try simp only [List.getElem_toArray, List.getElem_cons_succ, List.getElem_cons_zero, Act.put, List.setIfInBounds_toArray, List.set_cons_zero, List.set_cons_succ]
                refine wpAnyH_take (i := 7) (oi := _) (v := undef) rfl (by kernel_rfl) (by kernel_rfl) (by kernel_rfl) (fun _ _ _ h => h) (Or.inr ⟨by rfl, rfl⟩) (by assumption) ?_
                try simp only [List.getElem_toArray, List.getElem_cons_succ, List.getElem_cons_zero, Act.put, List.setIfInBounds_toArray, List.set_cons_zero, List.set_cons_succ]
                refine wpAnyH_take (i := 8) (oi := _) (v := ?mvp8) rfl (by kernel_rfl) (by kernel_rfl) (by kernel_rfl) (fun _ _ _ h => h) (Or.inl ⟨by rfl, ?mhp8⟩) (by assumption) ?mrp8
                case mhp8 => (intro w hSw; (try dsimp only at hSw); go_simp; try with_reducible rfl)
                try simp only [List.getElem_toArray, List.getElem_cons_succ, List.getElem_cons_zero, Act.put, List.setIfInBounds_toArray, List.set_cons_zero, List.set_cons_succ]
                refine wpAnyH_take (i := 9) (oi := _) (v := ?mvp9) rfl (by kernel_rfl) (by kernel_rfl) (by kernel_rfl) (fun _ _ _ h => h) (Or.inl ⟨by rfl, ?mhp9⟩) (by assumption) ?mrp9
                case mhp9 => (intro w hSw; (try dsimp only at hSw); go_simp; try with_reducible rfl)
                try simp only [List.getElem_toArray, List.getElem_cons_succ, List.getElem_cons_zero, Act.put, List.setIfInBounds_toArray, List.set_cons_zero, List.set_cons_succ]
                refine wpAnyH_take (i := 10) (oi := _) (v := ?mvp10) rfl (by kernel_rfl) (by kernel_rfl) (by kernel_rfl) (fun _ _ _ h => h) (Or.inl ⟨by rfl, ?mhp10⟩) (by assumption) ?mrp10
                case mhp10 => (intro w hSw; (try dsimp only at hSw); go_simp; try with_reducible rfl)
                try simp only [List.getElem_toArray, List.getElem_cons_succ, List.getElem_cons_zero, Act.put, List.setIfInBounds_toArray, List.set_cons_zero, List.set_cons_succ]
                refine wpAnyH_take (i := 11) (oi := _) (v := ?mvp11) rfl (by kernel_rfl) (by kernel_rfl) (by kernel_rfl) (fun _ _ _ h => h) (Or.inl ⟨by rfl, ?mhp11⟩) (by assumption) ?mrp11
                case mhp11 => (intro w hSw; (try dsimp only at hSw); go_simp; try with_reducible rfl)
                try simp only [List.getElem_toArray, List.getElem_cons_succ, List.getElem_cons_zero, Act.put, List.setIfInBounds_toArray, List.set_cons_zero, List.set_cons_succ]
                refine wpAnyH_take (i := 12) (oi := _) (v := ?mvp12) rfl (by kernel_rfl) (by kernel_rfl) (by kernel_rfl) (fun _ _ _ h => h) (Or.inl ⟨by rfl, ?mhp12⟩) (by assumption) ?mrp12
                case mhp12 => (intro w hSw; (try dsimp only at hSw); go_simp; try with_reducible rfl)
                try simp only [List.getElem_toArray, List.getElem_cons_succ, List.getElem_cons_zero, Act.put, List.setIfInBounds_toArray, List.set_cons_zero, List.set_cons_succ]
                refine wpAnyH_ready (rs := [13]) (by kernel_rfl) (by simp) ?_
                refine AllReadyH.cons rfl (fun K hK => ?_) AllReadyH.nil
                go_simp
                go_wp2_with (first
                  | (go_at_call 6; refine (HSG.out _ (by repeat (first | with_reducible exact HN.out | with_reducible exact Below.refl _ _ | with_reducible refine Below.drew ?_ | with_reducible refine below_drewN ?_ _))).mono ?_; rintro e5 w5 ⟨rfl, hb5⟩
                     have HN := Lib.hid hb5
                     clear hb5))
                refine hK.out _ _ (by exact HC2.out _ (by repeat (first | with_reducible exact HN.out | with_reducible exact Below.refl _ _ | with_reducible refine Below.drew ?_ | with_reducible refine below_drewN ?_ _))) (fun hHeld => ?_)
                clear hK K
                try simp only [List.getElem_toArray, List.getElem_cons_succ, List.getElem_cons_zero, Act.put, List.setIfInBounds_toArray, List.set_cons_zero, List.set_cons_succ]
                refine wpAnyH_take (i := 14) (oi := _) (v := ?mvp14) rfl (by kernel_rfl) (by kernel_rfl) (by kernel_rfl) (fun _ _ _ h => h) (Or.inl ⟨by rfl, ?mhp14⟩) (by assumption) ?mrp14
                case mhp14 => (intro w hSw; (try dsimp only at hSw); go_simp; try with_reducible rfl)
                try simp only [List.getElem_toArray, List.getElem_cons_succ, List.getElem_cons_zero, Act.put, List.setIfInBounds_toArray, List.set_cons_zero, List.set_cons_succ]
                refine wpAnyH_take (i := 15) (oi := _) (v := ?mvp15) rfl (by kernel_rfl) (by kernel_rfl) (by kernel_rfl) (fun _ _ _ h => h) (Or.inl ⟨by rfl, ?mhp15⟩) (by assumption) ?mrp15
                case mhp15 => (intro w hSw; (try dsimp only at hSw); go_simp; try with_reducible rfl)
                try simp only [List.getElem_toArray, List.getElem_cons_succ, List.getElem_cons_zero, Act.put, List.setIfInBounds_toArray, List.set_cons_zero, List.set_cons_succ]
                refine wpAnyH_take (i := 16) (oi := _) (v := ?mvp16) rfl (by kernel_rfl) (by kernel_rfl) (by kernel_rfl) (fun _ _ _ h => h) (Or.inl ⟨by rfl, ?mhp16⟩) (by assumption) ?mrp16
                case mhp16 => (intro w hSw; (try dsimp only at hSw); go_simp; try with_reducible rfl)
                try simp only [List.getElem_toArray, List.getElem_cons_succ, List.getElem_cons_zero, Act.put, List.setIfInBounds_toArray, List.set_cons_zero, List.set_cons_succ]
                refine wpAnyH_take (i := 17) (oi := _) (v := ?mvp17) rfl (by kernel_rfl) (by kernel_rfl) (by kernel_rfl) (fun _ _ _ h => h) (Or.inl ⟨by rfl, ?mhp17⟩) (by assumption) ?mrp17
                case mhp17 => (intro w hSw; (try dsimp only at hSw); go_simp; try with_reducible rfl)
                try simp only [List.getElem_toArray, List.getElem_cons_succ, List.getElem_cons_zero, Act.put, List.setIfInBounds_toArray, List.set_cons_zero, List.set_cons_succ]
                refine wpAnyH_take (i := 18) (oi := _) (v := ?mvp18) rfl (by kernel_rfl) (by kernel_rfl) (by kernel_rfl) (fun _ _ _ h => h) (Or.inl ⟨by rfl, ?mhp18⟩) (by assumption) ?mrp18
                case mhp18 => (intro w hSw; (try dsimp only at hSw); go_simp; try with_reducible rfl)
                try simp only [List.getElem_toArray, List.getElem_cons_succ, List.getElem_cons_zero, Act.put, List.setIfInBounds_toArray, List.set_cons_zero, List.set_cons_succ]
                refine wpAnyH_take (i := 19) (oi := _) (v := ?mvp19) rfl (by kernel_rfl) (by kernel_rfl) (by kernel_rfl) (fun _ _ _ h => h) (Or.inl ⟨by rfl, ?mhp19⟩) (by assumption) ?mrp19
                case mhp19 => (intro w hSw; (try dsimp only at hSw); go_simp; try with_reducible rfl)
                try simp only [List.getElem_toArray, List.getElem_cons_succ, List.getElem_cons_zero, Act.put, List.setIfInBounds_toArray, List.set_cons_zero, List.set_cons_succ]
                refine wpAnyH_take (i := 20) (oi := _) (v := ?mvp20) rfl (by kernel_rfl) (by kernel_rfl) (by kernel_rfl) (fun _ _ _ h => h) (Or.inl ⟨by rfl, ?mhp20⟩) (by assumption) ?mrp20
                case mhp20 => (intro w hSw; (try dsimp only at hSw); go_simp; try with_reducible rfl)
                try simp only [List.getElem_toArray, List.getElem_cons_succ, List.getElem_cons_zero, Act.put, List.setIfInBounds_toArray, List.set_cons_zero, List.set_cons_succ]
                refine wpAnyH_take (i := 21) (oi := _) (v := ?mvp21) rfl (by kernel_rfl) (by kernel_rfl) (by kernel_rfl) (fun _ _ _ h => h) (Or.inl ⟨by rfl, ?mhp21⟩) (by assumption) ?mrp21
                case mhp21 => (intro w hSw; (try dsimp only at hSw); go_simp; try with_reducible rfl)
                try simp only [List.getElem_toArray, List.getElem_cons_succ, List.getElem_cons_zero, Act.put, List.setIfInBounds_toArray, List.set_cons_zero, List.set_cons_succ]
                refine wpAnyH_take (i := 22) (oi := _) (v := ?mvp22) rfl (by kernel_rfl) (by kernel_rfl) (by kernel_rfl) (fun _ _ _ h => h) (Or.inl ⟨by rfl, ?mhp22⟩) (by assumption) ?mrp22
                case mhp22 => (intro w hSw; (try dsimp only at hSw); go_simp; try with_reducible rfl)
                try simp only [List.getElem_toArray, List.getElem_cons_succ, List.getElem_cons_zero, Act.put, List.setIfInBounds_toArray, List.set_cons_zero, List.set_cons_succ]
                refine wpAnyH_take (i := 23) (oi := _) (v := ?mvp23) rfl (by kernel_rfl) (by kernel_rfl) (by kernel_rfl) (fun _ _ _ h => h) (Or.inl ⟨by rfl, ?mhp23⟩) (by assumption) ?mrp23
                case mhp23 => (intro w hSw; (try dsimp only at hSw); go_simp; try with_reducible rfl)
                try simp only [List.getElem_toArray, List.getElem_cons_succ, List.getElem_cons_zero, Act.put, List.setIfInBounds_toArray, List.set_cons_zero, List.set_cons_succ]
                refine wpAnyH_ready (rs := [24]) (by kernel_rfl) (by simp) ?_
                refine AllReadyH.cons rfl (fun K hK => ?_) AllReadyH.nil
                go_simp
                go_wp2_with (first
                  | (go_at_call 6; refine (HSG.out _ (by repeat (first | with_reducible exact HN.out | with_reducible exact Below.refl _ _ | with_reducible refine Below.drew ?_ | with_reducible refine below_drewN ?_ _))).mono ?_; rintro e5 w5 ⟨rfl, hb5⟩
                     have HN := Lib.hid hb5
                     clear hb5))
                refine hK.out _ _ (by exact HC2.out _ (by repeat (first | with_reducible exact HN.out | with_reducible exact Below.refl _ _ | with_reducible refine Below.drew ?_ | with_reducible refine below_drewN ?_ _))) (fun hHeld => ?_)
                clear hK K
                try simp only [List.getElem_toArray, List.getElem_cons_succ, List.getElem_cons_zero, Act.put, List.setIfInBounds_toArray, List.set_cons_zero, List.set_cons_succ]
                refine wpAnyH_take (i := 25) (oi := _) (v := ?mvp25) rfl (by kernel_rfl) (by kernel_rfl) (by kernel_rfl) (fun _ _ _ h => h) (Or.inl ⟨by rfl, ?mhp25⟩) (by assumption) ?mrp25
                case mhp25 => (intro w hSw; (try dsimp only at hSw); go_simp; try with_reducible rfl)
                try simp only [List.getElem_toArray, List.getElem_cons_succ, List.getElem_cons_zero, Act.put, List.setIfInBounds_toArray, List.set_cons_zero, List.set_cons_succ]
                refine wpAnyH_take (i := 26) (oi := _) (v := ?mvp26) rfl (by kernel_rfl) (by kernel_rfl) (by kernel_rfl) (fun _ _ _ h => h) (Or.inl ⟨by rfl, ?mhp26⟩) (by assumption) ?mrp26
                case mhp26 => (intro w hSw; (try dsimp only at hSw); go_simp; try with_reducible rfl)
                try simp only [List.getElem_toArray, List.getElem_cons_succ, List.getElem_cons_zero, Act.put, List.setIfInBounds_toArray, List.set_cons_zero, List.set_cons_succ]
                refine wpAnyH_take (i := 27) (oi := _) (v := ?mvp27) rfl (by kernel_rfl) (by kernel_rfl) (by kernel_rfl) (fun _ _ _ h => h) (Or.inl ⟨by rfl, ?mhp27⟩) (by assumption) ?mrp27
                case mhp27 => (intro w hSw; (try dsimp only at hSw); go_simp; try with_reducible rfl)
                try simp only [List.getElem_toArray, List.getElem_cons_succ, List.getElem_cons_zero, Act.put, List.setIfInBounds_toArray, List.set_cons_zero, List.set_cons_succ]
                refine wpAnyH_done (by kernel_rfl) ?_ _
                (try go_wp2)
                go_meet
                exact ⟨by simp [*], HN.out⟩
              · obtain ⟨m0, s9, g9, e9, ba, hze, hte, hne, rfl, hc9⟩ := HTC.out 0 (by omega)
                have hj2 : ((j : Int) == 0) = false := by rw [beq_eq_false_iff_ne]; omega
                have hj3 : (0 : Int) < (j : Int) := by omega
                have hj4 : 0 < j := by omega
                have hj5 : (j == 0) = false := by rw [beq_eq_false_iff_ne]; omega
                have hff : decide (z < 0) = m0 := by
                  rcases hnf : naf z with _ | ⟨t, l⟩
                  · rw [hnf] at hze; simp at hze
                  · rw [hnf] at hze
                    simp at hze
                    have := form_first hnf
                    rw [hze] at this
                    exact this
                have hs2 : (sgn z == 0) = false := by
                  rw [beq_eq_false_iff_ne]
                  intro h0
                  have hz0 : z = 0 := by unfold sgn at h0; split at h0 <;> (try split at h0) <;> omega
                  rw [hz0, naf_zero] at hze
                  simp at hze
                have hs1 : (sgn z < 0) ↔ z < 0 := by unfold sgn; split <;> (try split) <;> omega
                have hcz := fun W (hW : Below wx.heap.size wx W) => And.intro ((hc9 W (HWZ.out.trans ((HX2.out.2.2.2.trans (hW.mono HX2.out.2.2.2.size)).mono HWZ.out.size))).1) (HCL.out W hW)
                simp only [Nat.zero_mul] at hcz
                have HC2 := Lib.hid hcz
                generalize sgn z = sv at *
                have HSG := Lib.hid hsg
                clear hsg hze hte hne hc9 hcz hj0
                cases m0
                · have hs3 : ¬ sv < 0 := by rw [hs1]; simpa using hff
                  have hs4 : decide (sv < 0) = false := decide_eq_false hs3
                  clear hs1 hff
                  refine wp_region_held_drew (S := fun W => W.cell? ⟨ba, 0, none⟩ = some (.bool false) ∧ W.cell? ⟨b, i * 2, none⟩ = some (.int .i64 s) ∧ W.cell? ⟨b, i * 2 + 1, none⟩ = some (.pointer g)) (by kernel_rfl) (by exact HC2.out _ (by repeat (first | with_reducible exact HN.out | with_reducible exact Below.refl _ _ | with_reducible refine Below.drew ?_ | with_reducible refine below_drewN ?_ _))) (fun hHeld => ?_)
                  refine wpAnyH_take (i := 0) (oi := _) (v := ?mvq0) rfl (by kernel_rfl) (by kernel_rfl) (by kernel_rfl) (fun _ _ _ h => h) (Or.inl ⟨by rfl, ?mhq0⟩) (by assumption) ?mrq0
                  case mhq0 => (intro w hSw; (try dsimp only at hSw); go_simp; try with_reducible rfl)
                  try simp only [List.getElem_toArray, List.getElem_cons_succ, List.getElem_cons_zero, Act.put, List.setIfInBounds_toArray, List.set_cons_zero, List.set_cons_succ]
                  refine wpAnyH_take (i := 1) (oi := _) (v := ?mvq1) rfl (by kernel_rfl) (by kernel_rfl) (by kernel_rfl) (fun _ _ _ h => h) (Or.inl ⟨by rfl, ?mhq1⟩) (by assumption) ?mrq1
                  case mhq1 => (intro w hSw; (try dsimp only at hSw); go_simp; try with_reducible rfl)
                  try simp only [List.getElem_toArray, List.getElem_cons_succ, List.getElem_cons_zero, Act.put, List.setIfInBounds_toArray, List.set_cons_zero, List.set_cons_succ]
                  refine wpAnyH_take (i := 2) (oi := _) (v := ?mvq2) rfl (by kernel_rfl) (by kernel_rfl) (by kernel_rfl) (fun _ _ _ h => h) (Or.inl ⟨by rfl, ?mhq2⟩) (by assumption) ?mrq2
                  case mhq2 => (intro w hSw; (try dsimp only at hSw); go_simp; try with_reducible rfl)
                  try simp only [List.getElem_toArray, List.getElem_cons_succ, List.getElem_cons_zero, Act.put, List.setIfInBounds_toArray, List.set_cons_zero, List.set_cons_succ]
                  refine wpAnyH_take (i := 3) (oi := _) (v := ?mvq3) rfl (by kernel_rfl) (by kernel_rfl) (by kernel_rfl) (fun _ _ _ h => h) (Or.inl ⟨by rfl, ?mhq3⟩) (by assumption) ?mrq3
                  case mhq3 => (intro w hSw; (try dsimp only at hSw); go_simp; try with_reducible rfl)
                  try simp only [List.getElem_toArray, List.getElem_cons_succ, List.getElem_cons_zero, Act.put, List.setIfInBounds_toArray, List.set_cons_zero, List.set_cons_succ]
                  refine wpAnyH_take (i := 4) (oi := _) (v := ?mvq4) rfl (by kernel_rfl) (by kernel_rfl) (by kernel_rfl) (fun _ _ _ h => h) (Or.inl ⟨by rfl, ?mhq4⟩) (by assumption) ?mrq4
                  case mhq4 => (intro w hSw; (try dsimp only at hSw); go_simp; try with_reducible rfl)
                  try simp only [List.getElem_toArray, List.getElem_cons_succ, List.getElem_cons_zero, Act.put, List.setIfInBounds_toArray, List.set_cons_zero, List.set_cons_succ]
                  refine wpAnyH_take (i := 5) (oi := _) (v := ?mvq5) rfl (by kernel_rfl) (by kernel_rfl) (by kernel_rfl) (fun _ _ _ h => h) (Or.inl ⟨by rfl, ?mhq5⟩) (by assumption) ?mrq5
                  case mhq5 => (intro w hSw; (try dsimp only at hSw); go_simp; try with_reducible rfl)
                  try simp only [List.getElem_toArray, List.getElem_cons_succ, List.getElem_cons_zero, Act.put, List.setIfInBounds_toArray, List.set_cons_zero, List.set_cons_succ]
                  refine wpAnyH_take (i := 6) (oi := _) (v := ?mvq6) rfl (by kernel_rfl) (by kernel_rfl) (by kernel_rfl) (fun _ _ _ h => h) (Or.inl ⟨by rfl, ?mhq6⟩) (by assumption) ?mrq6
                  case mhq6 => (intro w hSw; (try dsimp only at hSw); go_simp; try with_reducible rfl)
                  try simp only [List.getElem_toArray, List.getElem_cons_succ, List.getElem_cons_zero, Act.put, List.setIfInBounds_toArray, List.set_cons_zero, List.set_cons_succ]
                  refine wpAnyH_take (i := 7) (oi := _) (v := ?mvq7) rfl (by kernel_rfl) (by kernel_rfl) (by kernel_rfl) (fun _ _ _ h => h) (Or.inl ⟨by rfl, ?mhq7⟩) (by assumption) ?mrq7
                  case mhq7 => (intro w hSw; (try dsimp only at hSw); go_simp; try with_reducible rfl)
                  try simp only [List.getElem_toArray, List.getElem_cons_succ, List.getElem_cons_zero, Act.put, List.setIfInBounds_toArray, List.set_cons_zero, List.set_cons_succ]
                  refine wpAnyH_take (i := 8) (oi := _) (v := ?mvq8) rfl (by kernel_rfl) (by kernel_rfl) (by kernel_rfl) (fun _ _ _ h => h) (Or.inl ⟨by rfl, ?mhq8⟩) (by assumption) ?mrq8
                  case mhq8 => (intro w hSw; (try dsimp only at hSw); go_simp; try with_reducible rfl)
                  try simp only [List.getElem_toArray, List.getElem_cons_succ, List.getElem_cons_zero, Act.put, List.setIfInBounds_toArray, List.set_cons_zero, List.set_cons_succ]
                  refine wpAnyH_take (i := 9) (oi := _) (v := ?mvq9) rfl (by kernel_rfl) (by kernel_rfl) (by kernel_rfl) (fun _ _ _ h => h) (Or.inl ⟨by rfl, ?mhq9⟩) (by assumption) ?mrq9
                  case mhq9 => (intro w hSw; (try dsimp only at hSw); go_simp; try with_reducible rfl)
                  try simp only [List.getElem_toArray, List.getElem_cons_succ, List.getElem_cons_zero, Act.put, List.setIfInBounds_toArray, List.set_cons_zero, List.set_cons_succ]
                  refine wpAnyH_take (i := 10) (oi := _) (v := ?mvq10) rfl (by kernel_rfl) (by kernel_rfl) (by kernel_rfl) (fun _ _ _ h => h) (Or.inl ⟨by rfl, ?mhq10⟩) (by assumption) ?mrq10
                  case mhq10 => (intro w hSw; (try dsimp only at hSw); go_simp; try with_reducible rfl)
                  try simp only [List.getElem_toArray, List.getElem_cons_succ, List.getElem_cons_zero, Act.put, List.setIfInBounds_toArray, List.set_cons_zero, List.set_cons_succ]
                  refine wpAnyH_take (i := 11) (oi := _) (v := ?mvq11) rfl (by kernel_rfl) (by kernel_rfl) (by kernel_rfl) (fun _ _ _ h => h) (Or.inl ⟨by rfl, ?mhq11⟩) (by assumption) ?mrq11
                  case mhq11 => (intro w hSw; (try dsimp only at hSw); go_simp; try with_reducible rfl)
                  try simp only [List.getElem_toArray, List.getElem_cons_succ, List.getElem_cons_zero, Act.put, List.setIfInBounds_toArray, List.set_cons_zero, List.set_cons_succ]
                  refine wpAnyH_take (i := 12) (oi := _) (v := ?mvq12) rfl (by kernel_rfl) (by kernel_rfl) (by kernel_rfl) (fun _ _ _ h => h) (Or.inl ⟨by rfl, ?mhq12⟩) (by assumption) ?mrq12
                  case mhq12 => (intro w hSw; (try dsimp only at hSw); go_simp; try with_reducible rfl)
                  try simp only [List.getElem_toArray, List.getElem_cons_succ, List.getElem_cons_zero, Act.put, List.setIfInBounds_toArray, List.set_cons_zero, List.set_cons_succ]
                  refine wpAnyH_ready (rs := [13]) (by kernel_rfl) (by simp) ?_
                  refine AllReadyH.cons rfl (fun K hK => ?_) AllReadyH.nil
                  go_simp
                  go_wp2_with (first
                    | (go_at_call 6; refine (HSG.out _ (by repeat (first | with_reducible exact HN.out | with_reducible exact Below.refl _ _ | with_reducible refine Below.drew ?_ | with_reducible refine below_drewN ?_ _))).mono ?_; rintro e5 w5 ⟨rfl, hb5⟩
                       have HN := Lib.hid hb5
                       clear hb5))
                  refine hK.out _ _ (by exact HC2.out _ (by repeat (first | with_reducible exact HN.out | with_reducible exact Below.refl _ _ | with_reducible refine Below.drew ?_ | with_reducible refine below_drewN ?_ _))) (fun hHeld => ?_)
                  clear hK K
                  try simp only [List.getElem_toArray, List.getElem_cons_succ, List.getElem_cons_zero, Act.put, List.setIfInBounds_toArray, List.set_cons_zero, List.set_cons_succ]
                  refine wpAnyH_take (i := 14) (oi := _) (v := ?mvq14) rfl (by kernel_rfl) (by kernel_rfl) (by kernel_rfl) (fun _ _ _ h => h) (Or.inl ⟨by rfl, ?mhq14⟩) (by assumption) ?mrq14
                  case mhq14 => (intro w hSw; (try dsimp only at hSw); go_simp; try with_reducible rfl)
                  try simp only [List.getElem_toArray, List.getElem_cons_succ, List.getElem_cons_zero, Act.put, List.setIfInBounds_toArray, List.set_cons_zero, List.set_cons_succ]
                  refine wpAnyH_take (i := 15) (oi := _) (v := ?mvq15) rfl (by kernel_rfl) (by kernel_rfl) (by kernel_rfl) (fun _ _ _ h => h) (Or.inl ⟨by rfl, ?mhq15⟩) (by assumption) ?mrq15
                  case mhq15 => (intro w hSw; (try dsimp only at hSw); go_simp; try with_reducible rfl)
                  try simp only [List.getElem_toArray, List.getElem_cons_succ, List.getElem_cons_zero, Act.put, List.setIfInBounds_toArray, List.set_cons_zero, List.set_cons_succ]
                  refine wpAnyH_take (i := 16) (oi := _) (v := ?mvq16) rfl (by kernel_rfl) (by kernel_rfl) (by kernel_rfl) (fun _ _ _ h => h) (Or.inl ⟨by rfl, ?mhq16⟩) (by assumption) ?mrq16
                  case mhq16 => (intro w hSw; (try dsimp only at hSw); go_simp; try with_reducible rfl)
                  try simp only [List.getElem_toArray, List.getElem_cons_succ, List.getElem_cons_zero, Act.put, List.setIfInBounds_toArray, List.set_cons_zero, List.set_cons_succ]
                  refine wpAnyH_take (i := 17) (oi := _) (v := ?mvq17) rfl (by kernel_rfl) (by kernel_rfl) (by kernel_rfl) (fun _ _ _ h => h) (Or.inl ⟨by rfl, ?mhq17⟩) (by assumption) ?mrq17
                  case mhq17 => (intro w hSw; (try dsimp only at hSw); go_simp; try with_reducible rfl)
                  try simp only [List.getElem_toArray, List.getElem_cons_succ, List.getElem_cons_zero, Act.put, List.setIfInBounds_toArray, List.set_cons_zero, List.set_cons_succ]
                  refine wpAnyH_take (i := 18) (oi := _) (v := ?mvq18) rfl (by kernel_rfl) (by kernel_rfl) (by kernel_rfl) (fun _ _ _ h => h) (Or.inl ⟨by rfl, ?mhq18⟩) (by assumption) ?mrq18
                  case mhq18 => (intro w hSw; (try dsimp only at hSw); go_simp; try with_reducible rfl)
                  try simp only [List.getElem_toArray, List.getElem_cons_succ, List.getElem_cons_zero, Act.put, List.setIfInBounds_toArray, List.set_cons_zero, List.set_cons_succ]
                  refine wpAnyH_take (i := 19) (oi := _) (v := ?mvq19) rfl (by kernel_rfl) (by kernel_rfl) (by kernel_rfl) (fun _ _ _ h => h) (Or.inl ⟨by rfl, ?mhq19⟩) (by assumption) ?mrq19
                  case mhq19 => (intro w hSw; (try dsimp only at hSw); go_simp; try with_reducible rfl)
                  try simp only [List.getElem_toArray, List.getElem_cons_succ, List.getElem_cons_zero, Act.put, List.setIfInBounds_toArray, List.set_cons_zero, List.set_cons_succ]
                  refine wpAnyH_take (i := 20) (oi := _) (v := ?mvq20) rfl (by kernel_rfl) (by kernel_rfl) (by kernel_rfl) (fun _ _ _ h => h) (Or.inl ⟨by rfl, ?mhq20⟩) (by assumption) ?mrq20
                  case mhq20 => (intro w hSw; (try dsimp only at hSw); go_simp; try with_reducible rfl)
                  try simp only [List.getElem_toArray, List.getElem_cons_succ, List.getElem_cons_zero, Act.put, List.setIfInBounds_toArray, List.set_cons_zero, List.set_cons_succ]
                  refine wpAnyH_take (i := 21) (oi := _) (v := ?mvq21) rfl (by kernel_rfl) (by kernel_rfl) (by kernel_rfl) (fun _ _ _ h => h) (Or.inl ⟨by rfl, ?mhq21⟩) (by assumption) ?mrq21
                  case mhq21 => (intro w hSw; (try dsimp only at hSw); go_simp; try with_reducible rfl)
                  try simp only [List.getElem_toArray, List.getElem_cons_succ, List.getElem_cons_zero, Act.put, List.setIfInBounds_toArray, List.set_cons_zero, List.set_cons_succ]
                  refine wpAnyH_take (i := 22) (oi := _) (v := ?mvq22) rfl (by kernel_rfl) (by kernel_rfl) (by kernel_rfl) (fun _ _ _ h => h) (Or.inl ⟨by rfl, ?mhq22⟩) (by assumption) ?mrq22
                  case mhq22 => (intro w hSw; (try dsimp only at hSw); go_simp; try with_reducible rfl)
                  try simp only [List.getElem_toArray, List.getElem_cons_succ, List.getElem_cons_zero, Act.put, List.setIfInBounds_toArray, List.set_cons_zero, List.set_cons_succ]
                  refine wpAnyH_take (i := 23) (oi := _) (v := ?mvq23) rfl (by kernel_rfl) (by kernel_rfl) (by kernel_rfl) (fun _ _ _ h => h) (Or.inl ⟨by rfl, ?mhq23⟩) (by assumption) ?mrq23
                  case mhq23 => (intro w hSw; (try dsimp only at hSw); go_simp; try with_reducible rfl)
                  try simp only [List.getElem_toArray, List.getElem_cons_succ, List.getElem_cons_zero, Act.put, List.setIfInBounds_toArray, List.set_cons_zero, List.set_cons_succ]
                  refine wpAnyH_ready (rs := [24]) (by kernel_rfl) (by simp) ?_
                  refine AllReadyH.cons rfl (fun K hK => ?_) AllReadyH.nil
                  go_simp
                  go_wp2_with (first
                    | (go_at_call 6; refine (HSG.out _ (by repeat (first | with_reducible exact HN.out | with_reducible exact Below.refl _ _ | with_reducible refine Below.drew ?_ | with_reducible refine below_drewN ?_ _))).mono ?_; rintro e5 w5 ⟨rfl, hb5⟩
                       have HN := Lib.hid hb5
                       clear hb5))
                  refine hK.out _ _ (by exact HC2.out _ (by repeat (first | with_reducible exact HN.out | with_reducible exact Below.refl _ _ | with_reducible refine Below.drew ?_ | with_reducible refine below_drewN ?_ _))) (fun hHeld => ?_)
                  clear hK K
                  try simp only [List.getElem_toArray, List.getElem_cons_succ, List.getElem_cons_zero, Act.put, List.setIfInBounds_toArray, List.set_cons_zero, List.set_cons_succ]
                  refine wpAnyH_take (i := 25) (oi := _) (v := ?mvq25) rfl (by kernel_rfl) (by kernel_rfl) (by kernel_rfl) (fun _ _ _ h => h) (Or.inl ⟨by rfl, ?mhq25⟩) (by assumption) ?mrq25
                  case mhq25 => (intro w hSw; (try dsimp only at hSw); go_simp; try with_reducible rfl)
                  try simp only [List.getElem_toArray, List.getElem_cons_succ, List.getElem_cons_zero, Act.put, List.setIfInBounds_toArray, List.set_cons_zero, List.set_cons_succ]
                  refine wpAnyH_take (i := 26) (oi := _) (v := ?mvq26) rfl (by kernel_rfl) (by kernel_rfl) (by kernel_rfl) (fun _ _ _ h => h) (Or.inl ⟨by rfl, ?mhq26⟩) (by assumption) ?mrq26
                  case mhq26 => (intro w hSw; (try dsimp only at hSw); go_simp; try with_reducible rfl)
                  try simp only [List.getElem_toArray, List.getElem_cons_succ, List.getElem_cons_zero, Act.put, List.setIfInBounds_toArray, List.set_cons_zero, List.set_cons_succ]
                  refine wpAnyH_take (i := 27) (oi := _) (v := ?mvq27) rfl (by kernel_rfl) (by kernel_rfl) (by kernel_rfl) (fun _ _ _ h => h) (Or.inl ⟨by rfl, ?mhq27⟩) (by assumption) ?mrq27
                  case mhq27 => (intro w hSw; (try dsimp only at hSw); go_simp; try with_reducible rfl)
                  try simp only [List.getElem_toArray, List.getElem_cons_succ, List.getElem_cons_zero, Act.put, List.setIfInBounds_toArray, List.set_cons_zero, List.set_cons_succ]
                  refine wpAnyH_done (by kernel_rfl) ?_ _
                  (try go_wp2)
                  go_meet
                  exact ⟨by simp [*], HN.out⟩
                · have hs3 : sv < 0 := by rw [hs1]; simpa using hff
                  clear hs1 hff
                  refine wp_region_held_drew (S := fun W => W.cell? ⟨ba, 0, none⟩ = some (.bool true) ∧ W.cell? ⟨b, i * 2, none⟩ = some (.int .i64 s) ∧ W.cell? ⟨b, i * 2 + 1, none⟩ = some (.pointer g)) (by kernel_rfl) (by exact HC2.out _ (by repeat (first | with_reducible exact HN.out | with_reducible exact Below.refl _ _ | with_reducible refine Below.drew ?_ | with_reducible refine below_drewN ?_ _))) (fun hHeld => ?_)
                  refine wpAnyH_take (i := 0) (oi := _) (v := ?mvr0) rfl (by kernel_rfl) (by kernel_rfl) (by kernel_rfl) (fun _ _ _ h => h) (Or.inl ⟨by rfl, ?mhr0⟩) (by assumption) ?mrr0
                  case mhr0 => (intro w hSw; (try dsimp only at hSw); go_simp; try with_reducible rfl)
                  try simp only [List.getElem_toArray, List.getElem_cons_succ, List.getElem_cons_zero, Act.put, List.setIfInBounds_toArray, List.set_cons_zero, List.set_cons_succ]
                  refine wpAnyH_take (i := 1) (oi := _) (v := ?mvr1) rfl (by kernel_rfl) (by kernel_rfl) (by kernel_rfl) (fun _ _ _ h => h) (Or.inl ⟨by rfl, ?mhr1⟩) (by assumption) ?mrr1
                  case mhr1 => (intro w hSw; (try dsimp only at hSw); go_simp; try with_reducible rfl)
                  try simp only [List.getElem_toArray, List.getElem_cons_succ, List.getElem_cons_zero, Act.put, List.setIfInBounds_toArray, List.set_cons_zero, List.set_cons_succ]
                  refine wpAnyH_take (i := 2) (oi := _) (v := ?mvr2) rfl (by kernel_rfl) (by kernel_rfl) (by kernel_rfl) (fun _ _ _ h => h) (Or.inl ⟨by rfl, ?mhr2⟩) (by assumption) ?mrr2
                  case mhr2 => (intro w hSw; (try dsimp only at hSw); go_simp; try with_reducible rfl)
                  try simp only [List.getElem_toArray, List.getElem_cons_succ, List.getElem_cons_zero, Act.put, List.setIfInBounds_toArray, List.set_cons_zero, List.set_cons_succ]
                  refine wpAnyH_take (i := 3) (oi := _) (v := ?mvr3) rfl (by kernel_rfl) (by kernel_rfl) (by kernel_rfl) (fun _ _ _ h => h) (Or.inl ⟨by rfl, ?mhr3⟩) (by assumption) ?mrr3
                  case mhr3 => (intro w hSw; (try dsimp only at hSw); go_simp; try with_reducible rfl)
                  try simp only [List.getElem_toArray, List.getElem_cons_succ, List.getElem_cons_zero, Act.put, List.setIfInBounds_toArray, List.set_cons_zero, List.set_cons_succ]
                  refine wpAnyH_take (i := 4) (oi := _) (v := ?mvr4) rfl (by kernel_rfl) (by kernel_rfl) (by kernel_rfl) (fun _ _ _ h => h) (Or.inl ⟨by rfl, ?mhr4⟩) (by assumption) ?mrr4
                  case mhr4 => (intro w hSw; (try dsimp only at hSw); go_simp; try with_reducible rfl)
                  try simp only [List.getElem_toArray, List.getElem_cons_succ, List.getElem_cons_zero, Act.put, List.setIfInBounds_toArray, List.set_cons_zero, List.set_cons_succ]
                  refine wpAnyH_take (i := 5) (oi := _) (v := ?mvr5) rfl (by kernel_rfl) (by kernel_rfl) (by kernel_rfl) (fun _ _ _ h => h) (Or.inl ⟨by rfl, ?mhr5⟩) (by assumption) ?mrr5
                  case mhr5 => (intro w hSw; (try dsimp only at hSw); go_simp; try with_reducible rfl)
                  try simp only [List.getElem_toArray, List.getElem_cons_succ, List.getElem_cons_zero, Act.put, List.setIfInBounds_toArray, List.set_cons_zero, List.set_cons_succ]
                  refine wpAnyH_take (i := 6) (oi := _) (v := ?mvr6) rfl (by kernel_rfl) (by kernel_rfl) (by kernel_rfl) (fun _ _ _ h => h) (Or.inl ⟨by rfl, ?mhr6⟩) (by assumption) ?mrr6
                  case mhr6 => (intro w hSw; (try dsimp only at hSw); go_simp; try with_reducible rfl)
                  try simp only [List.getElem_toArray, List.getElem_cons_succ, List.getElem_cons_zero, Act.put, List.setIfInBounds_toArray, List.set_cons_zero, List.set_cons_succ]
                  refine wpAnyH_take (i := 7) (oi := _) (v := ?mvr7) rfl (by kernel_rfl) (by kernel_rfl) (by kernel_rfl) (fun _ _ _ h => h) (Or.inl ⟨by rfl, ?mhr7⟩) (by assumption) ?mrr7
                  case mhr7 => (intro w hSw; (try dsimp only at hSw); go_simp; try with_reducible rfl)
                  try simp only [List.getElem_toArray, List.getElem_cons_succ, List.getElem_cons_zero, Act.put, List.setIfInBounds_toArray, List.set_cons_zero, List.set_cons_succ]
                  refine wpAnyH_take (i := 8) (oi := _) (v := ?mvr8) rfl (by kernel_rfl) (by kernel_rfl) (by kernel_rfl) (fun _ _ _ h => h) (Or.inl ⟨by rfl, ?mhr8⟩) (by assumption) ?mrr8
                  case mhr8 => (intro w hSw; (try dsimp only at hSw); go_simp; try with_reducible rfl)
                  try simp only [List.getElem_toArray, List.getElem_cons_succ, List.getElem_cons_zero, Act.put, List.setIfInBounds_toArray, List.set_cons_zero, List.set_cons_succ]
                  refine wpAnyH_take (i := 9) (oi := _) (v := ?mvr9) rfl (by kernel_rfl) (by kernel_rfl) (by kernel_rfl) (fun _ _ _ h => h) (Or.inl ⟨by rfl, ?mhr9⟩) (by assumption) ?mrr9
                  case mhr9 => (intro w hSw; (try dsimp only at hSw); go_simp; try with_reducible rfl)
                  try simp only [List.getElem_toArray, List.getElem_cons_succ, List.getElem_cons_zero, Act.put, List.setIfInBounds_toArray, List.set_cons_zero, List.set_cons_succ]
                  refine wpAnyH_take (i := 10) (oi := _) (v := ?mvr10) rfl (by kernel_rfl) (by kernel_rfl) (by kernel_rfl) (fun _ _ _ h => h) (Or.inl ⟨by rfl, ?mhr10⟩) (by assumption) ?mrr10
                  case mhr10 => (intro w hSw; (try dsimp only at hSw); go_simp; try with_reducible rfl)
                  try simp only [List.getElem_toArray, List.getElem_cons_succ, List.getElem_cons_zero, Act.put, List.setIfInBounds_toArray, List.set_cons_zero, List.set_cons_succ]
                  refine wpAnyH_take (i := 11) (oi := _) (v := ?mvr11) rfl (by kernel_rfl) (by kernel_rfl) (by kernel_rfl) (fun _ _ _ h => h) (Or.inl ⟨by rfl, ?mhr11⟩) (by assumption) ?mrr11
                  case mhr11 => (intro w hSw; (try dsimp only at hSw); go_simp; try with_reducible rfl)
                  try simp only [List.getElem_toArray, List.getElem_cons_succ, List.getElem_cons_zero, Act.put, List.setIfInBounds_toArray, List.set_cons_zero, List.set_cons_succ]
                  refine wpAnyH_take (i := 12) (oi := _) (v := ?mvr12) rfl (by kernel_rfl) (by kernel_rfl) (by kernel_rfl) (fun _ _ _ h => h) (Or.inl ⟨by rfl, ?mhr12⟩) (by assumption) ?mrr12
                  case mhr12 => (intro w hSw; (try dsimp only at hSw); go_simp; try with_reducible rfl)
                  try simp only [List.getElem_toArray, List.getElem_cons_succ, List.getElem_cons_zero, Act.put, List.setIfInBounds_toArray, List.set_cons_zero, List.set_cons_succ]
                  refine wpAnyH_ready (rs := [13]) (by kernel_rfl) (by simp) ?_
                  refine AllReadyH.cons rfl (fun K hK => ?_) AllReadyH.nil
                  go_simp
                  go_wp2_with (first
                    | (go_at_call 6; refine (HSG.out _ (by repeat (first | with_reducible exact HN.out | with_reducible exact Below.refl _ _ | with_reducible refine Below.drew ?_ | with_reducible refine below_drewN ?_ _))).mono ?_; rintro e5 w5 ⟨rfl, hb5⟩
                       have HN := Lib.hid hb5
                       clear hb5))
                  refine hK.out _ _ (by exact HC2.out _ (by repeat (first | with_reducible exact HN.out | with_reducible exact Below.refl _ _ | with_reducible refine Below.drew ?_ | with_reducible refine below_drewN ?_ _))) (fun hHeld => ?_)
                  clear hK K
                  try simp only [List.getElem_toArray, List.getElem_cons_succ, List.getElem_cons_zero, Act.put, List.setIfInBounds_toArray, List.set_cons_zero, List.set_cons_succ]
                  refine wpAnyH_take (i := 14) (oi := _) (v := ?mvr14) rfl (by kernel_rfl) (by kernel_rfl) (by kernel_rfl) (fun _ _ _ h => h) (Or.inl ⟨by rfl, ?mhr14⟩) (by assumption) ?mrr14
                  case mhr14 => (intro w hSw; (try dsimp only at hSw); go_simp; try with_reducible rfl)
                  try simp only [List.getElem_toArray, List.getElem_cons_succ, List.getElem_cons_zero, Act.put, List.setIfInBounds_toArray, List.set_cons_zero, List.set_cons_succ]
                  refine wpAnyH_take (i := 15) (oi := _) (v := ?mvr15) rfl (by kernel_rfl) (by kernel_rfl) (by kernel_rfl) (fun _ _ _ h => h) (Or.inl ⟨by rfl, ?mhr15⟩) (by assumption) ?mrr15
                  case mhr15 => (intro w hSw; (try dsimp only at hSw); go_simp; try with_reducible rfl)
                  try simp only [List.getElem_toArray, List.getElem_cons_succ, List.getElem_cons_zero, Act.put, List.setIfInBounds_toArray, List.set_cons_zero, List.set_cons_succ]
                  refine wpAnyH_take (i := 16) (oi := _) (v := ?mvr16) rfl (by kernel_rfl) (by kernel_rfl) (by kernel_rfl) (fun _ _ _ h => h) (Or.inl ⟨by rfl, ?mhr16⟩) (by assumption) ?mrr16
                  case mhr16 => (intro w hSw; (try dsimp only at hSw); go_simp; try with_reducible rfl)
                  try simp only [List.getElem_toArray, List.getElem_cons_succ, List.getElem_cons_zero, Act.put, List.setIfInBounds_toArray, List.set_cons_zero, List.set_cons_succ]
                  refine wpAnyH_take (i := 17) (oi := _) (v := ?mvr17) rfl (by kernel_rfl) (by kernel_rfl) (by kernel_rfl) (fun _ _ _ h => h) (Or.inl ⟨by rfl, ?mhr17⟩) (by assumption) ?mrr17
                  case mhr17 => (intro w hSw; (try dsimp only at hSw); go_simp; try with_reducible rfl)
                  try simp only [List.getElem_toArray, List.getElem_cons_succ, List.getElem_cons_zero, Act.put, List.setIfInBounds_toArray, List.set_cons_zero, List.set_cons_succ]
                  refine wpAnyH_take (i := 18) (oi := _) (v := ?mvr18) rfl (by kernel_rfl) (by kernel_rfl) (by kernel_rfl) (fun _ _ _ h => h) (Or.inl ⟨by rfl, ?mhr18⟩) (by assumption) ?mrr18
                  case mhr18 => (intro w hSw; (try dsimp only at hSw); go_simp; try with_reducible rfl)
                  try simp only [List.getElem_toArray, List.getElem_cons_succ, List.getElem_cons_zero, Act.put, List.setIfInBounds_toArray, List.set_cons_zero, List.set_cons_succ]
                  refine wpAnyH_take (i := 19) (oi := _) (v := ?mvr19) rfl (by kernel_rfl) (by kernel_rfl) (by kernel_rfl) (fun _ _ _ h => h) (Or.inl ⟨by rfl, ?mhr19⟩) (by assumption) ?mrr19
                  case mhr19 => (intro w hSw; (try dsimp only at hSw); go_simp; try with_reducible rfl)
                  try simp only [List.getElem_toArray, List.getElem_cons_succ, List.getElem_cons_zero, Act.put, List.setIfInBounds_toArray, List.set_cons_zero, List.set_cons_succ]
                  refine wpAnyH_take (i := 20) (oi := _) (v := ?mvr20) rfl (by kernel_rfl) (by kernel_rfl) (by kernel_rfl) (fun _ _ _ h => h) (Or.inl ⟨by rfl, ?mhr20⟩) (by assumption) ?mrr20
                  case mhr20 => (intro w hSw; (try dsimp only at hSw); go_simp; try with_reducible rfl)
                  try simp only [List.getElem_toArray, List.getElem_cons_succ, List.getElem_cons_zero, Act.put, List.setIfInBounds_toArray, List.set_cons_zero, List.set_cons_succ]
                  refine wpAnyH_take (i := 21) (oi := _) (v := ?mvr21) rfl (by kernel_rfl) (by kernel_rfl) (by kernel_rfl) (fun _ _ _ h => h) (Or.inl ⟨by rfl, ?mhr21⟩) (by assumption) ?mrr21
                  case mhr21 => (intro w hSw; (try dsimp only at hSw); go_simp; try with_reducible rfl)
                  try simp only [List.getElem_toArray, List.getElem_cons_succ, List.getElem_cons_zero, Act.put, List.setIfInBounds_toArray, List.set_cons_zero, List.set_cons_succ]
                  refine wpAnyH_take (i := 22) (oi := _) (v := ?mvr22) rfl (by kernel_rfl) (by kernel_rfl) (by kernel_rfl) (fun _ _ _ h => h) (Or.inl ⟨by rfl, ?mhr22⟩) (by assumption) ?mrr22
                  case mhr22 => (intro w hSw; (try dsimp only at hSw); go_simp; try with_reducible rfl)
                  try simp only [List.getElem_toArray, List.getElem_cons_succ, List.getElem_cons_zero, Act.put, List.setIfInBounds_toArray, List.set_cons_zero, List.set_cons_succ]
                  refine wpAnyH_take (i := 23) (oi := _) (v := ?mvr23) rfl (by kernel_rfl) (by kernel_rfl) (by kernel_rfl) (fun _ _ _ h => h) (Or.inl ⟨by rfl, ?mhr23⟩) (by assumption) ?mrr23
                  case mhr23 => (intro w hSw; (try dsimp only at hSw); go_simp; try with_reducible rfl)
                  try simp only [List.getElem_toArray, List.getElem_cons_succ, List.getElem_cons_zero, Act.put, List.setIfInBounds_toArray, List.set_cons_zero, List.set_cons_succ]
                  refine wpAnyH_ready (rs := [24]) (by kernel_rfl) (by simp) ?_
                  refine AllReadyH.cons rfl (fun K hK => ?_) AllReadyH.nil
                  go_simp
                  go_wp2_with (first
                    | (go_at_call 6; refine (HSG.out _ (by repeat (first | with_reducible exact HN.out | with_reducible exact Below.refl _ _ | with_reducible refine Below.drew ?_ | with_reducible refine below_drewN ?_ _))).mono ?_; rintro e5 w5 ⟨rfl, hb5⟩
                       have HN := Lib.hid hb5
                       clear hb5))
                  refine hK.out _ _ (by exact HC2.out _ (by repeat (first | with_reducible exact HN.out | with_reducible exact Below.refl _ _ | with_reducible refine Below.drew ?_ | with_reducible refine below_drewN ?_ _))) (fun hHeld => ?_)
                  clear hK K
                  try simp only [List.getElem_toArray, List.getElem_cons_succ, List.getElem_cons_zero, Act.put, List.setIfInBounds_toArray, List.set_cons_zero, List.set_cons_succ]
                  refine wpAnyH_take (i := 25) (oi := _) (v := ?mvr25) rfl (by kernel_rfl) (by kernel_rfl) (by kernel_rfl) (fun _ _ _ h => h) (Or.inl ⟨by rfl, ?mhr25⟩) (by assumption) ?mrr25
                  case mhr25 => (intro w hSw; (try dsimp only at hSw); go_simp; try with_reducible rfl)
                  try simp only [List.getElem_toArray, List.getElem_cons_succ, List.getElem_cons_zero, Act.put, List.setIfInBounds_toArray, List.set_cons_zero, List.set_cons_succ]
                  refine wpAnyH_take (i := 26) (oi := _) (v := ?mvr26) rfl (by kernel_rfl) (by kernel_rfl) (by kernel_rfl) (fun _ _ _ h => h) (Or.inl ⟨by rfl, ?mhr26⟩) (by assumption) ?mrr26
                  case mhr26 => (intro w hSw; (try dsimp only at hSw); go_simp; try with_reducible rfl)
                  try simp only [List.getElem_toArray, List.getElem_cons_succ, List.getElem_cons_zero, Act.put, List.setIfInBounds_toArray, List.set_cons_zero, List.set_cons_succ]
                  refine wpAnyH_take (i := 27) (oi := _) (v := ?mvr27) rfl (by kernel_rfl) (by kernel_rfl) (by kernel_rfl) (fun _ _ _ h => h) (Or.inl ⟨by rfl, ?mhr27⟩) (by assumption) ?mrr27
                  case mhr27 => (intro w hSw; (try dsimp only at hSw); go_simp; try with_reducible rfl)
                  try simp only [List.getElem_toArray, List.getElem_cons_succ, List.getElem_cons_zero, Act.put, List.setIfInBounds_toArray, List.set_cons_zero, List.set_cons_succ]
                  refine wpAnyH_done (by kernel_rfl) ?_ _
                  (try go_wp2)
                  go_meet
                  exact ⟨by simp [*], HN.out⟩
          obtain ⟨rfl, hbx⟩ := hcut
          obtain ⟨wy, hwy⟩ : ∃ wy, wy = wc := ⟨_, rfl⟩
          subst hwy
          have HY := Lib.hid (And.intro (HX2.out.1.on hbx) (And.intro (HX2.out.2.1.below hbx) (HX2.out.2.2.1.trans (hbx.mono HX2.out.2.2.1.size))))
          clear hbx
          go_upto_region 26 with fail
          go_loopg [15] i (fun rem v wl => ∃ k : Nat, k + rem = i ∧ v = .int .i64 k ∧ Below wy.heap.size wy wl)
          case atStart => exact ⟨0, by omega, rfl, Below.refl _ _⟩
          case round =>
            obtain ⟨k, hkr, rfl, hbk⟩ := hrel
            by_cases hk : k < i
            · have hk' : (k : Int) < (i : Int) := by omega
              have hkL : (k : Int) < (L : Int) := by omega
              obtain ⟨s2, g2, z2, hn2, _, _, hcell2⟩ := HAT.out k (by omega)
              obtain ⟨wk, hwk⟩ : ∃ wk, wk = wr := ⟨_, rfl⟩
              subst hwk
              have hqk := HY.out.2.2.trans (hbk.mono HY.out.2.2.size)
              have hLk := HY.out.1.on hbk
              have hcm := hLk.cmp (HY.out.2.1.below hbk) (hn2.below hqk)
              have hsm := hLk.same (HY.out.2.1.below hbk) (hn2.below hqk)
              have hcs : (sgn (z - z2) == 0) = decide (z = z2) := by
                rw [Bool.eq_iff_iff, beq_iff_eq, decide_eq_true_eq]
                unfold sgn
                split <;> (try split) <;> omega
              have hcz := fun W (hW : Below wk.heap.size wk W) => And.intro (HC.out W (hqk.trans (hW.mono hqk.size))) (hcell2 W (hqk.trans (hW.mono hqk.size)))
              generalize sgn (z - z2) = sv at *
              generalize decide (z = z2) = dd at *
              have HC2 := Lib.hid hcz
              have HCM := Lib.hid hcm
              have HSM := Lib.hid hsm
              have HBK := Lib.hid hbk
              have HN := Lib.hid (Below.refl wk.heap.size wk)
              clear hn2 hcell2 hqk hLk hcm hsm hcz hbk
              go_upto_region 28 with fail
              go_cut [197] from 178 to 197 (fun t wx => t = .bool false ∧ Below wk.heap.size wk wx)
              case first =>
                as_aux_lemma =>
                  first
                    | go_region_held3 (fun W => (W.cell? ⟨b, i * 2, none⟩ = some (.int .i64 s) ∧ W.cell? ⟨b, i * 2 + 1, none⟩ = some (.pointer g)) ∧ W.cell? ⟨b, k * 2, none⟩ = some (.int .i64 s2) ∧ W.cell? ⟨b, k * 2 + 1, none⟩ = some (.pointer g2)) (exact HC2.out _ (by repeat (first | with_reducible exact HN.out | with_reducible exact Below.refl _ _ | with_reducible refine Below.drew ?_ | with_reducible refine below_drewN ?_ _)))
                        (first
                        | (go_at_call 8; refine (HCM.out _ (by repeat (first | with_reducible exact HN.out | with_reducible exact Below.refl _ _ | with_reducible refine Below.drew ?_ | with_reducible refine below_drewN ?_ _))).mono ?_; rintro e5 w5 ⟨rfl, hb5⟩
                           have HN := Lib.hid hb5
                           clear hb5)
                        | (go_at_call 12; refine (HSM.out _ (by repeat (first | with_reducible exact HN.out | with_reducible exact Below.refl _ _ | with_reducible refine Below.drew ?_ | with_reducible refine below_drewN ?_ _))).mono ?_; rintro e5 w5 ⟨rfl, hb5⟩
                           have HN := Lib.hid hb5
                           clear hb5))
                    | fail
                  all_goals
                    (try go_wp2)
                    go_meet
                    exact ⟨by simp [*], HN.out⟩
              obtain ⟨rfl, hbx⟩ := hcut
              have HBX := Lib.hid (HBK.out.trans (hbx.mono HBK.out.size))
              clear hbx
              go_wp2
              go_roundg (gk - 1)
              case measure => omega
              case rel => exact ⟨k + 1, by omega, by go_num, HBX.out⟩
            · have hk' : ¬ (k : Int) < (i : Int) := by omega
              have HBX := Lib.hid (HY.out.2.2.trans (hbk.mono HY.out.2.2.size))
              clear hbk
              go_wp2
              go_roundg (gq - 1)
              case measure => omega
              case rel => exact ⟨i + 1, by omega, by go_num, HBX.out⟩
    · have hlt' : ¬ (i : Int) < (L : Int) := by omega
      have HLL := Lib.hid (And.intro (HLL.out.1.on hB) (And.intro (HLL.out.2.1.trans (hB.mono HLL.out.2.1.size)) True.intro))
      have HAW := Lib.hid (HLL.out.1.awake)
      have HN := Lib.hid (Below.refl wr.heap.size wr)
      go_wp2_with (first
        | (go_at_call 15; with_reducible refine (HAW.out _ (by repeat (first | with_reducible exact HN.out | with_reducible exact Below.refl _ _ | with_reducible refine Below.drew ?_ | with_reducible refine below_drewN ?_ _))).mono ?_; rintro e5 w5 ⟨rfl, hb5⟩
           have HN := Lib.hid hb5
           clear hb5))
      refine bodyPost_ret (v := .bool true) (by simp [results, Tryd.results3, go_sem, *]) rfl ⟨rfl, HLL.out.2.1.trans (HN.out.mono HLL.out.2.1.size)⟩
end Go.Proofs.YtlclanmbebjfkaaDoor
