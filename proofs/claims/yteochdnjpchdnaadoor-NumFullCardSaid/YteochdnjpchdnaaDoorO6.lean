import Derived.Test.YteochdnjpchdnaaDoorK4
import Derived.Deep.CutRange
import Derived.Deep.LoopGhost
import Derived.Lib.SmallJoins
set_option linter.unusedVariables false
set_option linter.unusedSimpArgs false
namespace Go.Proofs.YteochdnjpchdnaaDoor
open Go.RowKit
set_option linter.unusedVariables false

theorem wtOneF : wt 1 ≤ 1 := by
  have h := (wt_one 0 0 (by decide)).1
  have h0 : wt 0 = 0 := by unfold wt; rw [naf0]; rfl
  simpa [h0] using h

set_option maxRecDepth 100000 in
set_option maxHeartbeats 8000000 in
/-- ████ NumFull -/
theorem NumFull_calls {w : World} (tab : Tab w) (h0 : 0 < w.heap.size) (n : Nat) (hn : n ≤ 255) :
    Calls Tryd.prog 12 #[.int .u8 (n : Int)] w fun e w' => e = .returned (.bool true) ∧ Below w.heap.size w w' := by
  have hL := LawW.of tab h0 (Below.refl w.heap.size w)
  have hn9 : (n : Int) ≤ 255 := by omega
  have hn0 : (0 : Int) ≤ (n : Int) := by omega
  have ho0 : (w.alloc (.cells #[] 50)).ownsRow w.heap.size 50 3 (.slice (some ⟨w.heap.size, 0, none⟩) 0 0) 0 (flatT (rowF n 0)) := World.ownsRow_lit w #[] 0 (Nat.le_refl _) (by decide) rfl
  have hb0 : Below w.heap.size w (w.alloc (.cells #[] 50)) := (Below.refl _ _).alloc (Nat.le_refl _) _
  have HST := Lib.hid (And.intro hb0 ho0)
  have HX := Lib.hid (And.intro hL hn)
  clear hL tab h0 hb0 ho0 hn
  go_enter Tryd.func12, Tryd.ntmps12
  go_wp2
  go_loopw [4, 3] (fun i l wl => ∃ (k : Nat) (a : Option Addr) (c : Nat), k ≤ 301 ∧ i = .int .i64 k ∧ l = .slice a k c ∧ Below w.heap.size w wl ∧ wl.ownsRow w.heap.size 50 3 (.slice a k c) k (flatT (rowF n k))) (fun i _ _ => 301 - (intOf i).toNat)
  case atStart => exact ⟨0, _, _, by omega, by simp, rfl, HST.out.1, HST.out.2⟩
  case round =>
    obtain ⟨k, a, c, hkl, rfl, rfl, hbl, hown⟩ := hrel
    clear HST
    by_cases hlt : k < 301
    · have hlt' : (k : Int) < 301 := by omega
      have hk0 : (0 : Int) ≤ (k : Int) := by omega
      have hce : ((k : Int) % 3 == 1, 2 * (k : Int) + (n : Int), (none : Option Addr)) = cellF n k := by
        have h1 : ((k : Int) % 3 == 1) = decide (k % 3 = 1) := by
          rw [Bool.eq_iff_iff, beq_iff_eq, decide_eq_true_eq]; omega
        unfold cellF
        rw [h1, show ((2 * k + n : Nat) : Int) = 2 * (k : Int) + (n : Int) by omega]
      have HCE := Lib.hid hce
      clear hce
      have hw2 : IntKind.i64.wrap (2 * (k : Int)) = 2 * (k : Int) := IntWalk.i64_in _ (by omega)
      have hwn : IntKind.i64.wrap (n : Int) = (n : Int) := IntWalk.i64_in _ (by omega)
      have hw3 : IntKind.i64.wrap (2 * (k : Int) + (n : Int)) = 2 * (k : Int) + (n : Int) := IntWalk.i64_in _ (by omega)
      obtain ⟨i1, hi1, hz1, hz2, hz3⟩ := info_parts infoeT
      have HH := Lib.hid (And.intro hi1 (And.intro hz1 (And.intro hz2 hz3)))
      have hsz := hbl.size
      have HQ := Lib.hid (And.intro hbl hown)
      clear hbl hown hi1 hz1 hz2 hz3
      go_wp2_with (first
        | (at_builtin; refine wpList_append_own_at _ rfl _ _ 47 rfl w.heap.size 50 i1 zT 3 24 Tryd.underlying47 HH.out.1 HH.out.2.1 HH.out.2.2.1 HH.out.2.2.2 rfl (by decide) _ _ _ rfl ((ownsRow_belowAll HQ.out.2 H3.out).alloc _) ⟨w3.heap.size, 0, none⟩ 1 1 (cellsT ((k : Int) % 3 == 1, 2 * (k : Int) + (n : Int), none)) rfl rfl (news_alloc w3 _ _ _) (by simp [cellsT, Value.oneCell']) (by unfold maxLen; omega) (by omega) (by have := H3.out.size; simp; omega) ?_; intro v7 w7 hown7 hg7 _ hat7
           obtain ⟨a7, c7, rfl⟩ := (RowV.of_own hown7).shape
           have H7 := Lib.hid (And.intro hown7 hg7)
           clear hown7 hg7 hat7)
        | (go_at_call 18; refine (of_calls _ _).mono ?_; rintro e3 w3 ⟨rfl, hb3⟩
           have H3 := Lib.hid hb3
           clear hb3))
      obtain ⟨hbl, hown⟩ := HQ.out
      obtain ⟨hown7, hg7⟩ := H7.out
      refine ⟨⟨k + 1, a7, c7, by omega, by go_num, rfl, ?_, ?_⟩, by simp [intOf]; omega⟩
      · have hbA : ∀ o, Below w3.heap.size w3 (w3.alloc o) := fun o => (Below.refl _ _).alloc (Nat.le_refl _) _
        exact ((hbl.trans (H3.out.mono hbl.size)).trans ((hbA _).mono (Nat.le_trans hbl.size H3.out.size))).grown hg7 (by have := H3.out.size; have := hbl.size; simp; omega) (fun j hj => (hown.lt j hj).1)
      · rw [rowF_succ, flatT_append]
        rw [HCE.out] at hown7
        exact hown7
    · have hk : k = 301 := by omega
      subst hk
      have hlt' : ¬ (((301 : Nat) : Int) < 301) := by omega
      obtain ⟨b, rfl⟩ : ∃ b, a = some ⟨b, 0, none⟩ := by
        obtain ⟨g', cap, e⟩ := Go.Joins.ownsRow_form hown (by omega)
        cases e; exact ⟨g', rfl⟩
      have hr := RowV.of_own hown
      have hcap : 301 ≤ c := by
        rcases hr.2 with ⟨e, h0⟩ | ⟨b1, off1, cap1, e1, p1, p2, p3, p4⟩
        · cases e
        · cases e1; exact p1
      have hc1 : (300 : Int) ≤ (c : Int) := by omega
      have hc2 : (100 : Int) ≤ (c : Int) := by omega
      have hc3 : (101 : Int) ≤ (c : Int) := by omega
      have hwn : IntKind.i64.wrap (n : Int) = (n : Int) := IntWalk.i64_in _ (by omega)
      have hw6 : IntKind.i64.wrap (600 + (n : Int)) = 600 + (n : Int) := IntWalk.i64_in _ (by omega)
      obtain ⟨wq, hwq⟩ : ∃ wq, wq = wr := ⟨_, rfl⟩
      subst hwq
      have HLL := Lib.hid (And.intro (HX.out.1.on hbl) hbl)
      have HR := Lib.hid hr
      have HNN := Lib.hid HX.out.2
      have hbx := Below.refl wq.heap.size wq
      have hV : Vars wq [] := trivial
      obtain ⟨wc, hwc⟩ : ∃ wc, wc = wq := ⟨_, rfl⟩
      rw [← hwc] at hbx hV ⊢
      rw [hwc] at hbx
      have hbx : Below wq.heap.size wq wc := by rw [hwc]; exact Below.refl _ _
      clear hwc hbl hown hr hlt hkl HX hcap
      obtain ⟨wn, hwn2⟩ : ∃ wn, wn = wc := ⟨_, rfl⟩
      subst hwn2
      have HB := Lib.hid hbx
      have HV := Lib.hid hV
      clear hbx hV
      have hsl : (Value.slice (some ⟨b, 0, none⟩) 301 c) = .slice (some ⟨b, 0, none⟩) 301 c := rfl
      clear hsl
      go_upto_region 6 with fail
      go_cut [5, 6] from 49 to 54 (fun vd ve wx => Below wq.heap.size wq wx ∧ ∃ b, vd = .pointer (some ⟨b, 0, none⟩) ∧ ve = .int .i64 (0) ∧ Vars wx ((b, fullZ n 300) :: []))
      case first =>
        as_aux_lemma =>
          have hc := (HLL.out.1.on HB.out).sumF (n := n) (k := 300) ((HR.out.below HB.out (Nat.le_refl _)).prefixF (by omega) (by omega)) (by omega) HNN.out
          rw [(errA_yes (fullZ_allowed (k := 300) (by omega) HNN.out).1).1, (errA_yes (fullZ_allowed (k := 300) (by omega) HNN.out).1).2] at hc
          have HCC := Lib.hid hc
          clear hc
          have HN := Lib.hid (Below.refl wn.heap.size wn)
          go_wp2_with (first
            | (go_at_call 31; refine (HCC.out).mono ?_; rintro e9 w9 ⟨r9, q9, rfl, hn9, hb9⟩
               have hb9 := HN.out.trans (hb9.mono HN.out.size)
               have hbA := hb9.alloc hb9.size (.cells #[.int .i64 r9, .pointer q9] 29)
               have HD := Lib.hid (And.intro (HB.out.trans (hbA.mono HB.out.size)) (And.intro (NumAt.new hn9) (HV.out.below hbA)))
               clear hn9 hb9 hbA))
          go_meet
          exact ⟨HD.out.1, _, rfl, rfl, HD.out.2⟩
      obtain ⟨hbx, b5, rfl, rfl, hV⟩ := hcut
      obtain ⟨wn, hwn⟩ : ∃ wn, wn = wc := ⟨_, rfl⟩
      subst hwn
      have HB := Lib.hid hbx
      have HV := Lib.hid hV
      clear hbx hV
      go_upto_region 7 with fail
      go_cut [7, 8] from 55 to 59 (fun vd ve wx => Below wq.heap.size wq wx ∧ ∃ b, vd = .pointer (some ⟨b, 0, none⟩) ∧ ve = .int .i64 (5) ∧ Vars wx ((b, 0) :: [(b5, fullZ n 300)]))
      case first =>
        as_aux_lemma =>
          have hc := (HLL.out.1.on HB.out).sumF (n := n) (k := 301) ((HR.out.below HB.out (Nat.le_refl _)).prefixF (by omega) (by omega)) (by omega) HNN.out
          rw [(errA_no (fullZ_not (n := n) (k := 301) (by omega))).1, (errA_no (fullZ_not (n := n) (k := 301) (by omega))).2] at hc
          have HCC := Lib.hid hc
          clear hc
          have HN := Lib.hid (Below.refl wn.heap.size wn)
          go_wp2_with (first
            | (go_at_call 31; refine (HCC.out).mono ?_; rintro e9 w9 ⟨r9, q9, rfl, hn9, hb9⟩
               have hb9 := HN.out.trans (hb9.mono HN.out.size)
               have hbA := hb9.alloc hb9.size (.cells #[.int .i64 r9, .pointer q9] 29)
               have HD := Lib.hid (And.intro (HB.out.trans (hbA.mono HB.out.size)) (And.intro (NumAt.new hn9) (HV.out.below hbA)))
               clear hn9 hb9 hbA))
          go_meet
          exact ⟨HD.out.1, _, rfl, rfl, HD.out.2⟩
      obtain ⟨hbx, b7, rfl, rfl, hV⟩ := hcut
      obtain ⟨wn, hwn⟩ : ∃ wn, wn = wc := ⟨_, rfl⟩
      subst hwn
      have HB := Lib.hid hbx
      have HV := Lib.hid hV
      clear hbx hV
      obtain ⟨P, hP⟩ : ∃ P : Int, P = 2 ^ (600 + n) := ⟨_, rfl⟩
      have hpa : errS 1 (600 + (n : Int)) = 0 ∧ valS 1 (600 + (n : Int)) = P := by
        have h1 := reaches_nat 1 (600 + n)
        have h2 := shiftZ_nat 1 (600 + n)
        rw [show ((600 + n : Nat) : Int) = 600 + (n : Int) by omega] at h1 h2
        rw [Int.one_mul, ← hP] at h2
        have h3 := (allowed_bits (z := ((600 + n : Nat) : Int)) (b := 10) (by have := HNN.out; omega) (by omega) (by omega))
        have h4 := hgt_le_weight _ ((600 + n : Nat) : Int) (Nat.lt_succ_self _)
        have h5 := errS_yes h1 (by rw [h2, hP]; exact allowed_pow h3.1 (by omega) (by omega))
        rw [h2] at h5
        exact h5
      have HP := Lib.hid (And.intro hP hpa)
      clear hP hpa
      go_upto_region 8 with fail
      go_cut [9, 10] from 60 to 68 (fun vd ve wx => Below wq.heap.size wq wx ∧ ∃ b, vd = .pointer (some ⟨b, 0, none⟩) ∧ ve = .int .i64 (0) ∧ Vars wx ((b, P) :: [(b7, 0), (b5, fullZ n 300)]))
      case first =>
        as_aux_lemma =>
          have hc : ∀ W, Below wn.heap.size wn W → Calls Tryd.prog 20 #[.agg #[.int .i64 1, .pointer none], .agg #[.int .i64 (600 + (n : Int)), .pointer none]] W fun e w' => ∃ (r : Int) (q : Option Addr), e = .returned (.tuple #[.agg #[.int .i64 r, .pointer q], .int .i64 0]) ∧ NumA cold w' r q P ∧ Below W.heap.size W w' := by
            intro W hW
            have h := ((HLL.out.1.on HB.out).on hW).shiftE (NumA.small (B := cold) W (show i64 1 by unfold i64; omega)) (NumA.small (B := cold) W (show i64 (600 + (n : Int)) by unfold i64; omega))
            rw [HP.out.2.1, HP.out.2.2] at h
            exact h
          have HCC := Lib.hid hc
          clear hc
          have HN := Lib.hid (Below.refl wn.heap.size wn)
          go_wp2_with (first
            | (go_at_call 20; refine (HCC.out _ HN.out).mono ?_; rintro e9 w9 ⟨r9, q9, rfl, hn9, hb9⟩
               have hb9 := HN.out.trans (hb9.mono HN.out.size)
               have hbA := hb9.alloc hb9.size (.cells #[.int .i64 r9, .pointer q9] 29)
               have HD := Lib.hid (And.intro (HB.out.trans (hbA.mono HB.out.size)) (And.intro (NumAt.new hn9) (HV.out.below hbA)))
               clear hn9 hb9 hbA)
            | (go_at_call 18; refine (of_calls _ _).mono ?_; rintro e3 w3 ⟨rfl, hb3⟩
               have HN := Lib.hid (HN.out.trans (hb3.mono HN.out.size))
               clear hb3))
          go_meet
          exact ⟨HD.out.1, _, rfl, rfl, HD.out.2⟩
      obtain ⟨hbx, b9, rfl, rfl, hV⟩ := hcut
      obtain ⟨wn, hwn⟩ : ∃ wn, wn = wc := ⟨_, rfl⟩
      subst hwn
      have HB := Lib.hid hbx
      have HV := Lib.hid hV
      clear hbx hV
      go_upto_region 9 with fail
      go_cut [11, 12] from 69 to 74 (fun vd ve wx => Below wq.heap.size wq wx ∧ ∃ b, vd = .pointer (some ⟨b, 0, none⟩) ∧ ve = .int .i64 (5) ∧ Vars wx ((b, 0) :: [(b9, P), (b7, 0), (b5, fullZ n 300)]))
      case first =>
        as_aux_lemma =>
          obtain ⟨sv1, gv1, pv1, nv1⟩ := HV.out.get (b := b5) (z := fullZ n 300) (by simp)
          obtain ⟨yv1, yw1⟩ := num_cells pv1
          obtain ⟨sv2, gv2, pv2, nv2⟩ := HV.out.get (b := b9) (z := P) (by simp)
          obtain ⟨yv2, yw2⟩ := num_cells pv2
          have hc := (HLL.out.1.on HB.out).addE nv1 nv2
          rw [(errA_no (z := fullZ n 300 + P) (fun h => by have h1 := h.2.2 _ (partsZ_mem _); rw [HP.out.1, full_more] at h1; omega)).1, (errA_no (fun h => by have h1 := h.2.2 _ (partsZ_mem _); rw [HP.out.1, full_more] at h1; omega)).2] at hc
          have HCC := Lib.hid hc
          clear hc pv1 nv1 pv2 nv2
          go_wp2_with (first
            | (go_at_call 16; refine HCC.out.mono ?_; rintro e9 w9 ⟨r9, q9, rfl, hn9, hb9⟩
               have hbA := hb9.alloc hb9.size (.cells #[.int .i64 r9, .pointer q9] 29)
               have HD := Lib.hid (And.intro (HB.out.trans (hbA.mono HB.out.size)) (And.intro (NumAt.new hn9) (HV.out.below hbA)))
               clear hn9 hb9 hbA))
          go_meet
          exact ⟨HD.out.1, _, rfl, rfl, HD.out.2⟩
      obtain ⟨hbx, b11, rfl, rfl, hV⟩ := hcut
      obtain ⟨wn, hwn⟩ : ∃ wn, wn = wc := ⟨_, rfl⟩
      subst hwn
      have HB := Lib.hid hbx
      have HV := Lib.hid hV
      clear hbx hV
      go_upto_region 10 with fail
      go_cut [94] from 75 to 94 (fun t wx => t = .bool false ∧ Below wq.heap.size wq wx ∧ Vars wx [(b11, 0), (b9, P), (b7, 0), (b5, fullZ n 300)])
      case first =>
        as_aux_lemma =>
          obtain ⟨sv0, gv0, pv0, nv0⟩ := HV.out.get (b := b5) (z := fullZ n 300) (by simp)
          have hC : ∀ W, Below wn.heap.size wn W → W.cell? ⟨b5, 0, none⟩ = some (.int .i64 sv0) ∧ W.cell? ⟨b5, 1, none⟩ = some (.pointer gv0) := by
            intro W hW
            obtain ⟨a0, c0⟩ := num_cells ((hW.block _ (lt_of_some pv0)).trans pv0)
            exact ⟨a0, c0⟩
          have HC := Lib.hid hC
          have hLn := HLL.out.1.on HB.out
          have ht : ∀ W, Below wn.heap.size wn W → Calls Tryd.prog 28 #[.agg #[.int .i64 sv0, .pointer gv0]] W fun e w' => ∃ (a : Option Addr) (c : Nat), e = .returned (.slice a 300 c) ∧ Below wn.heap.size wn w' := fun W hW => by
            refine (hLn.terms nv0 W hW).mono ?_
            rintro e w' ⟨a, c, ts, rfl, hl, _, _, hb⟩
            rw [fullZ_wt] at hl
            exact ⟨a, c, by rw [hl], hW.trans (hb.mono hW.size)⟩
          have HT := Lib.hid ht
          have HN := Lib.hid (Below.refl wn.heap.size wn)
          obtain ⟨yv0, yw0⟩ := hC _ (Below.refl _ _)
          clear pv0 nv0 hC hLn ht
          go_wp2_with (first
            | (go_at_call 28; refine (HT.out _ HN.out).mono ?_; rintro e5 w5 ⟨a5, c5, rfl, hb5⟩
               have HN := Lib.hid hb5
               clear hb5))
          go_meet
          exact ⟨by simp, HB.out.trans (HN.out.mono HB.out.size), HV.out.below HN.out⟩
      obtain ⟨rfl, hbx, hV⟩ := hcut
      obtain ⟨wn, hwn⟩ : ∃ wn, wn = wc := ⟨_, rfl⟩
      subst hwn
      have HB := Lib.hid hbx
      have HV := Lib.hid hV
      clear hbx hV
      obtain ⟨Q, hQ⟩ : ∃ Q : Int, Q = 2 ^ (fullZ n 300).toNat := ⟨_, rfl⟩
      have hqa : (errS 1 (fullZ n 300) = 0 ∧ valS 1 (fullZ n 300) = Q) ∧ hgt Q = hgt (fullZ n 300) + 1 ∧ wt Q = 1 := by
        have hp := full_pos n
        have ha := fullZ_allowed (k := 300) (by omega) HNN.out
        have hz : ((fullZ n 300).toNat : Int) = fullZ n 300 := by omega
        have h1 := reaches_nat 1 (fullZ n 300).toNat
        have h2 := shiftZ_nat 1 (fullZ n 300).toNat
        rw [hz] at h1 h2
        rw [Int.one_mul, ← hQ] at h2
        have h3 : allowedZ Q := by
          rw [hQ]
          exact allowed_pow (by rw [hz]; exact ha.1) (by rw [hz]; omega) (by rw [hz]; omega)
        have h5 := errS_yes h1 (by rw [h2]; exact h3)
        rw [h2] at h5
        refine ⟨h5, ?_, by rw [hQ, wt_pow1]⟩
        have h6 := hgt_pow (fullZ n 300).toNat
        rw [hz] at h6
        rw [hQ]; exact h6
      have HQ := Lib.hid hqa
      clear hqa hQ
      go_upto_region 12 with fail
      go_cut [13, 6] from 95 to 100 (fun vd ve wx => Below wq.heap.size wq wx ∧ ∃ b, vd = .pointer (some ⟨b, 0, none⟩) ∧ ve = .int .i64 (0) ∧ Vars wx ((b, Q) :: [(b11, 0), (b9, P), (b7, 0), (b5, fullZ n 300)]))
      case first =>
        as_aux_lemma =>
          obtain ⟨sv0, gv0, pv0, nv0⟩ := HV.out.get (b := b5) (z := fullZ n 300) (by simp)
          have hC : ∀ W, Below wn.heap.size wn W → W.cell? ⟨b5, 0, none⟩ = some (.int .i64 sv0) ∧ W.cell? ⟨b5, 1, none⟩ = some (.pointer gv0) := by
            intro W hW
            obtain ⟨a0, c0⟩ := num_cells ((hW.block _ (lt_of_some pv0)).trans pv0)
            exact ⟨a0, c0⟩
          have HC := Lib.hid hC
          have hLn := HLL.out.1.on HB.out
          have hM : ∀ W, Below wn.heap.size wn W → Calls Tryd.prog 20 #[.agg #[.int .i64 (1), .pointer none], .agg #[.int .i64 sv0, .pointer gv0]] W fun e w' => ∃ (r : Int) (q : Option Addr), e = .returned (.tuple #[.agg #[.int .i64 r, .pointer q], .int .i64 (0)]) ∧ NumA cold w' r q (Q) ∧ Below W.heap.size W w' := by
            intro W hW
            have h := (hLn.on hW).shiftE (NumA.small (B := cold) W (show i64 (1) by unfold i64; omega)) (nv0.below hW)
            rw [HQ.out.1.1, HQ.out.1.2] at h
            exact h
          obtain ⟨yv0, yw0⟩ := hC _ (Below.refl _ _)
          have HM := Lib.hid hM
          clear hM hC hLn pv0 nv0
          first
            | go_region_held3 (fun w' => w'.cell? ⟨b5, 0, none⟩ = some (.int .i64 sv0) ∧ w'.cell? ⟨b5, 1, none⟩ = some (.pointer gv0)) (first | exact HC.out _ HW4.out | exact HC.out _ ((HW4.out.setCell (by first | exact Nat.le_refl _ | exact HW3.out.size) _).setCell (by first | exact Nat.le_refl _ | exact HW3.out.size) _) | exact HC.out _ (HW4.out.alloc HW4.out.size _) | exact HC.out _ HW3.out | exact HC.out _ (HW3.out.alloc HW3.out.size _) | exact HC.out _ (by repeat (first | exact Below.refl _ _ | refine Below.drew ?_ | refine Below.alloc ?_ (by simp) _)) | (go_keep; done))
              (first
              | (go_at_call 20; refine (HM.out _ (by first | exact HW3.out | exact HW3.out.alloc HW3.out.size _)).mono ?_; rintro e4 w4 ⟨r4, q4, rfl, hn4, hb4⟩
                 have hw4 : Below wn.heap.size wn w4 := Below.trans (by first | exact HW3.out | exact HW3.out.alloc HW3.out.size _) (hb4.mono (by have := HW3.out.size; first | exact this | (simp; omega)))
                 (first
                   | (have z4 := (hb4.block w3.heap.size (by simp)).trans (heap_alloc_new w3 (.cells #[.int .i64 0, .pointer none] 29))
                      obtain ⟨z40, z41⟩ := num_cells z4
                      obtain ⟨z42, z43⟩ := num_frozen z4
                      have HZ4 := Lib.hid z4
                      clear z4)
                   | (have z4 := (hb4.block wn.heap.size (lt_ofO HZ3.out)).trans HZ3.out
                      obtain ⟨z40, z41⟩ := num_cells z4
                      obtain ⟨z42, z43⟩ := num_frozen z4
                      have HZ4 := Lib.hid z4
                      clear z4)
                   | skip)
                 have HW4 := Lib.hid hw4
                 have H4 := Lib.hid hn4
                 clear hn4 hb4 hw4)
              | (go_at_call 18; refine (of_calls _ _).mono ?_; rintro e3 w3 ⟨rfl, hb3⟩
                 have hw3 : Below wn.heap.size wn w3 := Below.trans (by repeat (first | exact Below.refl _ _ | refine Below.drew ?_ | refine Below.alloc ?_ (by simp) _)) (hb3.mono (by first | exact Nat.le_refl _ | simp))
                 (first
                   | (have z3 := (hb3.block wn.heap.size (by simp)).trans (heap_alloc_new wn (.cells #[.int .i64 0, .pointer none] 29))
                      have HZ3 := Lib.hid z3
                      clear z3)
                   | skip)
                 have HW3 := Lib.hid hw3
                 clear hb3 hw3))
            | fail
          all_goals
            (try go_wp2)
            go_meet
            first
              | exact ⟨HB.out.trans ((HW4.out.alloc HW4.out.size _).mono HB.out.size), _, rfl, rfl, NumAt.new H4.out, HV.out.below (HW4.out.alloc HW4.out.size _)⟩
              | exact ⟨HB.out.trans (((HW4.out.setCell (by first | exact Nat.le_refl _ | exact HW3.out.size) _).setCell (by first | exact Nat.le_refl _ | exact HW3.out.size) _).mono HB.out.size), _, rfl, rfl, NumAt.put HZ4.out H4.out, HV.out.below ((HW4.out.setCell (by first | exact Nat.le_refl _ | exact HW3.out.size) _).setCell (by first | exact Nat.le_refl _ | exact HW3.out.size) _)⟩
      obtain ⟨hbx, b13, rfl, rfl, hV⟩ := hcut
      obtain ⟨wn, hwn⟩ : ∃ wn, wn = wc := ⟨_, rfl⟩
      subst hwn
      have HB := Lib.hid hbx
      have HV := Lib.hid hV
      clear hbx hV
      go_upto_region 13 with fail
      go_cut [121] from 101 to 121 (fun t wx => t = .bool false ∧ Below wq.heap.size wq wx ∧ Vars wx [(b13, Q), (b11, 0), (b9, P), (b7, 0), (b5, fullZ n 300)])
      case first =>
        as_aux_lemma =>
          obtain ⟨sv0, gv0, pv0, nv0⟩ := HV.out.get (b := b5) (z := fullZ n 300) (by simp)
          obtain ⟨sv1, gv1, pv1, nv1⟩ := HV.out.get (b := b13) (z := Q) (by simp)
          have hC : ∀ W, Below wn.heap.size wn W → W.cell? ⟨b5, 0, none⟩ = some (.int .i64 sv0) ∧ W.cell? ⟨b5, 1, none⟩ = some (.pointer gv0) ∧ W.cell? ⟨b13, 0, none⟩ = some (.int .i64 sv1) ∧ W.cell? ⟨b13, 1, none⟩ = some (.pointer gv1) := by
            intro W hW
            obtain ⟨a0, c0⟩ := num_cells ((hW.block _ (lt_of_some pv0)).trans pv0)
            obtain ⟨a1, c1⟩ := num_cells ((hW.block _ (lt_of_some pv1)).trans pv1)
            exact ⟨a0, c0, a1, c1⟩
          have HC := Lib.hid hC
          have hLn := HLL.out.1.on HB.out
          have ht : ∀ W, Below wn.heap.size wn W → Calls Tryd.prog 28 #[.agg #[.int .i64 sv1, .pointer gv1]] W fun e w' => ∃ (a : Option Addr) (c : Nat), e = .returned (.slice a 1 c) ∧ Below wn.heap.size wn w' := fun W hW => by
            refine (hLn.terms nv1 W hW).mono ?_
            rintro e w' ⟨a, c, ts, rfl, hl, _, _, hb⟩
            rw [HQ.out.2.2] at hl
            exact ⟨a, c, by rw [hl], hW.trans (hb.mono hW.size)⟩
          have HT := Lib.hid ht
          have hsg := hLn.sign nv0
          rw [sgn_pos (full_pos n)] at hsg
          have HSG := Lib.hid hsg
          have hh0 := hLn.height nv0
          have hh1 := hLn.height nv1
          rw [HQ.out.2.1, show ((hgt (fullZ n 300) + 1 : Nat) : Int) = (hgt (fullZ n 300) : Int) + 1 by omega] at hh1
          have hg14 := (fullZ_allowed (k := 300) (by omega) HNN.out).2.1
          have hwr : IntKind.i64.wrap ((hgt (fullZ n 300) : Int) + 1) = (hgt (fullZ n 300) : Int) + 1 := IntWalk.i64_in _ (by omega)
          have HH0 := Lib.hid hh0
          have HH1 := Lib.hid hh1
          have HN := Lib.hid (Below.refl wn.heap.size wn).drew
          generalize hgt (fullZ n 300) = hg at *
          obtain ⟨yv0, yw0, yv1, yw1⟩ := hC _ (Below.refl _ _)
          clear pv0 pv1 nv0 nv1 hC hLn ht hsg hh0 hh1 hg14
          first
            | go_region_held3 (fun W => W.cell? ⟨b5, 0, none⟩ = some (.int .i64 sv0) ∧ W.cell? ⟨b5, 1, none⟩ = some (.pointer gv0) ∧ W.cell? ⟨b13, 0, none⟩ = some (.int .i64 sv1) ∧ W.cell? ⟨b13, 1, none⟩ = some (.pointer gv1)) (exact HC.out _ HN.out)
              (first
              | (go_at_call 29; with_reducible refine (HSG.out _ HN.out).mono ?_; rintro e5 w5 ⟨rfl, hb5⟩
                 have HN := Lib.hid hb5
                 clear hb5)
              | (go_at_call 30; with_reducible refine (HH0.out _ HN.out).mono ?_; rintro e5 w5 ⟨rfl, hb5⟩
                 have HN := Lib.hid hb5
                 clear hb5)
              | (go_at_call 30; with_reducible refine (HH1.out _ HN.out).mono ?_; rintro e5 w5 ⟨rfl, hb5⟩
                 have HN := Lib.hid hb5
                 clear hb5)
              | (go_at_call 28; with_reducible refine (HT.out _ HN.out).mono ?_; rintro e5 w5 ⟨a5, c5, rfl, hb5⟩
                 have HN := Lib.hid hb5
                 clear hb5))
            | fail
          all_goals
            (try go_wp2)
            go_meet
            exact ⟨by simp, HB.out.trans (HN.out.mono HB.out.size), HV.out.below HN.out⟩
      obtain ⟨rfl, hbx, hV⟩ := hcut
      obtain ⟨wn, hwn⟩ : ∃ wn, wn = wc := ⟨_, rfl⟩
      subst hwn
      have HB := Lib.hid hbx
      have HV := Lib.hid hV
      clear hbx hV
      have HLL := Lib.hid (And.intro (HLL.out.1.on HB.out) (HLL.out.2.trans (HB.out.mono HLL.out.2.size)))
      have HR := Lib.hid (HR.out.below HB.out (Nat.le_refl _))
      clear HB
      obtain ⟨wq, hwq⟩ : ∃ wq, wq = wn := ⟨_, rfl⟩
      subst hwq
      go_upto_region 15 with fail
      go_cut [14] from 122 to 122 (fun vd wx => Below wq.heap.size wq wx ∧ ∃ b, vd = .pointer (some ⟨b, 0, none⟩) ∧ wq.heap.size ≤ b ∧ NumAt cold wx b ((tw 0 : Nat) : Int))
      case first =>
        as_aux_lemma =>
          go_wp2_with (first
            | (go_at_call 18; refine (of_calls _ _).mono ?_; rintro e3 w3 ⟨rfl, hb3⟩
               have H3 := Lib.hid hb3
               clear hb3))
          go_meet
          exact ⟨H3.out.alloc H3.out.size _, _, rfl, H3.out.size, NumAt.new (NumA.small (z := 1) _ (by unfold i64; omega))⟩
      obtain ⟨hbx, b14, rfl, hge, hT⟩ := hcut
      have HST := Lib.hid (And.intro hbx hT)
      have HGE := Lib.hid hge
      have HVB := HV
      clear hbx hT hge HV
      go_wp2
      go_loopg [15] 99 (fun rem i wl => ∃ k : Nat, k + rem = 99 ∧ i = .int .i64 k ∧ Below wq.heap.size wq wl ∧ NumAt cold wl b14 ((tw k : Nat) : Int))
      case atStart => exact ⟨0, by omega, by simp, HST.out.1, HST.out.2⟩
      case round =>
        obtain ⟨k, hkr, rfl, hbl, hT⟩ := hrel
        clear HST
        have hbx := hbl
        by_cases hlt : k < 99
        · have hlt' : (k : Int) < 99 := by omega
          have hV : Vars wr [(b14, ((tw k : Nat) : Int)), (b13, Q), (b11, 0), (b9, P), (b7, 0), (b5, fullZ n 300)] := ⟨hT, HVB.out.below hbl⟩
          obtain ⟨wc, hwc⟩ : ∃ wc, wc = wr := ⟨_, rfl⟩
          subst hwc
          clear hbl hT
          obtain ⟨wn, hwn⟩ : ∃ wn, wn = wc := ⟨_, rfl⟩
          subst hwn
          have HB := Lib.hid hbx
          have HV := Lib.hid hV
          clear hbx hV
          have hta : errS 1 ((tw k : Nat) : Int) = 0 ∧ valS 1 ((tw k : Nat) : Int) = ((tw (k + 1) : Nat) : Int) := by
            have h1 := reaches_nat 1 (tw k)
            have h2 := shiftZ_nat 1 (tw k)
            rw [Int.one_mul, ← tw_cast] at h2
            have h5 := errS_yes h1 (by rw [h2]; exact tw_allowed (by omega))
            rw [h2] at h5
            exact h5
          have HTA := Lib.hid hta
          clear hta
          go_upto_region 19 with fail
          go_cut [16, 17] from 127 to 132 (fun vd ve wx => Below wq.heap.size wq wx ∧ ∃ b, vd = .pointer (some ⟨b, 0, none⟩) ∧ ve = .int .i64 (0) ∧ Vars wx ((b, ((tw (k + 1) : Nat) : Int)) :: [(b14, ((tw k : Nat) : Int)), (b13, Q), (b11, 0), (b9, P), (b7, 0), (b5, fullZ n 300)]))
          case first =>
            as_aux_lemma =>
              obtain ⟨sv0, gv0, pv0, nv0⟩ := HV.out.get (b := b14) (z := ((tw k : Nat) : Int)) (by simp)
              have hC : ∀ W, Below wn.heap.size wn W → W.cell? ⟨b14, 0, none⟩ = some (.int .i64 sv0) ∧ W.cell? ⟨b14, 1, none⟩ = some (.pointer gv0) := by
                intro W hW
                obtain ⟨a0, c0⟩ := num_cells ((hW.block _ (lt_of_some pv0)).trans pv0)
                exact ⟨a0, c0⟩
              have HC := Lib.hid hC
              have hLn := HLL.out.1.on HB.out
              have hM : ∀ W, Below wn.heap.size wn W → Calls Tryd.prog 20 #[.agg #[.int .i64 (1), .pointer none], .agg #[.int .i64 sv0, .pointer gv0]] W fun e w' => ∃ (r : Int) (q : Option Addr), e = .returned (.tuple #[.agg #[.int .i64 r, .pointer q], .int .i64 (0)]) ∧ NumA cold w' r q (((tw (k + 1) : Nat) : Int)) ∧ Below W.heap.size W w' := by
                intro W hW
                have h := (hLn.on hW).shiftE (NumA.small (B := cold) W (show i64 (1) by unfold i64; omega)) (nv0.below hW)
                rw [HTA.out.1, HTA.out.2] at h
                exact h
              obtain ⟨yv0, yw0⟩ := hC _ (Below.refl _ _)
              have HM := Lib.hid hM
              clear hM hC hLn pv0 nv0
              first
                | go_region_held3 (fun w' => w'.cell? ⟨b14, 0, none⟩ = some (.int .i64 sv0) ∧ w'.cell? ⟨b14, 1, none⟩ = some (.pointer gv0)) (first | exact HC.out _ HW4.out | exact HC.out _ ((HW4.out.setCell (by first | exact Nat.le_refl _ | exact HW3.out.size) _).setCell (by first | exact Nat.le_refl _ | exact HW3.out.size) _) | exact HC.out _ (HW4.out.alloc HW4.out.size _) | exact HC.out _ HW3.out | exact HC.out _ (HW3.out.alloc HW3.out.size _) | exact HC.out _ (by repeat (first | exact Below.refl _ _ | refine Below.drew ?_ | refine Below.alloc ?_ (by simp) _)) | (go_keep; done))
                  (first
                  | (go_at_call 20; refine (HM.out _ (by first | exact HW3.out | exact HW3.out.alloc HW3.out.size _)).mono ?_; rintro e4 w4 ⟨r4, q4, rfl, hn4, hb4⟩
                     have hw4 : Below wn.heap.size wn w4 := Below.trans (by first | exact HW3.out | exact HW3.out.alloc HW3.out.size _) (hb4.mono (by have := HW3.out.size; first | exact this | (simp; omega)))
                     (first
                       | (have z4 := (hb4.block w3.heap.size (by simp)).trans (heap_alloc_new w3 (.cells #[.int .i64 0, .pointer none] 29))
                          obtain ⟨z40, z41⟩ := num_cells z4
                          obtain ⟨z42, z43⟩ := num_frozen z4
                          have HZ4 := Lib.hid z4
                          clear z4)
                       | (have z4 := (hb4.block wn.heap.size (lt_ofO HZ3.out)).trans HZ3.out
                          obtain ⟨z40, z41⟩ := num_cells z4
                          obtain ⟨z42, z43⟩ := num_frozen z4
                          have HZ4 := Lib.hid z4
                          clear z4)
                       | skip)
                     have HW4 := Lib.hid hw4
                     have H4 := Lib.hid hn4
                     clear hn4 hb4 hw4)
                  | (go_at_call 18; refine (of_calls _ _).mono ?_; rintro e3 w3 ⟨rfl, hb3⟩
                     have hw3 : Below wn.heap.size wn w3 := Below.trans (by repeat (first | exact Below.refl _ _ | refine Below.drew ?_ | refine Below.alloc ?_ (by simp) _)) (hb3.mono (by first | exact Nat.le_refl _ | simp))
                     (first
                       | (have z3 := (hb3.block wn.heap.size (by simp)).trans (heap_alloc_new wn (.cells #[.int .i64 0, .pointer none] 29))
                          have HZ3 := Lib.hid z3
                          clear z3)
                       | skip)
                     have HW3 := Lib.hid hw3
                     clear hb3 hw3))
                | fail
              all_goals
                (try go_wp2)
                go_meet
                first
                  | exact ⟨HB.out.trans ((HW4.out.alloc HW4.out.size _).mono HB.out.size), _, rfl, rfl, NumAt.new H4.out, HV.out.below (HW4.out.alloc HW4.out.size _)⟩
                  | exact ⟨HB.out.trans (((HW4.out.setCell (by first | exact Nat.le_refl _ | exact HW3.out.size) _).setCell (by first | exact Nat.le_refl _ | exact HW3.out.size) _).mono HB.out.size), _, rfl, rfl, NumAt.put HZ4.out H4.out, HV.out.below ((HW4.out.setCell (by first | exact Nat.le_refl _ | exact HW3.out.size) _).setCell (by first | exact Nat.le_refl _ | exact HW3.out.size) _)⟩
          obtain ⟨hbx, b16, rfl, rfl, hV⟩ := hcut
          obtain ⟨wn, hwn⟩ : ∃ wn, wn = wc := ⟨_, rfl⟩
          subst hwn
          have HB := Lib.hid hbx
          have HV := Lib.hid hV
          clear hbx hV
          go_upto_region 20 with fail
          go_cut [142] from 133 to 142 (fun t wx => t = .bool false ∧ Below wq.heap.size wq wx ∧ Vars wx [(b16, ((tw (k + 1) : Nat) : Int)), (b14, ((tw k : Nat) : Int)), (b13, Q), (b11, 0), (b9, P), (b7, 0), (b5, fullZ n 300)])
          case first =>
            as_aux_lemma =>
              obtain ⟨sv0, gv0, pv0, nv0⟩ := HV.out.get (b := b16) (z := ((tw (k + 1) : Nat) : Int)) (by simp)
              obtain ⟨sv1, gv1, pv1, nv1⟩ := HV.out.get (b := b14) (z := ((tw k : Nat) : Int)) (by simp)
              have hC : ∀ W, Below wn.heap.size wn W → W.cell? ⟨b16, 0, none⟩ = some (.int .i64 sv0) ∧ W.cell? ⟨b16, 1, none⟩ = some (.pointer gv0) ∧ W.cell? ⟨b14, 0, none⟩ = some (.int .i64 sv1) ∧ W.cell? ⟨b14, 1, none⟩ = some (.pointer gv1) := by
                intro W hW
                obtain ⟨a0, c0⟩ := num_cells ((hW.block _ (lt_of_some pv0)).trans pv0)
                obtain ⟨a1, c1⟩ := num_cells ((hW.block _ (lt_of_some pv1)).trans pv1)
                exact ⟨a0, c0, a1, c1⟩
              have HC := Lib.hid hC
              have hLn := HLL.out.1.on HB.out
              have hh0 := hLn.height nv0
              have hh1 := hLn.height nv1
              rw [(tw_facts (k + 1)).1, show ((k + 1 + 1 : Nat) : Int) = (k : Int) + 1 + 1 by omega] at hh0
              rw [(tw_facts k).1, show ((k + 1 : Nat) : Int) = (k : Int) + 1 by omega] at hh1
              have hwr : IntKind.i64.wrap ((k : Int) + 1 + 1) = (k : Int) + 1 + 1 := IntWalk.i64_in _ (by omega)
              have HH0 := Lib.hid hh0
              have HH1 := Lib.hid hh1
              have HN := Lib.hid (Below.refl wn.heap.size wn).drew
              obtain ⟨yv0, yw0, yv1, yw1⟩ := hC _ (Below.refl _ _)
              clear pv0 pv1 nv0 nv1 hC hLn hh0 hh1
              first
                | go_region_held3 (fun W => W.cell? ⟨b16, 0, none⟩ = some (.int .i64 sv0) ∧ W.cell? ⟨b16, 1, none⟩ = some (.pointer gv0) ∧ W.cell? ⟨b14, 0, none⟩ = some (.int .i64 sv1) ∧ W.cell? ⟨b14, 1, none⟩ = some (.pointer gv1)) (exact HC.out _ HN.out)
                  (first
                  | (go_at_call 30; with_reducible refine (HH0.out _ HN.out).mono ?_; rintro e5 w5 ⟨rfl, hb5⟩
                     have HN := Lib.hid hb5
                     clear hb5)
                  | (go_at_call 30; with_reducible refine (HH1.out _ HN.out).mono ?_; rintro e5 w5 ⟨rfl, hb5⟩
                     have HN := Lib.hid hb5
                     clear hb5))
                | fail
              all_goals
                (try go_wp2)
                go_meet
                exact ⟨by simp, HB.out.trans (HN.out.mono HB.out.size), HV.out.below HN.out⟩
          obtain ⟨rfl, hbx, hV⟩ := hcut
          obtain ⟨wn, hwn⟩ : ∃ wn, wn = wc := ⟨_, rfl⟩
          subst hwn
          have HB := Lib.hid hbx
          have HV := Lib.hid hV
          clear hbx hV
          obtain ⟨su, gu, pu, nu⟩ := HV.out.get (b := b16) (z := ((tw (k + 1) : Nat) : Int)) (by simp)
          obtain ⟨st, gt, pt, nt⟩ := HV.out.get (b := b14) (z := ((tw k : Nat) : Int)) (by simp)
          obtain ⟨u0, u1⟩ := num_cells pu
          obtain ⟨t0, t1⟩ := num_cells pt
          obtain ⟨t2, t3⟩ := num_frozen pt
          have HQ := Lib.hid (And.intro nu pt)
          clear pu nu pt nt
          go_wp2
          go_roundg (gk - 1)
          case measure => omega
          case rel => exact ⟨k + 1, by omega, by go_num, (HB.out.setCell (p := ⟨b14, 0, none⟩) HGE.out _).setCell (p := ⟨b14, 1, none⟩) HGE.out _, NumAt.put HQ.out.2 HQ.out.1⟩
        · have hlt' : ¬ (k : Int) < 99 := by omega
          have hk : 99 ≤ k ∧ k ≤ 99 := by omega
          have HK := Lib.hid hk
          have hV : Vars wr [(b14, ((tw k : Nat) : Int)), (b13, Q), (b11, 0), (b9, P), (b7, 0), (b5, fullZ n 300)] := ⟨hT, HVB.out.below hbl⟩
          obtain ⟨wc, hwc⟩ : ∃ wc, wc = wr := ⟨_, rfl⟩
          subst hwc
          clear hbl hT hlt hk hkr HVB
          obtain ⟨wn, hwn⟩ : ∃ wn, wn = wc := ⟨_, rfl⟩
          subst hwn
          have HB := Lib.hid hbx
          have HV := Lib.hid hV
          clear hbx hV
          go_upto_region 23 with fail
          go_cut [8] from 144 to 149 (fun ve wx => ve = .int .i64 5 ∧ Below wq.heap.size wq wx ∧ Vars wx [(b14, ((tw k : Nat) : Int)), (b13, Q), (b11, 0), (b9, P), (b7, 0), (b5, fullZ n 300)])
          case first =>
            as_aux_lemma =>
              obtain ⟨sv0, gv0, pv0, nv0⟩ := HV.out.get (b := b14) (z := ((tw k : Nat) : Int)) (by simp)
              have hC : ∀ W, Below wn.heap.size wn W → W.cell? ⟨b14, 0, none⟩ = some (.int .i64 sv0) ∧ W.cell? ⟨b14, 1, none⟩ = some (.pointer gv0) := by
                intro W hW
                obtain ⟨a0, c0⟩ := num_cells ((hW.block _ (lt_of_some pv0)).trans pv0)
                exact ⟨a0, c0⟩
              have HC := Lib.hid hC
              have hLn := HLL.out.1.on HB.out
              have hm : ∀ W, Below wn.heap.size wn W → Calls Tryd.prog 20 #[.agg #[.int .i64 1, .pointer none], .agg #[.int .i64 sv0, .pointer gv0]] W fun e w' => ∃ (r : Int) (q : Option Addr), e = .returned (.tuple #[.agg #[.int .i64 r, .pointer q], .int .i64 5]) ∧ Below wn.heap.size wn w' := by
                intro W hW
                have h5 : errS 1 ((tw k : Nat) : Int) = 5 := by
                  have h2 := shiftZ_nat 1 (tw k)
                  rw [Int.one_mul] at h2
                  unfold errS
                  rw [if_pos (reaches_nat 1 (tw k)), if_neg (by rw [h2]; exact tw_not HK.out.1)]
                refine ((hLn.on hW).shiftE (NumA.small (B := cold) W (show i64 1 by unfold i64; omega)) (nv0.below hW)).mono ?_
                rintro e w' ⟨r, q, rfl, _, hb⟩
                exact ⟨r, q, by rw [h5], hW.trans (hb.mono hW.size)⟩
              have HM := Lib.hid hm
              have HN := Lib.hid (Below.refl wn.heap.size wn).drew
              obtain ⟨yv0, yw0⟩ := hC _ (Below.refl _ _)
              clear pv0 nv0 hC hLn hm
              first
                | go_region_held3 (fun W => W.cell? ⟨b14, 0, none⟩ = some (.int .i64 sv0) ∧ W.cell? ⟨b14, 1, none⟩ = some (.pointer gv0)) (exact HC.out _ HN.out)
                    (first
                    | (go_at_call 20; with_reducible refine (HM.out _ HN.out).mono ?_; rintro e5 w5 ⟨r5, q5, rfl, hb5⟩
                       have HN := Lib.hid hb5
                       clear hb5)
                    | (go_at_call 18; refine (of_calls _ _).mono ?_; rintro e3 w3 ⟨rfl, hb3⟩
                       have HN := Lib.hid (HN.out.trans (hb3.mono HN.out.size))
                       clear hb3))
                | fail
              all_goals
                (try go_wp2)
                go_meet
                exact ⟨rfl, HB.out.trans (HN.out.mono HB.out.size), HV.out.below HN.out⟩
          obtain ⟨rfl, hbx, hV⟩ := hcut
          obtain ⟨wn, hwn⟩ : ∃ wn, wn = wc := ⟨_, rfl⟩
          subst hwn
          have HB := Lib.hid hbx
          have HV := Lib.hid hV
          clear hbx hV
          have hlA : allowedZ (((tw k : Nat) : Int) - 1) := by
            obtain ⟨j, rfl⟩ : ∃ j, k = j + 2 := ⟨k - 2, by have := HK.out; omega⟩
            exact (tw_less (by have := HK.out; omega)).1
          have HLA := Lib.hid hlA
          clear hlA
          go_upto_region 24 with fail
          go_cut [18, 10] from 150 to 155 (fun vd ve wx => Below wq.heap.size wq wx ∧ ∃ b, vd = .pointer (some ⟨b, 0, none⟩) ∧ ve = .int .i64 (0) ∧ Vars wx ((b, ((tw k : Nat) : Int) - 1) :: [(b14, ((tw k : Nat) : Int)), (b13, Q), (b11, 0), (b9, P), (b7, 0), (b5, fullZ n 300)]))
          case first =>
            as_aux_lemma =>
              obtain ⟨sv0, gv0, pv0, nv0⟩ := HV.out.get (b := b14) (z := ((tw k : Nat) : Int)) (by simp)
              have hC : ∀ W, Below wn.heap.size wn W → W.cell? ⟨b14, 0, none⟩ = some (.int .i64 sv0) ∧ W.cell? ⟨b14, 1, none⟩ = some (.pointer gv0) := by
                intro W hW
                obtain ⟨a0, c0⟩ := num_cells ((hW.block _ (lt_of_some pv0)).trans pv0)
                exact ⟨a0, c0⟩
              have HC := Lib.hid hC
              have hLn := HLL.out.1.on HB.out
              have hM : ∀ W, Below wn.heap.size wn W → Calls Tryd.prog 17 #[.agg #[.int .i64 sv0, .pointer gv0], .agg #[.int .i64 (1), .pointer none]] W fun e w' => ∃ (r : Int) (q : Option Addr), e = .returned (.tuple #[.agg #[.int .i64 r, .pointer q], .int .i64 (0)]) ∧ NumA cold w' r q (((tw k : Nat) : Int) - 1) ∧ Below W.heap.size W w' := by
                intro W hW
                have h := (hLn.on hW).subE (nv0.below hW) (NumA.small (B := cold) W (show i64 (1) by unfold i64; omega))
                rw [(errA_yes HLA.out).1, (errA_yes HLA.out).2] at h
                exact h
              obtain ⟨yv0, yw0⟩ := hC _ (Below.refl _ _)
              have HM := Lib.hid hM
              clear hM hC hLn pv0 nv0
              first
                | go_region_held3 (fun w' => w'.cell? ⟨b14, 0, none⟩ = some (.int .i64 sv0) ∧ w'.cell? ⟨b14, 1, none⟩ = some (.pointer gv0)) (first | exact HC.out _ HW4.out | exact HC.out _ ((HW4.out.setCell (by first | exact Nat.le_refl _ | exact HW3.out.size) _).setCell (by first | exact Nat.le_refl _ | exact HW3.out.size) _) | exact HC.out _ (HW4.out.alloc HW4.out.size _) | exact HC.out _ HW3.out | exact HC.out _ (HW3.out.alloc HW3.out.size _) | exact HC.out _ (by repeat (first | exact Below.refl _ _ | refine Below.drew ?_ | refine Below.alloc ?_ (by simp) _)) | (go_keep; done))
                  (first
                  | (go_at_call 17; refine (HM.out _ (by first | exact HW3.out | exact HW3.out.alloc HW3.out.size _)).mono ?_; rintro e4 w4 ⟨r4, q4, rfl, hn4, hb4⟩
                     have hw4 : Below wn.heap.size wn w4 := Below.trans (by first | exact HW3.out | exact HW3.out.alloc HW3.out.size _) (hb4.mono (by have := HW3.out.size; first | exact this | (simp; omega)))
                     (first
                       | (have z4 := (hb4.block w3.heap.size (by simp)).trans (heap_alloc_new w3 (.cells #[.int .i64 0, .pointer none] 29))
                          obtain ⟨z40, z41⟩ := num_cells z4
                          obtain ⟨z42, z43⟩ := num_frozen z4
                          have HZ4 := Lib.hid z4
                          clear z4)
                       | (have z4 := (hb4.block wn.heap.size (lt_ofO HZ3.out)).trans HZ3.out
                          obtain ⟨z40, z41⟩ := num_cells z4
                          obtain ⟨z42, z43⟩ := num_frozen z4
                          have HZ4 := Lib.hid z4
                          clear z4)
                       | skip)
                     have HW4 := Lib.hid hw4
                     have H4 := Lib.hid hn4
                     clear hn4 hb4 hw4)
                  | (go_at_call 18; refine (of_calls _ _).mono ?_; rintro e3 w3 ⟨rfl, hb3⟩
                     have hw3 : Below wn.heap.size wn w3 := Below.trans (by repeat (first | exact Below.refl _ _ | refine Below.drew ?_ | refine Below.alloc ?_ (by simp) _)) (hb3.mono (by first | exact Nat.le_refl _ | simp))
                     (first
                       | (have z3 := (hb3.block wn.heap.size (by simp)).trans (heap_alloc_new wn (.cells #[.int .i64 0, .pointer none] 29))
                          have HZ3 := Lib.hid z3
                          clear z3)
                       | skip)
                     have HW3 := Lib.hid hw3
                     clear hb3 hw3))
                | fail
              all_goals
                (try go_wp2)
                go_meet
                first
                  | exact ⟨HB.out.trans ((HW4.out.alloc HW4.out.size _).mono HB.out.size), _, rfl, rfl, NumAt.new H4.out, HV.out.below (HW4.out.alloc HW4.out.size _)⟩
                  | exact ⟨HB.out.trans (((HW4.out.setCell (by first | exact Nat.le_refl _ | exact HW3.out.size) _).setCell (by first | exact Nat.le_refl _ | exact HW3.out.size) _).mono HB.out.size), _, rfl, rfl, NumAt.put HZ4.out H4.out, HV.out.below ((HW4.out.setCell (by first | exact Nat.le_refl _ | exact HW3.out.size) _).setCell (by first | exact Nat.le_refl _ | exact HW3.out.size) _)⟩
          obtain ⟨hbx, b18, rfl, rfl, hV⟩ := hcut
          obtain ⟨wn, hwn⟩ : ∃ wn, wn = wc := ⟨_, rfl⟩
          subst hwn
          have HB := Lib.hid hbx
          have HV := Lib.hid hV
          clear hbx hV
          go_upto_region 25 with fail
          go_cut [172] from 156 to 172 (fun t wx => t = .bool false ∧ Below wq.heap.size wq wx ∧ Vars wx [(b18, ((tw k : Nat) : Int) - 1), (b14, ((tw k : Nat) : Int)), (b13, Q), (b11, 0), (b9, P), (b7, 0), (b5, fullZ n 300)])
          case first =>
            as_aux_lemma =>
              obtain ⟨sv0, gv0, pv0, nv0⟩ := HV.out.get (b := b14) (z := ((tw k : Nat) : Int)) (by simp)
              obtain ⟨sv1, gv1, pv1, nv1⟩ := HV.out.get (b := b18) (z := ((tw k : Nat) : Int) - 1) (by simp)
              have hC : ∀ W, Below wn.heap.size wn W → W.cell? ⟨b14, 0, none⟩ = some (.int .i64 sv0) ∧ W.cell? ⟨b14, 1, none⟩ = some (.pointer gv0) ∧ W.cell? ⟨b18, 0, none⟩ = some (.int .i64 sv1) ∧ W.cell? ⟨b18, 1, none⟩ = some (.pointer gv1) := by
                intro W hW
                obtain ⟨a0, c0⟩ := num_cells ((hW.block _ (lt_of_some pv0)).trans pv0)
                obtain ⟨a1, c1⟩ := num_cells ((hW.block _ (lt_of_some pv1)).trans pv1)
                exact ⟨a0, c0, a1, c1⟩
              have HC := Lib.hid hC
              have hLn := HLL.out.1.on HB.out
              have hh := hLn.height nv0
              rw [show hgt ((tw k : Nat) : Int) = 100 by rw [(tw_facts k).1]; have := HK.out; omega] at hh
              have hc := hLn.cmp nv1 nv0
              rw [show sgn (((tw k : Nat) : Int) - 1 - ((tw k : Nat) : Int)) = -1 from sgn_lt (by omega)] at hc
              have HH := Lib.hid hh
              have HCM := Lib.hid hc
              have HN := Lib.hid (Below.refl wn.heap.size wn)
              obtain ⟨yv0, yw0, yv1, yw1⟩ := hC _ (Below.refl _ _)
              clear pv0 pv1 nv0 nv1 hC hLn hh hc
              go_wp2_with (first
                | (go_at_call 30; with_reducible refine (HH.out _ HN.out).mono ?_; rintro e5 w5 ⟨rfl, hb5⟩
                   obtain ⟨yv0, yw0, yv1, yw1⟩ := HC.out _ hb5
                   have HN := Lib.hid hb5
                   clear hb5)
                | (go_at_call 23; with_reducible refine (HCM.out _ HN.out).mono ?_; rintro e5 w5 ⟨rfl, hb5⟩
                   obtain ⟨yv0, yw0, yv1, yw1⟩ := HC.out _ hb5
                   have HN := Lib.hid hb5
                   clear hb5))
              go_meet
              exact ⟨by simp, HB.out.trans (HN.out.mono HB.out.size), HV.out.below HN.out⟩
          obtain ⟨rfl, hbx, hV⟩ := hcut
          obtain ⟨wn, hwn⟩ : ∃ wn, wn = wc := ⟨_, rfl⟩
          subst hwn
          have HB := Lib.hid hbx
          have HV := Lib.hid hV
          clear hbx hV
          go_upto_region 27 with fail
          go_cut [19, 20] from 173 to 178 (fun vd ve wx => Below wq.heap.size wq wx ∧ ∃ b, vd = .pointer (some ⟨b, 0, none⟩) ∧ ve = .int .i64 (0) ∧ Vars wx ((b, fullZ n 100) :: [(b18, ((tw k : Nat) : Int) - 1), (b14, ((tw k : Nat) : Int)), (b13, Q), (b11, 0), (b9, P), (b7, 0), (b5, fullZ n 300)]))
          case first =>
            as_aux_lemma =>
              have hc := (HLL.out.1.on HB.out).sumF (n := n) (k := 100) ((HR.out.below HB.out (Nat.le_refl _)).prefixF (by omega) (by omega)) (by omega) HNN.out
              rw [(errA_yes (fullZ_allowed (k := 100) (by omega) HNN.out).1).1, (errA_yes (fullZ_allowed (k := 100) (by omega) HNN.out).1).2] at hc
              have HCC := Lib.hid hc
              clear hc
              have HN := Lib.hid (Below.refl wn.heap.size wn)
              go_wp2_with (first
                | (go_at_call 31; refine (HCC.out).mono ?_; rintro e9 w9 ⟨r9, q9, rfl, hn9, hb9⟩
                   have hb9 := HN.out.trans (hb9.mono HN.out.size)
                   have hbA := hb9.alloc hb9.size (.cells #[.int .i64 r9, .pointer q9] 29)
                   have HD := Lib.hid (And.intro (HB.out.trans (hbA.mono HB.out.size)) (And.intro (NumAt.new hn9) (HV.out.below hbA)))
                   clear hn9 hb9 hbA))
              go_meet
              exact ⟨HD.out.1, _, rfl, rfl, HD.out.2⟩
          obtain ⟨hbx, b19, rfl, rfl, hV⟩ := hcut
          obtain ⟨wn, hwn⟩ : ∃ wn, wn = wc := ⟨_, rfl⟩
          subst hwn
          have HB := Lib.hid hbx
          have HV := Lib.hid hV
          clear hbx hV
          go_upto_region 28 with fail
          go_cut [21, 22] from 179 to 184 (fun vd ve wx => Below wq.heap.size wq wx ∧ ∃ b, vd = .pointer (some ⟨b, 0, none⟩) ∧ ve = .int .i64 (0) ∧ Vars wx ((b, fullZ n 101) :: [(b19, fullZ n 100), (b18, ((tw k : Nat) : Int) - 1), (b14, ((tw k : Nat) : Int)), (b13, Q), (b11, 0), (b9, P), (b7, 0), (b5, fullZ n 300)]))
          case first =>
            as_aux_lemma =>
              have hc := (HLL.out.1.on HB.out).sumF (n := n) (k := 101) ((HR.out.below HB.out (Nat.le_refl _)).prefixF (by omega) (by omega)) (by omega) HNN.out
              rw [(errA_yes (fullZ_allowed (k := 101) (by omega) HNN.out).1).1, (errA_yes (fullZ_allowed (k := 101) (by omega) HNN.out).1).2] at hc
              have HCC := Lib.hid hc
              clear hc
              have HN := Lib.hid (Below.refl wn.heap.size wn)
              go_wp2_with (first
                | (go_at_call 31; refine (HCC.out).mono ?_; rintro e9 w9 ⟨r9, q9, rfl, hn9, hb9⟩
                   have hb9 := HN.out.trans (hb9.mono HN.out.size)
                   have hbA := hb9.alloc hb9.size (.cells #[.int .i64 r9, .pointer q9] 29)
                   have HD := Lib.hid (And.intro (HB.out.trans (hbA.mono HB.out.size)) (And.intro (NumAt.new hn9) (HV.out.below hbA)))
                   clear hn9 hb9 hbA))
              go_meet
              exact ⟨HD.out.1, _, rfl, rfl, HD.out.2⟩
          obtain ⟨hbx, b21, rfl, rfl, hV⟩ := hcut
          obtain ⟨wn, hwn⟩ : ∃ wn, wn = wc := ⟨_, rfl⟩
          subst hwn
          have HB := Lib.hid hbx
          have HV := Lib.hid hV
          clear hbx hV
          go_upto_region 29 with fail
          go_cut [23, 24] from 185 to 190 (fun vd ve wx => Below wq.heap.size wq wx ∧ ∃ b, vd = .pointer (some ⟨b, 0, none⟩) ∧ ve = .int .i64 (0) ∧ Vars wx ((b, 1) :: [(b21, fullZ n 101), (b19, fullZ n 100), (b18, ((tw k : Nat) : Int) - 1), (b14, ((tw k : Nat) : Int)), (b13, Q), (b11, 0), (b9, P), (b7, 0), (b5, fullZ n 300)]))
          case first =>
            as_aux_lemma =>
              have hc : ∀ W, Below wn.heap.size wn W → Calls Tryd.prog 17 #[.agg #[.int .i64 1, .pointer none], .agg #[.int .i64 0, .pointer none]] W fun e w' => ∃ (r : Int) (q : Option Addr), e = .returned (.tuple #[.agg #[.int .i64 r, .pointer q], .int .i64 0]) ∧ NumA cold w' r q 1 ∧ Below W.heap.size W w' := by
                intro W hW
                have h := ((HLL.out.1.on HB.out).on hW).subE (NumA.small (B := cold) W (show i64 1 by unfold i64; omega)) (NumA.small (B := cold) W i64_0)
                rw [show (1 : Int) - 0 = 1 by omega, (errA_yes (allowed_i64 (z := 1) (by omega))).1, (errA_yes (allowed_i64 (z := 1) (by omega))).2] at h
                exact h
              have HCC := Lib.hid hc
              clear hc
              have HN := Lib.hid (Below.refl wn.heap.size wn)
              go_wp2_with (first
                | (go_at_call 17; refine (HCC.out _ HN.out).mono ?_; rintro e9 w9 ⟨r9, q9, rfl, hn9, hb9⟩
                   have hb9 := HN.out.trans (hb9.mono HN.out.size)
                   have hbA := hb9.alloc hb9.size (.cells #[.int .i64 r9, .pointer q9] 29)
                   have HD := Lib.hid (And.intro (HB.out.trans (hbA.mono HB.out.size)) (And.intro (NumAt.new hn9) (HV.out.below hbA)))
                   clear hn9 hb9 hbA)
                | (go_at_call 18; refine (of_calls _ _).mono ?_; rintro e3 w3 ⟨rfl, hb3⟩
                   have HN := Lib.hid (HN.out.trans (hb3.mono HN.out.size))
                   clear hb3))
              go_meet
              exact ⟨HD.out.1, _, rfl, rfl, HD.out.2⟩
          obtain ⟨hbx, b23, rfl, rfl, hV⟩ := hcut
          obtain ⟨wn, hwn⟩ : ∃ wn, wn = wc := ⟨_, rfl⟩
          subst hwn
          have HB := Lib.hid hbx
          have HV := Lib.hid hV
          clear hbx hV
          go_upto_region 30 with fail
          go_cut [25, 26] from 191 to 196 (fun vd ve wx => Below wq.heap.size wq wx ∧ ∃ b, vd = .pointer (some ⟨b, 0, none⟩) ∧ ve = .int .i64 (5) ∧ Vars wx ((b, 0) :: [(b23, 1), (b21, fullZ n 101), (b19, fullZ n 100), (b18, ((tw k : Nat) : Int) - 1), (b14, ((tw k : Nat) : Int)), (b13, Q), (b11, 0), (b9, P), (b7, 0), (b5, fullZ n 300)]))
          case first =>
            as_aux_lemma =>
              obtain ⟨sv1, gv1, pv1, nv1⟩ := HV.out.get (b := b21) (z := fullZ n 101) (by simp)
              obtain ⟨yv1, yw1⟩ := num_cells pv1
              obtain ⟨sv2, gv2, pv2, nv2⟩ := HV.out.get (b := b19) (z := fullZ n 100) (by simp)
              obtain ⟨yv2, yw2⟩ := num_cells pv2
              have hc := (HLL.out.1.on HB.out).mulE nv1 nv2
              rw [(errM_no (z := fullZ n 101) (y := fullZ n 100) (by rw [fullZ_wt, fullZ_wt]; omega)).1, (errM_no (z := fullZ n 101) (y := fullZ n 100) (by rw [fullZ_wt, fullZ_wt]; omega)).2] at hc
              have HCC := Lib.hid hc
              clear hc pv1 nv1 pv2 nv2
              go_wp2_with (first
                | (go_at_call 19; refine HCC.out.mono ?_; rintro e9 w9 ⟨r9, q9, rfl, hn9, hb9⟩
                   have hbA := hb9.alloc hb9.size (.cells #[.int .i64 r9, .pointer q9] 29)
                   have HD := Lib.hid (And.intro (HB.out.trans (hbA.mono HB.out.size)) (And.intro (NumAt.new hn9) (HV.out.below hbA)))
                   clear hn9 hb9 hbA))
              go_meet
              exact ⟨HD.out.1, _, rfl, rfl, HD.out.2⟩
          obtain ⟨hbx, b25, rfl, rfl, hV⟩ := hcut
          obtain ⟨wn, hwn⟩ : ∃ wn, wn = wc := ⟨_, rfl⟩
          subst hwn
          have HB := Lib.hid hbx
          have HV := Lib.hid hV
          clear hbx hV
          go_upto_region 31 with fail
          go_cut [27, 28] from 197 to 202 (fun vd ve wx => Below wq.heap.size wq wx ∧ ∃ b, vd = .pointer (some ⟨b, 0, none⟩) ∧ ve = .int .i64 (0) ∧ Vars wx ((b, fullZ n 100) :: [(b25, 0), (b23, 1), (b21, fullZ n 101), (b19, fullZ n 100), (b18, ((tw k : Nat) : Int) - 1), (b14, ((tw k : Nat) : Int)), (b13, Q), (b11, 0), (b9, P), (b7, 0), (b5, fullZ n 300)]))
          case first =>
            as_aux_lemma =>
              obtain ⟨sv1, gv1, pv1, nv1⟩ := HV.out.get (b := b19) (z := fullZ n 100) (by simp)
              obtain ⟨yv1, yw1⟩ := num_cells pv1
              obtain ⟨sv2, gv2, pv2, nv2⟩ := HV.out.get (b := b23) (z := 1) (by simp)
              obtain ⟨yv2, yw2⟩ := num_cells pv2
              have hc := (HLL.out.1.on HB.out).mulE nv1 nv2
              rw [(errM_yes (z := fullZ n 100) (y := 1) (by rw [Int.mul_one]; exact (fullZ_allowed (k := 100) (by omega) HNN.out).1) (by rw [fullZ_wt]; have := wtOneF; omega)).1, (errM_yes (z := fullZ n 100) (y := 1) (by rw [Int.mul_one]; exact (fullZ_allowed (k := 100) (by omega) HNN.out).1) (by rw [fullZ_wt]; have := wtOneF; omega)).2, Int.mul_one] at hc
              have HCC := Lib.hid hc
              clear hc pv1 nv1 pv2 nv2
              go_wp2_with (first
                | (go_at_call 19; refine HCC.out.mono ?_; rintro e9 w9 ⟨r9, q9, rfl, hn9, hb9⟩
                   have hbA := hb9.alloc hb9.size (.cells #[.int .i64 r9, .pointer q9] 29)
                   have HD := Lib.hid (And.intro (HB.out.trans (hbA.mono HB.out.size)) (And.intro (NumAt.new hn9) (HV.out.below hbA)))
                   clear hn9 hb9 hbA))
              go_meet
              exact ⟨HD.out.1, _, rfl, rfl, HD.out.2⟩
          obtain ⟨hbx, b27, rfl, rfl, hV⟩ := hcut
          obtain ⟨wn, hwn⟩ : ∃ wn, wn = wc := ⟨_, rfl⟩
          subst hwn
          have HB := Lib.hid hbx
          have HV := Lib.hid hV
          clear hbx hV
          go_upto_region 32 with fail
          go_cut [29, 30] from 203 to 208 (fun vd ve wx => Below wq.heap.size wq wx ∧ ∃ b, vd = .pointer (some ⟨b, 0, none⟩) ∧ ve = .int .i64 (0) ∧ Vars wx ((b, fullZ n 100 * fullZ n 100) :: [(b27, fullZ n 100), (b25, 0), (b23, 1), (b21, fullZ n 101), (b19, fullZ n 100), (b18, ((tw k : Nat) : Int) - 1), (b14, ((tw k : Nat) : Int)), (b13, Q), (b11, 0), (b9, P), (b7, 0), (b5, fullZ n 300)]))
          case first =>
            as_aux_lemma =>
              obtain ⟨sv1, gv1, pv1, nv1⟩ := HV.out.get (b := b19) (z := fullZ n 100) (by simp)
              obtain ⟨yv1, yw1⟩ := num_cells pv1
              have hc := (HLL.out.1.on HB.out).mulE nv1 nv1
              rw [(errM_yes (full_square HNN.out) (by rw [fullZ_wt]; omega)).1, (errM_yes (full_square HNN.out) (by rw [fullZ_wt]; omega)).2] at hc
              have HCC := Lib.hid hc
              clear hc pv1 nv1
              go_wp2_with (first
                | (go_at_call 19; refine HCC.out.mono ?_; rintro e9 w9 ⟨r9, q9, rfl, hn9, hb9⟩
                   have hbA := hb9.alloc hb9.size (.cells #[.int .i64 r9, .pointer q9] 29)
                   have HD := Lib.hid (And.intro (HB.out.trans (hbA.mono HB.out.size)) (And.intro (NumAt.new hn9) (HV.out.below hbA)))
                   clear hn9 hb9 hbA))
              go_meet
              exact ⟨HD.out.1, _, rfl, rfl, HD.out.2⟩
          obtain ⟨hbx, b29, rfl, rfl, hV⟩ := hcut
          obtain ⟨wn, hwn⟩ : ∃ wn, wn = wc := ⟨_, rfl⟩
          subst hwn
          have HB := Lib.hid hbx
          have HV := Lib.hid hV
          clear hbx hV
          go_upto_region 33 with fail
          obtain ⟨sv0, gv0, pv0, nv0⟩ := HV.out.get (b := b27) (z := fullZ n 100) (by simp)
          obtain ⟨sv1, gv1, pv1, nv1⟩ := HV.out.get (b := b19) (z := fullZ n 100) (by simp)
          obtain ⟨sv2, gv2, pv2, nv2⟩ := HV.out.get (b := b29) (z := fullZ n 100 * fullZ n 100) (by simp)
          have hC : ∀ W, Below wn.heap.size wn W → W.cell? ⟨b27, 0, none⟩ = some (.int .i64 sv0) ∧ W.cell? ⟨b27, 1, none⟩ = some (.pointer gv0) ∧ W.cell? ⟨b19, 0, none⟩ = some (.int .i64 sv1) ∧ W.cell? ⟨b19, 1, none⟩ = some (.pointer gv1) ∧ W.cell? ⟨b29, 0, none⟩ = some (.int .i64 sv2) ∧ W.cell? ⟨b29, 1, none⟩ = some (.pointer gv2) := by
            intro W hW
            obtain ⟨a0, c0⟩ := num_cells ((hW.block _ (lt_of_some pv0)).trans pv0)
            obtain ⟨a1, c1⟩ := num_cells ((hW.block _ (lt_of_some pv1)).trans pv1)
            obtain ⟨a2, c2⟩ := num_cells ((hW.block _ (lt_of_some pv2)).trans pv2)
            exact ⟨a0, c0, a1, c1, a2, c2⟩
          have HC := Lib.hid hC
          have hLn := HLL.out.1.on HB.out
          have hs := hLn.same nv0 nv1
          rw [show decide (fullZ n 100 = fullZ n 100) = true by simp] at hs
          have hg := hLn.sign nv2
          rw [show sgn (fullZ n 100 * fullZ n 100) = 1 from sgn_pos (by have h := Int.natAbs_mul_self' (fullZ n 100); have h0 := full_100 n; rw [← h]; exact Int.mul_pos (by omega) (by omega))] at hg
          have HS := Lib.hid hs
          have HG := Lib.hid hg
          have HAW := Lib.hid hLn.awake
          have HN := Lib.hid (Below.refl wn.heap.size wn)
          obtain ⟨yv0, yw0, yv1, yw1, yv2, yw2⟩ := hC _ (Below.refl _ _)
          clear pv0 pv1 pv2 nv0 nv1 nv2 hC hLn hs hg
          go_wp2_with (first
            | (go_at_call 25; with_reducible refine (HS.out _ HN.out).mono ?_; rintro e5 w5 ⟨rfl, hb5⟩
               obtain ⟨yv0, yw0, yv1, yw1, yv2, yw2⟩ := HC.out _ hb5
               have HN := Lib.hid hb5
               clear hb5)
            | (go_at_call 29; with_reducible refine (HG.out _ HN.out).mono ?_; rintro e5 w5 ⟨rfl, hb5⟩
               obtain ⟨yv0, yw0, yv1, yw1, yv2, yw2⟩ := HC.out _ hb5
               have HN := Lib.hid hb5
               clear hb5)
            | (go_at_call 13; with_reducible refine (HAW.out _ HN.out).mono ?_; rintro e5 w5 ⟨rfl, hb5⟩
               obtain ⟨yv0, yw0, yv1, yw1, yv2, yw2⟩ := HC.out _ hb5
               have HN := Lib.hid hb5
               clear hb5))
          refine bodyPost_ret (v := .bool true) (by simp [results, Tryd.results12, go_sem, *]) rfl ⟨rfl, HLL.out.2.trans ((HB.out.trans (HN.out.mono HB.out.size)).mono HLL.out.2.size)⟩
end Go.Proofs.YteochdnjpchdnaaDoor
