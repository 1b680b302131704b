import Derived.Test.YteochdnjpchdnaaDoorK6
set_option linter.unusedVariables false
set_option linter.unusedSimpArgs false
namespace Go.Proofs.YteochdnjpchdnaaDoor
open Go.RowKit
set_option linter.unusedVariables false

set_option maxRecDepth 100000 in
set_option maxHeartbeats 8000000 in
/-- ████ NumBinary -/
theorem NumBinary_calls {w : World} {aa ab : Option Addr} {ca cb : Nat} {wa wb : List Int} (ha : RowV w 1 (.slice aa wa.length ca) wa.length (wa.map (fun c : Int => Value.int .i8 c))) (hb : RowV w 1 (.slice ab wb.length cb) wb.length (wb.map (fun c : Int => Value.int .i8 c))) (ia : ∀ c ∈ wa, -128 ≤ c ∧ c ≤ 127) (ib : ∀ c ∈ wb, -128 ≤ c ∧ c ≤ 127) (tab : Tab w) (h0 : 0 < w.heap.size) (nb : Nat) (hnb : nb ≤ 255) :
    Calls Tryd.prog 3 #[.agg #[.slice aa wa.length ca], .agg #[.slice ab wb.length cb], .int .u8 (nb : Int)] w fun e w' => e = .returned (.bool true) ∧ Below w.heap.size w w' := by
  have hL := LawW.of tab h0 (Below.refl w.heap.size w)
  obtain ⟨w2, hw2⟩ : ∃ w2, w2 = (w.alloc (.cells #[.slice aa wa.length ca] 24)).alloc (.cells #[.slice ab wb.length cb] 24) := ⟨_, rfl⟩
  have hb2 : Below w.heap.size w w2 := by rw [hw2]; repeat (first | exact Below.refl _ _ | refine Below.alloc ?_ (by simp <;> omega) _)
  obtain ⟨a0, a1⟩ := alloc2_heap w (.cells #[.slice aa wa.length ca] 24) (.cells #[.slice ab wb.length cb] 24)
  rw [← hw2] at a0 a1
  have hpk : ∀ W, Below w2.heap.size w2 W → W.cell? ⟨w.heap.size, 0, none⟩ = some (.slice aa wa.length ca) ∧ W.cell? ⟨w.heap.size + 1, 0, none⟩ = some (.slice ab wb.length cb) := fun W hW => by
    have k0 := (hW.block _ (lt_ofO a0)).trans a0
    have k1 := (hW.block _ (lt_ofO a1)).trans a1
    exact ⟨by simp only [World.cell?, k0]; rfl, by simp only [World.cell?, k1]; rfl⟩
  have HAB := Lib.hid (And.intro (ha.below hb2 (Nat.le_refl _)) (And.intro (hb.below hb2 (Nat.le_refl _)) (And.intro ia ib)))
  have HLL := Lib.hid (And.intro (hL.on hb2) (And.intro hb2 True.intro))
  have HPK := Lib.hid hpk
  have hnb9 : (nb : Int) ≤ 255 := by omega
  have hnb0 : (0 : Int) ≤ (nb : Int) := by omega
  obtain ⟨q0, q1⟩ := hpk _ (Below.refl _ _)
  clear ha hb ia ib tab h0 hL hb2 a0 a1 hpk
  subst hw2
  go_enter Tryd.func3, Tryd.ntmps3
  go_upto_region 1 with fail
  obtain ⟨wq, hwq⟩ : ∃ wq, wq = (w.alloc (.cells #[.slice aa wa.length ca] 24)).alloc (.cells #[.slice ab wb.length cb] 24) := ⟨_, rfl⟩
  rw [← hwq] at HAB HLL HPK q0 q1 ⊢
  clear hwq
  obtain ⟨n, hn⟩ : ∃ n, n = wa.length := ⟨_, rfl⟩
  obtain ⟨m, hm⟩ : ∃ m, m = wb.length := ⟨_, rfl⟩
  rw [← hn] at HPK q0 ⊢
  rw [← hm] at HPK q1 ⊢
  have HNM := Lib.hid (And.intro hn hm)
  clear hn hm
  obtain ⟨wn, hwn⟩ : ∃ wn, wn = wq := ⟨_, rfl⟩
  have hbx : Below wq.heap.size wq wn := by rw [hwn]; exact Below.refl _ _
  rw [← hwn] at q0 q1
  rw [← hwn]
  have HB := Lib.hid hbx
  clear hbx hwn
  by_cases hna : n ≤ 590
  rotate_left
  · have h1 : (590 : Int) < (n : Int) := by omega
    have HAW := Lib.hid ((HLL.out.1.on HB.out).awake)
    go_wp2_with (first
      | (go_at_call 13; with_reducible refine (HAW.out _ (by repeat (first | exact Below.refl _ _ | refine Below.drew ?_))).mono ?_; rintro e5 w5 ⟨rfl, hb5⟩
         have HN := Lib.hid hb5
         clear hb5))
    refine bodyPost_ret (v := .bool true) (by simp [results, Tryd.results3, go_sem, *]) rfl ⟨rfl, HLL.out.2.1.trans ((HB.out.trans (HN.out.mono HB.out.size)).mono HLL.out.2.1.size)⟩
  have h1 : ¬ (590 : Int) < (n : Int) := by omega
  by_cases hma : m ≤ 590
  rotate_left
  · have h2 : (590 : Int) < (m : Int) := by omega
    have HAW := Lib.hid ((HLL.out.1.on HB.out).awake)
    go_wp2_with (first
      | (go_at_call 13; with_reducible refine (HAW.out _ (by repeat (first | exact Below.refl _ _ | refine Below.drew ?_))).mono ?_; rintro e5 w5 ⟨rfl, hb5⟩
         have HN := Lib.hid hb5
         clear hb5))
    refine bodyPost_ret (v := .bool true) (by simp [results, Tryd.results3, go_sem, *]) rfl ⟨rfl, HLL.out.2.1.trans ((HB.out.trans (HN.out.mono HB.out.size)).mono HLL.out.2.1.size)⟩
  have h2 : ¬ (590 : Int) < (m : Int) := by omega
  have hn590 : (n : Int) ≤ 590 := by omega
  have hm590 : (m : Int) ≤ 590 := by omega
  have hV : Vars wn [] := trivial
  have HV := Lib.hid hV
  clear hV
  go_upto_region 3 with fail
  go_cut [7, 8, 9] from 36 to 41 (fun vf vx ve wx => Below wn.heap.size wn wx ∧ ∃ (af : Option Addr) (cf bb : Nat) (gg : Nat → Int), vf = .slice af n cf ∧ vx = .pointer (some ⟨bb, 0, none⟩) ∧ ve = .int .i64 0 ∧ RowV wx 1 (.slice af n cf) n (intV (seqI gg n)) ∧ (∀ i, (gg i).natAbs ≤ 4) ∧ (160 < n → ∀ i, (gg i).natAbs ≤ 1) ∧ Vars wx ((bb, valB (seqI gg n)) :: []))
  case first =>
    as_aux_lemma =>
      obtain ⟨q0, q1⟩ := HPK.out _ HB.out
      have hc := counted_calls false (HLL.out.1.on HB.out) (HAB.out.1.below HB.out (Nat.le_refl _)) HAB.out.2.2.1 (by rw [← HNM.out.1]; omega)
      rw [← HNM.out.1] at hc
      have HC := Lib.hid hc
      clear hc
      go_wp2_with (first
        | (go_at_call 14; refine HC.out.mono ?_; rintro e9 w9 ⟨a9, c9, g9, s9, p9, rfl, hr9, h49, h19, hn9, hb9⟩
           have hbA := hb9.alloc hb9.size (.cells #[.int .i64 s9, .pointer p9] 29)
           have hA : Below w9.heap.size w9 (w9.alloc (.cells #[.int .i64 s9, .pointer p9] 29)) := (Below.refl _ _).alloc (Nat.le_refl _) _
           have HD := Lib.hid (And.intro hbA (And.intro (hr9.below hA (Nat.le_refl _)) (And.intro h49 (And.intro h19 (And.intro (NumAt.new hn9) (HV.out.below hbA))))))
           clear hr9 h49 h19 hn9 hb9 hbA hA))
      go_meet
      exact ⟨HD.out.1, _, _, _, _, rfl, rfl, rfl, HD.out.2.1, HD.out.2.2.1, HD.out.2.2.2.1, HD.out.2.2.2.2⟩
  obtain ⟨hbx0, aaf, caf, b8, ga, rfl, rfl, rfl, hrow, hg4, hg1, hV⟩ := hcut
  have hbx := HB.out.trans (hbx0.mono HB.out.size)
  have HRa := Lib.hid hrow
  have HGa := Lib.hid (And.intro hg4 hg1)
  clear hbx0 hrow hg4 hg1
  obtain ⟨wn, hwn⟩ : ∃ wn, wn = wc := ⟨_, rfl⟩
  subst hwn
  have HB := Lib.hid hbx
  have HV := Lib.hid hV
  clear hbx hV
  go_upto_region 4 with fail
  go_cut [10, 11, 12] from 42 to 47 (fun vf vx ve wx => Below wn.heap.size wn wx ∧ ∃ (af : Option Addr) (cf bb : Nat) (gg : Nat → Int), vf = .slice af m cf ∧ vx = .pointer (some ⟨bb, 0, none⟩) ∧ ve = .int .i64 0 ∧ RowV wx 1 (.slice af m cf) m (intV (seqI gg m)) ∧ (∀ i, (gg i).natAbs ≤ 4) ∧ (160 < m → ∀ i, (gg i).natAbs ≤ 1) ∧ Vars wx ((bb, valB (seqI gg m)) :: [(b8, valB (seqI ga n))]))
  case first =>
    as_aux_lemma =>
      obtain ⟨q0, q1⟩ := HPK.out _ HB.out
      have hc := counted_calls true (HLL.out.1.on HB.out) (HAB.out.2.1.below HB.out (Nat.le_refl _)) HAB.out.2.2.2 (by rw [← HNM.out.2]; omega)
      rw [← HNM.out.2] at hc
      have HC := Lib.hid hc
      clear hc
      go_wp2_with (first
        | (go_at_call 14; refine HC.out.mono ?_; rintro e9 w9 ⟨a9, c9, g9, s9, p9, rfl, hr9, h49, h19, hn9, hb9⟩
           have hbA := hb9.alloc hb9.size (.cells #[.int .i64 s9, .pointer p9] 29)
           have hA : Below w9.heap.size w9 (w9.alloc (.cells #[.int .i64 s9, .pointer p9] 29)) := (Below.refl _ _).alloc (Nat.le_refl _) _
           have HD := Lib.hid (And.intro hbA (And.intro (hr9.below hA (Nat.le_refl _)) (And.intro h49 (And.intro h19 (And.intro (NumAt.new hn9) (HV.out.below hbA))))))
           clear hr9 h49 h19 hn9 hb9 hbA hA))
      go_meet
      exact ⟨HD.out.1, _, _, _, _, rfl, rfl, rfl, HD.out.2.1, HD.out.2.2.1, HD.out.2.2.2.1, HD.out.2.2.2.2⟩
  obtain ⟨hbx0, abf, cbf, b11, gb, rfl, rfl, rfl, hrow, hg4, hg1, hV⟩ := hcut
  have hbx := HB.out.trans (hbx0.mono HB.out.size)
  have HRa := Lib.hid (HRa.out.below hbx0 (Nat.le_refl _))
  have HRb := Lib.hid hrow
  have HGb := Lib.hid (And.intro hg4 hg1)
  clear hbx0 hrow hg4 hg1
  obtain ⟨wn, hwn⟩ : ∃ wn, wn = wc := ⟨_, rfl⟩
  subst hwn
  have HB := Lib.hid hbx
  have HV := Lib.hid hV
  clear hbx hV
  have HPK := Lib.hid (fun W (hW : Below wn.heap.size wn W) => HPK.out W (HB.out.trans (hW.mono HB.out.size)))
  have HLL := Lib.hid (And.intro (HLL.out.1.on HB.out) (And.intro (HLL.out.2.1.trans (HB.out.mono HLL.out.2.1.size)) True.intro))
  clear HB HAB
  obtain ⟨wq, hwq⟩ : ∃ wq, wq = wn := ⟨_, rfl⟩
  rw [← hwq] at HPK HLL HRa HRb
  have HB := Lib.hid (show Below wq.heap.size wq wn by rw [hwq]; exact Below.refl _ _)
  clear hwq
  have hbx := count_bounds hna HGa.out.1 HGa.out.2
  have hby := count_bounds hma HGb.out.1 HGb.out.2
  obtain ⟨X, hX⟩ : ∃ X, X = valB (seqI ga n) := ⟨_, rfl⟩
  obtain ⟨Y, hY⟩ : ∃ Y, Y = valB (seqI gb m) := ⟨_, rfl⟩
  have hV := HV.out
  rw [← hX, ← hY] at hV
  rw [← hX] at hbx
  rw [← hY] at hby
  have HV := Lib.hid hV
  have HXY := Lib.hid (And.intro hbx (And.intro hby (And.intro hX hY)))
  clear hbx hby hV hX hY
  have hsum : ∀ (y : Int), y = 1 ∨ y = -1 → ∀ W, Below wq.heap.size wq W → Calls Tryd.prog 21 #[.slice aaf n caf, .slice abf m cbf, .int .i64 y] W (ResI W (X + y * Y) 2000000 100000) := fun y hy W hW => by
    have h := Sums_calls (la := seqI ga n) (lb := seqI gb m) (by rw [seqI_len]; exact HRa.out.below hW (Nat.le_refl _)) (by rw [seqI_len]; exact HRb.out.below hW (Nat.le_refl _)) 1000000 (by omega) (by omega) (fun x hx => by have := seq_bd HGa.out.1 x hx; omega) (fun x hx => by have := seq_bd HGb.out.1 x hx; omega) (by rw [seqI_len]; omega) (by rw [seqI_len]; omega) y hy
    rw [← HXY.out.2.2.1, ← HXY.out.2.2.2, show (2 : Int) * 1000000 = 2000000 by omega] at h
    exact h
  have HSU := Lib.hid hsum
  have his : ∀ (z : Int) (b : Nat) (s : Int) (q : Option Addr) (W : World), (∀ u ∈ naf z, u.2 < 1000) → Below wq.heap.size wq W → NumA cold W s q z → ∀ (a : Option Addr) (c : Nat) (l : List Int), RowV W 1 (.slice a l.length c) l.length (intV l) → valB l = z → (∀ x ∈ l, -36000000 ≤ x ∧ x ≤ 36000000) → (∀ x ∈ l, -1000000 ≤ x ∧ x ≤ 1000000) ∨ True → l.length ≤ 100000 → True := fun _ _ _ _ _ _ _ _ _ _ _ _ _ _ _ _ => trivial
  clear hsum his
  go_upto_region 5 with fail
  go_cut [65] from 48 to 65 (fun t wx => t = .bool false ∧ Below wq.heap.size wq wx ∧ Vars wx [(b11, Y), (b8, X)])
  case first =>
    as_aux_lemma =>
      obtain ⟨sv0, gv0, pv0, nv0⟩ := HV.out.get (b := b8) (z := X) (by simp)
      obtain ⟨sv1, gv1, pv1, nv1⟩ := HV.out.get (b := b11) (z := Y) (by simp)
      have hC : ∀ W, Below wn.heap.size wn W → W.cell? ⟨b8, 0, none⟩ = some (.int .i64 sv0) ∧ W.cell? ⟨b8, 1, none⟩ = some (.pointer gv0) ∧ W.cell? ⟨b11, 0, none⟩ = some (.int .i64 sv1) ∧ W.cell? ⟨b11, 1, none⟩ = some (.pointer gv1) := by
        intro W hW
        obtain ⟨a0, c0⟩ := num_cells ((hW.block _ (lt_of_some pv0)).trans pv0)
        obtain ⟨a1, c1⟩ := num_cells ((hW.block _ (lt_of_some pv1)).trans pv1)
        exact ⟨a0, c0, a1, c1⟩
      have HC := Lib.hid hC
      have hLn := HLL.out.1.on HB.out
      have hi1 : ∀ W, Below wn.heap.size wn W → Calls Tryd.prog 15 #[.agg #[.int .i64 sv0, .pointer gv0], .slice aaf n caf] W fun e w' => e = .returned (.bool true) ∧ Below wn.heap.size wn w' := fun W hW => by
        have h := is_calls (l := seqI ga n) (hLn.on hW) (nv0.below hW) (self_small HXY.out.1.1).2 (by rw [seqI_len]; exact (HRa.out.below HB.out (Nat.le_refl _)).below hW (Nat.le_refl _)) HXY.out.2.2.1.symm (fun x hx => by have := seq_bd HGa.out.1 x hx; omega) (by rw [seqI_len]; omega)
        refine h.mono ?_
        rintro e w' ⟨rfl, hb⟩
        exact ⟨rfl, hW.trans (hb.mono hW.size)⟩
      have hi2 : ∀ W, Below wn.heap.size wn W → Calls Tryd.prog 15 #[.agg #[.int .i64 sv1, .pointer gv1], .slice abf m cbf] W fun e w' => e = .returned (.bool true) ∧ Below wn.heap.size wn w' := fun W hW => by
        have h := is_calls (l := seqI gb m) (hLn.on hW) (nv1.below hW) (self_small HXY.out.2.1.1).2 (by rw [seqI_len]; exact (HRb.out.below HB.out (Nat.le_refl _)).below hW (Nat.le_refl _)) HXY.out.2.2.2.symm (fun x hx => by have := seq_bd HGb.out.1 x hx; omega) (by rw [seqI_len]; omega)
        refine h.mono ?_
        rintro e w' ⟨rfl, hb⟩
        exact ⟨rfl, hW.trans (hb.mono hW.size)⟩
      have HI1 := Lib.hid hi1
      have HI2 := Lib.hid hi2
      have HN := Lib.hid (Below.refl wn.heap.size wn)
      obtain ⟨yv0, yw0, yv1, yw1⟩ := hC _ (Below.refl _ _)
      clear pv0 pv1 nv0 nv1 hC hLn hi1 hi2
      go_wp2_with (first
        | (go_at_call 15; with_reducible refine (HI1.out _ HN.out).mono ?_; rintro e5 w5 ⟨rfl, hb5⟩
           obtain ⟨yv0, yw0, yv1, yw1⟩ := HC.out _ hb5
           have HN := Lib.hid hb5
           clear hb5)
        | (go_at_call 15; with_reducible refine (HI2.out _ HN.out).mono ?_; rintro e5 w5 ⟨rfl, hb5⟩
           obtain ⟨yv0, yw0, yv1, yw1⟩ := HC.out _ hb5
           have HN := Lib.hid hb5
           clear hb5))
      go_meet
      exact ⟨by simp, HB.out.trans (HN.out.mono HB.out.size), HV.out.below HN.out⟩
  obtain ⟨rfl, hbx, hV⟩ := hcut
  obtain ⟨wn, hwn⟩ : ∃ wn, wn = wc := ⟨_, rfl⟩
  subst hwn
  have HB := Lib.hid hbx
  have HV := Lib.hid hV
  clear hbx hV
  go_upto_region 7 with fail
  go_cut [13, 14] from 66 to 71 (fun vd ve wx => Below wq.heap.size wq wx ∧ ∃ b, vd = .pointer (some ⟨b, 0, none⟩) ∧ ve = .int .i64 (0) ∧ Vars wx ((b, X + Y) :: [(b11, Y), (b8, X)]))
  case first =>
    as_aux_lemma =>
      obtain ⟨sv1, gv1, pv1, nv1⟩ := HV.out.get (b := b8) (z := X) (by simp)
      obtain ⟨yv1, yw1⟩ := num_cells pv1
      obtain ⟨sv2, gv2, pv2, nv2⟩ := HV.out.get (b := b11) (z := Y) (by simp)
      obtain ⟨yv2, yw2⟩ := num_cells pv2
      have hc := (HLL.out.1.on HB.out).addE nv1 nv2
      rw [(errA_yes (sum_small HXY.out.1.1 HXY.out.2.1.1).1.1).1, (errA_yes (sum_small HXY.out.1.1 HXY.out.2.1.1).1.1).2] at hc
      have HCC := Lib.hid hc
      clear hc pv1 nv1 pv2 nv2
      go_wp2_with (first
        | (go_at_call 16; refine HCC.out.mono ?_; rintro e9 w9 ⟨r9, q9, rfl, hn9, hb9⟩
           have hbA := hb9.alloc hb9.size (.cells #[.int .i64 r9, .pointer q9] 29)
           have HD := Lib.hid (And.intro (HB.out.trans (hbA.mono HB.out.size)) (And.intro (NumAt.new hn9) (HV.out.below hbA)))
           clear hn9 hb9 hbA))
      go_meet
      exact ⟨HD.out.1, _, rfl, rfl, HD.out.2⟩
  obtain ⟨hbx, b13, rfl, rfl, hV⟩ := hcut
  obtain ⟨wn, hwn⟩ : ∃ wn, wn = wc := ⟨_, rfl⟩
  subst hwn
  have HB := Lib.hid hbx
  have HV := Lib.hid hV
  clear hbx hV
  go_upto_region 8 with fail
  go_cut [15, 16] from 72 to 77 (fun vd ve wx => Below wq.heap.size wq wx ∧ ∃ b, vd = .pointer (some ⟨b, 0, none⟩) ∧ ve = .int .i64 (0) ∧ Vars wx ((b, X - Y) :: [(b13, X + Y), (b11, Y), (b8, X)]))
  case first =>
    as_aux_lemma =>
      obtain ⟨sv1, gv1, pv1, nv1⟩ := HV.out.get (b := b8) (z := X) (by simp)
      obtain ⟨yv1, yw1⟩ := num_cells pv1
      obtain ⟨sv2, gv2, pv2, nv2⟩ := HV.out.get (b := b11) (z := Y) (by simp)
      obtain ⟨yv2, yw2⟩ := num_cells pv2
      have hc := (HLL.out.1.on HB.out).subE nv1 nv2
      rw [(errA_yes (sum_small HXY.out.1.1 HXY.out.2.1.1).2.1).1, (errA_yes (sum_small HXY.out.1.1 HXY.out.2.1.1).2.1).2] at hc
      have HCC := Lib.hid hc
      clear hc pv1 nv1 pv2 nv2
      go_wp2_with (first
        | (go_at_call 17; refine HCC.out.mono ?_; rintro e9 w9 ⟨r9, q9, rfl, hn9, hb9⟩
           have hbA := hb9.alloc hb9.size (.cells #[.int .i64 r9, .pointer q9] 29)
           have HD := Lib.hid (And.intro (HB.out.trans (hbA.mono HB.out.size)) (And.intro (NumAt.new hn9) (HV.out.below hbA)))
           clear hn9 hb9 hbA))
      go_meet
      exact ⟨HD.out.1, _, rfl, rfl, HD.out.2⟩
  obtain ⟨hbx, b15, rfl, rfl, hV⟩ := hcut
  obtain ⟨wn, hwn⟩ : ∃ wn, wn = wc := ⟨_, rfl⟩
  subst hwn
  have HB := Lib.hid hbx
  have HV := Lib.hid hV
  clear hbx hV
  go_upto_region 9 with fail
  go_cut [17, 18] from 78 to 78 (fun vd ve wx => Below wn.heap.size wn wx ∧ ∃ b, vd = .pointer (some ⟨b, 0, none⟩) ∧ ve = .int .i64 0 ∧ wn.heap.size ≤ b ∧ Vars wx ((b, 0) :: [(b15, X - Y), (b13, X + Y), (b11, Y), (b8, X)]))
  case first =>
    as_aux_lemma =>
      go_wp2_with (first
        | (go_at_call 18; refine (of_calls _ _).mono ?_; rintro e3 w3 ⟨rfl, hb3⟩
           have H3 := Lib.hid hb3
           clear hb3))
      go_meet
      exact ⟨H3.out.alloc H3.out.size _, _, rfl, rfl, H3.out.size, NumAt.new (NumA.small _ i64_0), HV.out.below (H3.out.alloc H3.out.size _)⟩
  obtain ⟨hbx0, b17, rfl, rfl, hge, hV⟩ := hcut
  have hne : ∀ e ∈ [(b15, X - Y), (b13, X + Y), (b11, Y), (b8, X)], e.1 ≠ b17 := fun e he => by
    have hlt : ∀ (l : List (Nat × Int)), Vars wn l → ∀ e ∈ l, e.1 < wn.heap.size := fun l => by
      induction l with
      | nil => intro _ e he; simp at he
      | cons x l ih =>
        intro h e he
        rcases List.mem_cons.1 he with k | k
        · rw [k]; obtain ⟨s, q, h1, _⟩ := h.1; exact lt_of_some h1
        · exact ih h.2 e k
    have := hlt _ HV.out e he
    omega
  have HNE := Lib.hid (And.intro hne (Nat.le_trans HB.out.size hge))
  have hbx := HB.out.trans (hbx0.mono HB.out.size)
  clear hbx0 hge hne
  obtain ⟨wn, hwn⟩ : ∃ wn, wn = wc := ⟨_, rfl⟩
  subst hwn
  have HB := Lib.hid hbx
  have HV := Lib.hid hV
  clear hbx hV
  obtain ⟨bt, hbt⟩ : ∃ bt, bt = decide (n ≤ 160 ∧ m ≤ 160) := ⟨_, rfl⟩
  have HBT := Lib.hid hbt
  clear hbt
  go_upto_region 10 with fail
  go_cut [88] from 79 to 88 (fun t wx => t = .bool bt ∧ wx = wn)
  case first =>
    as_aux_lemma =>
      obtain ⟨q0, q1⟩ := HPK.out _ HB.out
      by_cases k1 : n ≤ 160
      · have k1' : (n : Int) ≤ 160 := by omega
        by_cases k2 : m ≤ 160
        · have k2' : (m : Int) ≤ 160 := by omega
          go_wp2_with fail
          go_meet
          exact ⟨by rw [HBT.out]; simp [k1, k2], rfl⟩
        · have k2' : ¬ (m : Int) ≤ 160 := by omega
          go_wp2_with fail
          go_meet
          exact ⟨by rw [HBT.out]; simp [k2], rfl⟩
      · have k1' : ¬ (n : Int) ≤ 160 := by omega
        go_wp2_with fail
        go_meet
        exact ⟨by rw [HBT.out]; simp [k1], rfl⟩
  obtain ⟨rfl, hwx⟩ := hcut
  have hwx2 := hwx.symm
  clear hwx
  subst hwx2
  obtain ⟨PV, hPV⟩ : ∃ PV : Int, PV = if n ≤ 160 ∧ m ≤ 160 then X * Y else 0 := ⟨_, rfl⟩
  have HPV := Lib.hid hPV
  clear hPV
  go_upto_if 88 with fail
  go_cut [18] from 88 to 94 (fun ve wx => ve = .int .i64 0 ∧ Below wq.heap.size wq wx ∧ Vars wx ((b17, PV) :: [(b15, X - Y), (b13, X + Y), (b11, Y), (b8, X)]))
  case first =>
    as_aux_lemma =>
      have hbt := HBT.out
      clear HBT
      cases bt
      rotate_left
      · have hbo : n ≤ 160 ∧ m ≤ 160 := of_decide_eq_true hbt.symm
        clear hbt
        have hpv := HPV.out
        rw [if_pos hbo] at hpv
        have hms := mul_small (HXY.out.1.2 hbo.1) (HXY.out.2.1.2 hbo.2)
        obtain ⟨sv0, gv0, pv0, nv0⟩ := HV.out.get (b := b8) (z := X) (by simp)
        obtain ⟨sv1, gv1, pv1, nv1⟩ := HV.out.get (b := b11) (z := Y) (by simp)
        obtain ⟨sv2, gv2, pv2, nv2⟩ := HV.out.get (b := b17) (z := 0) (by simp)
        have hc := (HLL.out.1.on HB.out).mulE nv0 nv1
        rw [(errM_yes hms.1 hms.2.1).1, (errM_yes hms.1 hms.2.1).2, ← hpv] at hc
        obtain ⟨y0, y1⟩ := num_cells pv0
        obtain ⟨y2, y3⟩ := num_cells pv1
        have HCC := Lib.hid hc
        have HP2 := Lib.hid pv2
        clear hc pv0 pv1 pv2 nv0 nv1 nv2 hms hpv hbo
        go_wp2_with (first
          | (go_at_call 19; refine HCC.out.mono ?_; rintro e9 w9 ⟨r9, q9, rfl, hn9, hb9⟩
             have z9 := (hb9.block _ (lt_of_some HP2.out)).trans HP2.out
             obtain ⟨z90, z91⟩ := num_cells z9
             obtain ⟨z92, z93⟩ := num_frozen z9
             have HD := Lib.hid (And.intro hn9 (And.intro hb9 z9))
             clear hn9 hb9 z9))
        go_meet
        obtain ⟨hn9, hb9, z9⟩ := HD.out
        have hbb := ((HB.out.trans (hb9.mono HB.out.size)).setCell (p := ⟨b17, 0, none⟩) HNE.out.2 (.int .i64 r9)).setCell (p := ⟨b17, 1, none⟩) HNE.out.2 (.pointer q9)
        exact ⟨rfl, hbb, NumAt.put z9 hn9, Vars.put z9 _ _ (HV.out.below hb9).2 HNE.out.1⟩
      · have hbo : ¬ (n ≤ 160 ∧ m ≤ 160) := of_decide_eq_false hbt.symm
        clear hbt
        have hpv := HPV.out
        rw [if_neg hbo] at hpv
        have hV := HV.out
        rw [← hpv] at hV
        have HV := Lib.hid hV
        clear hV hpv hbo
        go_wp2_with fail
        go_meet
        exact ⟨rfl, HB.out, HV.out⟩
  obtain ⟨rfl, hbx, hV⟩ := hcut
  clear HNE
  obtain ⟨wn, hwn⟩ : ∃ wn, wn = wc := ⟨_, rfl⟩
  subst hwn
  have HB := Lib.hid hbx
  have HV := Lib.hid hV
  clear hbx hV
  obtain ⟨k, hk⟩ : ∃ k, k = nb % 201 := ⟨_, rfl⟩
  have hk200 : (k : Int) ≤ 200 := by omega
  have hk0 : (0 : Int) ≤ (k : Int) := by omega
  have HKK := Lib.hid hk
  clear hk
  go_upto_region 12 with fail
  go_cut [19] from 95 to 97 (fun v wx => v = .int .i64 (k : Int) ∧ wx = wn)
  case first =>
    as_aux_lemma =>
      have hwn : IntKind.i64.wrap (nb : Int) = (nb : Int) := IntWalk.i64_in _ (by omega)
      go_wp2_with fail
      go_meet
      exact ⟨by rw [HKK.out]; first | rfl | (congr 1; omega) | simp, rfl⟩
  obtain ⟨rfl, hwx⟩ := hcut
  have hwx2 := hwx.symm
  clear hwx
  subst hwx2
  have hup : (errS X (k : Int) = 0 ∧ valS X (k : Int) = X * 2 ^ k) ∧ errS (X * 2 ^ k) (-(k : Int)) = 0 ∧ valS (X * 2 ^ k) (-(k : Int)) = X := by
    have h1 := shiftZ_nat X k
    have h2 := reaches_nat X k
    have h3 := errS_yes h2 (by rw [h1]; exact (shift_small HXY.out.1.1 (by omega)).1)
    have h4 := shift_back h2
    rw [h1] at h3 h4
    have h5 := errS_yes h4.1 (by rw [h4.2]; exact (self_small HXY.out.1.1).1)
    rw [h4.2] at h5
    exact ⟨h3, h5⟩
  have hsm := (shift_small HXY.out.1.1 (k := k) (by omega)).2
  obtain ⟨U, hU⟩ : ∃ U : Int, U = X * 2 ^ k := ⟨_, rfl⟩
  rw [← hU] at hup hsm
  have HUP := Lib.hid (And.intro hup (And.intro hU hsm))
  clear hup hU hsm
  go_upto_region 13 with fail
  go_cut [20, 21] from 98 to 104 (fun vd ve wx => Below wq.heap.size wq wx ∧ ∃ b, vd = .pointer (some ⟨b, 0, none⟩) ∧ ve = .int .i64 (0) ∧ Vars wx ((b, U) :: [(b17, PV), (b15, X - Y), (b13, X + Y), (b11, Y), (b8, X)]))
  case first =>
    as_aux_lemma =>
      obtain ⟨sv0, gv0, pv0, nv0⟩ := HV.out.get (b := b8) (z := X) (by simp)
      have hC : ∀ W, Below wn.heap.size wn W → W.cell? ⟨b8, 0, none⟩ = some (.int .i64 sv0) ∧ W.cell? ⟨b8, 1, none⟩ = some (.pointer gv0) := by
        intro W hW
        obtain ⟨a0, c0⟩ := num_cells ((hW.block _ (lt_of_some pv0)).trans pv0)
        exact ⟨a0, c0⟩
      have HC := Lib.hid hC
      have hLn := HLL.out.1.on HB.out
      have hM : ∀ W, Below wn.heap.size wn W → Calls Tryd.prog 20 #[.agg #[.int .i64 sv0, .pointer gv0], .agg #[.int .i64 ((k : Int)), .pointer none]] W fun e w' => ∃ (r : Int) (q : Option Addr), e = .returned (.tuple #[.agg #[.int .i64 r, .pointer q], .int .i64 (0)]) ∧ NumA cold w' r q (U) ∧ Below W.heap.size W w' := by
        intro W hW
        have h := (hLn.on hW).shiftE (nv0.below hW) (NumA.small (B := cold) W (show i64 ((k : Int)) by unfold i64; omega))
        rw [HUP.out.1.1.1, HUP.out.1.1.2] at h
        exact h
      obtain ⟨yv0, yw0⟩ := hC _ (Below.refl _ _)
      have HM := Lib.hid hM
      clear hM hC hLn pv0 nv0
      first
        | go_region_held3 (fun w' => w'.cell? ⟨b8, 0, none⟩ = some (.int .i64 sv0) ∧ w'.cell? ⟨b8, 1, none⟩ = some (.pointer gv0)) (first | exact HC.out _ HW4.out | exact HC.out _ ((HW4.out.setCell (by first | exact Nat.le_refl _ | exact HW3.out.size) _).setCell (by first | exact Nat.le_refl _ | exact HW3.out.size) _) | exact HC.out _ (HW4.out.alloc HW4.out.size _) | exact HC.out _ HW3.out | exact HC.out _ (HW3.out.alloc HW3.out.size _) | exact HC.out _ (by repeat (first | exact Below.refl _ _ | refine Below.drew ?_ | refine Below.alloc ?_ (by simp) _)) | (go_keep; done))
          (first
          | (go_at_call 20; refine (HM.out _ (by first | exact HW3.out | exact HW3.out.alloc HW3.out.size _)).mono ?_; rintro e4 w4 ⟨r4, q4, rfl, hn4, hb4⟩
             have hw4 : Below wn.heap.size wn w4 := Below.trans (by first | exact HW3.out | exact HW3.out.alloc HW3.out.size _) (hb4.mono (by have := HW3.out.size; first | exact this | (simp; omega)))
             (first
               | (have z4 := (hb4.block w3.heap.size (by simp)).trans (heap_alloc_new w3 (.cells #[.int .i64 0, .pointer none] 29))
                  obtain ⟨z40, z41⟩ := num_cells z4
                  obtain ⟨z42, z43⟩ := num_frozen z4
                  have HZ4 := Lib.hid z4
                  clear z4)
               | (have z4 := (hb4.block wn.heap.size (lt_ofO HZ3.out)).trans HZ3.out
                  obtain ⟨z40, z41⟩ := num_cells z4
                  obtain ⟨z42, z43⟩ := num_frozen z4
                  have HZ4 := Lib.hid z4
                  clear z4)
               | skip)
             have HW4 := Lib.hid hw4
             have H4 := Lib.hid hn4
             clear hn4 hb4 hw4)
          | (go_at_call 18; refine (of_calls _ _).mono ?_; rintro e3 w3 ⟨rfl, hb3⟩
             have hw3 : Below wn.heap.size wn w3 := Below.trans (by repeat (first | exact Below.refl _ _ | refine Below.drew ?_ | refine Below.alloc ?_ (by simp) _)) (hb3.mono (by first | exact Nat.le_refl _ | simp))
             (first
               | (have z3 := (hb3.block wn.heap.size (by simp)).trans (heap_alloc_new wn (.cells #[.int .i64 0, .pointer none] 29))
                  have HZ3 := Lib.hid z3
                  clear z3)
               | skip)
             have HW3 := Lib.hid hw3
             clear hb3 hw3))
        | fail
      all_goals
        (try go_wp2)
        go_meet
        first
          | exact ⟨HB.out.trans ((HW4.out.alloc HW4.out.size _).mono HB.out.size), _, rfl, rfl, NumAt.new H4.out, HV.out.below (HW4.out.alloc HW4.out.size _)⟩
          | exact ⟨HB.out.trans (((HW4.out.setCell (by first | exact Nat.le_refl _ | exact HW3.out.size) _).setCell (by first | exact Nat.le_refl _ | exact HW3.out.size) _).mono HB.out.size), _, rfl, rfl, NumAt.put HZ4.out H4.out, HV.out.below ((HW4.out.setCell (by first | exact Nat.le_refl _ | exact HW3.out.size) _).setCell (by first | exact Nat.le_refl _ | exact HW3.out.size) _)⟩
  obtain ⟨hbx, b20, rfl, rfl, hV⟩ := hcut
  obtain ⟨wn, hwn⟩ : ∃ wn, wn = wc := ⟨_, rfl⟩
  subst hwn
  have HB := Lib.hid hbx
  have HV := Lib.hid hV
  clear hbx hV
  have hwk : IntKind.i64.wrap (-(k : Int)) = -(k : Int) := IntWalk.i64_in _ (by omega)
  go_upto_region 14 with fail
  go_cut [22, 23] from 105 to 112 (fun vd ve wx => Below wq.heap.size wq wx ∧ ∃ b, vd = .pointer (some ⟨b, 0, none⟩) ∧ ve = .int .i64 (0) ∧ Vars wx ((b, X) :: [(b20, U), (b17, PV), (b15, X - Y), (b13, X + Y), (b11, Y), (b8, X)]))
  case first =>
    as_aux_lemma =>
      obtain ⟨sv0, gv0, pv0, nv0⟩ := HV.out.get (b := b20) (z := U) (by simp)
      have hC : ∀ W, Below wn.heap.size wn W → W.cell? ⟨b20, 0, none⟩ = some (.int .i64 sv0) ∧ W.cell? ⟨b20, 1, none⟩ = some (.pointer gv0) := by
        intro W hW
        obtain ⟨a0, c0⟩ := num_cells ((hW.block _ (lt_of_some pv0)).trans pv0)
        exact ⟨a0, c0⟩
      have HC := Lib.hid hC
      have hLn := HLL.out.1.on HB.out
      have hM : ∀ W, Below wn.heap.size wn W → Calls Tryd.prog 20 #[.agg #[.int .i64 sv0, .pointer gv0], .agg #[.int .i64 (-(k : Int)), .pointer none]] W fun e w' => ∃ (r : Int) (q : Option Addr), e = .returned (.tuple #[.agg #[.int .i64 r, .pointer q], .int .i64 (0)]) ∧ NumA cold w' r q (X) ∧ Below W.heap.size W w' := by
        intro W hW
        have h := (hLn.on hW).shiftE (nv0.below hW) (NumA.small (B := cold) W (show i64 (-(k : Int)) by unfold i64; omega))
        rw [HUP.out.1.2.1, HUP.out.1.2.2] at h
        exact h
      obtain ⟨yv0, yw0⟩ := hC _ (Below.refl _ _)
      have HM := Lib.hid hM
      clear hM hC hLn pv0 nv0
      first
        | go_region_held3 (fun w' => w'.cell? ⟨b20, 0, none⟩ = some (.int .i64 sv0) ∧ w'.cell? ⟨b20, 1, none⟩ = some (.pointer gv0)) (first | exact HC.out _ HW4.out | exact HC.out _ ((HW4.out.setCell (by first | exact Nat.le_refl _ | exact HW3.out.size) _).setCell (by first | exact Nat.le_refl _ | exact HW3.out.size) _) | exact HC.out _ (HW4.out.alloc HW4.out.size _) | exact HC.out _ HW3.out | exact HC.out _ (HW3.out.alloc HW3.out.size _) | exact HC.out _ (by repeat (first | exact Below.refl _ _ | refine Below.drew ?_ | refine Below.alloc ?_ (by simp) _)) | (go_keep; done))
          (first
          | (go_at_call 20; refine (HM.out _ (by first | exact HW3.out | exact HW3.out.alloc HW3.out.size _)).mono ?_; rintro e4 w4 ⟨r4, q4, rfl, hn4, hb4⟩
             have hw4 : Below wn.heap.size wn w4 := Below.trans (by first | exact HW3.out | exact HW3.out.alloc HW3.out.size _) (hb4.mono (by have := HW3.out.size; first | exact this | (simp; omega)))
             (first
               | (have z4 := (hb4.block w3.heap.size (by simp)).trans (heap_alloc_new w3 (.cells #[.int .i64 0, .pointer none] 29))
                  obtain ⟨z40, z41⟩ := num_cells z4
                  obtain ⟨z42, z43⟩ := num_frozen z4
                  have HZ4 := Lib.hid z4
                  clear z4)
               | (have z4 := (hb4.block wn.heap.size (lt_ofO HZ3.out)).trans HZ3.out
                  obtain ⟨z40, z41⟩ := num_cells z4
                  obtain ⟨z42, z43⟩ := num_frozen z4
                  have HZ4 := Lib.hid z4
                  clear z4)
               | skip)
             have HW4 := Lib.hid hw4
             have H4 := Lib.hid hn4
             clear hn4 hb4 hw4)
          | (go_at_call 18; refine (of_calls _ _).mono ?_; rintro e3 w3 ⟨rfl, hb3⟩
             have hw3 : Below wn.heap.size wn w3 := Below.trans (by repeat (first | exact Below.refl _ _ | refine Below.drew ?_ | refine Below.alloc ?_ (by simp) _)) (hb3.mono (by first | exact Nat.le_refl _ | simp))
             (first
               | (have z3 := (hb3.block wn.heap.size (by simp)).trans (heap_alloc_new wn (.cells #[.int .i64 0, .pointer none] 29))
                  have HZ3 := Lib.hid z3
                  clear z3)
               | skip)
             have HW3 := Lib.hid hw3
             clear hb3 hw3))
        | fail
      all_goals
        (try go_wp2)
        go_meet
        first
          | exact ⟨HB.out.trans ((HW4.out.alloc HW4.out.size _).mono HB.out.size), _, rfl, rfl, NumAt.new H4.out, HV.out.below (HW4.out.alloc HW4.out.size _)⟩
          | exact ⟨HB.out.trans (((HW4.out.setCell (by first | exact Nat.le_refl _ | exact HW3.out.size) _).setCell (by first | exact Nat.le_refl _ | exact HW3.out.size) _).mono HB.out.size), _, rfl, rfl, NumAt.put HZ4.out H4.out, HV.out.below ((HW4.out.setCell (by first | exact Nat.le_refl _ | exact HW3.out.size) _).setCell (by first | exact Nat.le_refl _ | exact HW3.out.size) _)⟩
  obtain ⟨hbx, b22, rfl, rfl, hV⟩ := hcut
  obtain ⟨wn, hwn⟩ : ∃ wn, wn = wc := ⟨_, rfl⟩
  subst hwn
  have HB := Lib.hid hbx
  have HV := Lib.hid hV
  clear hbx hV
  go_upto_region 15 with fail
  go_cut [130] from 113 to 130 (fun t wx => t = .bool false ∧ Below wq.heap.size wq wx ∧ Vars wx [(b22, X), (b20, U), (b17, PV), (b15, X - Y), (b13, X + Y), (b11, Y), (b8, X)])
  case first =>
    as_aux_lemma =>
      go_wp2_with fail
      go_meet
      exact ⟨by simp, HB.out, HV.out⟩
  obtain ⟨rfl, hbx, hV⟩ := hcut
  obtain ⟨wn, hwn⟩ : ∃ wn, wn = wc := ⟨_, rfl⟩
  subst hwn
  have HB := Lib.hid hbx
  have HV := Lib.hid hV
  clear hbx hV
  obtain ⟨i1, hi1, hz1, hz2, hz3⟩ := info_parts infoeI
  have hby : i1.bytes * (k + 1) ≤ 281474976710656 := by rw [hz3]; omega
  have HH := Lib.hid (And.intro hi1 (And.intro hz1 (And.intro hz2 hby)))
  clear hi1 hz1 hz2 hz3 hby
  go_upto_region 18 with (first
    | (refine wpList_make_full _ rfl _ _ _ rfl wn.heap.size 3 i1 (.int .i64 0) 1 Tryd.underlying26 HH.out.1 HH.out.2.1 HH.out.2.2.1 .i64 .i64 _ _ (k + 1) rfl rfl (by first | rfl | omega | simp) (by first | rfl | omega | simp) HH.out.2.2.2 (by unfold maxLen; omega) (Nat.le_refl _) ?_; intro w1 hown1 hg1
       have H1 := Lib.hid (And.intro hown1 hg1)
       clear hown1 hg1))
  obtain ⟨hown1, hg1⟩ := H1.out
  rw [made_zero] at hown1
  have hst : SmR wn (k + 1) (fun _ => 0) w1 := ⟨(Below.refl _ _).grown hg1 (Nat.le_refl _) (fun k hk => by cases hk), hown1⟩
  have y0 := (hst.2.cellAt k (by omega)).trans (seqI_get (fun _ => 0) (show k < k + 1 by omega))
  have f0 := hst.2.frozenAt k
  have hkk : (k : Int) < (k : Int) + 1 := by omega
  have HST := Lib.hid hst
  clear hown1 hg1 hst H1 HH
  go_upto_region 19 with fail
  have hpo := HST.out.set (j := k) (by omega) 1
  have hbx := HB.out.trans (hpo.1.mono HB.out.size)
  have hV := HV.out.below hpo.1
  have hrp := RowV.of_own hpo.2
  obtain ⟨bp, hbp⟩ : ∃ bp, bp = wn.heap.size := ⟨_, rfl⟩
  rw [← hbp] at hpo hbx hV hrp ⊢
  clear y0 f0 HST hpo hbp
  generalize w1.setCell ⟨bp, k, none⟩ (.int .i64 1) = wc at *
  have HRP := Lib.hid hrp
  clear hrp
  obtain ⟨wn, hwn⟩ : ∃ wn, wn = wc := ⟨_, rfl⟩
  subst hwn
  have HB := Lib.hid hbx
  have HV := Lib.hid hV
  clear hbx hV
  clear hwk
  go_upto_region 19 with fail
  go_cut [158] from 137 to 158 (fun t wx => t = .bool false ∧ Below wq.heap.size wq wx ∧ Vars wx [(b22, X), (b20, U), (b17, PV), (b15, X - Y), (b13, X + Y), (b11, Y), (b8, X)])
  case first =>
    as_aux_lemma =>
      obtain ⟨sv0, gv0, pv0, nv0⟩ := HV.out.get (b := b13) (z := X + Y) (by simp)
      obtain ⟨sv1, gv1, pv1, nv1⟩ := HV.out.get (b := b15) (z := X - Y) (by simp)
      obtain ⟨sv2, gv2, pv2, nv2⟩ := HV.out.get (b := b20) (z := U) (by simp)
      have hC : ∀ W, Below wn.heap.size wn W → W.cell? ⟨b13, 0, none⟩ = some (.int .i64 sv0) ∧ W.cell? ⟨b13, 1, none⟩ = some (.pointer gv0) ∧ W.cell? ⟨b15, 0, none⟩ = some (.int .i64 sv1) ∧ W.cell? ⟨b15, 1, none⟩ = some (.pointer gv1) ∧ W.cell? ⟨b20, 0, none⟩ = some (.int .i64 sv2) ∧ W.cell? ⟨b20, 1, none⟩ = some (.pointer gv2) := by
        intro W hW
        obtain ⟨a0, c0⟩ := num_cells ((hW.block _ (lt_of_some pv0)).trans pv0)
        obtain ⟨a1, c1⟩ := num_cells ((hW.block _ (lt_of_some pv1)).trans pv1)
        obtain ⟨a2, c2⟩ := num_cells ((hW.block _ (lt_of_some pv2)).trans pv2)
        exact ⟨a0, c0, a1, c1, a2, c2⟩
      have HC := Lib.hid hC
      have hLn := HLL.out.1.on HB.out
      have hi1 : ∀ W, Below wn.heap.size wn W → ∀ (a : Option Addr) (c : Nat) (l : List Int), RowV W 1 (.slice a l.length c) l.length (intV l) → valB l = X + Y → (∀ x ∈ l, -100000000 ≤ x ∧ x ≤ 100000000) → l.length ≤ 100000 → Calls Tryd.prog 15 #[.agg #[.int .i64 sv0, .pointer gv0], .slice a l.length c] W fun e w' => e = .returned (.bool true) ∧ Below wn.heap.size wn w' := fun W hW a c l h1 h2 h3 h4 => by
        have h := is_calls (hLn.on hW) (nv0.below hW) (sum_small HXY.out.1.1 HXY.out.2.1.1).1.2 h1 h2 (fun x hx => by have := h3 x hx; omega) h4
        refine h.mono ?_
        rintro e w' ⟨rfl, hb⟩
        exact ⟨rfl, hW.trans (hb.mono hW.size)⟩
      have hi2 : ∀ W, Below wn.heap.size wn W → ∀ (a : Option Addr) (c : Nat) (l : List Int), RowV W 1 (.slice a l.length c) l.length (intV l) → valB l = X - Y → (∀ x ∈ l, -100000000 ≤ x ∧ x ≤ 100000000) → l.length ≤ 100000 → Calls Tryd.prog 15 #[.agg #[.int .i64 sv1, .pointer gv1], .slice a l.length c] W fun e w' => e = .returned (.bool true) ∧ Below wn.heap.size wn w' := fun W hW a c l h1 h2 h3 h4 => by
        have h := is_calls (hLn.on hW) (nv1.below hW) (sum_small HXY.out.1.1 HXY.out.2.1.1).2.2 h1 h2 (fun x hx => by have := h3 x hx; omega) h4
        refine h.mono ?_
        rintro e w' ⟨rfl, hb⟩
        exact ⟨rfl, hW.trans (hb.mono hW.size)⟩
      have hi3 : ∀ W, Below wn.heap.size wn W → ∀ (a : Option Addr) (c : Nat) (l : List Int), RowV W 1 (.slice a l.length c) l.length (intV l) → valB l = U → (∀ x ∈ l, -100000000 ≤ x ∧ x ≤ 100000000) → l.length ≤ 100000 → Calls Tryd.prog 15 #[.agg #[.int .i64 sv2, .pointer gv2], .slice a l.length c] W fun e w' => e = .returned (.bool true) ∧ Below wn.heap.size wn w' := fun W hW a c l h1 h2 h3 h4 => by
        have h := is_calls (hLn.on hW) (nv2.below hW) HUP.out.2.2 h1 h2 (fun x hx => by have := h3 x hx; omega) h4
        refine h.mono ?_
        rintro e w' ⟨rfl, hb⟩
        exact ⟨rfl, hW.trans (hb.mono hW.size)⟩
      have hs1 : ∀ W, Below wn.heap.size wn W → Calls Tryd.prog 21 #[.slice aaf n caf, .slice abf m cbf, .int .i64 1] W (ResI W (X + Y) 2000000 100000) := fun W hW => by
        have h := HSU.out 1 (.inl rfl) W (HB.out.trans (hW.mono HB.out.size))
        rw [Int.one_mul] at h
        exact h
      have hs2 : ∀ W, Below wn.heap.size wn W → Calls Tryd.prog 21 #[.slice aaf n caf, .slice abf m cbf, .int .i64 (-1)] W (ResI W (X - Y) 2000000 100000) := fun W hW => by
        have h := HSU.out (-1) (.inr rfl) W (HB.out.trans (hW.mono HB.out.size))
        rw [show X + -1 * Y = X - Y by omega] at h
        exact h
      have hs3 : ∀ W, Below wn.heap.size wn W → Calls Tryd.prog 22 #[.slice aaf n caf, .slice (some ⟨bp, 0, none⟩) (k + 1) (k + 1)] W (ResI W U 36000000 1200) := fun W hW => by
        have h := Products_calls (la := seqI ga n) (lb := seqI (updI (fun _ => 0) k 1) (k + 1)) (by rw [seqI_len]; exact HRa.out.below (HB.out.trans (hW.mono HB.out.size)) (Nat.le_refl _)) (by rw [seqI_len]; exact HRP.out.below hW (Nat.le_refl _)) (seq_bd HGa.out.1) (power_bd k) (by rw [seqI_len]; omega) (by rw [seqI_len]; omega)
        rw [power_val, ← HXY.out.2.2.1, ← HUP.out.2.1] at h
        exact h
      have HI1 := Lib.hid hi1
      have HI2 := Lib.hid hi2
      have HI3 := Lib.hid hi3
      have HS1 := Lib.hid hs1
      have HS2 := Lib.hid hs2
      have HS3 := Lib.hid hs3
      have HN := Lib.hid (Below.refl wn.heap.size wn).drew
      obtain ⟨yv0, yw0, yv1, yw1, yv2, yw2⟩ := hC _ (Below.refl _ _)
      clear pv0 pv1 pv2 nv0 nv1 nv2 hC hLn hi1 hi2 hi3 hs1 hs2 hs3
      first
        | go_region_held3 (fun W => W.cell? ⟨b13, 0, none⟩ = some (.int .i64 sv0) ∧ W.cell? ⟨b13, 1, none⟩ = some (.pointer gv0) ∧ W.cell? ⟨b15, 0, none⟩ = some (.int .i64 sv1) ∧ W.cell? ⟨b15, 1, none⟩ = some (.pointer gv1) ∧ W.cell? ⟨b20, 0, none⟩ = some (.int .i64 sv2) ∧ W.cell? ⟨b20, 1, none⟩ = some (.pointer gv2)) (exact HC.out _ HN.out)
          (first
          | (go_at_call 15; with_reducible refine (HI1.out _ HN.out _ _ _ H6.out.1 H6.out.2.1 H6.out.2.2.1 H6.out.2.2.2).mono ?_; rintro e5 w5 ⟨rfl, hb5⟩
             have HN := Lib.hid hb5
             clear hb5)
          | (go_at_call 15; with_reducible refine (HI2.out _ HN.out _ _ _ H6.out.1 H6.out.2.1 H6.out.2.2.1 H6.out.2.2.2).mono ?_; rintro e5 w5 ⟨rfl, hb5⟩
             have HN := Lib.hid hb5
             clear hb5)
          | (go_at_call 15; with_reducible refine (HI3.out _ HN.out _ _ _ H6.out.1 H6.out.2.1 H6.out.2.2.1 H6.out.2.2.2).mono ?_; rintro e5 w5 ⟨rfl, hb5⟩
             have HN := Lib.hid hb5
             clear hb5)
          | (go_at_call 21; with_reducible refine (HS1.out _ HN.out).mono ?_; intro e6 w6 h6; obtain ⟨a6, c6, l6, rfl, hr6, hv6, hd6, hn6, hb6⟩ := h6
             have H6 := Lib.hid (And.intro hr6 (And.intro hv6 (And.intro (show ∀ x ∈ l6, -100000000 ≤ x ∧ x ≤ 100000000 from fun x hx => by have := hd6 x hx; omega) (show l6.length ≤ 100000 by omega))))
             have HN := Lib.hid (HN.out.trans (hb6.mono HN.out.size))
             clear hr6 hv6 hd6 hn6 hb6)
          | (go_at_call 21; with_reducible refine (HS2.out _ HN.out).mono ?_; intro e6 w6 h6; obtain ⟨a6, c6, l6, rfl, hr6, hv6, hd6, hn6, hb6⟩ := h6
             have H6 := Lib.hid (And.intro hr6 (And.intro hv6 (And.intro (show ∀ x ∈ l6, -100000000 ≤ x ∧ x ≤ 100000000 from fun x hx => by have := hd6 x hx; omega) (show l6.length ≤ 100000 by omega))))
             have HN := Lib.hid (HN.out.trans (hb6.mono HN.out.size))
             clear hr6 hv6 hd6 hn6 hb6)
          | (go_at_call 22; with_reducible refine (HS3.out _ HN.out).mono ?_; intro e6 w6 h6; obtain ⟨a6, c6, l6, rfl, hr6, hv6, hd6, hn6, hb6⟩ := h6
             have H6 := Lib.hid (And.intro hr6 (And.intro hv6 (And.intro (show ∀ x ∈ l6, -100000000 ≤ x ∧ x ≤ 100000000 from fun x hx => by have := hd6 x hx; omega) (show l6.length ≤ 100000 by omega))))
             have HN := Lib.hid (HN.out.trans (hb6.mono HN.out.size))
             clear hr6 hv6 hd6 hn6 hb6))
        | fail
      all_goals
        (try go_wp2)
        go_meet
        exact ⟨by simp, HB.out.trans (HN.out.mono HB.out.size), HV.out.below HN.out⟩
  obtain ⟨rfl, hbx, hV⟩ := hcut
  obtain ⟨wn, hwn⟩ : ∃ wn, wn = wc := ⟨_, rfl⟩
  subst hwn
  have HB := Lib.hid hbx
  have HV := Lib.hid hV
  clear hbx hV
  go_upto_region 21 with fail
  go_cut [176] from 159 to 176 (fun t wx => t = .bool false ∧ Below wq.heap.size wq wx ∧ Vars wx [(b22, X), (b20, U), (b17, PV), (b15, X - Y), (b13, X + Y), (b11, Y), (b8, X)])
  case first =>
    as_aux_lemma =>
      by_cases k1 : n ≤ 160
      · have k1' : (n : Int) ≤ 160 := by omega
        by_cases k2 : m ≤ 160
        · have k2' : (m : Int) ≤ 160 := by omega
          obtain ⟨sv0, gv0, pv0, nv0⟩ := HV.out.get (b := b17) (z := PV) (by simp)
          have hC : ∀ W, Below wn.heap.size wn W → W.cell? ⟨b17, 0, none⟩ = some (.int .i64 sv0) ∧ W.cell? ⟨b17, 1, none⟩ = some (.pointer gv0) := by
            intro W hW
            obtain ⟨a0, c0⟩ := num_cells ((hW.block _ (lt_of_some pv0)).trans pv0)
            exact ⟨a0, c0⟩
          have HC := Lib.hid hC
          have hLn := HLL.out.1.on HB.out
          have hms := mul_small (HXY.out.1.2 k1) (HXY.out.2.1.2 k2)
          have hpv : PV = X * Y := by rw [HPV.out, if_pos ⟨k1, k2⟩]
          rw [← hpv] at hms
          have hi1 : ∀ W, Below wn.heap.size wn W → ∀ (a : Option Addr) (c : Nat) (l : List Int), RowV W 1 (.slice a l.length c) l.length (intV l) → valB l = PV → (∀ x ∈ l, -100000000 ≤ x ∧ x ≤ 100000000) → l.length ≤ 100000 → Calls Tryd.prog 15 #[.agg #[.int .i64 sv0, .pointer gv0], .slice a l.length c] W fun e w' => e = .returned (.bool true) ∧ Below wn.heap.size wn w' := fun W hW a c l h1 h2 h3 h4 => by
            have h := is_calls (hLn.on hW) (nv0.below hW) hms.2.2 h1 h2 (fun x hx => by have := h3 x hx; omega) h4
            refine h.mono ?_
            rintro e w' ⟨rfl, hb⟩
            exact ⟨rfl, hW.trans (hb.mono hW.size)⟩
          have hs3 : ∀ W, Below wn.heap.size wn W → Calls Tryd.prog 22 #[.slice aaf n caf, .slice abf m cbf] W (ResI W PV 36000000 1200) := fun W hW => by
            have h := Products_calls (la := seqI ga n) (lb := seqI gb m) (by rw [seqI_len]; exact HRa.out.below (HB.out.trans (hW.mono HB.out.size)) (Nat.le_refl _)) (by rw [seqI_len]; exact HRb.out.below (HB.out.trans (hW.mono HB.out.size)) (Nat.le_refl _)) (seq_bd HGa.out.1) (seq_bd HGb.out.1) (by rw [seqI_len]; omega) (by rw [seqI_len]; omega)
            rw [← HXY.out.2.2.1, ← HXY.out.2.2.2, ← hpv] at h
            exact h
          have HI1 := Lib.hid hi1
          have HS3 := Lib.hid hs3
          have hq : ∀ W, Below wn.heap.size wn W → (W.cell? ⟨b17, 0, none⟩ = some (.int .i64 sv0) ∧ W.cell? ⟨b17, 1, none⟩ = some (.pointer gv0)) ∧ W.cell? ⟨w.heap.size, 0, none⟩ = some (.slice aa n ca) ∧ W.cell? ⟨w.heap.size + 1, 0, none⟩ = some (.slice ab m cb) := fun W hW => ⟨hC W hW, HPK.out W (HB.out.trans (hW.mono HB.out.size))⟩
          have HQ := Lib.hid hq
          have HN := Lib.hid (Below.refl wn.heap.size wn).drew
          obtain ⟨⟨yv0, yw0⟩, q0, q1⟩ := hq _ (Below.refl _ _)
          clear pv0 nv0 hC hLn hi1 hs3 hms hpv hq k1 k2
          first
            | go_region_held3 (fun W => (W.cell? ⟨b17, 0, none⟩ = some (.int .i64 sv0) ∧ W.cell? ⟨b17, 1, none⟩ = some (.pointer gv0)) ∧ W.cell? ⟨w.heap.size, 0, none⟩ = some (.slice aa n ca) ∧ W.cell? ⟨w.heap.size + 1, 0, none⟩ = some (.slice ab m cb)) (exact HQ.out _ HN.out)
                (first
                | (go_at_call 15; with_reducible refine (HI1.out _ HN.out _ _ _ H6.out.1 H6.out.2.1 H6.out.2.2.1 H6.out.2.2.2).mono ?_; rintro e5 w5 ⟨rfl, hb5⟩
                   have HN := Lib.hid hb5
                   clear hb5)
                | (go_at_call 22; with_reducible refine (HS3.out _ HN.out).mono ?_; intro e6 w6 h6; obtain ⟨a6, c6, l6, rfl, hr6, hv6, hd6, hn6, hb6⟩ := h6
                   have H6 := Lib.hid (And.intro hr6 (And.intro hv6 (And.intro (show ∀ x ∈ l6, -100000000 ≤ x ∧ x ≤ 100000000 from fun x hx => by have := hd6 x hx; omega) (show l6.length ≤ 100000 by omega))))
                   have HN := Lib.hid (HN.out.trans (hb6.mono HN.out.size))
                   clear hr6 hv6 hd6 hn6 hb6))
            | fail
          all_goals
            (try go_wp2)
            go_meet
            exact ⟨by simp, HB.out.trans (HN.out.mono HB.out.size), HV.out.below HN.out⟩
        · have k2' : ¬ (m : Int) ≤ 160 := by omega
          obtain ⟨q0, q1⟩ := HPK.out _ HB.out
          first | go_quiet (fail) | go_region | skip
          all_goals
            (try go_wp2)
            go_meet
            exact ⟨by simp, below_drewN HB.out _, HV.out.below (below_drewN (Below.refl _ _) _)⟩
      · have k1' : ¬ (n : Int) ≤ 160 := by omega
        obtain ⟨q0, q1⟩ := HPK.out _ HB.out
        first | go_quiet (fail) | go_region | skip
        all_goals
          (try go_wp2)
          go_meet
          exact ⟨by simp, below_drewN HB.out _, HV.out.below (below_drewN (Below.refl _ _) _)⟩
  obtain ⟨rfl, hbx, hV⟩ := hcut
  obtain ⟨wn, hwn⟩ : ∃ wn, wn = wc := ⟨_, rfl⟩
  subst hwn
  have HB := Lib.hid hbx
  have HV := Lib.hid hV
  clear hbx hV
  go_upto_region 23 with fail
  obtain ⟨sv0, gv0, pv0, nv0⟩ := HV.out.get (b := b8) (z := X) (by simp)
  obtain ⟨sv1, gv1, pv1, nv1⟩ := HV.out.get (b := b11) (z := Y) (by simp)
  obtain ⟨sv2, gv2, pv2, nv2⟩ := HV.out.get (b := b22) (z := X) (by simp)
  have hC : ∀ W, Below wn.heap.size wn W → W.cell? ⟨b8, 0, none⟩ = some (.int .i64 sv0) ∧ W.cell? ⟨b8, 1, none⟩ = some (.pointer gv0) ∧ W.cell? ⟨b11, 0, none⟩ = some (.int .i64 sv1) ∧ W.cell? ⟨b11, 1, none⟩ = some (.pointer gv1) ∧ W.cell? ⟨b22, 0, none⟩ = some (.int .i64 sv2) ∧ W.cell? ⟨b22, 1, none⟩ = some (.pointer gv2) := by
    intro W hW
    obtain ⟨a0, c0⟩ := num_cells ((hW.block _ (lt_of_some pv0)).trans pv0)
    obtain ⟨a1, c1⟩ := num_cells ((hW.block _ (lt_of_some pv1)).trans pv1)
    obtain ⟨a2, c2⟩ := num_cells ((hW.block _ (lt_of_some pv2)).trans pv2)
    exact ⟨a0, c0, a1, c1, a2, c2⟩
  have HC := Lib.hid hC
  have hLn := HLL.out.1.on HB.out
  have hcm := hLn.cmp nv0 nv1
  have hsa := hLn.same nv2 nv0
  rw [show decide (X = X) = true by simp] at hsa
  have hng := hLn.neg nv0
  have hin : ∀ (W : World) (s : Int) (q : Option Addr), Below wn.heap.size wn W → NumA cold W s q (-X) → ∀ (a : Option Addr) (c : Nat) (l : List Int), RowV W 1 (.slice a l.length c) l.length (intV l) → valB l = -X → (∀ x ∈ l, -100000000 ≤ x ∧ x ≤ 100000000) → l.length ≤ 100000 → Calls Tryd.prog 15 #[.agg #[.int .i64 s, .pointer q], .slice a l.length c] W fun e w' => e = .returned (.bool true) ∧ Below wn.heap.size wn w' := fun W s q hW hn a c l h1 h2 h3 h4 => by
    have h := is_calls (hLn.on hW) hn (neg_small HXY.out.1.1) h1 h2 (fun x hx => by have := h3 x hx; omega) h4
    refine h.mono ?_
    rintro e w' ⟨rfl, hb⟩
    exact ⟨rfl, hW.trans (hb.mono hW.size)⟩
  have hs2 : ∀ W, Below wn.heap.size wn W → Calls Tryd.prog 21 #[.slice aaf n caf, .slice abf m cbf, .int .i64 (-1)] W (ResI W (X - Y) 2000000 100000) := fun W hW => by
    have h := HSU.out (-1) (.inr rfl) W (HB.out.trans (hW.mono HB.out.size))
    rw [show X + -1 * Y = X - Y by omega] at h
    exact h
  have hs3 : ∀ W, Below wn.heap.size wn W → Calls Tryd.prog 21 #[.slice none 0 0, .slice aaf n caf, .int .i64 (-1)] W (ResI W (-X) 2000000 100000) := fun W hW => by
    have h := Sums_calls (w := W) (va := .slice none 0 0) (la := []) (lb := seqI ga n) ⟨rfl, .inl ⟨rfl, rfl⟩⟩ (by rw [seqI_len]; exact HRa.out.below (HB.out.trans (hW.mono HB.out.size)) (Nat.le_refl _)) 1000000 (by omega) (by omega) (fun x hx => by simp at hx) (fun x hx => by have := seq_bd HGa.out.1 x hx; omega) (by simp) (by rw [seqI_len]; omega) (-1) (.inr rfl)
    rw [← HXY.out.2.2.1, show valB [] + -1 * X = -X by simp only [valB]; omega, show (2 : Int) * 1000000 = 2000000 by omega] at h
    exact h
  have HCM := Lib.hid hcm
  have HSA := Lib.hid hsa
  have HNG := Lib.hid hng
  have HIN := Lib.hid hin
  have HS2 := Lib.hid hs2
  have HS3 := Lib.hid hs3
  have HAW := Lib.hid hLn.awake
  have HN := Lib.hid (Below.refl wn.heap.size wn)
  obtain ⟨sc, hsc⟩ : ∃ sc, sc = sgn (X - Y) := ⟨_, rfl⟩
  have HSC := Lib.hid hsc
  have hcm2 := HCM.out
  rw [← hsc] at hcm2
  have HCM := Lib.hid hcm2
  have hee : (sc == sc) = true := by simp
  obtain ⟨yv0, yw0, yv1, yw1, yv2, yw2⟩ := hC _ (Below.refl _ _)
  clear pv0 pv1 pv2 nv0 nv1 nv2 hC hLn hcm hsa hng hin hs2 hs3 hcm2 hsc
  go_wp2_with (first
    | (go_at_call 23; with_reducible refine (HCM.out _ HN.out).mono ?_; rintro e5 w5 ⟨rfl, hb5⟩
       obtain ⟨yv0, yw0, yv1, yw1, yv2, yw2⟩ := HC.out _ hb5
       have HN := Lib.hid hb5
       clear hb5)
    | (go_at_call 25; with_reducible refine (HSA.out _ HN.out).mono ?_; rintro e5 w5 ⟨rfl, hb5⟩
       obtain ⟨yv0, yw0, yv1, yw1, yv2, yw2⟩ := HC.out _ hb5
       have HN := Lib.hid hb5
       clear hb5)
    | (go_at_call 13; with_reducible refine (HAW.out _ HN.out).mono ?_; rintro e5 w5 ⟨rfl, hb5⟩
       have HN := Lib.hid hb5
       clear hb5)
    | (go_at_call 24; refine H6.out.1.mono ?_; rintro e5 w5 ⟨rfl, hb5⟩
       have hb5 := HN.out.trans (hb5.mono HN.out.size)
       obtain ⟨yv0, yw0, yv1, yw1, yv2, yw2⟩ := HC.out _ hb5
       have HN := Lib.hid hb5
       clear hb5)
    | (go_at_call 26; with_reducible refine (HNG.out _ HN.out).mono ?_; rintro e5 w5 ⟨r5, q5, rfl, hn5, hb5⟩
       have H7 := Lib.hid hn5
       have HN := Lib.hid hb5
       clear hb5 hn5)
    | (go_at_call 15; with_reducible refine (HIN.out _ _ _ HN.out H7.out _ _ _ H8.out.1 H8.out.2.1 H8.out.2.2.1 H8.out.2.2.2).mono ?_; rintro e5 w5 ⟨rfl, hb5⟩
       have HN := Lib.hid hb5
       clear hb5)
    | (go_at_call 21; with_reducible refine (HS2.out _ HN.out).mono ?_; intro e6 w6 h6; obtain ⟨a6, c6, l6, rfl, hr6, hv6, hd6, hn6, hb6⟩ := h6
       have hk := Signed_calls hr6 (fun x hx => by have := hd6 x hx; omega) hn6
       rw [hv6, ← HSC.out] at hk
       have hb6 := HN.out.trans (hb6.mono HN.out.size)
       obtain ⟨yv0, yw0, yv1, yw1, yv2, yw2⟩ := HC.out _ hb6
       have H6 := Lib.hid (And.intro hk True.intro)
       have HN := Lib.hid hb6
       clear hr6 hv6 hd6 hn6 hb6 hk)
    | (go_at_call 21; with_reducible refine (HS3.out _ HN.out).mono ?_; intro e6 w6 h6; obtain ⟨a6, c6, l6, rfl, hr6, hv6, hd6, hn6, hb6⟩ := h6
       have H8 := Lib.hid (And.intro hr6 (And.intro hv6 (And.intro (show ∀ x ∈ l6, -100000000 ≤ x ∧ x ≤ 100000000 from fun x hx => by have := hd6 x hx; omega) (show l6.length ≤ 100000 by omega))))
       have H7 := Lib.hid (H7.out.below hb6)
       have HN := Lib.hid (HN.out.trans (hb6.mono HN.out.size))
       clear hr6 hv6 hd6 hn6 hb6))
  refine bodyPost_ret (v := .bool true) (by simp [results, Tryd.results3, go_sem, *]) rfl ⟨rfl, HLL.out.2.1.trans ((HB.out.trans (HN.out.mono HB.out.size)).mono HLL.out.2.1.size)⟩
end Go.Proofs.YteochdnjpchdnaaDoor
