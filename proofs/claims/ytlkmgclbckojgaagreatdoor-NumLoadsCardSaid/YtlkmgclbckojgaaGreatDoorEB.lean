import Derived.Test.YtlkmgclbckojgaaGreatDoorEA
import Derived.Test.YtlkmgclbckojgaaGreatDoorL6
import Derived.Test.YtlkmgclbckojgaaGreatDoorP8
import Derived.Test.YtlkmgclbckojgaaGreatDoorP5
set_option linter.unusedVariables false
set_option linter.unusedSimpArgs false
set_option maxHeartbeats 40000000
set_option maxRecDepth 100000
namespace Go.Proofs.YtlkmgclbckojgaaGreatDoor
section
open Go.RowKit
variable {W W' W1 W2 : World} {p : Nat} {fv fv' fv1 : Value} {vs vs' vs1 G : List Int}
theorem Zoa {N : Nat} (NX : NextOK N) (n : Nat) (PL : PlusOK N n) : PlusOK N (n + 1) := by
 intro W p fv vs G hM v l y m x e hmu hl ht hx hw3 hbd hgp
 obtain ⟨a1, c1, rfl⟩ := (RowV.of_own hl).shape
 have hlen : l.length = (naf y).length := ht.len
 obtain ⟨M, hMl⟩ : ∃ M, M = l.length := ⟨_, rfl⟩
 have hM3 : (M : Int) ≤ 30000 := by unfold wt at hw3; omega
 obtain ⟨W0, hW0⟩ : ∃ W0, W0 = W.alloc (.cells #[.bool m, .int .i64 (x : Int)] 64) := ⟨_, rfl⟩
 have hb0 : Below W.heap.size W W0 := by rw [hW0]; exact (zb).alloc (zl) _
 have hp0 : W0.heap[W.heap.size]? = some (.cells #[.bool m, .int .i64 (x : Int)] 64 (0, 0)) := by rw [hW0]; exact heap_alloc_new W _
 obtain ⟨bt, hbt⟩ : ∃ bt, bt = W.heap.size := ⟨_, rfl⟩
 have hp1 := hp0
 rw [← hbt] at hp1
 have HX := zh (zi hM (zi hl (zi ht (zi hx (zi hw3 (zi hbd (zi hgp (zi hmu (zi hMl (zi hb0 hp1))))))))))
 obtain ⟨z0, z1⟩ := Ze3 hp1
 rw [← hMl]
 have hxw : IntKind.i64.wrap (x : Int) = (x : Int) := by
   have := (List.getElem?_eq_some_iff.1 hx).1
   have h2 := hM.count
   unfold gMax at h2
   rw [IntWalk.i64_in _ (by omega)]
 clear hM hl ht hx hw3 hbd hgp hmu hMl hb0 hlen
 go_enter Tryz.func35, Tryz.ntmps35
 go_upto_block 0 with fail
 rw [← hW0, ← hbt]
 clear hW0 hp0 hbt hp1
 go_cut [7] from 12 to 29 (fun vk wx => ∃ k : Nat, vk = .int .i64 (k : Int) ∧ k ≤ M ∧ (∀ i, i < k → ∀ h : i < (naf y).length, e < ((naf y)[i]).2) ∧ (∀ h : k < (naf y).length, ((naf y)[k]).2 ≤ e) ∧ Below W0.heap.size W0 wx)
 case first =>
   as_aux_lemma =>
     go_wp2_with fail
     go_loopw [7] (fun i wl => ∃ k : Nat, k ≤ M ∧ i = .int .i64 (k : Int) ∧ (∀ i, i < k → ∀ h : i < (naf y).length, e < ((naf y)[i]).2) ∧ Below W0.heap.size W0 wl) (fun i _ => M - (intOf i).toNat)
     case atStart => exact ⟨0, by omega, rfl, fun i h => by omega, zb⟩
     case round =>
       obtain ⟨k, hkM, rfl, hall, hB⟩ := hrel
       clear z0 z1
       obtain ⟨hM, hl, ht, hx, hw3, hbd, hgp, hmu, hMl, hb0, hp0⟩ := HX.out
       have hlen : l.length = (naf y).length := ht.len
       obtain ⟨z0, z1⟩ := Ze3 ((hB.block _ (Array.getElem?_eq_some_iff.1 hp0).1).trans hp0)
       by_cases hk : k < M
       · have hk' : (k : Int) < (M : Int) := by omega
         obtain ⟨ba, ca, ea, y0, y1⟩ := Zao (n := k) ((hl.below hb0).below hB) (by omega)
         rw [← hMl] at ea
         cases ea
         have g1 := ht.get k (by omega) (by omega)
         obtain ⟨m1, x1, hm1⟩ : ∃ m x, l[k]'(by omega) = (m, x) := ⟨_, _, rfl⟩
         rw [hm1] at y1 g1
         simp only at y1 g1
         obtain ⟨e1, he1⟩ : ∃ e1, e1 = ((naf y)[k]'(by omega)).2 := ⟨_, rfl⟩
         rw [← he1] at g1
         have hcm := fun W' (hW : Below wr.heap.size wr W') => Zcm _ _ _ (Nat.lt_succ_self _) (((hM.below hb0).below hB).below hW) x1 x g1.2 hx
         have hS := fun W' (hW : Below wr.heap.size wr W') => zi ((hW.cell (p := ⟨ba, k * 2 + 1, none⟩) (World.block_lt_of_cell? _ _ y1)).trans y1) ((hW.cell (p := ⟨bt, 1, none⟩) (World.block_lt_of_cell? _ _ z1)).trans z1)
         have HS := zh hS
         have HB := zh hB
         have HN := zh (Below.refl wr.heap.size wr)
         have hek : ∀ h : k < (naf y).length, ((naf y)[k]).2 = e1 := fun h => he1.symm
         have HA := zh (zi hall hek)
         generalize hsv : sgn ((e1 : Int) - (e : Int)) = sv at *
         have HCM := zh hcm
         by_cases hgt : e < e1
         · have hs : decide (0 < sv) = true := by rw [← hsv, Zd5 (by omega)]; rfl
           clear hM hl ht hx hw3 hbd hgp hmu hMl hb0 hp0 hlen g1 hm1 y0 hcm hS hB hall hek he1 hsv z0
           go_upto_region 2 with fail
           first
             | go_region_held3 (fun W => W.cell? ⟨ba, k * 2 + 1, none⟩ = some (.int .i64 (x1 : Int)) ∧ W.cell? ⟨bt, 1, none⟩ = some (.int .i64 (x : Int))) (exact HS.out _ (by repeat (first | with_reducible exact HN.out | with_reducible exact zb | with_reducible refine Below.drew ?_ | with_reducible refine Zaa ?_ _)))
                 (first
                 | (go_at_call 16; refine (HCM.out _ (by repeat (first | with_reducible exact HN.out | with_reducible exact zb | with_reducible refine Below.drew ?_ | with_reducible refine Zaa ?_ _))).mono ?_; rintro e5 w5 ⟨rfl, hb5⟩
                    have hb6 : Below wr.heap.size wr w5 := Below.trans (by repeat (first | with_reducible exact HN.out | with_reducible exact zb | with_reducible refine Below.drew ?_ | with_reducible refine Zaa ?_ _)) (hb5.mono (by first | exact zl | exact HN.out.size))
                    have HN := zh hb6
                    clear hb5 hb6))
             | fail
           all_goals
             (try go_wp2)
             refine ⟨⟨k + 1, by omega, by go_num, fun i hi h => ?_, HB.out.trans (HN.out.mono HB.out.size)⟩, by simp [intOf]; omega⟩
             by_cases hik : i = k
             · subst hik; rw [HA.out.2 h]; exact hgt
             · exact HA.out.1 i (by omega) h
         · have hs : decide (0 < sv) = false := by
             rw [← hsv]
             refine decide_eq_false ?_
             unfold sgn
             split <;> (try split) <;> omega
           clear hM hl ht hx hw3 hbd hgp hmu hMl hb0 hp0 g1 hm1 y0 hcm hS hB hall hek he1 hsv z0 hlen
           go_upto_region 2 with fail
           first
             | go_region_held3 (fun W => W.cell? ⟨ba, k * 2 + 1, none⟩ = some (.int .i64 (x1 : Int)) ∧ W.cell? ⟨bt, 1, none⟩ = some (.int .i64 (x : Int))) (exact HS.out _ (by repeat (first | with_reducible exact HN.out | with_reducible exact zb | with_reducible refine Below.drew ?_ | with_reducible refine Zaa ?_ _)))
                 (first
                 | (go_at_call 16; refine (HCM.out _ (by repeat (first | with_reducible exact HN.out | with_reducible exact zb | with_reducible refine Below.drew ?_ | with_reducible refine Zaa ?_ _))).mono ?_; rintro e5 w5 ⟨rfl, hb5⟩
                    have hb6 : Below wr.heap.size wr w5 := Below.trans (by repeat (first | with_reducible exact HN.out | with_reducible exact zb | with_reducible refine Below.drew ?_ | with_reducible refine Zaa ?_ _)) (hb5.mono (by first | exact zl | exact HN.out.size))
                    have HN := zh hb6
                    clear hb5 hb6))
             | fail
           all_goals
             (try go_wp2)
             go_meet
             exact ⟨k, rfl, hkM, HA.out.1, fun h => by rw [HA.out.2 h]; omega, HB.out.trans (HN.out.mono HB.out.size)⟩
       · have hkn : k = M := by omega
         have hk' : ¬ (k : Int) < (M : Int) := by omega
         have HA := zh (zi hall (zi hB (show ¬ k < (naf y).length by omega)))
         clear hM hl ht hx hw3 hbd hgp hmu hMl hb0 hp0 hB hall hlen hk
         go_upto_region 2 with fail
         go_quiet (fail)
         go_wp2
         go_meet
         exact ⟨k, by rw [hkn], hkM, HA.out.1, fun h => absurd h HA.out.2.2, Zaa HA.out.2.1 _⟩
 obtain ⟨k, rfl, hkM, hall, hkle, hB⟩ := hcut
 obtain ⟨W1, hW1⟩ : ∃ W1, W1 = wc := ⟨_, rfl⟩
 subst hW1
 obtain ⟨hM, hl, ht, hx, hw3, hbd, hgp, hmu, hMl, hb0, hp0⟩ := HX.out
 have hbW : Below W.heap.size W W1 := hb0.trans (hB.mono hb0.size)
 have hl1 := hl.below hbW
 rw [← hMl] at hl1
 have hp1 := (hB.block _ (Array.getElem?_eq_some_iff.1 hp0).1).trans hp0
 have hlen : l.length = (naf y).length := ht.len
 have hnod := hM.nd
 have heG : (e : Int) ∈ G := by obtain ⟨_, _, _, _, _, _, _, _, _, h⟩ := hM.form hx; exact h
 have hPS : PS W p fv vs G bt m x e (.slice a1 M c1) l y W1 fv vs := ⟨(Grow.refl hM).below hbW, hl1, hp1, ht, hx⟩
 clear z0 z1 HX hM hl hp0 hb0 hB hl1 hp1 hbW
 have HP := zh hPS
 have HK := zh (zi hw3 (zi hbd (zi hgp (zi hmu (zi hall (zi hkle heG))))))
 have hkl : k ≤ l.length := by omega
 have hl30 : l.length ≤ 30000 := by omega
 have hml : M = (naf y).length := by omega
 have HML := zh hMl
 clear hw3 hbd hgp hmu hall hkle hPS heG hMl
 go_upto_region 4 with fail
 go_cut [43] from 30 to 43 (fun t wx => ∃ b : Bool, t = .bool b ∧ (b = true → ∃ m1, (naf y)[k]? = some (m1, e)) ∧ (b = false → ∀ m1, (naf y)[k]? ≠ some (m1, e)) ∧ Below W1.heap.size W1 wx)
 case first =>
   as_aux_lemma =>
     obtain ⟨z0, z1⟩ := HP.out.cells
     by_cases hk : k < M
     · have hk' : (k : Int) < (M : Int) := by omega
       obtain ⟨ba, ca, ea, y0, y1⟩ := Zao (n := k) HP.out.row (by omega)
       rw [← HML.out] at ea
       cases ea
       have g1 := ht.get k (by omega) (by omega)
       obtain ⟨m1, x1, hm1⟩ : ∃ m x, l[k]'(by omega) = (m, x) := ⟨_, _, rfl⟩
       rw [hm1] at y0 y1 g1
       simp only at y0 y1 g1
       obtain ⟨m2, e1, he1⟩ : ∃ m e, (naf y)[k]'(by omega) = (m, e) := ⟨_, _, rfl⟩
       rw [he1] at g1
       have hg := List.getElem?_eq_some_iff.2 ⟨(show k < (naf y).length by omega), he1⟩
       have HG := zh hg
       by_cases hee : e1 = e
       · have hx1 : x1 = x := Zbj hnod g1.2 (by rw [hee]; exact hx)
         have hxx : ((x1 : Int) == (x : Int)) = true := by rw [hx1]; simp
         have HE := zh hee
         clear hm1 he1 g1 hg hee hx1 hnod ht hx hlen hml y0 z0
         go_quiet (fail)
         go_wp2
         go_meet
         exact ⟨true, rfl, fun _ => ⟨m2, by rw [HG.out, HE.out]⟩, fun h => (Bool.noConfusion h), Zaa (zb) _⟩
       · have hxx : ((x1 : Int) == (x : Int)) = false := by
           rw [beq_eq_false_iff_ne]
           intro h
           have h2 : x1 = x := by omega
           rw [h2] at g1
           have h3 := g1.2.symm.trans hx
           simp at h3
           exact hee (by omega)
         have HE := zh hee
         clear hm1 he1 g1 hg hee hnod ht hx hlen hml y0 z0
         go_quiet (fail)
         go_wp2
         go_meet
         refine ⟨false, rfl, fun h => (Bool.noConfusion h), fun _ m1 h => ?_, Zaa (zb) _⟩
         rw [HG.out] at h
         simp at h
         exact HE.out h.2
     · have hk' : ¬ (k : Int) < (M : Int) := by omega
       have HG := zh (show (naf y)[k]? = none from List.getElem?_eq_none (by omega))
       clear hnod ht hx hlen hml
       go_quiet (fail)
       go_wp2
       go_meet
       refine ⟨false, rfl, fun h => (Bool.noConfusion h), fun _ m1 h => ?_, Zaa (zb) _⟩
       rw [HG.out] at h
       cases h
 obtain ⟨b, rfl, hbt1, hbf1, hB4⟩ := hcut
 have hp4 := HP.out.below hB4
 have HP := zh hp4
 clear hp4 hB4
 cases b
 rotate_left
 · obtain ⟨m1, hk1⟩ := hbt1 rfl
   have hkM2 : k < M := by have := (List.getElem?_eq_some_iff.1 hk1).1; omega
   have hk' : (k : Int) < (M : Int) := by omega
   have hkl2 : k < l.length := by omega
   have hnf : naf y = (naf y).take k ++ (m1, e) :: (naf y).drop (k + 1) := by
     obtain ⟨h1, h2⟩ := List.getElem?_eq_some_iff.1 hk1
     conv => lhs; rw [← List.take_append_drop k (naf y), List.drop_eq_getElem_cons h1, h2]
   obtain ⟨ba, ca, ea, y0, y1⟩ := Zao (n := k) HP.out.row hkl2
   rw [← HML.out] at ea
   cases ea
   have g1 := (ht.get k hkl2 (by omega)).1
   rw [(List.getElem?_eq_some_iff.1 hk1).2] at g1
   rw [g1] at y0
   simp only at y0
   obtain ⟨z0, z1⟩ := HP.out.cells
   have HF := zh hnf
   clear hbt1 hbf1 hnf hk1 g1 y1 hnod hlen hml ht hx
   by_cases hmm : m1 = m
   · as_aux_lemma =>
     subst hmm
     have hmb : (m1 != m1) = false := by simp
     go_upto_region 5 with fail
     go_quiet (fail)
     obtain ⟨y', hy⟩ := way_A (k := k) rfl rfl HF.out HK.out.2.1 HK.out.2.2.1 HK.out.2.2.2.1 HK.out.1
     have HY := zh hy
     have HWO := zh (HP.out.wo hkl2 hl30)
     clear hy z0 z1 y0
     go_upto_region 7 with fail
     first
       | go_region_held3 (fun W => W.cell? ⟨bt, 0, none⟩ = some (.bool m1) ∧ W.cell? ⟨bt, 1, none⟩ = some (.int .i64 (x : Int))) (exact (HP.out.below (by repeat (first | with_reducible exact zb | with_reducible refine Below.drew ?_ | with_reducible refine Zaa ?_ _ | with_reducible refine Below.alloc ?_ (by simp) _))).cells)
           (first
           | (go_at_call 72; refine (HWO.out _ (by repeat (first | with_reducible exact zb | with_reducible refine Below.drew ?_ | with_reducible refine Zaa ?_ _ | with_reducible refine Below.alloc ?_ (by simp) _))).mono ?_; rintro e5 w5 ⟨v5, rfl, hp5, hr5, hb5⟩
              have HP := zh hp5
              have HR5 := zh hr5
              have HNX := zh (hp5.next NX HY.out.2.2.2.2.2.2 hp5.pl HK.out.2.2.1.one)
              clear hp5 hr5 hb5)
           | (go_at_call 36; refine (HNX.out _ (by repeat (first | with_reducible exact zb | with_reducible refine Below.drew ?_ | with_reducible refine Zaa ?_ _ | with_reducible refine Below.alloc ?_ (by simp) _))).mono ?_; rintro e6 w6 ⟨f6, s6, i6, rfl, hp6, hg6, hi6⟩
              have hr6 := HP.out.keep HR5.out hg6
              have HPL := zh (hp6.plus PL hr6 (by rw [HY.out.1]; exact hp6.tms.wo k) HY.out.2.2.1 hi6 HY.out.2.2.2.1 HY.out.2.2.2.2.1 HY.out.2.2.2.2.2.1)
              have HP := zh hp6
              clear hr6 hp6 hg6 hi6)
           | (go_at_call 35; refine (HPL.out _ (by repeat (first | with_reducible exact zb | with_reducible refine Below.drew ?_ | with_reducible refine Zaa ?_ _ | with_reducible refine Below.alloc ?_ (by simp) _))).mono ?_; rintro e9 w9 ⟨f9, s9, v9, l9, rfl, hp9, hg9, hr9, ht9⟩
              have HD := zh (zi hp9 (zi hr9 ht9))
              have HP := zh hp9
              clear hp9 hg9 hr9 ht9))
       | fail
     all_goals
       (try go_wp2)
       refine bodyPost_ret (v := v9) (by simp [results, Tryz.results35, go_sem]) rfl ⟨f9, s9, v9, l9, rfl, HD.out.1.grow, HD.out.2.1, ?_⟩
       have h9 := HD.out.2.2
       rw [HY.out.2.1] at h9
       exact h9
   · as_aux_lemma =>
     have hmn : m1 = !m := by cases m1 <;> cases m <;> simp_all
     subst hmn
     clear hmm
     have hmb : ((!m) != m) = true := by cases m <;> rfl
     go_upto_region 5 with fail
     go_quiet (fail)
     have HWO := zh (HP.out.wo hkl2 hl30)
     go_upto_region 6 with fail
     go_wp2_with (first
       | (go_at_call 72; refine (HWO.out _ (by repeat (first | with_reducible exact zb | with_reducible refine Below.drew ?_ | with_reducible refine Zaa ?_ _ | with_reducible refine Below.alloc ?_ (by simp) _))).mono ?_; rintro e5 w5 ⟨v5, rfl, hp5, hr5, hb5⟩
          have HP := zh hp5
          have HR5 := zh hr5
          clear hp5 hr5 hb5))
     refine bodyPost_ret (v := v5) (by simp [results, Tryz.results35, go_sem]) rfl ⟨fv, vs, v5, wo l k, rfl, HP.out.grow, HR5.out, ?_⟩
     have hnf := HF.out
     have hr := Zqv (A := (naf y).take k) (R := (naf y).drop (k + 1)) (m := m) (e := e) (by rw [← hnf]; exact Za3 y)
     rw [← hnf, Zam] at hr
     rw [hr]
     exact HP.out.tms.wo k
 · have hne := hbf1 rfl
   have hlow : ∀ u ∈ (naf y).drop k, u.2 < e := fun u hu => by
     obtain ⟨i, hi, rfl⟩ := List.mem_iff_getElem.1 hu
     rw [List.getElem_drop]
     have hi2 : k + i < (naf y).length := by simp at hi; omega
     have h1 := HK.out.2.2.2.2.2.1 (by omega)
     have h2 : (naf y)[k].2 ≠ e := fun h => hne ((naf y)[k]'(by omega)).1 (List.getElem?_eq_some_iff.2 ⟨by omega, by rw [← h]⟩)
     rcases Nat.eq_zero_or_pos i with h0 | h0
     · subst h0; simp only [Nat.add_zero]; omega
     · have := List.pairwise_iff_getElem.1 (Za3 y) k (k + i) (by omega) hi2 (by omega)
       omega
   have hhigh : ∀ u ∈ (naf y).take k, e < u.2 := fun u hu => by
     obtain ⟨i, hi, rfl⟩ := List.mem_iff_getElem.1 hu
     have hi2 : i < k ∧ i < (naf y).length := by simp at hi; omega
     rw [List.getElem_take]
     exact HK.out.2.2.2.2.1 i hi2.1 hi2.2
   have HL := zh (zi hlow hhigh)
   clear hbt1 hbf1 hne hlow hhigh
   go_upto_region 8 with fail
   go_cut [81] from 67 to 81 (fun t wx => ∃ (b : Bool) (fk' : Value) (vk' : List Int), t = .bool b ∧ PS W p fv vs G bt m x e (.slice a1 M c1) l y wx fk' vk' ∧ (b = true → ∃ j m' x', k = j + 1 ∧ l[j]? = some (m', x') ∧ (naf y)[j]? = some (m', e + 1)) ∧ (b = false → ∀ j m', k = j + 1 → (naf y)[j]? ≠ some (m', e + 1)))
   case first =>
     as_aux_lemma =>
       obtain ⟨z0, z1⟩ := HP.out.cells
       by_cases hk0 : 0 < k
       · obtain ⟨j, hj⟩ : ∃ j, k = j + 1 := ⟨k - 1, by omega⟩
         have hk0' : (0 : Int) < (k : Int) := by omega
         have hk1' : (1 : Int) ≤ (k : Int) := by omega
         have hk9 : (k : Int) ≤ 9223372036854775807 := by omega
         have hkj : (k : Int) - 1 = (j : Int) := by omega
         have hkw : IntKind.i64.wrap ((k : Int) - 1) = (j : Int) := by rw [IntWalk.i64_in _ (by omega)]; omega
         have hkw2 : IntKind.i64.wrap (j : Int) = (j : Int) := by rw [IntWalk.i64_in _ (by omega)]
         have hj0 : (0 : Int) ≤ (j : Int) := by omega
         have hjM : (j : Int) < (M : Int) := by omega
         have hjN : j < M := by omega
         obtain ⟨ba, ca, ea, q0, q1⟩ := Zao (n := j) HP.out.row (by omega)
         rw [← HML.out] at ea
         cases ea
         clear q0 q1
         obtain ⟨m1, x1, hm1⟩ : ∃ m x, l[j]? = some (m, x) := ⟨_, _, List.getElem?_eq_getElem (by omega)⟩
         have HM := zh (zi HML.out (zi hm1 hj))
         obtain ⟨y0, y1⟩ := HP.out.at_row HML.out hm1
         have hlt : e < N := by
           rcases HK.out.2.1.2 with h | h | ⟨u, l', h1, _, h2⟩
           · exact h
           · have h0 := HK.out.2.2.2.2.1 0 hk0 (by omega)
             have := h _ (List.getElem_mem (show 0 < (naf y).length by omega))
             simp only at this; omega
           · have h0 := HK.out.2.2.2.2.1 0 hk0 (by omega)
             have hu : (naf y)[0]'(by omega) = u := by simp [h1]
             rw [hu] at h0
             simp only at h2; omega
         have HNX := zh (HP.out.next NX hlt HP.out.pl HK.out.2.2.1.one)
         clear hm1 hj hnod ht hx hlen hml hkl y0 z0
         first
           | go_region_held3 (fun W => W.cell? ⟨bt, 1, none⟩ = some (.int .i64 (x : Int)) ∧ W.cell? ⟨ba, j * 2 + 1, none⟩ = some (.int .i64 (x1 : Int))) (exact ⟨(HP.out.below (by repeat (first | with_reducible exact zb | with_reducible refine Below.drew ?_ | with_reducible refine Zaa ?_ _ | with_reducible refine Below.alloc ?_ (by simp) _))).cells.2, ((HP.out.below (by repeat (first | with_reducible exact zb | with_reducible refine Below.drew ?_ | with_reducible refine Zaa ?_ _ | with_reducible refine Below.alloc ?_ (by simp) _))).at_row HM.out.1 HM.out.2.1).2⟩)
               (first
               | (go_at_call 36; refine (HNX.out _ (by repeat (first | with_reducible exact zb | with_reducible refine Below.drew ?_ | with_reducible refine Zaa ?_ _ | with_reducible refine Below.alloc ?_ (by simp) _))).mono ?_; rintro e6 w6 ⟨f6, s6, i6, rfl, hp6, hg6, hi6⟩
                  have HI := zh hi6
                  have HP := zh hp6
                  clear hp6 hg6 hi6))
           | fail
         all_goals
           (try go_wp2)
           go_meet
           have hq := Zpt (HP.out.grow.1.nd) HP.out.tms HM.out.2.1 HI.out
           exact ⟨_, _, _, rfl, HP.out.below (by repeat (first | with_reducible exact zb | with_reducible refine Below.drew ?_ | with_reducible refine Zaa ?_ _ | with_reducible refine Below.alloc ?_ (by simp) _)), fun h => ⟨j, m1, x1, HM.out.2.2, HM.out.2.1, hq.1 h⟩, fun h i m' hi => by
             have : i = j := by have := HM.out.2.2; omega
             subst this
             exact hq.2 h m'⟩
       · have hk1 : decide (0 < k) = false := decide_eq_false hk0
         have hk2 : decide ((0 : Int) < (k : Int)) = false := decide_eq_false (by omega)
         have HK0 := zh hk0
         clear hnod ht hx hlen hml hkl hk0
         go_quiet (fail)
         go_wp2
         go_meet
         exact ⟨false, _, _, rfl, HP.out.below (Zaa (zb) _), fun h => (Bool.noConfusion h), fun _ i m' hi => absurd (show 0 < k by omega) HK0.out⟩
   obtain ⟨b8, f8, s8, rfl, hp8, hb8t, hb8f⟩ := hcut
   have HP := zh hp8
   clear hp8 ht hx hnod
   cases b8
   rotate_left
   · as_aux_lemma =>
     obtain ⟨j, m2, x2, hj, hlj, hnj⟩ := hb8t rfl
     have hk0' : (0 : Int) < (k : Int) := by omega
     have hk1' : (1 : Int) ≤ (k : Int) := by omega
     have hk9 : (k : Int) ≤ 9223372036854775807 := by omega
     have hkj : (k : Int) - 1 = (j : Int) := by omega
     have hkw : IntKind.i64.wrap ((k : Int) - 1) = (j : Int) := by rw [IntWalk.i64_in _ (by omega)]; omega
     have hkw2 : IntKind.i64.wrap (j : Int) = (j : Int) := by rw [IntWalk.i64_in _ (by omega)]
     have hj0 : (0 : Int) ≤ (j : Int) := by omega
     have hjM : (j : Int) < (M : Int) := by omega
     have hjN : j < M := by omega
     obtain ⟨ba, ca, ea, q0, q1⟩ := Zao (n := j) HP.out.row (by omega)
     rw [← HML.out] at ea
     cases ea
     clear q0 q1
     obtain ⟨y0, y1⟩ := HP.out.at_row HML.out hlj
     have hx2 : s8[x2]? = some ((e + 1 : Nat) : Int) := by
       have := (HP.out.tms.get j (by omega) (by omega)).2
       rw [(List.getElem?_eq_some_iff.1 hlj).2, (List.getElem?_eq_some_iff.1 hnj).2] at this
       exact this
     have HJ := zh (zi hj (zi hlj (zi hnj hx2)))
     obtain ⟨W3, hW3⟩ : ∃ W3, W3 = wc := ⟨_, rfl⟩
     subst hW3
     clear hb8t hb8f hj hlj hnj hx2 hlen hml
     have hp4 := HP.out
     obtain ⟨W4, hW4⟩ : ∃ W4, W4 = W3.alloc (.cells #[.bool m2, .int .i64 (x2 : Int)] 64) := ⟨_, rfl⟩
     have hb4 : Below W3.heap.size W3 W4 := by rw [hW4]; exact (zb).alloc (zl) _
     have hq4 : W4.heap[W3.heap.size]? = some (.cells #[.bool m2, .int .i64 (x2 : Int)] 64 (0, 0)) := by rw [hW4]; exact heap_alloc_new W3 _
     obtain ⟨bh, hbh⟩ : ∃ bh, bh = W3.heap.size := ⟨_, rfl⟩
     rw [← hbh] at hq4
     have hjl : j < l.length := by omega
     go_upto_region 10 with fail
     rw [← hW4, ← hbh]
     have HWO := zh ((hp4.below hb4).wo hjl hl30)
     have hPH : PH W p fv vs G bt m x e (.slice (some ⟨ba, 0, none⟩) M c1) l y bh m2 x2 (e + 1) W4 f8 s8 := ⟨hp4.below hb4, hq4, HJ.out.2.2.2⟩
     have HQ := zh hPH
     clear hW4 hbh hp4 hb4 hq4 hPH y0 y1 HP
     go_upto_region 11 with (first
       | (go_at_call 72; refine (HWO.out _ (by repeat (first | with_reducible exact zb | with_reducible refine Below.drew ?_ | with_reducible refine Zaa ?_ _ | with_reducible refine Below.alloc ?_ (by simp) _))).mono ?_; rintro e5 w5 ⟨v5, rfl, hp5, hr5, hb5⟩
          have hq5 := HQ.out.below hb5
          obtain ⟨z0, z1⟩ := hq5.cells
          obtain ⟨h0, h1⟩ := hq5.cells2
          have HQ := zh hq5
          have HR5 := zh hr5
          clear hp5 hr5 hb5 hq5))
     clear HWO
     have hnf : naf y = (naf y).take j ++ (m2, e + 1) :: (naf y).drop (j + 1) := by
       obtain ⟨h1, h2⟩ := List.getElem?_eq_some_iff.1 HJ.out.2.2.1
       conv => lhs; rw [← List.take_append_drop j (naf y), List.drop_eq_getElem_cons h1, h2]
     have HNF := zh hnf
     clear hnf
     by_cases hmm : m2 = m
     · as_aux_lemma =>
       subst hmm
       have hmb : (m2 != m2) = false := by simp
       obtain ⟨y', y2, hy⟩ := way_B2 (k := j) rfl rfl HNF.out HK.out.2.1 HK.out.2.2.1 HK.out.2.2.2.1 HK.out.1 HK.out.2.2.2.2.2.2
       have HY := zh hy
       have HPL := zh (HQ.out.ps.plus PL HR5.out (by rw [HY.out.1]; exact HQ.out.tms.wo j) HY.out.2.2.2.1.1 HQ.out.pl HY.out.2.2.2.1.2.1 HY.out.2.2.2.1.2.2.1 HY.out.2.2.2.1.2.2.2)
       clear hy
       go_upto_region 14 with (first
         | (go_at_call 35; refine (HPL.out _ (by repeat (first | with_reducible exact zb | with_reducible refine Below.drew ?_ | with_reducible refine Zaa ?_ _ | with_reducible refine Below.alloc ?_ (by simp) _))).mono ?_; rintro e9 w9 ⟨f9, s9, v9, l9, rfl, hp9, hg9, hr9, ht9⟩
            have HQ := zh (HQ.out.step hg9)
            have HR9 := zh hr9
            have HT9 := zh ht9
            have HNX := zh (hp9.next NX HY.out.2.2.2.2.2 HQ.out.pl2 HK.out.2.2.1.two)
            clear hp9 hg9 hr9 ht9))
       clear z0 z1 h0 h1 HPL HR5
       first
         | go_region_held3 (fun W => W.cell? ⟨bt, 0, none⟩ = some (.bool m2) ∧ W.cell? ⟨bh, 1, none⟩ = some (.int .i64 (x2 : Int))) (exact ⟨(HQ.out.below (by repeat (first | with_reducible exact zb | with_reducible refine Below.drew ?_ | with_reducible refine Zaa ?_ _ | with_reducible refine Below.alloc ?_ (by simp) _))).cells.1, (HQ.out.below (by repeat (first | with_reducible exact zb | with_reducible refine Below.drew ?_ | with_reducible refine Zaa ?_ _ | with_reducible refine Below.alloc ?_ (by simp) _))).cells2.2⟩)
             (first
             | (go_at_call 36; refine (HNX.out _ (by repeat (first | with_reducible exact zb | with_reducible refine Below.drew ?_ | with_reducible refine Zaa ?_ _ | with_reducible refine Below.alloc ?_ (by simp) _))).mono ?_; rintro e6 w6 ⟨f6, s6, i6, rfl, hp6, hg6, hi6⟩
                have hr6 := HQ.out.ps.keep HR9.out hg6
                have HPL := zh (hp6.plus PL (y' := y2) hr6 (by rw [HY.out.2.1]; exact HT9.out.mono hg6.2.1) HY.out.2.2.2.2.1.1 hi6 HY.out.2.2.2.2.1.2.1 HY.out.2.2.2.2.1.2.2.1 HY.out.2.2.2.2.1.2.2.2)
                have HQ := zh (HQ.out.step hg6)
                clear hr6 hp6 hg6 hi6)
             | (go_at_call 35; refine (HPL.out _ (by repeat (first | with_reducible exact zb | with_reducible refine Below.drew ?_ | with_reducible refine Zaa ?_ _ | with_reducible refine Below.alloc ?_ (by simp) _))).mono ?_; rintro e7 w7 ⟨f7, s7, v7, l7, rfl, hp7, hg7, hr7, ht7⟩
                have HD := zh (zi hp7 (zi hr7 ht7))
                have HQ := zh (HQ.out.step hg7)
                clear hp7 hg7 hr7 ht7))
         | fail
       all_goals
         (try go_wp2)
         refine bodyPost_ret (v := v7) (by simp [results, Tryz.results35, go_sem]) rfl ⟨f7, s7, v7, l7, rfl, HD.out.1.grow, HD.out.2.1, ?_⟩
         have h9 := HD.out.2.2
         rw [HY.out.2.2.1] at h9
         exact h9
     · as_aux_lemma =>
       have hmn : m2 = !m := by cases m2 <;> cases m <;> simp_all
       subst hmn
       clear hmm
       have hmb : ((!m) != m) = true := by cases m <;> rfl
       obtain ⟨y', hy⟩ := way_B1 (k := j) rfl rfl HNF.out HK.out.2.1 HK.out.2.2.1 HK.out.2.2.2.1 HK.out.1
       have HY := zh hy
       have HPL := zh (HQ.out.ps.plus PL HR5.out (by rw [HY.out.1]; exact HQ.out.tms.wo j) HY.out.2.2.1 HQ.out.pl HY.out.2.2.2.1 HY.out.2.2.2.2.1 HY.out.2.2.2.2.2)
       clear hy
       go_upto_region 12 with fail
       go_wp2_with (first
         | (go_at_call 35; refine (HPL.out _ (by repeat (first | with_reducible exact zb | with_reducible refine Below.drew ?_ | with_reducible refine Zaa ?_ _ | with_reducible refine Below.alloc ?_ (by simp) _))).mono ?_; rintro e9 w9 ⟨f9, s9, v9, l9, rfl, hp9, hg9, hr9, ht9⟩
            have HD := zh (zi hp9 (zi hr9 ht9))
            clear hp9 hg9 hr9 ht9))
       refine bodyPost_ret (v := v9) (by simp [results, Tryz.results35, go_sem]) rfl ⟨f9, s9, v9, l9, rfl, HD.out.1.grow, HD.out.2.1, ?_⟩
       have h9 := HD.out.2.2
       rw [HY.out.2.1] at h9
       exact h9
   · have HNE := zh (hb8f rfl)
     clear hb8t hb8f hlen hml
     have hHL3 : ∀ b, (Value.slice a1 M c1).ownBlock = some b → b < wc.heap.size := fun b hb => (HP.out.row.lt b hb).2
     have hbt3 : bt < wc.heap.size := (Array.getElem?_eq_some_iff.1 HP.out.box).1
     have hWs : W.heap.size ≤ wc.heap.size := HP.out.grow.2.2.1.size
     obtain ⟨W3, hW3⟩ : ∃ W3, W3 = wc := ⟨_, rfl⟩
     subst hW3
     obtain ⟨i0, hi0, hy0, hy1, hy2⟩ := info_parts infoeW
     have HH := zh (zi hi0 (zi hy0 (zi hy1 hy2)))
     have hv1 : RowV W3 2 (.slice a1 M c1) M (flatW l) := by
       have h := RowV.of_own HP.out.row
       rw [← HML.out] at h
       exact h
     have H1 := zh hv1
     have HB3 := zh (zi hHL3 (zi hbt3 hWs))
     clear hi0 hy0 hy1 hy2 hv1 hHL3 hbt3 hWs
     go_upto_region 15 with fail
     go_upto_region 16 with (first
       | (at_builtin; refine Zaf rfl _ _ 41 rfl W3.heap.size 64 i0 zW 2 16 Tryz.underlying41 HH.out.1 HH.out.2.1 HH.out.2.2.1 HH.out.2.2.2 rfl (by decide) _ 0 [] rfl (World.ownsRow_lit W3 #[] 0 (zl) (by decide) rfl) _ M (flatW l) rfl (H1.out.below ((zb).alloc (zl) _) (zl)) (Zba _) (by unfold maxLen; omega) (by omega) (by simp) ?_; intro v7 w7 hown7 hg7
          rw [Nat.zero_add, List.nil_append] at hown7
          obtain ⟨a7, c7, rfl⟩ := (RowV.of_own hown7).shape
          have hb7 : Below W3.heap.size W3 w7 := Zbq ((zb).alloc (zl) _) hg7 (zl)
          have hpo : PO W3.heap.size w7 f8 s8 (.slice a7 M c7) M l := ⟨hown7, fun b hb => HP.out.grow.1.off_below hb7 (HP.out.grow.1.off (hown7.lt b hb).1)⟩
          have HPO := zh hpo
          have HP := zh (HP.out.below hb7)
          clear hown7 hg7 hb7 hpo))
     go_cut [141] from 126 to 141 (fun t wx => ∃ (b : Bool) (fk' : Value) (vk' : List Int), t = .bool b ∧ PS W p fv vs G bt m x e (.slice a1 M c1) l y wx fk' vk' ∧ PO W3.heap.size wx fk' vk' (.slice a7 M c7) M l ∧ (b = true → ∃ m2 x2 e0, l[k]? = some (m2, x2) ∧ (naf y)[k]? = some (m2, e0) ∧ e = e0 + 1) ∧ (b = false → ∀ m2 e0, (naf y)[k]? = some (m2, e0) → e ≠ e0 + 1))
     case first =>
       as_aux_lemma =>
         by_cases hk : k < M
         · have hk' : (k : Int) < (M : Int) := by omega
           have hkl2 : k < l.length := by have := HML.out; omega
           obtain ⟨ba, ca, ea, q0, q1⟩ := Zao (n := k) HP.out.row hkl2
           rw [← HML.out] at ea
           cases ea
           clear q0 q1
           obtain ⟨m1, x1, hm1⟩ : ∃ m x, l[k]? = some (m, x) := ⟨_, _, List.getElem?_eq_getElem hkl2⟩
           have htl := HP.out.tms.len
           obtain ⟨e1, he1⟩ : ∃ e1, (naf y)[k]? = some (m1, e1) := by
             have h := (HP.out.tms.get k hkl2 (by omega)).1
             rw [(List.getElem?_eq_some_iff.1 hm1).2] at h
             exact ⟨((naf y)[k]'(by omega)).2, by rw [List.getElem?_eq_getElem (show k < (naf y).length by omega)]; simp only at h; rw [h]⟩
           have hpl1 : s8[x1]? = some (e1 : Int) := by
             have := (HP.out.tms.get k hkl2 (by omega)).2
             rw [(List.getElem?_eq_some_iff.1 hm1).2, (List.getElem?_eq_some_iff.1 he1).2] at this
             exact this
           have hmem : (m1, e1) ∈ naf y := List.mem_of_getElem? he1
           have hlow : e1 < e := HL.out.1 (m1, e1) (by
             refine List.mem_iff_getElem?.2 ⟨0, ?_⟩
             rw [List.getElem?_drop]; exact he1)
           have HNX := zh (HP.out.next NX (HK.out.2.1.1 _ hmem) hpl1 (HK.out.2.2.1.2 _ hmem hlow))
           have HM := zh (zi hm1 he1)
           clear hm1 he1 hpl1 hmem hlow htl hk
           first
             | go_region_held3 (fun W => W.cell? ⟨ba, k * 2 + 1, none⟩ = some (.int .i64 (x1 : Int)) ∧ W.cell? ⟨bt, 1, none⟩ = some (.int .i64 (x : Int))) (exact ⟨((HP.out.below (by repeat (first | with_reducible exact zb | with_reducible refine Below.drew ?_ | with_reducible refine Zaa ?_ _ | with_reducible refine Below.alloc ?_ (by simp) _))).at_row HML.out HM.out.1).2, (HP.out.below (by repeat (first | with_reducible exact zb | with_reducible refine Below.drew ?_ | with_reducible refine Zaa ?_ _ | with_reducible refine Below.alloc ?_ (by simp) _))).cells.2⟩)
                 (first
                 | (go_at_call 36; refine (HNX.out _ (by repeat (first | with_reducible exact zb | with_reducible refine Below.drew ?_ | with_reducible refine Zaa ?_ _ | with_reducible refine Below.alloc ?_ (by simp) _))).mono ?_; rintro e6 w6 ⟨f6, s6, i6, rfl, hp6, hg6, hi6⟩
                    have HPO := zh (HPO.out.step HP.out.grow.1 hg6)
                    have HI := zh hi6
                    have HP := zh hp6
                    clear hp6 hg6 hi6))
             | fail
           all_goals
             (try go_wp2)
             go_meet
             have hq := Zn9 (HP.out.grow.1.nd) HI.out HP.out.pl
             refine ⟨_, _, _, rfl, HP.out.below (by repeat (first | with_reducible exact zb | with_reducible refine Below.drew ?_ | with_reducible refine Zaa ?_ _ | with_reducible refine Below.alloc ?_ (by simp) _)), HPO.out.below HP.out.grow.1 (by repeat (first | with_reducible exact zb | with_reducible refine Below.drew ?_ | with_reducible refine Zaa ?_ _ | with_reducible refine Below.alloc ?_ (by simp) _)), fun h => ⟨m1, x1, e1, HM.out.1, HM.out.2, hq.1 h⟩, fun h m2 e0 he => ?_⟩
             have h2 := HM.out.2
             rw [h2] at he
             cases he
             exact hq.2 h
         · have hk' : ¬ (k : Int) < (M : Int) := by omega
           have HK0 := zh hk
           clear hk
           go_quiet (fail)
           go_wp2
           go_meet
           refine ⟨false, _, _, rfl, HP.out.below (Zaa (zb) _), HPO.out.below HP.out.grow.1 (Zaa (zb) _), fun h => (Bool.noConfusion h), fun _ m2 e0 he => ?_⟩
           have := (List.getElem?_eq_some_iff.1 he).1
           have := HP.out.tms.len
           have := HML.out
           exact absurd (show k < M by omega) HK0.out
     obtain ⟨b16, f9, s9, rfl, hp16, hpo16, hbt, hbf⟩ := hcut
     have HP := zh hp16
     have HPO := zh hpo16
     clear hp16 hpo16
     cases b16
     rotate_left
     · as_aux_lemma =>
       obtain ⟨m2, x2, e0, hlk, hnk, hee⟩ := hbt rfl
       have hkl2 : k < l.length := (List.getElem?_eq_some_iff.1 hlk).1
       have hkM2 : k < M := by have := HML.out; omega
       have hk' : (k : Int) < (M : Int) := by omega
       obtain ⟨ba, ca, ea, q0, q1⟩ := Zao (n := k) HP.out.row hkl2
       rw [← HML.out] at ea
       cases ea
       clear q0 q1
       obtain ⟨y0, y1⟩ := HP.out.at_row HML.out hlk
       obtain ⟨z0, z1⟩ := HP.out.cells
       obtain ⟨bo, co, eo⟩ := Go.Joins.ownsRow_form HPO.out.own (by omega)
       cases eo
       have hq0 : (flatW l)[k * 2]? = some (.bool m2) := by
         have := (Ze1 l k hkl2).1
         rw [(List.getElem?_eq_some_iff.1 hlk).2] at this
         exact this
       have q0 := (HPO.out.own.cellAt (k * 2) (by omega)).trans hq0
       have f0 := HPO.out.own.frozenAt (k * 2)
       have hbo := HPO.out.own.lt bo rfl
       have hst := fun w' (hw : Below wc.heap.size wc w') => (HPO.out.below HP.out.grow.1 hw).own.stored (k * 2) (.bool (!m2))
       have hps := fun w' (hw : Below wc.heap.size wc w') => (HP.out.below hw).set (g := bo) (j := k * 2) (.bool (!m2)) (HPO.out.not HP.out.grow.1 rfl) ((HPO.out.below HP.out.grow.1 hw).off bo rfl) (by have := HB3.out.2.2; show _ ≤ bo; omega) (by have := HB3.out.2.1; show bt ≠ bo; omega) (fun h => by have := HB3.out.1 bo h; omega)
       have hset := Zgx (m' := !m2) hlk
       have htm := HP.out.tms.set (m' := !m2) hlk hnk
       have HS := zh (zi hst (zi hps (zi hset htm)))
       have hnf := Zpu hnk
       have hA := set_at (u' := (!m2, e0)) hnk
       have hfar := Zj2 (Za3 y) (by have := HP.out.tms.len; omega) HL.out.2 HNE.out
       have HF := zh (zi hnf (zi hA (zi hfar (zi hee hlk))))
       clear hbt hbf hlk hnk hee hq0 hst hps hset htm hnf hA hfar hbo y1 z1
       obtain ⟨wq, hwq⟩ : ∃ wq, wq = wc := ⟨_, rfl⟩
       subst hwq
       by_cases hmm : m2 = m
       · as_aux_lemma =>
         subst hmm
         have hmb : (m2 == m2) = true := by simp
         go_upto_region 17 with fail
         go_quiet (fail)
         go_upto_region 21 with fail
         have hps := HS.out.2.1 _ (Zaa (Below.refl wq.heap.size wq) nq)
         have hst := HS.out.1 _ (Zaa (Below.refl wq.heap.size wq) nq)
         generalize (wq.drewN nq).setCell ⟨bo, k * 2, none⟩ (.bool (!m2)) = Wx at hps hst ⊢
         have hrow : RowW Wx (.slice (some ⟨bo, 0, none⟩) M c7) (l.set k (!m2, x2)) := by
           unfold RowW
           rw [List.length_set, ← HML.out, ← HS.out.2.2.1]
           exact Zah hst.1 (Nat.zero_le _)
         obtain rfl := HF.out.2.2.2.1
         obtain ⟨y', hy⟩ := way_C HF.out.1 (fun a ha => by have := HF.out.2.2.1 a ha; omega) HK.out.2.1 HK.out.2.2.1 HK.out.2.2.2.1 HK.out.1
         have HY := zh hy
         have HNX := zh (hps.next NX HY.out.2.2.2.2.2.2 hps.pl HK.out.2.2.1.one)
         have HP := zh hps
         have HRO := zh hrow
         clear hy hps hst hrow y0 q0 f0 z0
         first
           | go_region_held3 (fun W => W.cell? ⟨bt, 0, none⟩ = some (.bool m2) ∧ W.cell? ⟨bt, 1, none⟩ = some (.int .i64 (x : Int))) (exact (HP.out.below (by repeat (first | with_reducible exact zb | with_reducible refine Below.drew ?_ | with_reducible refine Zaa ?_ _ | with_reducible refine Below.alloc ?_ (by simp) _))).cells)
               (first
               | (go_at_call 36; refine (HNX.out _ (by repeat (first | with_reducible exact zb | with_reducible refine Below.drew ?_ | with_reducible refine Zaa ?_ _ | with_reducible refine Below.alloc ?_ (by simp) _))).mono ?_; rintro e6 w6 ⟨f6, s6, i6, rfl, hp6, hg6, hi6⟩
                  have hr6 := HP.out.keep HRO.out hg6
                  have HPL := zh (hp6.plus PL (y' := y') hr6 (by rw [HY.out.1, ← HF.out.2.1]; exact HS.out.2.2.2.mono hg6.2.1) HY.out.2.2.1 hi6 HY.out.2.2.2.1 HY.out.2.2.2.2.1 HY.out.2.2.2.2.2.1)
                  have HP := zh hp6
                  clear hr6 hp6 hg6 hi6)
               | (go_at_call 35; refine (HPL.out _ (by repeat (first | with_reducible exact zb | with_reducible refine Below.drew ?_ | with_reducible refine Zaa ?_ _ | with_reducible refine Below.alloc ?_ (by simp) _))).mono ?_; rintro e7 w7 ⟨f7, s7, v7, l7, rfl, hp7, hg7, hr7, ht7⟩
                  have HD := zh (zi hp7 (zi hr7 ht7))
                  have HP := zh hp7
                  clear hp7 hg7 hr7 ht7))
           | fail
         all_goals
           (try go_wp2)
           refine bodyPost_ret (v := v7) (by simp [results, Tryz.results35, go_sem]) rfl ⟨f7, s7, v7, l7, rfl, HD.out.1.grow, HD.out.2.1, ?_⟩
           have h9 := HD.out.2.2
           rw [HY.out.2.1] at h9
           exact h9
       · as_aux_lemma =>
         have hmn : m2 = !m := by cases m2 <;> cases m <;> simp_all
         subst hmn
         clear hmm
         have hmb : ((!m) == m) = false := by cases m <;> rfl
         go_upto_region 17 with fail
         go_quiet (fail)
         go_wp2
         have hps := HS.out.2.1 _ (Zaa (Below.refl wq.heap.size wq) nq)
         have hst := HS.out.1 _ (Zaa (Below.refl wq.heap.size wq) nq)
         rw [Bool.not_not] at hps hst
         generalize (wq.drewN nq).setCell ⟨bo, k * 2, none⟩ (.bool m) = Wx at hps hst ⊢
         have hrow : RowW Wx (.slice (some ⟨bo, 0, none⟩) M c7) (l.set k (!(!m), x2)) := by
           unfold RowW
           rw [List.length_set, ← HML.out, ← HS.out.2.2.1, Bool.not_not]
           exact Zah hst.1 (Nat.zero_le _)
         obtain rfl := HF.out.2.2.2.1
         refine bodyPost_ret (v := .slice (some ⟨bo, 0, none⟩) M c7) (by simp [results, Tryz.results35, go_sem]) rfl ⟨f9, s9, _, _, rfl, hps.grow, hrow, ?_⟩
         have hnf := HF.out.1
         have hr := Zn3 (A := (naf y).take k) (R := (naf y).drop (k + 1)) (m := m) (e := e0) (by rw [← hnf]; exact Za3 y)
         rw [← hnf, Zam] at hr
         rw [hr]
         have ht := HS.out.2.2.2
         rw [HF.out.2.1, Bool.not_not] at ht
         rw [Bool.not_not]
         exact ht
     · have hne16 := hbf rfl
       have HN16 := zh hne16
       clear hbt hbf hne16
       obtain ⟨wq, hwq⟩ : ∃ wq, wq = wc := ⟨_, rfl⟩
       subst hwq
       have hrl := HP.out.row
       have hLen := HP.out.tms.len
       have hnaf : naf (y + tv (m, e)) = (naf y).take k ++ (m, e) :: (naf y).drop k := by
         have hn := Za3 y
         have hd : naf y = (naf y).take k ++ (naf y).drop k := (List.take_append_drop k (naf y)).symm
         have := Zn4 (A := (naf y).take k) (R := (naf y).drop k) (t := (m, e)) (by rw [← hd]; exact hn) (Zj2 hn (by omega) HL.out.2 HNE.out) (fun r hr => by
           have h1 := HL.out.1 r hr
           obtain ⟨i, hi, rfl⟩ := List.mem_iff_getElem.1 hr
           rw [List.getElem_drop] at h1 ⊢
           have hi2 : k + i < (naf y).length := by simp at hi; omega
           rcases Nat.eq_zero_or_pos i with h0 | h0
           · subst h0
             have h2 := HN16.out ((naf y)[k]'(by omega)).1 ((naf y)[k]'(by omega)).2 (List.getElem?_eq_some_iff.2 ⟨by omega, rfl⟩)
             simp only [Nat.add_zero] at h1 ⊢
             show _ ≤ e
             omega
           · have h3 := List.pairwise_iff_getElem.1 hn k (k + i) (by omega) hi2 (by omega)
             have h4 := HL.out.1 ((naf y)[k]'(by omega)) (List.mem_iff_getElem.2 ⟨0, by simp; omega, by simp⟩)
             show _ ≤ e
             omega)
         rw [← hd, Zam] at this
         exact this
       have htm : TMs s9 (l.take k ++ (m, x) :: l.drop k) (naf (y + tv (m, e))) := by
         rw [hnaf]
         exact (HP.out.tms.take k).append (show TMs s9 ((m, x) :: l.drop k) ((m, e) :: (naf y).drop k) from ⟨⟨rfl, HP.out.pl⟩, HP.out.tms.drop k⟩)
       have HT := zh htm
       clear hnaf htm hLen
       have hsh : (Value.slice a1 M c1 = .slice none 0 0 ∧ M = 0) ∨ ∃ ba, a1 = some ⟨ba, 0, none⟩ := by
         rcases hrl.2 with ⟨e0, e1⟩ | ⟨ba, cap0, cur0, e0, _⟩
         · exact .inl ⟨e0, by have := HML.out; omega⟩
         · cases e0; exact .inr ⟨ba, rfl⟩
       rcases hsh with ⟨e0, e1⟩ | ⟨ba, rfl⟩
       rotate_left
       · as_aux_lemma =>
           have hrl2 := hrl
           rw [HML.out] at hrl2
           have h1 := Zj0 hrl2 hkl
           obtain ⟨hc0, hc9⟩ : M ≤ c1 ∧ c1 ≤ maxLen := by
             obtain ⟨_, hv⟩ := RowV.of_own hrl
             rcases hv with ⟨e, _⟩ | ⟨b', off, cap, e, h1, h2, _⟩
             · cases e
             · cases e; exact ⟨h1, h2⟩
           unfold maxLen at hc9
           have hkc : k ≤ c1 := by omega
           have hkM' : (k : Int) ≤ (M : Int) := by omega
           have hkc' : (k : Int) ≤ (c1 : Int) := by omega
           have hMc' : (M : Int) ≤ (c1 : Int) := by omega
           have hcJ : (c1 : Int) ≤ 9223372036854775807 := by omega
           have hk0 : (0 : Int) ≤ (k : Int) := by omega
           have H1 := zh h1
           have H0 := zh hrl2
           clear h1 hrl2 hrl hc9
           obtain ⟨z0, z1⟩ := HP.out.cells
           have hba : Below wq.heap.size wq (wq.alloc (.cells #[] 64)) := (zb).alloc (zl) _
           obtain ⟨za0, za1⟩ := (HP.out.below hba).cells
           clear hba
           go_upto_region 22 with fail
           go_cut [10] from 173 to 180 (fun t wx => ∃ (a6 : Option Addr) (c6 : Nat), t = .slice a6 (k + 1) c6 ∧ wx.ownsRow wq.heap.size 64 2 (.slice a6 (k + 1) c6) (k + 1) (flatW (l.take k ++ [(m, x)])) ∧ Below wq.heap.size wq wx)
           case first =>
             first
               | go_region_law
                 (first
                 | (have g := H5
                    refine Za6 _ (by rfl) _ _ _ (by rfl) wq.heap.size 64 i0 zW 2 16 Tryz.underlying41 HH.out.1 HH.out.2.1 HH.out.2.2.1 HH.out.2.2.2 (by rfl) (by decide) _ _ _ (by rfl) (by first | exact H5.out.1 | exact H5.out.1.alloc _) _ 1 (flatW [(m, x)]) (by rfl) (by first | exact Zgj HE5.out | exact Zgj (heap_alloc_new _ _)) (Zba _) (by unfold maxLen; omega) (by omega) (by have := H5.out.2.size; simp; omega) ?_; intro a6 c6 w6 hown6 hg6
                    have hb6 : Below wq.heap.size wq w6 := Below.grown (by first | exact H5.out.2 | exact H5.out.2.alloc H5.out.2.size _) hg6 (by have := H5.out.2.size; simp; omega) (fun q hq => (H5.out.1.lt q hq).1)
                    have H6 := zh (zi hown6 hb6)
                    clear hown6 hg6 hb6)
                 | (refine Za6 _ (by rfl) _ _ _ (by rfl) wq.heap.size 64 i0 zW 2 16 Tryz.underlying41 HH.out.1 HH.out.2.1 HH.out.2.2.1 HH.out.2.2.2 (by rfl) (by decide) (.slice (some ⟨wq.heap.size, 0, none⟩) 0 0) 0 [] (by rfl) (by first | exact lit0 _ _ (zl) | exact lit1 _ _ (zl) _) _ k (flatW (l.take k)) (by rfl) (H1.out.below (by repeat (first | with_reducible exact zb | with_reducible refine Below.drew ?_ | with_reducible refine Zaa ?_ _ | with_reducible refine Below.alloc ?_ (by simp) _)) (zl)) (Zba _) (by unfold maxLen; omega) (by omega) (by first | exact zl | (simp; done) | (simp; omega)) ?_; intro a5 c5 w5 hown5 hg5
                    have hb5 : Below wq.heap.size wq w5 := Zbq (by repeat (first | with_reducible exact zb | with_reducible refine Below.drew ?_ | with_reducible refine Zaa ?_ _ | with_reducible refine Below.alloc ?_ (by simp) _)) hg5 (by first | exact zl | (simp; done) | (simp; omega))
                    rw [Nat.zero_add, List.nil_append] at hown5
                    obtain ⟨y50, y51⟩ := (HP.out.below hb5).cells
                    (first
                      | (have he5 : w5.heap[wq.heap.size + 1]? = some (.cells #[.bool m, .int .i64 (x : Int)] 64 (0, 0)) := (hg5.block _ (by first | (simp; done) | (simp; omega)) (by simp [Value.ownBlock])).trans (Ze4 _ _ _).2
                         have HE5 := zh he5
                         clear he5)
                      | skip)
                    have H5 := zh (zi hown5 hb5)
                    clear hown5 hg5 hb5)
                 | (refine Za6 _ (by rfl) _ _ _ (by rfl) wq.heap.size 64 i0 zW 2 16 Tryz.underlying41 HH.out.1 HH.out.2.1 HH.out.2.2.1 HH.out.2.2.2 (by rfl) (by decide) (.slice (some ⟨wq.heap.size + 1, 0, none⟩) 0 0) 0 [] (by rfl) (by first | exact lit2 _ _ (zl) _) _ k (flatW (l.take k)) (by rfl) (H1.out.below (by repeat (first | with_reducible exact zb | with_reducible refine Below.drew ?_ | with_reducible refine Zaa ?_ _ | with_reducible refine Below.alloc ?_ (by simp) _)) (zl)) (Zba _) (by unfold maxLen; omega) (by omega) (by first | exact zl | (simp; done) | (simp; omega)) ?_; intro a5 c5 w5 hown5 hg5
                    have hb5 : Below wq.heap.size wq w5 := Zbq (by repeat (first | with_reducible exact zb | with_reducible refine Below.drew ?_ | with_reducible refine Zaa ?_ _ | with_reducible refine Below.alloc ?_ (by simp) _)) hg5 (by first | exact zl | (simp; done) | (simp; omega))
                    rw [Nat.zero_add, List.nil_append] at hown5
                    obtain ⟨y50, y51⟩ := (HP.out.below hb5).cells
                    have he5 : w5.heap[wq.heap.size]? = some (.cells #[.bool m, .int .i64 (x : Int)] 64 (0, 0)) := (hg5.block _ (by first | (simp; done) | (simp; omega)) (by simp [Value.ownBlock])).trans (Ze4 _ _ _).1
                    have HE5 := zh he5
                    clear he5
                    have H5 := zh (zi hown5 hb5)
                    clear hown5 hg5 hb5))
               | fail
             all_goals
               (try go_wp2)
               go_meet
               refine ⟨a6, c6, rfl, ?_, H6.out.2⟩
               have h := H6.out.1
               rw [← Zcs] at h
               exact h
           obtain ⟨a6, c6, rfl, hown, hB6⟩ := hcut
           have H6 := zh (zi hown hB6)
           clear hown hB6 z0 z1
           obtain ⟨w6, hw6⟩ : ∃ w6, w6 = wc := ⟨_, rfl⟩
           subst hw6
           go_upto_region 23 with fail
           by_cases hck : c1 = k
           · have h2 := Zh9 (H0.out) hkl hck
             rw [← HML.out] at h2
             have H2 := zh h2
             clear h2
             go_wp2_with (first
               | (at_builtin; refine Zaf rfl _ _ 41 rfl wq.heap.size 64 i0 zW 2 16 Tryz.underlying41 HH.out.1 HH.out.2.1 HH.out.2.2.1 HH.out.2.2.2 rfl (by decide) _ (k + 1) _ rfl H6.out.1 _ (M - k) (flatW (l.drop k)) rfl (H2.out.below H6.out.2 (zl)) (Zba _) (by unfold maxLen; omega) (by omega) H6.out.2.size ?_; intro v8 w8 hown8 hg8
                  obtain ⟨a8, c8, rfl⟩ := (RowV.of_own hown8).shape
                  have hb8 : Below wq.heap.size wq w8 := H6.out.2.grown hg8 H6.out.2.size (fun q hq => (H6.out.1.lt q hq).1)
                  have H8 := zh (zi hown8 hb8)
                  clear hown8 hg8 hb8))
             first
               | refine bodyPost_ret (v := .slice a8 (k + 1 + (M - k)) c8) (by simp [results, Tryz.results35, go_sem]) rfl ⟨f9, s9, _, l.take k ++ (m, x) :: l.drop k, rfl, (HP.out.below H8.out.2).grow, ?_, HT.out⟩
               | refine bodyPost_ret (v := .slice a8 (k + 1 + (M - k)) c8) (by simp [results, Tryz.results35, go_sem]) rfl ⟨f9, s9, _, rfl, (HP.out.below H8.out.2).grow, l.take k ++ (m, x) :: l.drop k, ?_, HT.out⟩
             have h := Zah H8.out.1 (Nat.zero_le _)
             have e1 : (l.take k ++ (m, x) :: l.drop k).length = k + 1 + (M - k) := by have := HML.out; simp; first | omega | exact HL0.out
             have e2 : flatW (l.take k ++ (m, x) :: l.drop k) = flatW (l.take k ++ [(m, x)]) ++ flatW (l.drop k) := by rw [← Zcs]; simp
             unfold RowW
             rw [e1, e2]
             exact h
           · have h2 := Zj1 (H0.out) hkl
             rw [← HML.out] at h2
             have H2 := zh h2
             clear h2
             go_wp2_with (first
               | (at_builtin; refine Zaf rfl _ _ 41 rfl wq.heap.size 64 i0 zW 2 16 Tryz.underlying41 HH.out.1 HH.out.2.1 HH.out.2.2.1 HH.out.2.2.2 rfl (by decide) _ (k + 1) _ rfl H6.out.1 _ (M - k) (flatW (l.drop k)) rfl (H2.out.below H6.out.2 (zl)) (Zba _) (by unfold maxLen; omega) (by omega) H6.out.2.size ?_; intro v8 w8 hown8 hg8
                  obtain ⟨a8, c8, rfl⟩ := (RowV.of_own hown8).shape
                  have hb8 : Below wq.heap.size wq w8 := H6.out.2.grown hg8 H6.out.2.size (fun q hq => (H6.out.1.lt q hq).1)
                  have H8 := zh (zi hown8 hb8)
                  clear hown8 hg8 hb8))
             first
               | refine bodyPost_ret (v := .slice a8 (k + 1 + (M - k)) c8) (by simp [results, Tryz.results35, go_sem]) rfl ⟨f9, s9, _, l.take k ++ (m, x) :: l.drop k, rfl, (HP.out.below H8.out.2).grow, ?_, HT.out⟩
               | refine bodyPost_ret (v := .slice a8 (k + 1 + (M - k)) c8) (by simp [results, Tryz.results35, go_sem]) rfl ⟨f9, s9, _, rfl, (HP.out.below H8.out.2).grow, l.take k ++ (m, x) :: l.drop k, ?_, HT.out⟩
             have h := Zah H8.out.1 (Nat.zero_le _)
             have e1 : (l.take k ++ (m, x) :: l.drop k).length = k + 1 + (M - k) := by have := HML.out; simp; first | omega | exact HL0.out
             have e2 : flatW (l.take k ++ (m, x) :: l.drop k) = flatW (l.take k ++ [(m, x)]) ++ flatW (l.drop k) := by rw [← Zcs]; simp
             unfold RowW
             rw [e1, e2]
             exact h
       · cases e0
         as_aux_lemma =>
           have hk0 : k = 0 := by omega
           subst hk0
           have hl0 : l = [] := List.length_eq_zero_iff.1 (by have := HML.out; omega)
           have h1 : RowV wq 2 (.slice none 0 0) 0 (flatW (l.take 0)) := by
             rw [List.take_zero]; exact ⟨rfl, .inl ⟨rfl, rfl⟩⟩
           have h2 : RowV wq 2 (.slice none 0 0) 0 (flatW (l.drop 0)) := by
             rw [hl0]; exact ⟨rfl, .inl ⟨rfl, rfl⟩⟩
           have H1 := zh h1
           have H2 := zh h2
           have HL0 := zh hl0
           clear h1 h2 hl0 hrl
           obtain ⟨z0, z1⟩ := HP.out.cells
           have hba : Below wq.heap.size wq (wq.alloc (.cells #[] 64)) := (zb).alloc (zl) _
           obtain ⟨za0, za1⟩ := (HP.out.below hba).cells
           clear hba
           go_upto_region 22 with fail
           go_cut [10] from 173 to 180 (fun t wx => ∃ (a6 : Option Addr) (c6 : Nat), t = .slice a6 (0 + 1) c6 ∧ wx.ownsRow wq.heap.size 64 2 (.slice a6 (0 + 1) c6) (0 + 1) (flatW (l.take 0 ++ [(m, x)])) ∧ Below wq.heap.size wq wx)
           case first =>
             first
               | go_region_law
                 (first
                 | (have g := H5
                    refine Za6 _ (by rfl) _ _ _ (by rfl) wq.heap.size 64 i0 zW 2 16 Tryz.underlying41 HH.out.1 HH.out.2.1 HH.out.2.2.1 HH.out.2.2.2 (by rfl) (by decide) _ _ _ (by rfl) (by first | exact H5.out.1 | exact H5.out.1.alloc _) _ 1 (flatW [(m, x)]) (by rfl) (by first | exact Zgj HE5.out | exact Zgj (heap_alloc_new _ _)) (Zba _) (by unfold maxLen; omega) (by omega) (by have := H5.out.2.size; simp; omega) ?_; intro a6 c6 w6 hown6 hg6
                    have hb6 : Below wq.heap.size wq w6 := Below.grown (by first | exact H5.out.2 | exact H5.out.2.alloc H5.out.2.size _) hg6 (by have := H5.out.2.size; simp; omega) (fun q hq => (H5.out.1.lt q hq).1)
                    have H6 := zh (zi hown6 hb6)
                    clear hown6 hg6 hb6)
                 | (refine Za6 _ (by rfl) _ _ _ (by rfl) wq.heap.size 64 i0 zW 2 16 Tryz.underlying41 HH.out.1 HH.out.2.1 HH.out.2.2.1 HH.out.2.2.2 (by rfl) (by decide) (.slice (some ⟨wq.heap.size, 0, none⟩) 0 0) 0 [] (by rfl) (by first | exact lit0 _ _ (zl) | exact lit1 _ _ (zl) _) _ 0 (flatW (l.take 0)) (by rfl) (H1.out.below (by repeat (first | with_reducible exact zb | with_reducible refine Below.drew ?_ | with_reducible refine Zaa ?_ _ | with_reducible refine Below.alloc ?_ (by simp) _)) (zl)) (Zba _) (by unfold maxLen; omega) (by omega) (by first | exact zl | (simp; done) | (simp; omega)) ?_; intro a5 c5 w5 hown5 hg5
                    have hb5 : Below wq.heap.size wq w5 := Zbq (by repeat (first | with_reducible exact zb | with_reducible refine Below.drew ?_ | with_reducible refine Zaa ?_ _ | with_reducible refine Below.alloc ?_ (by simp) _)) hg5 (by first | exact zl | (simp; done) | (simp; omega))
                    rw [Nat.zero_add, List.nil_append] at hown5
                    obtain ⟨y50, y51⟩ := (HP.out.below hb5).cells
                    (first
                      | (have he5 : w5.heap[wq.heap.size + 1]? = some (.cells #[.bool m, .int .i64 (x : Int)] 64 (0, 0)) := (hg5.block _ (by first | (simp; done) | (simp; omega)) (by simp [Value.ownBlock])).trans (Ze4 _ _ _).2
                         have HE5 := zh he5
                         clear he5)
                      | skip)
                    have H5 := zh (zi hown5 hb5)
                    clear hown5 hg5 hb5)
                 | (refine Za6 _ (by rfl) _ _ _ (by rfl) wq.heap.size 64 i0 zW 2 16 Tryz.underlying41 HH.out.1 HH.out.2.1 HH.out.2.2.1 HH.out.2.2.2 (by rfl) (by decide) (.slice (some ⟨wq.heap.size + 1, 0, none⟩) 0 0) 0 [] (by rfl) (by first | exact lit2 _ _ (zl) _) _ 0 (flatW (l.take 0)) (by rfl) (H1.out.below (by repeat (first | with_reducible exact zb | with_reducible refine Below.drew ?_ | with_reducible refine Zaa ?_ _ | with_reducible refine Below.alloc ?_ (by simp) _)) (zl)) (Zba _) (by unfold maxLen; omega) (by omega) (by first | exact zl | (simp; done) | (simp; omega)) ?_; intro a5 c5 w5 hown5 hg5
                    have hb5 : Below wq.heap.size wq w5 := Zbq (by repeat (first | with_reducible exact zb | with_reducible refine Below.drew ?_ | with_reducible refine Zaa ?_ _ | with_reducible refine Below.alloc ?_ (by simp) _)) hg5 (by first | exact zl | (simp; done) | (simp; omega))
                    rw [Nat.zero_add, List.nil_append] at hown5
                    obtain ⟨y50, y51⟩ := (HP.out.below hb5).cells
                    have he5 : w5.heap[wq.heap.size]? = some (.cells #[.bool m, .int .i64 (x : Int)] 64 (0, 0)) := (hg5.block _ (by first | (simp; done) | (simp; omega)) (by simp [Value.ownBlock])).trans (Ze4 _ _ _).1
                    have HE5 := zh he5
                    clear he5
                    have H5 := zh (zi hown5 hb5)
                    clear hown5 hg5 hb5))
               | fail
             all_goals
               (try go_wp2)
               go_meet
               refine ⟨a6, c6, rfl, ?_, H6.out.2⟩
               have h := H6.out.1
               rw [← Zcs] at h
               exact h
           obtain ⟨a6, c6, rfl, hown, hB6⟩ := hcut
           have H6 := zh (zi hown hB6)
           clear hown hB6 z0 z1
           obtain ⟨w6, hw6⟩ : ∃ w6, w6 = wc := ⟨_, rfl⟩
           subst hw6
           go_upto_region 23 with fail
           go_wp2_with (first
             | (at_builtin; refine Zaf rfl _ _ 41 rfl wq.heap.size 64 i0 zW 2 16 Tryz.underlying41 HH.out.1 HH.out.2.1 HH.out.2.2.1 HH.out.2.2.2 rfl (by decide) _ (0 + 1) _ rfl H6.out.1 _ 0 (flatW (l.drop 0)) rfl (H2.out.below H6.out.2 (zl)) (Zba _) (by unfold maxLen; omega) (by omega) H6.out.2.size ?_; intro v8 w8 hown8 hg8
                obtain ⟨a8, c8, rfl⟩ := (RowV.of_own hown8).shape
                have hb8 : Below wq.heap.size wq w8 := H6.out.2.grown hg8 H6.out.2.size (fun q hq => (H6.out.1.lt q hq).1)
                have H8 := zh (zi hown8 hb8)
                clear hown8 hg8 hb8))
           first
             | refine bodyPost_ret (v := .slice a8 (0 + 1 + 0) c8) (by simp [results, Tryz.results35, go_sem]) rfl ⟨f9, s9, _, l.take 0 ++ (m, x) :: l.drop 0, rfl, (HP.out.below H8.out.2).grow, ?_, HT.out⟩
             | refine bodyPost_ret (v := .slice a8 (0 + 1 + 0) c8) (by simp [results, Tryz.results35, go_sem]) rfl ⟨f9, s9, _, rfl, (HP.out.below H8.out.2).grow, l.take 0 ++ (m, x) :: l.drop 0, ?_, HT.out⟩
           have h := Zah H8.out.1 (Nat.zero_le _)
           have e1 : (l.take 0 ++ (m, x) :: l.drop 0).length = 0 + 1 + 0 := by have := HML.out; simp; first | omega | exact HL0.out
           have e2 : flatW (l.take 0 ++ (m, x) :: l.drop 0) = flatW (l.take 0 ++ [(m, x)]) ++ flatW (l.drop 0) := by rw [← Zcs]; simp
           unfold RowW
           rw [e1, e2]
           exact h
end
section
variable {G G' : List Int}
end
section
open Go.RowKit
variable {W W' W1 W2 : World} {p : Nat} {fv fv' fv1 : Value} {vs vs' vs1 G : List Int}
theorem Zl7 {N : Nat} (NX : NextOK N) (n : Nat) : PlusOK N n := by
 induction n with
 | zero => intro W p fv vs G hM v l y m x e h; exact absurd h (Nat.not_lt_zero _)
 | succ n ih => exact @Zoa N @NX n @ih
theorem WM.first (h : WM W p fv vs G) : vs[0]? = some 0 := by
 obtain ⟨_, _, _, hg, _⟩ := h
 exact hg.zero
theorem bd_one {N e : Nat} (he : e < N + 1) : Bd (naf (e : Int)) (false, 0) N := by
 refine ⟨fun x hx => by have := Zbf hx; omega, ?_⟩
 rcases Nat.eq_zero_or_pos N with h0 | h0
 · have : e = 0 := by omega
   subst this
   right; left
   intro x hx
   have hz : naf ((0 : Nat) : Int) = [] := Zef
   rw [hz] at hx
   simp at hx
 · exact .inl h0
theorem gp_one {z : Int} (hk : GOK G) (hz : wt z ≤ 30000) : GP G (naf z) (false, 0) := by
 refine ⟨fun i h1 h2 => ?_, fun x _ h => absurd h (Nat.not_lt_zero _)⟩
 have hm := Zn1 (naf z) (false, 0)
 unfold wt at hz
 exact hk.low _ (by simp only; omega)
theorem Zj3 (N : Nat) : NextOK N := by
 induction N with
 | zero => intro W p fv vs G hM x e h; exact absurd h (Nat.not_lt_zero _)
 | succ N NX =>
   intro W p fv vs G hM x e he hx hG
   obtain ⟨b, c, v, f, efv, hcb, hrf, htf, hpl, hzG⟩ := hM.form hx
   have hwe : wt (e : Int) ≤ 30000 := hM.ok.wts _ hzG
   have hP : Calls Tryz.prog 35 #[.pointer (some ⟨p, 0, none⟩), v, .agg #[.bool false, .int .i64 0]] W fun r w' => ∃ (fv' : Value) (vs' : List Int) (v' : Value) (l' : List Wt), r = .returned v' ∧ Grow W p fv vs G fv' vs' w' ∧ RowW w' v' l' ∧ TMs vs' l' (naf ((e + 1 : Nat) : Int)) := by
     have h := Zl7 @NX _ hM (x := 0) (e := 0) (m := false) (Nat.lt_succ_self _) hrf htf hM.first hwe (bd_one he) (gp_one hM.ok hwe)
     have e1 : (e : Int) + tv (false, 0) = ((e + 1 : Nat) : Int) := by simp [tv, sg]
     rw [e1] at h
     exact h
   obtain ⟨x0, x1⟩ := hM.cell
   have hxl : (x : Int) < (vs.length : Int) := by have := (List.getElem?_eq_some_iff.1 hx).1; omega
   have hc := hM.count
   unfold gMax at hc
   subst efv
   obtain ⟨aF, cF, rfl⟩ := (RowV.of_own hrf).shape
   obtain ⟨M, hN⟩ : ∃ M, M = vs.length := ⟨_, rfl⟩
   have HP := zh hP
   have HG := zh (zi hG hN)
   rw [← hN] at hxl x0 hc
   have hc2 : (M : Int) ≤ 1000000000000 := by omega
   clear hM hx hrf htf hpl hzG hwe hP hG hN hc
   go_enter Tryz.func36, Tryz.ntmps36
   go_wp2_with (first
     | (go_at_call 35; refine (HP.out).mono ?_; rintro e5 w5 ⟨f5, s5, v5, l5, rfl, hg5, hr5, ht5⟩
        have HAT := zh (Ze2 hg5.1 hr5 ht5 HG.out.1)
        have H5 := zh hg5
        clear hg5 hr5 ht5)
     | (go_at_call 37; refine (HAT.out).mono ?_; rintro e6 w6 ⟨f6, s6, i6, rfl, hg6, hi6⟩
        have H6 := zh (zi hg6 hi6)
        clear hg6 hi6))
   refine bodyPost_ret (v := .int .i64 (i6 : Int)) (by simp [results, Tryz.results36, go_sem]) rfl ?_
   have hfin := H5.out
   first
     | exact ⟨f6, s6, i6, rfl, by rw [← HG.out.2] at hfin; exact hfin.trans H6.out.1, H6.out.2⟩
     | exact ⟨f6, s6, i6, rfl, hfin.trans H6.out.1, H6.out.2⟩
end
section
open Go.RowKit
variable {W W' W1 W2 : World} {p n n' : Nat} {fv fv' fv1 : Value} {vs vs' vs1 G : List Int}
def WL (W : World) (p : Nat) (fv : Value) (vs : List Int) (n : Nat) : Prop := ∃ G, WM W p fv vs G ∧ G.length ≤ n
def GrowL (W : World) (p : Nat) (fv : Value) (vs : List Int) (fv' : Value) (vs' : List Int) (W' : World) (n' : Nat) : Prop :=
 WL W' p fv' vs' n' ∧ vs <+: vs' ∧ Keeps (wB p fv) W W' ∧ (∀ k, fv'.ownBlock = some k → fv.ownBlock = some k ∨ W.heap.size ≤ k) ∧ ∀ b, b < W.heap.size → Off W fv vs.length b → Off W' fv' vs'.length b
theorem Grow.L (h : Grow W p fv vs G fv' vs' W') (hn : G.length ≤ n) : GrowL W p fv vs fv' vs' W' n := ⟨⟨G, h.1, hn⟩, h.2⟩
theorem WL.more (h : WL W p fv vs n) (hn : n ≤ n') : WL W p fv vs n' := by
 obtain ⟨G, h1, h2⟩ := h
 exact ⟨G, h1, Nat.le_trans h2 hn⟩
theorem GrowL.more {m : Nat} (h : GrowL W p fv vs fv' vs' W' n) (hn : n ≤ m) : GrowL W p fv vs fv' vs' W' m := ⟨h.1.more hn, h.2⟩
theorem GrowL.refl (h : WL W p fv vs n) : GrowL W p fv vs fv vs W n := ⟨h, List.prefix_refl _, Keeps.refl _ _, fun k hk => .inl hk, fun b _ h => h⟩
theorem Zob (a3 : Keeps (wB p fv) W W1) (a4 : ∀ k, fv1.ownBlock = some k → fv.ownBlock = some k ∨ W.heap.size ≤ k) (b3 : Keeps (wB p fv1) W1 W') : Keeps (wB p fv) W W' :=
 a3.trans b3 (fun i hi => by
   rcases hi with rfl | hi
   · exact .inl (.inl rfl)
   · rcases a4 i hi with c | c
     · exact .inl (.inr c)
     · exact .inr c)
theorem GrowL.trans (h : GrowL W p fv vs fv1 vs1 W1 n) (k : GrowL W1 p fv1 vs1 fv' vs' W' n') : GrowL W p fv vs fv' vs' W' n' := by
 obtain ⟨a1, a2, a3, a4, a5⟩ := h
 obtain ⟨b1, b2, b3, b4, b5⟩ := k
 refine ⟨b1, a2.trans b2, Zob (fv1 := fv1) a3 a4 b3, fun i hi => ?_, fun b hb ho => b5 b (Nat.lt_of_lt_of_le hb a3.size) (a5 b hb ho)⟩
 rcases b4 i hi with c | c
 · exact a4 i c
 · exact .inr (Nat.le_trans a3.size c)
theorem WL.below (h : WL W p fv vs n) (hb : Below W.heap.size W W') : WL W' p fv vs n := by
 obtain ⟨G, h1, h2⟩ := h
 exact ⟨G, h1.below hb, h2⟩
theorem WL.off_below {b : Nat} (h : WL W p fv vs n) (hb : Below W.heap.size W W') (ho : Off W fv vs.length b) : Off W' fv vs.length b := by
 obtain ⟨G, h1, _⟩ := h
 exact h1.off_below hb ho
theorem GrowL.below (h : GrowL W p fv vs fv' vs' W1 n) (hb : Below W1.heap.size W1 W') : GrowL W p fv vs fv' vs' W' n :=
 h.trans ⟨h.1.below hb, List.prefix_refl _, Zbe hb, fun k hk => .inl hk, fun b _ ho => h.1.off_below hb ho⟩
theorem WL.off {b : Nat} (h : WL W p fv vs n) (hb : W.heap.size ≤ b) : Off W fv vs.length b := by
 obtain ⟨G, h1, _⟩ := h
 exact h1.off hb
theorem WL.nd (h : WL W p fv vs n) : vs.Nodup := by obtain ⟨G, h1, _⟩ := h; exact h1.nd
theorem WL.count (h : WL W p fv vs n) : vs.length ≤ gMax := by obtain ⟨G, h1, _⟩ := h; exact h1.count
theorem WL.cell (h : WL W p fv vs n) : W.cell? ⟨p, 0, none⟩ = some fv ∧ W.frozen? ⟨p, 0, none⟩ = false := by obtain ⟨G, h1, _⟩ := h; exact h1.cell
theorem WL.plt (h : WL W p fv vs n) : p < W.heap.size := by obtain ⟨G, h1, _⟩ := h; exact h1.plt
theorem WL.at (h : WL W p fv vs n) : ∃ a c, fv = .slice a vs.length c := by obtain ⟨G, h1, _⟩ := h; exact h1.at
theorem WL.form {i : Nat} {z : Int} (h : WL W p fv vs n) (hi : vs[i]? = some z) : ∃ (b : Nat) (c : Nat) (v : Value) (f : List Wt), fv = .slice (some ⟨b, 0, none⟩) vs.length c ∧ W.cell? ⟨b, i, none⟩ = some v ∧ RowW W v f ∧ TMs vs f (naf z) ∧ (∀ t ∈ f, t.2 < i) ∧ wt z ≤ 30000 := by
 obtain ⟨G, h1, _⟩ := h
 obtain ⟨b, c, v, f, x1, x2, x3, x4, x5, x6⟩ := h1.form hi
 exact ⟨b, c, v, f, x1, x2, x3, x4, x5, h1.ok.wts z x6⟩
theorem WL.own {base m size : Nat} {e : TypeId} {v : Value} {xs : List Value} (h : WL W p fv vs n) (ho : W.ownsRow base e size v m xs) (h1 : e ≠ 44) (h2 : e ≠ 41) (k : Keeps (wB p fv) W W') : W'.ownsRow base e size v m xs := by
 obtain ⟨G, x, _⟩ := h
 exact x.own ho h1 h2 k
theorem WL.not {e : TypeId} {c : Array Value} {b : Nat} (h : WL W p fv vs n) (hb : W.heap[b]? = some (.cells c e (0, 0))) (h1 : e ≠ 44) (h2 : e ≠ 41) : ¬ wB p fv b := by
 obtain ⟨G, x, _⟩ := h
 exact x.not hb h1 h2
theorem WL.row {v : Value} {f : List Wt} (h : WL W p fv vs n) (ho : RowW W v f) (k : Keeps (wB p fv) W W') : RowW W' v f := h.own ho (by decide) (by decide) k
theorem GrowL.row {v : Value} {f : List Wt} (h : WL W p fv vs n) (k : GrowL W p fv vs fv' vs' W' n') (ho : RowW W v f) : RowW W' v f := h.row ho k.2.2.1
theorem GOK.more {X : List Int} (h : GOK G) (hl : G.length + X.length ≤ gMax) (hx : ∀ z ∈ X, wt z ≤ 30000) : GOK (G ++ X) :=
 ⟨by simpa using hl, fun g hg => by
   rcases List.mem_append.1 hg with a | a
   · exact h.wts g a
   · exact hx g a, fun i hi => List.mem_append_left _ (h.low i hi), ⟨List.mem_append_left _ h.big.1, List.mem_append_left _ h.big.2⟩⟩
theorem WL.take (h : WL W p fv vs n) (X : List Int) (hx : ∀ z ∈ X, wt z ≤ 30000) (hl : n + X.length ≤ gMax) : ∃ G, WM W p fv vs G ∧ G.length ≤ n + X.length ∧ ∀ z ∈ X, z ∈ G := by
 obtain ⟨G, h1, h2⟩ := h
 exact ⟨G ++ X, h1.more (fun z hz => List.mem_append_left _ hz) (h1.ok.more (by omega) hx), by simp; omega, fun z hz => List.mem_append_right _ hz⟩
def PostW (W : World) (p : Nat) (fv : Value) (vs : List Int) (n : Nat) (z : Int) : Ending → World → Prop := fun r w' =>
 ∃ (fv' : Value) (vs' : List Int) (i : Nat), r = .returned (.int .i64 (i : Int)) ∧ GrowL W p fv vs fv' vs' w' n ∧ vs'[i]? = some z
def PostG (W : World) (p : Nat) (fv : Value) (vs G : List Int) (z : Int) : Ending → World → Prop := fun r w' =>
 ∃ (fv' : Value) (vs' : List Int) (i : Nat), r = .returned (.int .i64 (i : Int)) ∧ Grow W p fv vs G fv' vs' w' ∧ vs'[i]? = some z
theorem WM.L (h : WM W p fv vs G) : WL W p fv vs G.length := ⟨G, h, zl⟩
end
section
open Go.RowKit
variable {W W' W1 W2 : World} {p n n' : Nat} {fv fv' fv1 : Value} {vs vs' vs1 G : List Int}
theorem wplus (hM : WM W p fv vs G) {v : Value} {l : List Wt} {y : Int} {m : Bool} {x e : Nat} (hr : RowW W v l) (ht : TMs vs l (naf y)) (hx : vs[x]? = some (e : Int)) (hw : wt y ≤ 30000) (hg : GP G (naf y) (m, e)) :
   Calls Tryz.prog 35 #[.pointer (some ⟨p, 0, none⟩), v, .agg #[.bool m, .int .i64 (x : Int)]] W fun r w' => ∃ (fv' : Value) (vs' : List Int) (v' : Value) (l' : List Wt), r = .returned v' ∧ Grow W p fv vs G fv' vs' w' ∧ RowW w' v' l' ∧ TMs vs' l' (naf (y + tv (m, e))) :=
 Zl7 (Zj3 (y.natAbs + e + 1)) _ hM (Nat.lt_succ_self _) hr ht hx hw ⟨fun t h => by have := Zbf h; omega, .inl (by simp only; omega)⟩ hg
theorem wnext (hM : WM W p fv vs G) {x e : Nat} (hx : vs[x]? = some (e : Int)) (hG : ((e + 1 : Nat) : Int) ∈ G) :
   Calls Tryz.prog 36 #[.pointer (some ⟨p, 0, none⟩), .int .i64 (x : Int)] W fun r w' => ∃ (fv' : Value) (vs' : List Int) (i : Nat), r = .returned (.int .i64 (i : Int)) ∧ Grow W p fv vs G fv' vs' w' ∧ vs'[i]? = some ((e + 1 : Nat) : Int) :=
 Zj3 (e + 1) hM x e (Nat.lt_succ_self _) hx hG
theorem WL.wrap {x : Nat} {z : Int} (h : WL W p fv vs n) (hx : vs[x]? = some z) : IntKind.i64.wrap (x : Int) = (x : Int) := by
 have := (List.getElem?_eq_some_iff.1 hx).1
 have h2 := h.count
 unfold gMax at h2
 rw [IntWalk.i64_in _ (by omega)]
theorem Zqy (x : Nat) (m : Bool) (w : World) : RowW (w.alloc (.cells #[.bool m, .int .i64 (x : Int)] 64)) (.slice (some ⟨w.heap.size, 0, none⟩) 1 1) [(m, x)] := World.ownsRow_lit w #[.bool m, .int .i64 (x : Int)] 1 (Nat.zero_le _) (by decide) rfl
theorem Zpv (hM : WM W p fv vs G) {x e : Nat} (hx : vs[x]? = some (e : Int)) (hzG : (2 : Int) ^ e ∈ G) : Calls Tryz.prog 23 #[.pointer (some ⟨p, 0, none⟩), .int .i64 (x : Int)] W (PostG W p fv vs G ((2 : Int) ^ e)) := by
 have hxw := hM.L.wrap hx
 have hb : Below W.heap.size W (W.alloc (.cells #[.bool false, .int .i64 (x : Int)] 64)) := (zb).alloc (zl) _
 have hA := Ze2 (hM.below hb) (Zqy x false W) (show TMs vs [(false, x)] (naf ((2 : Int) ^ e)) by rw [Zjc]; exact ⟨⟨rfl, hx⟩, trivial⟩) hzG
 have HA := zh hA
 have HX := zh (zi hM hb)
 clear hx hM hzG hb hA
 go_enter Tryz.func23, Tryz.ntmps23
 go_wp2_with (first
   | (go_at_call 37; refine (HA.out).mono ?_; rintro e6 w6 ⟨f6, s6, i6, rfl, hg6, hi6⟩
      have H6 := zh (zi hg6 hi6)
      clear hg6 hi6))
 refine bodyPost_ret (v := .int .i64 (i6 : Int)) (by simp [results, Tryz.results23, go_sem]) rfl ?_
 exact ⟨f6, s6, i6, rfl, ((Grow.refl HX.out.1).below HX.out.2).trans H6.out.1, H6.out.2⟩
theorem Zi1 {l : List Tm} {k : Nat} (h : k < l.length) : val (l.take (k + 1)) = val (l.take k) + tv l[k] := by
 rw [List.take_succ_eq_append_getElem h, Za2]
 simp [val]
end
section
open Go.RowKit
variable {W W' W1 W2 : World} {p n n' : Nat} {fv fv' fv1 : Value} {vs vs' vs1 G : List Int}
def flipW (t : Wt) : Wt := (!t.1, t.2)
theorem TMs.flip : ∀ {ts : List Wt} {l : List Tm}, TMs vs ts l → TMs vs (ts.map flipW) (l.map flipT)
 | [], [], _ => trivial
 | t :: ts, u :: l, h => ⟨⟨by simp [flipW, flipT, h.1.1], h.1.2⟩, h.2.flip⟩
 | [], u :: l, h => h.elim
 | t :: ts, [], h => h.elim
def flipUp (ts : List Wt) (k : Nat) : List Wt := (ts.take k).map flipW ++ ts.drop k
theorem Zk5 (ts : List Wt) : flipUp ts 0 = ts := by simp [flipUp]
theorem Zmy (ts : List Wt) : flipUp ts ts.length = ts.map flipW := by simp [flipUp]
theorem Zia {ts : List Wt} {k : Nat} {m : Bool} {x : Nat} (h : ts[k]? = some (m, x)) : (flipUp ts k)[k]? = some (m, x) := by
 have hk := (List.getElem?_eq_some_iff.1 h).1
 unfold flipUp
 rw [List.getElem?_append_right (by simp; omega)]
 simp [List.length_take, Nat.min_eq_left (Nat.le_of_lt hk), h]
theorem Zk6 {ts : List Wt} {k : Nat} {m : Bool} {x : Nat} (h : ts[k]? = some (m, x)) : (flatW (flipUp ts k)).set (k * 2) (.bool (!m)) = flatW (flipUp ts (k + 1)) := by
 rw [Zgx (Zia h)]
 congr 1
 obtain ⟨hk, he⟩ := List.getElem?_eq_some_iff.1 h
 unfold flipUp
 rw [List.take_succ_eq_append_getElem hk, List.map_append, List.append_assoc]
 rw [List.set_append_right _ _ (by simp; omega)]
 congr 1
 simp [List.length_take, Nat.min_eq_left (Nat.le_of_lt hk), flipW, he]
 rw [List.drop_eq_getElem_cons hk, he]; rfl
theorem wNeg_G (hM : WM W p fv vs G) {x : Nat} {z : Int} (hx : vs[x]? = some z) (hzG : -z ∈ G) : Calls Tryz.prog 43 #[.pointer (some ⟨p, 0, none⟩), .int .i64 (x : Int)] W (PostG W p fv vs G (-z)) := by
 have h := hM.L
 obtain ⟨b, c, v, f, efv, hcb, hrf, htf, hpl, hw⟩ := h.form hx
 obtain ⟨x0, x1⟩ := h.cell
 have hxl : (x : Int) < (vs.length : Int) := by have := (List.getElem?_eq_some_iff.1 hx).1; omega
 have hc := h.count
 unfold gMax at hc
 subst efv
 obtain ⟨i0, hi0, hy0, hy1, hy2⟩ := info_parts infoeW
 have HH := zh (zi hi0 (zi hy0 (zi hy1 hy2)))
 have hrv := RowV.of_own hrf
 obtain ⟨aF, cF, rfl⟩ := hrv.shape
 have hlen := htf.len
 obtain ⟨M, hN⟩ : ∃ M, M = vs.length := ⟨_, rfl⟩
 obtain ⟨F, hF⟩ : ∃ F, F = f.length := ⟨_, rfl⟩
 have hF3 : F ≤ 30000 := by unfold wt at hw; omega
 have hF4 : (F : Int) ≤ 30000 := by omega
 rw [← hN] at hxl x0
 have hba : Below W.heap.size W (W.alloc (.cells #[] 64)) := (zb).alloc (zl) _
 have xa := (hba.cell (p := ⟨p, 0, none⟩) h.plt).trans x0
 rw [← hF] at hcb
 have hca := (hba.cell (p := ⟨b, x, none⟩) (World.block_lt_of_cell? _ _ hcb)).trans hcb
 have hc2 : (M : Int) ≤ 1000000000000 := by omega
 rw [← hF] at hrv
 have HX := zh (zi hM (zi hrv (zi htf (zi hF (zi hzG hN)))))
 clear h hx hM hzG hrf hrv htf hpl hw hi0 hy0 hy1 hy2 hc hlen hF hN hba
 go_enter Tryz.func43, Tryz.ntmps43
 go_upto_region 3 with (first
   | (at_builtin; refine Zaf rfl _ _ 41 rfl W.heap.size 64 i0 zW 2 16 Tryz.underlying41 HH.out.1 HH.out.2.1 HH.out.2.2.1 HH.out.2.2.2 rfl (by decide) _ 0 [] rfl (World.ownsRow_lit W #[] 0 (zl) (by decide) rfl) _ F (flatW f) rfl (HX.out.2.1.below ((zb).alloc (zl) _) (zl)) (Zba _) (by unfold maxLen; omega) (by omega) (by simp) ?_; intro v7 w7 hown7 hg7
      rw [Nat.zero_add, List.nil_append] at hown7
      obtain ⟨a7, c7, rfl⟩ := (RowV.of_own hown7).shape
      have hb7 : Below W.heap.size W w7 := Zbq ((zb).alloc (zl) _) hg7 (zl)
      have H7 := zh (zi hown7 hb7)
      clear hown7 hg7 hb7))
 clear x0 x1 hcb xa hca
 go_loopw [6] (fun i wl => ∃ k : Nat, k ≤ F ∧ i = .int .i64 (k : Int) ∧ wl.ownsRow W.heap.size 64 2 (.slice a7 F c7) F (flatW (flipUp f k)) ∧ Below W.heap.size W wl) (fun i _ => F - (intOf i).toNat)
 case atStart => exact ⟨0, by omega, rfl, by rw [Zk5]; exact H7.out.1, H7.out.2⟩
 case round =>
   obtain ⟨k, hkF, rfl, hown, hB⟩ := hrel
   obtain ⟨hM, hrv, htf, hF, hzG, hN⟩ := HX.out
   by_cases hk : k < F
   · have hk' : (k : Int) < (F : Int) := by omega
     obtain ⟨bo, co, eo⟩ := Go.Joins.ownsRow_form hown (by omega)
     cases eo
     obtain ⟨m1, x1, hm1⟩ : ∃ m x, f[k]? = some (m, x) := ⟨_, _, List.getElem?_eq_getElem (by omega)⟩
     have hg := Zia hm1
     have hst := Zk6 hm1
     have hc0 : (flatW (flipUp f k))[k * 2]? = some (.bool m1) := by
       obtain ⟨h1, h2⟩ := List.getElem?_eq_some_iff.1 hg
       have := (Ze1 (flipUp f k) k h1).1
       rw [h2] at this; exact this
     have q0 := (hown.cellAt (k * 2) (by omega)).trans hc0
     have f0 := hown.frozenAt (k * 2)
     have hsto := hown.stored (k * 2) (.bool (!m1))
     rw [hst] at hsto
     have hbo := (hown.lt bo rfl).1
     have HQ := zh (zi hsto (zi hbo hB))
     clear hM hrv htf hF hzG hN hown hB hm1 hg hst hc0 hsto hbo hk hkF
     go_wp2
     refine ⟨⟨k + 1, by omega, by go_num, HQ.out.1.1, HQ.out.2.2.grown HQ.out.1.2 HQ.out.2.2.size (fun q hq => by cases hq; exact HQ.out.2.1)⟩, by simp [intOf]; omega⟩
   · have hkn : k = F := by omega
     have hk' : ¬ (k : Int) < (F : Int) := by omega
     rw [hkn, hF, Zmy, ← hF] at hown
     have hr : RowW wr (.slice a7 F c7) (f.map flipW) := by
       unfold RowW
       rw [List.length_map, ← hF]
       exact Zah hown (Nat.zero_le _)
     have HAT := zh (Ze2 (hM.below hB) hr (by rw [Zd3]; exact htf.flip) hzG)
     have HG := zh ((Grow.refl hM).below hB)
     clear hM hrv htf hF hzG hown hB hr hkn hkF hk
     go_wp2_with (first
       | (go_at_call 37; refine (HAT.out).mono ?_; rintro e6 w6 ⟨f6, s6, i6, rfl, hg6, hi6⟩
          have H6 := zh (zi hg6 hi6)
          clear hg6 hi6))
     refine bodyPost_ret (v := .int .i64 (i6 : Int)) (by simp [results, Tryz.results43, go_sem]) rfl ?_
     have hfin := HG.out.trans H6.out.1
     first
       | exact ⟨f6, s6, i6, rfl, hfin, H6.out.2⟩
       | (rw [hN]; exact ⟨f6, s6, i6, rfl, hfin, H6.out.2⟩)
       | (rw [← hN] at hfin; exact ⟨f6, s6, i6, rfl, hfin, H6.out.2⟩)
end
section
variable {vs : List Int}
def vAt (vs : List Int) (p : Nat) : Int := vs.getD p 0
theorem Zc0 {p : Nat} {y : Int} (h : vs[p]? = some y) : vAt vs p = y := by unfold vAt; rw [List.getD_eq_getElem?_getD, h]; rfl
def Ahead (vs : List Int) : Prop := ∀ (i : Nat) (y : Int), vs[i]? = some y → ∀ t ∈ naf y, ∃ k, k < i ∧ vs[k]? = some (t.2 : Int)
structure MarkP (vs : List Int) (x : Nat) (z : Int) (i : Nat) (b : List Bool) : Prop where
 len : b.length = x + 1
 top : b[x]? = some true
 part : ∀ (j : Nat) (y : Int), b[j]? = some true → vs[j]? = some y → y ∈ partsZ z
 closed : ∀ j : Nat, i ≤ j → b[j]? = some true → ∀ y : Int, vs[j]? = some y → ∀ t ∈ naf y, ∀ k : Nat, vs[k]? = some (t.2 : Int) → b[k]? = some true
theorem Zgk {b : List Bool} {j k : Nat} (h : b[k]? = some true) : (b.set j true)[k]? = some true := by
 rw [List.getElem?_set]
 split
 · rename_i e
   subst e
   rw [if_pos (List.getElem?_eq_some_iff.1 h).1]
 · exact h
theorem Zk7 {b : List Bool} {j k : Nat} (h : (b.set j true)[k]? = some true) : k = j ∨ b[k]? = some true := by
 rw [List.getElem?_set] at h
 split at h
 · rename_i e; exact .inl e.symm
 · exact .inr h
variable {x i : Nat} {z : Int} {b : List Bool}
theorem MarkP.start (hx : vs[x]? = some z) : MarkP vs x z (x + 1) ((List.replicate (x + 1) false).set x true) := by
 refine ⟨by simp, by simp, fun j y h hj => ?_, fun j hj h => ?_⟩
 · rcases Zk7 h with e | e
   · subst e; rw [hx] at hj; cases hj; exact Za5 z
   · rw [List.getElem?_replicate] at e; split at e <;> simp at e
 · have := (List.getElem?_eq_some_iff.1 h).1
   simp at this; omega
theorem MarkP.skip (h : MarkP vs x z (i + 1) b) (hb : b[i]? ≠ some true) : MarkP vs x z i b :=
 ⟨h.len, h.top, h.part, fun j hj hm => by
   by_cases e : j = i
   · subst e; exact absurd hm hb
   · exact h.closed j (by omega) hm⟩
theorem MarkP.mark {y : Int} {t : Tm} {k : Nat} (h : MarkP vs x z (i + 1) b) (hi : i ≤ x) (hn : vs.Nodup) (ha : Ahead vs) (hb : b[i]? = some true) (hy : vs[i]? = some y) (ht : t ∈ naf y) (hk : vs[k]? = some (t.2 : Int)) : MarkP vs x z (i + 1) (b.set k true) ∧ k < i ∧ k < b.length := by
 obtain ⟨k', h1, h2⟩ := ha i y hy t ht
 have hkk : k' = k := Zbj hn h2 hk
 subst hkk
 have hl := h.len
 refine ⟨⟨by rw [List.length_set]; exact h.len, Zgk h.top, fun j u hj hu => ?_, fun j hj hm u hu s hs l hl => ?_⟩, h1, by omega⟩
 · rcases Zk7 hj with e | e
   · subst e
     rw [hk] at hu; cases hu
     exact Zaz z y (h.part i y hb hy) t ht
   · exact h.part j u e hu
 · rcases Zk7 hm with e | e
   · omega
   · exact Zgk (h.closed j hj e u hu s hs l hl)
theorem MarkP.next {y : Int} (h : MarkP vs x z (i + 1) b) (hn : vs.Nodup) (hy : vs[i]? = some y) (hall : ∀ t ∈ naf y, ∀ k : Nat, vs[k]? = some (t.2 : Int) → b[k]? = some true) : MarkP vs x z i b :=
 ⟨h.len, h.top, h.part, fun j hj hm u hu t ht k hk => by
   by_cases e : j = i
   · subst e; rw [hy] at hu; cases hu; exact hall t ht k hk
   · exact h.closed j (by omega) hm u hu t ht k hk⟩
theorem MarkP.all (h : MarkP vs x z 0 b) (hx : vs[x]? = some z) (ha : Ahead vs) : ∀ y ∈ partsZ z, ∃ j : Nat, b[j]? = some true ∧ vs[j]? = some y := by
 let C := (List.range (x + 1)).filterMap (fun j => if b[j]? = some true then vs[j]? else none)
 have hC : ∀ y, y ∈ C ↔ ∃ j : Nat, b[j]? = some true ∧ vs[j]? = some y := by
   intro y
   constructor
   · intro hy
     obtain ⟨j, _, hj⟩ := List.mem_filterMap.1 hy
     split at hj
     · rename_i e; exact ⟨j, e, hj⟩
     · cases hj
   · rintro ⟨j, h1, h2⟩
     have hl := (List.getElem?_eq_some_iff.1 h1).1
     rw [h.len] at hl
     exact List.mem_filterMap.2 ⟨j, List.mem_range.2 hl, by rw [if_pos h1]; exact h2⟩
 intro y hy
 refine (hC y).1 (Zb6 (C := C) ?_ ((hC z).2 ⟨x, h.top, hx⟩) y hy)
 intro p hp t ht
 obtain ⟨j, h1, h2⟩ := (hC p).1 hp
 obtain ⟨k, h3, h4⟩ := ha j p h2 t ht
 exact (hC _).2 ⟨k, h.closed j (Nat.zero_le _) h1 p h2 t ht k h4, h4⟩
def gath (b : List Bool) (n : Nat) : List Nat := (List.range n).filter (fun j => b[j]? == some true)
theorem Zoc (b : List Bool) (n : Nat) : gath b (n + 1) = if b[n]? = some true then gath b n ++ [n] else gath b n := by
 unfold gath
 rw [List.range_succ, List.filter_append]
 by_cases h : b[n]? = some true
 · rw [if_pos h]; simp [h]
 · rw [if_neg h]
   simp [h]
theorem Zl8 (b : List Bool) (n : Nat) : (gath b n).length ≤ n := by
 unfold gath
 have := List.length_filter_le (fun j => b[j]? == some true) (List.range n)
 simpa using this
theorem Zi2 {n p : Nat} : p ∈ gath b n ↔ p < n ∧ b[p]? = some true := by
 unfold gath
 rw [List.mem_filter, List.mem_range]
 simp
theorem Zod (h : MarkP vs x z 0 b) (hx : vs[x]? = some z) (ha : Ahead vs) (hn : vs.Nodup) (hxl : x < vs.length) : ((gath b x).map (vAt vs)).Perm (partsZ z).dropLast := by
 have hpl : ∀ p ∈ gath b x, ∃ y, vs[p]? = some y ∧ b[p]? = some true ∧ p < x := fun p hp => by
   obtain ⟨h1, h2⟩ := Zi2.1 hp
   exact ⟨_, List.getElem?_eq_getElem (by omega), h2, h1⟩
 have hnd : ((gath b x).map (vAt vs)).Nodup := by
   refine List.pairwise_map.2 (List.Pairwise.imp_of_mem ?_ (List.Nodup.sublist List.filter_sublist List.nodup_range : (gath b x).Nodup))
   intro p q hp hq hpq e
   obtain ⟨y, h1, _⟩ := hpl p hp
   obtain ⟨u, h2, _⟩ := hpl q hq
   rw [Zc0 h1, Zc0 h2] at e
   subst e
   exact hpq (Zbj hn h1 h2)
 have hsp := Zc3 z
 have hpn := Zbx z
 rw [hsp] at hpn
 have hz : z ∉ (partsZ z).dropLast := fun hm => (List.nodup_append.1 hpn).2.2 z hm z (by simp) rfl
 refine (List.perm_ext_iff_of_nodup hnd (List.nodup_append.1 hpn).1).2 fun y => ⟨fun hy => ?_, fun hy => ?_⟩
 · obtain ⟨p, hp, rfl⟩ := List.mem_map.1 hy
   obtain ⟨y, h1, h2, h3⟩ := hpl p hp
   rw [Zc0 h1]
   have hm := h.part p y h2 h1
   rw [hsp] at hm
   rcases List.mem_append.1 hm with a | a
   · exact a
   · rw [List.mem_singleton.1 a] at h1
     have := Zbj hn h1 hx
     omega
 · have hm : y ∈ partsZ z := by rw [hsp]; exact List.mem_append_left _ hy
   obtain ⟨j, h1, h2⟩ := h.all hx ha y hm
   have hjl := (List.getElem?_eq_some_iff.1 h1).1
   rw [h.len] at hjl
   have hjx : j ≠ x := fun e => by
     subst e
     rw [hx] at h2; cases h2
     exact hz hy
   exact List.mem_map.2 ⟨j, Zi2.2 ⟨by omega, h1⟩, Zc0 h2⟩
structure InsP (vs : List Int) (ps0 : List Nat) (i k : Nat) (ps : List Nat) : Prop where
 perm : ps.Perm ps0
 split : ∃ A B v R, ps = A ++ v :: (B ++ R) ∧ A.length = k ∧ A.length + B.length = i ∧ (A ++ B).Pairwise (fun a b => vAt vs a ≤ vAt vs b) ∧ ∀ b ∈ B, vAt vs v ≤ vAt vs b
structure SortP (vs : List Int) (ps0 : List Nat) (i : Nat) (ps : List Nat) : Prop where
 perm : ps.Perm ps0
 sorted : (ps.take i).Pairwise (fun a b => vAt vs a ≤ vAt vs b)
variable {ps ps0 : List Nat} {k : Nat}
theorem SortP.start (ps : List Nat) : SortP vs ps 1 ps := ⟨List.Perm.refl _, by cases ps <;> simp⟩
theorem SortP.ins (h : SortP vs ps0 i ps) (hi : i < ps.length) : InsP vs ps0 i i ps := by
 refine ⟨h.perm, ps.take i, [], ps[i], ps.drop (i + 1), ?_, by simp; omega, by simp; omega, by simpa using h.sorted, by simp⟩
 rw [List.nil_append, ← List.drop_eq_getElem_cons hi, List.take_append_drop]
theorem InsP.swap (h : InsP vs ps0 i (k + 1) ps) {a v : Nat} (ha : ps[k]? = some a) (hv : ps[k + 1]? = some v) (hlt : vAt vs v < vAt vs a) : InsP vs ps0 i k ((ps.set k v).set (k + 1) a) := by
 obtain ⟨hp, A, B, v', R, e, h1, h2, h3, h4⟩ := h
 obtain ⟨A', a', rfl⟩ : ∃ A' a', A = A' ++ [a'] := ⟨A.dropLast, A.getLast (by intro h0; rw [h0] at h1; simp at h1), (List.dropLast_concat_getLast _).symm⟩
 simp only [List.length_append, List.length_singleton] at h1 h2
 have hk : A'.length = k := by omega
 subst hk
 subst e
 have e1 : a' = a := by
   rw [List.append_assoc, List.getElem?_append_right (by omega)] at ha
   simpa using ha
 have e2 : v' = v := by
   rw [List.append_assoc, List.getElem?_append_right (by omega)] at hv
   simpa using hv
 subst e1 e2
 have es : ((A' ++ [a'] ++ v' :: (B ++ R)).set A'.length v').set (A'.length + 1) a' = A' ++ v' :: (a' :: B ++ R) := by
   rw [List.append_assoc, List.set_append_right _ _ (by omega), List.set_append_right _ _ (by omega)]
   simp
 rw [es]
 refine ⟨List.Perm.trans ?_ hp, A', a' :: B, v', R, by simp, rfl, by simp only [List.length_cons]; omega, by simpa using h3, fun b hb => ?_⟩
 · rw [List.append_assoc]
   exact List.Perm.append_left _ (List.Perm.swap ..)
 · rcases List.mem_cons.1 hb with rfl | hb
   · omega
   · exact h4 b hb
theorem InsP.ends (h : InsP vs ps0 i k ps) (hk : k = 0 ∨ ∃ a v, k ≠ 0 ∧ ps[k - 1]? = some a ∧ ps[k]? = some v ∧ vAt vs a ≤ vAt vs v) : SortP vs ps0 (i + 1) ps := by
 obtain ⟨hp, A, B, v', R, e, h1, h2, h3, h4⟩ := h
 refine ⟨hp, ?_⟩
 have ht : ps.take (i + 1) = A ++ v' :: B := by
   rw [e, show A ++ v' :: (B ++ R) = (A ++ v' :: B) ++ R by simp]
   exact List.take_left' (by simp; omega)
 rw [ht]
 obtain ⟨hA, hB, hAB⟩ := List.pairwise_append.1 h3
 refine List.pairwise_append.2 ⟨hA, List.pairwise_cons.2 ⟨h4, hB⟩, fun a ha b hb => ?_⟩
 have hav : vAt vs a ≤ vAt vs v' := by
   rcases hk with h0 | ⟨l, v, h0, hl, hv, hle⟩
   · rw [h0] at h1
     rw [List.length_eq_zero_iff.1 h1] at ha
     simp at ha
   · obtain ⟨A', a', rfl⟩ : ∃ A' a', A = A' ++ [a'] := ⟨A.dropLast, A.getLast (by intro h9; rw [h9] at ha; simp at ha), (List.dropLast_concat_getLast _).symm⟩
     simp only [List.length_append, List.length_singleton] at h1
     subst h1
     rw [e] at hl hv
     have e1 : a' = l := by
       rw [List.append_assoc, List.getElem?_append_right (by omega)] at hl
       simpa using hl
     have e2 : v' = v := by
       rw [List.append_assoc, List.getElem?_append_right (by omega)] at hv
       simpa using hv
     subst e1 e2
     rcases List.mem_append.1 ha with x | x
     · have := (List.pairwise_append.1 hA).2.2 a x a' (by simp)
       omega
     · rw [List.mem_singleton.1 x]; exact hle
 rcases List.mem_cons.1 hb with rfl | hb
 · exact hav
 · have := h4 b hb; omega
theorem SortP.all (h : SortP vs ps0 i ps) (hi : ps.length ≤ i) (h0 : (ps0.map (vAt vs)).Perm (partsZ z).dropLast) (hx : vAt vs x = z) : (ps ++ [x]).map (vAt vs) = listZ z := by
 unfold listZ
 rw [List.map_append, List.map_singleton, hx]
 congr 1
 refine Zjj ((h.perm.map _).trans h0) ?_
 have := h.sorted
 rw [List.take_of_length_le hi] at this
 rw [List.pairwise_map]
 exact this
end
section
open Go.RowKit
variable {W W' W1 W2 : World} {p n n' : Nat} {fv fv' fv1 : Value} {vs vs' vs1 G : List Int}
theorem pow63 : (2 : Int) ^ 63 = 9223372036854775808 := by decide
structure OfP (z left : Int) (k : Nat) (y : Int) : Prop where
 eq : z = left * 2 ^ k + y
 up : 0 ≤ z → 0 ≤ left ∧ 0 ≤ y
 down : z ≤ 0 → left ≤ 0 ∧ y ≤ 0
theorem OfP.small {z left y : Int} {k : Nat} (h : OfP z left k y) (hz : -9223372036854775808 ≤ z ∧ z ≤ 9223372036854775807) : (-9223372036854775808 ≤ left ∧ left ≤ 9223372036854775807) ∧ (-(2 : Int) ^ 63 ≤ y ∧ y ≤ (2 : Int) ^ 63) ∧ (left ≠ 0 → k ≤ 63) := by
 have hp := pow_pos k
 have h1 : 0 ≤ left → left ≤ left * 2 ^ k := fun h => by
   have := Int.mul_le_mul_of_nonneg_left (show (1 : Int) ≤ 2 ^ k by omega) h
   omega
 have h2 : left ≤ 0 → left * 2 ^ k ≤ left := fun h => by
   have := Int.mul_le_mul_of_nonneg_left (show (1 : Int) ≤ 2 ^ k by omega) (show 0 ≤ -left by omega)
   simp only [Int.neg_mul, Int.mul_one] at this
   omega
 have h0 := h.eq
 rw [pow63]
 refine ⟨?_, ?_, fun hl => ?_⟩
 · rcases Int.le_total 0 z with a | a
   · have := h.up a; have := h1 this.1; omega
   · have := h.down a; have := h2 this.1; omega
 · rcases Int.le_total 0 z with a | a
   · have := h.up a; have := h1 this.1; omega
   · have := h.down a; have := h2 this.1; omega
 · rcases Nat.lt_or_ge 63 k with c | c
   · exfalso
     have hb := Zc2 (a := 64) (b := k) (by omega)
     rw [Zai 63, pow63] at hb
     rcases Int.lt_or_gt_of_ne hl with a | a
     · have h3 := Int.mul_le_mul_of_nonneg_right (show left ≤ -1 by omega) (show (0 : Int) ≤ 2 ^ k by omega)
       have : z ≤ 0 := by
         rcases Int.le_total 0 z with b | b
         · have := h.up b; omega
         · exact b
       have := h.down this
       omega
     · have h3 := Int.mul_le_mul_of_nonneg_right (show 1 ≤ left by omega) (show (0 : Int) ≤ 2 ^ k by omega)
       have : 0 ≤ z := by
         rcases Int.le_total z 0 with b | b
         · have := h.down b; omega
         · exact b
       have := h.up this
       omega
   · exact c
theorem Zl9 (a : Int) : a = 2 * a.tdiv 2 + a.tmod 2 ∧ (0 ≤ a → 0 ≤ a.tdiv 2 ∧ 0 ≤ a.tmod 2 ∧ a.tmod 2 ≤ 1) ∧ (a ≤ 0 → a.tdiv 2 ≤ 0 ∧ a.tmod 2 ≤ 0 ∧ -1 ≤ a.tmod 2) := by
 have h := Int.mul_tdiv_add_tmod a 2
 have t1 := Int.tmod_lt_of_pos a (show (0 : Int) < 2 by omega)
 have t2 := Int.lt_tmod_of_pos a (show (0 : Int) < 2 by omega)
 refine ⟨by omega, fun h0 => ?_, fun h0 => ?_⟩
 · have := Int.tmod_nonneg 2 h0
   omega
 · have h3 := Int.tmod_nonneg 2 (show 0 ≤ -a by omega)
   rw [Int.neg_tmod] at h3
   omega
theorem OfP.step {z left y : Int} {k : Nat} (h : OfP z left k y) : OfP z (left.tdiv 2) (k + 1) (y + left.tmod 2 * 2 ^ k) := by
 obtain ⟨e, u, d⟩ := Zl9 left
 have hp := pow_pos k
 have h0 := h.eq
 refine ⟨?_, fun hz => ?_, fun hz => ?_⟩
 · rw [Zai]
   have e3 : left.tdiv 2 * (2 * 2 ^ k) = 2 * (left.tdiv 2 * 2 ^ k) := Int.mul_left_comm _ _ _
   have e4 : left * 2 ^ k = 2 * (left.tdiv 2 * 2 ^ k) + left.tmod 2 * 2 ^ k := by
     conv => lhs; rw [e]
     rw [Int.add_mul, Int.mul_assoc]
   omega
 · obtain ⟨a, b⟩ := h.up hz
   obtain ⟨c1, c2, c3⟩ := u a
   have := Int.mul_nonneg c2 (show (0 : Int) ≤ 2 ^ k by omega)
   omega
 · obtain ⟨a, b⟩ := h.down hz
   obtain ⟨c1, c2, c3⟩ := d a
   have := Int.mul_nonneg (show 0 ≤ -(left.tmod 2) by omega) (show (0 : Int) ≤ 2 ^ k by omega)
   rw [Int.neg_mul] at this
   omega
theorem wt64 {y : Int} (hy : -(2 : Int) ^ 63 ≤ y ∧ y ≤ (2 : Int) ^ 63) : wt y ≤ 65 ∧ ∀ t ∈ naf y, t.2 < 65 :=
 ⟨(Zea (b := 63) hy.2 hy.1 (by omega)).2.2, Zih hy.2 hy.1⟩
theorem wOf_G (hM : WM W p fv vs G) {z : Int} (iz : i64 z) (hzG : z ∈ G) : Calls Tryz.prog 9 #[.pointer (some ⟨p, 0, none⟩), .int .i64 z] W (PostG W p fv vs G z) := by
 unfold i64 at iz
 have HX := zh (zi hM (zi hzG iz))
 clear hM hzG
 go_enter Tryz.func9, Tryz.ntmps9
 go_upto_region 4 with fail
 go_loopw [5, 6, 7] (fun o l e wl => ∃ (left y : Int) (k i : Nat) (fk : Value) (vk : List Int) (l' : List Wt), l = .int .i64 left ∧ e = .int .i64 (i : Int) ∧ OfP z left k y ∧ Grow W p fv vs G fk vk wl ∧ RowW wl o l' ∧ TMs vk l' (naf y) ∧ vk[i]? = some (k : Int)) (fun _ l _ _ => (intOf l).natAbs)
 case atStart =>
   refine ⟨z, 0, 0, 0, fv, vs, [], rfl, rfl, ⟨by simp, fun h => ⟨h, Int.le_refl _⟩, fun h => ⟨h, Int.le_refl _⟩⟩, (Grow.refl HX.out.1).below ((zb).alloc (zl) _), World.ownsRow_lit W #[] 0 (Nat.zero_le _) (by decide) rfl, ?_, ?_⟩
   · simp [Zef, TMs]
   · exact HX.out.1.first
 case round =>
   obtain ⟨left, y, k, i, fk, vk, l', rfl, rfl, hP, hg, ho, hto, hi⟩ := hrel
   obtain ⟨hM, hzG, hz⟩ := HX.out
   obtain ⟨hl, hy, hk⟩ := hP.small hz
   obtain ⟨ao, co, rfl⟩ := (RowV.of_own ho).shape
   obtain ⟨hw, he⟩ := wt64 hy
   by_cases h0 : left = 0
   · subst h0
     have hyz : y = z := by have := hP.eq; omega
     subst hyz
     have HAT := zh (Ze2 hg.1 ho hto hzG)
     have HG := zh hg
     clear hM hzG hz hl hy hk hw he hP hg ho hto hi
     go_wp2_with (first
       | (go_at_call 37; refine (HAT.out).mono ?_; rintro e6 w6 ⟨f6, s6, i6, rfl, hg6, hi6⟩
          have H6 := zh (zi hg6 hi6)
          clear hg6 hi6))
     refine bodyPost_ret (v := .int .i64 (i6 : Int)) (by simp [results, Tryz.results9, go_sem]) rfl ?_
     exact ⟨f6, s6, i6, rfl, HG.out.trans H6.out.1, H6.out.2⟩
   · have hk63 := hk h0
     obtain ⟨e2, u2, d2⟩ := Zl9 left
     obtain ⟨q, hq⟩ : ∃ q, q = left.tdiv 2 := ⟨_, rfl⟩
     obtain ⟨r, hr⟩ : ∃ r, r = left.tmod 2 := ⟨_, rfl⟩
     have hP2 := hP.step
     rw [← hq, ← hr] at e2 u2 d2 hP2
     have hmeas : q.natAbs < left.natAbs := by
       rcases Int.le_total 0 left with a | a
       · have := u2 a; omega
       · have := d2 a; omega
     have hr3 : r = 0 ∨ r = 1 ∧ 0 < left ∨ r = -1 ∧ left < 0 := by
       rcases Int.le_total 0 left with a | a
       · have := u2 a; omega
       · have := d2 a; omega
     have w1 : IntKind.i64.wrap (left.tmod 2) = r := by rw [← hr]; exact IntWalk.i64_in _ (by omega)
     have w2 : IntKind.i64.wrap (left.tdiv 2) = q := by rw [← hq]; exact IntWalk.i64_in _ (by omega)
     have hl0 : (left == 0) = false := by rw [beq_eq_false_iff_ne]; exact h0
     have hkG : ((k + 1 : Nat) : Int) ∈ G := hM.ok.low _ (by omega)
     have HP2 := zh (zi hP2 hmeas)
     rcases hr3 with rfl | ⟨rfl, hs⟩ | ⟨rfl, hs⟩
     · have hrb : (left.tmod 2 == 0) = true := by rw [← hr]; rfl
       have w3 : IntKind.i64.wrap 0 = 0 := rfl
       have HNX := zh (wnext hg.1 hi hkG)
       have HG := zh (zi hg (zi ho hto))
       clear hM hzG hz hl hy hk hw he hP hg ho hto hi hP2 hmeas e2 u2 d2 hq hr hkG h0 hk63
       go_wp2_with (first
         | (go_at_call 36; refine (HNX.out).mono ?_; rintro e6 w6 ⟨f6, s6, i6, rfl, hg6, hi6⟩
            have H6 := zh (zi hg6 hi6)
            clear hg6 hi6))
       refine ⟨⟨q, y, k + 1, i6, f6, s6, l', rfl, rfl, ?_, HG.out.1.trans H6.out.1, Grow.row HG.out.1.1 H6.out.1 HG.out.2.1, HG.out.2.2.mono H6.out.1.2.1, H6.out.2⟩, HP2.out.2⟩
       have h := HP2.out.1
       rw [Int.zero_mul, Int.add_zero] at h
       exact h
     · have hrb : (left.tmod 2 == 0) = false := by rw [← hr]; rfl
       have hlt : decide (left < 0) = false := by first | exact decide_eq_false (by omega) | exact decide_eq_true (by omega)
       have hgp : GP G (naf y) (false, k) := ⟨fun j h1 h2 => hM.ok.low _ (by
           have := Zn1 (naf y) (false, k)
           unfold wt at hw
           simp only; omega), fun x hx _ => hM.ok.low _ (by have := he x hx; omega)⟩
       have hPL := wplus hg.1 ho hto hi (by omega) hgp
       have HPL := zh hPL
       have HG := zh hg
       have HI := zh (zi hi hkG)
       clear hM hzG hz hl hy hk hw he hP hg ho hto hi hP2 hmeas e2 u2 d2 hq hr hkG h0 hk63 hs hPL hgp
       go_wp2_with (first
         | (go_at_call 35; refine (HPL.out).mono ?_; rintro e5 w5 ⟨f5, s5, v5, l5, rfl, hg5, hr5, ht5⟩
            obtain ⟨a5, c5, rfl⟩ := (RowV.of_own hr5).shape
            have HNX := zh (wnext hg5.1 (Zci hg5.2.1 HI.out.1) HI.out.2)
            have H5 := zh (zi hg5 (zi hr5 ht5))
            clear hg5 hr5 ht5)
         | (go_at_call 36; refine (HNX.out).mono ?_; rintro e6 w6 ⟨f6, s6, i6, rfl, hg6, hi6⟩
            have H6 := zh (zi hg6 hi6)
            clear hg6 hi6))
       refine ⟨⟨q, y + tv (false, k), k + 1, i6, f6, s6, l5, rfl, rfl, ?_, (HG.out.trans H5.out.1).trans H6.out.1, Grow.row H5.out.1.1 H6.out.1 H5.out.2.1, H5.out.2.2.mono H6.out.1.2.1, H6.out.2⟩, HP2.out.2⟩
       have h := HP2.out.1
       have e : tv (false, k) = (1) * (2 : Int) ^ k := by simp [tv, sg]
       rw [e]
       exact h
     · have hrb : (left.tmod 2 == 0) = false := by rw [← hr]; rfl
       have hlt : decide (left < 0) = true := by first | exact decide_eq_false (by omega) | exact decide_eq_true (by omega)
       have hgp : GP G (naf y) (true, k) := ⟨fun j h1 h2 => hM.ok.low _ (by
           have := Zn1 (naf y) (true, k)
           unfold wt at hw
           simp only; omega), fun x hx _ => hM.ok.low _ (by have := he x hx; omega)⟩
       have hPL := wplus hg.1 ho hto hi (by omega) hgp
       have HPL := zh hPL
       have HG := zh hg
       have HI := zh (zi hi hkG)
       clear hM hzG hz hl hy hk hw he hP hg ho hto hi hP2 hmeas e2 u2 d2 hq hr hkG h0 hk63 hs hPL hgp
       go_wp2_with (first
         | (go_at_call 35; refine (HPL.out).mono ?_; rintro e5 w5 ⟨f5, s5, v5, l5, rfl, hg5, hr5, ht5⟩
            obtain ⟨a5, c5, rfl⟩ := (RowV.of_own hr5).shape
            have HNX := zh (wnext hg5.1 (Zci hg5.2.1 HI.out.1) HI.out.2)
            have H5 := zh (zi hg5 (zi hr5 ht5))
            clear hg5 hr5 ht5)
         | (go_at_call 36; refine (HNX.out).mono ?_; rintro e6 w6 ⟨f6, s6, i6, rfl, hg6, hi6⟩
            have H6 := zh (zi hg6 hi6)
            clear hg6 hi6))
       refine ⟨⟨q, y + tv (true, k), k + 1, i6, f6, s6, l5, rfl, rfl, ?_, (HG.out.trans H5.out.1).trans H6.out.1, Grow.row H5.out.1.1 H6.out.1 H5.out.2.1, H5.out.2.2.mono H6.out.1.2.1, H6.out.2⟩, HP2.out.2⟩
       have h := HP2.out.1
       have e : tv (true, k) = (-1) * (2 : Int) ^ k := by simp [tv, sg]
       rw [e]
       exact h
end
section
end
end Go.Proofs.YtlkmgclbckojgaaGreatDoor

