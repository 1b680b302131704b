import Derived.Test.YtlkmgclbckojgaaGreatDoorEB
import Derived.Test.YtlkmgclbckojgaaGreatDoorS4
import Derived.Test.YtlkmgclbckojgaaGreatDoorW3
set_option linter.unusedVariables false
set_option linter.unusedSimpArgs false
set_option maxHeartbeats 40000000
set_option maxRecDepth 100000
namespace Go.Proofs.YtlkmgclbckojgaaGreatDoor
section
open Go.RowKit
variable {W W' W1 W2 : World} {p n n' : Nat} {fv fv' fv1 : Value} {vs vs' vs1 G : List Int}
theorem WL.ahead (h : WL W p fv vs n) : Ahead vs := by
 obtain ⟨G, ⟨rows, fs, hs, hg, hk⟩, _⟩ := h
 intro i y hy t ht
 have hil : i < fs.length := by rw [← hg.len]; exact (List.getElem?_eq_some_iff.1 hy).1
 obtain ⟨z, h1, h2, h3⟩ := hg.form i _ (List.getElem?_eq_getElem hil)
 rw [hy] at h1
 cases h1
 obtain ⟨j, hj, rfl⟩ := List.mem_iff_getElem.1 ht
 have hj2 : j < fs[i].length := by rw [h2.len]; exact hj
 exact ⟨(fs[i][j]).2, h3 _ (List.getElem_mem hj2), (h2.get j hj2 hj).2⟩
theorem infoeBo : (Tryz.prog.info? 4).map (fun i => (i.zero, i.size, i.bytes)) = some (some (.bool false), 1, 1) := by kernel_rfl
theorem infoeJ : (Tryz.prog.info? 3).map (fun i => (i.zero, i.size, i.bytes)) = some (some (.int .i64 0), 1, 8) := by kernel_rfl
def boV (b : List Bool) : List Value := b.map Value.bool
def natV (l : List Nat) : List Value := l.map (fun q : Nat => Value.int .i64 (q : Int))
theorem Zqz {b : List Bool} {k : Nat} {m : Bool} (h : b[k]? = some m) : (boV b)[k]? = some (.bool m) := by simp [boV, h]
theorem Zc1 {l : List Nat} {k q : Nat} (h : l[k]? = some q) : (natV l)[k]? = some (.int .i64 (q : Int)) := by simp [natV, h]
theorem Zma (l : List Nat) : ∀ u ∈ natV l, u.oneCell' = true := by
 intro u hu
 obtain ⟨q, _, rfl⟩ := List.mem_map.1 hu
 rfl
theorem Zj4 (w : World) (q : Nat) : RowV (w.alloc (.cells #[.int .i64 (q : Int)] 3)) 1 (.slice (some ⟨w.heap.size, 0, none⟩) 1 1) 1 (natV [q]) := by
 refine ⟨rfl, .inr ⟨w.heap.size, 0, 1, rfl, zl, by decide, by simp, fun j u hj => ?_⟩⟩
 rw [cell_of_row _ _ _ _ _ _ (heap_alloc_new w _)]
 simpa [natV] using hj
structure MkR (W : World) (N : Nat) (b : List Bool) (g : Nat) (w : World) : Prop where
 below : Below W.heap.size W w
 own : w.ownsRow W.heap.size 4 1 (.slice (some ⟨g, 0, none⟩) N N) N (boV b)
theorem MkR.cell {N g k : Nat} {m : Bool} {b : List Bool} {w : World} (h : MkR W N b g w) (hN : b.length = N) (hk : b[k]? = some m) : w.cell? ⟨g, k, none⟩ = some (.bool m) ∧ w.frozen? ⟨g, k, none⟩ = false :=
 ⟨(h.own.cellAt k (by have := (List.getElem?_eq_some_iff.1 hk).1; omega)).trans (Zqz hk), h.own.frozenAt k⟩
theorem MkR.set {N g : Nat} {b : List Bool} {w : World} (h : MkR W N b g w) (k : Nat) : MkR W N (b.set k true) g (w.setCell ⟨g, k, none⟩ (.bool true)) := by
 have hs := h.own.stored k (.bool true)
 refine ⟨h.below.grown hs.2 h.below.size (fun q hq => by cases hq; exact (h.own.lt g rfl).1), ?_⟩
 have e : boV (b.set k true) = (boV b).set k (.bool true) := by simp [boV, List.map_set]
 rw [e]
 exact hs.1
theorem MkR.later {N g : Nat} {b : List Bool} {w w' : World} (h : MkR W N b g w) (hb : Below w.heap.size w w') : MkR W N b g w' :=
 ⟨h.below.trans (hb.mono h.below.size), Zac h.own hb⟩
theorem Zdx (h : WL W p fv vs n) {x : Nat} {z : Int} (hx : vs[x]? = some z) : Calls Tryz.prog 47 #[.pointer (some ⟨p, 0, none⟩), .int .i64 (x : Int)] W fun r w' => ∃ (a : Option Addr) (c : Nat) (ps : List Nat), r = .returned (.slice a ps.length c) ∧ w'.ownsRow W.heap.size 3 1 (.slice a ps.length c) ps.length (natV ps) ∧ ps.map (vAt vs) = listZ z ∧ (∀ q ∈ ps, q < vs.length) ∧ Below W.heap.size W w' := by
 have hc := h.count
 unfold gMax at hc
 have hxl := (List.getElem?_eq_some_iff.1 hx).1
 have hahead := h.ahead
 have hnd := h.nd
 obtain ⟨ib, hb0, hb1, hb2, hb3⟩ := info_parts infoeBo
 obtain ⟨ij, hj0, hj1, hj2, hj3⟩ := info_parts infoeJ
 have hby : ib.bytes * (x + 1) ≤ 281474976710656 := by rw [hb3]; omega
 have HB := zh (zi hb0 (zi hb1 (zi hb2 hby)))
 have HJ := zh (zi hj0 (zi hj1 (zi hj2 hj3)))
 have hxw : IntKind.i64.wrap ((x : Int) + 1) = (x : Int) + 1 := IntWalk.i64_in _ (by omega)
 have hxx : (x : Int) ≤ 1000000000000 := by omega
 have hx0 : (0 : Int) ≤ (x : Int) := by omega
 have hx1 : x < x + 1 := by omega
 have hx2 : (x : Int) < (x : Int) + 1 := by omega
 have HX := zh (zi h (zi hx (zi hahead (zi hnd hxl))))
 have HPL := zh h.plt
 clear h hx hahead hnd hb0 hb1 hb2 hb3 hj0 hj1 hj2 hj3 hby hc hxl
 go_enter Tryz.func47, Tryz.ntmps47
 go_upto_region 2 with (first
   | (refine wpList_make_full _ rfl _ _ _ rfl W.heap.size 4 ib (.bool false) 1 Tryz.underlying100 HB.out.1 HB.out.2.1 HB.out.2.2.1 .i64 .i64 _ _ (x + 1) rfl rfl (by first | rfl | omega | simp) (by first | rfl | omega | simp) HB.out.2.2.2 (by unfold maxLen; omega) (zl) ?_; intro w1 hown1 hg1
      have hmk : MkR W (x + 1) (List.replicate (x + 1) false) W.heap.size w1 := ⟨(zb).grown hg1 (zl) (fun k hk => by cases hk), by
        have h := hown1
        rw [Nat.mul_one] at h
        have e : (madeCells (Value.bool false).cells (x + 1)).toList = boV (List.replicate (x + 1) false) := by
          rw [show (Value.bool false).cells = #[Value.bool false] from rfl, toList_madeCells_one]
          simp [boV]
        rw [e] at h
        exact h⟩
      have hmk2 := hmk.set x
      obtain ⟨y0, f0⟩ := hmk.cell (k := x) (m := false) (by simp) (by rw [List.getElem?_replicate, if_pos (by omega)])
      have H1 := zh hmk2
      clear hown1 hg1 hmk hmk2))
 go_upto_region 3 with fail
 have hA : MkR W (x + 1) ((List.replicate (x + 1) false).set x true) W.heap.size (w1.setCell ⟨W.heap.size, x, none⟩ (.bool true)) := H1.out
 generalize w1.setCell ⟨W.heap.size, x, none⟩ (.bool true) = wA at hA ⊢
 have HA := zh hA
 clear hA H1 y0 f0 hx1 hx2
 go_upto_block 0 with fail
 go_cut [6, 7] from 19 to 53 (fun v6 v7 wx => ∃ b, MarkP vs x z 0 b ∧ MkR W (x + 1) b W.heap.size wx)
 case first =>
   as_aux_lemma =>
     go_wp2_with fail
     go_loopw [6, 7] (fun i kk wl => ∃ b, ((∃ j : Nat, j ≤ x ∧ i = .int .i64 (j : Int) ∧ MarkP vs x z (j + 1) b) ∨ (i = .int .i64 (-1) ∧ MarkP vs x z 0 b)) ∧ MkR W (x + 1) b W.heap.size wl) (fun i _ _ => (intOf i + 1).toNat)
     case atStart => exact ⟨_, .inl ⟨x, zl, rfl, MarkP.start HX.out.2.1⟩, HA.out⟩
     case round =>
       obtain ⟨b, ⟨j, hjx, rfl, hP⟩ | ⟨rfl, hP⟩, hR⟩ := hrel
       · obtain ⟨h, hx, hahead, hnd, hxl⟩ := HX.out
         have hwl := h.below hR.below
         obtain ⟨y, hy⟩ : ∃ y, vs[j]? = some y := ⟨_, List.getElem?_eq_getElem (by omega)⟩
         obtain ⟨m, hm⟩ : ∃ m, b[j]? = some m := ⟨_, List.getElem?_eq_getElem (by rw [hP.len]; omega)⟩
         have hj0 : (0 : Int) ≤ (j : Int) := by omega
         have hjx' : (j : Int) ≤ (x : Int) := by omega
         have hjw : IntKind.i64.wrap ((j : Int) - 1) = (j : Int) - 1 := IntWalk.i64_in _ (by omega)
         have hc := h.count
         unfold gMax at hc
         obtain ⟨aw, cw, hfw⟩ := h.at
         have hlF : (naf y).length ≤ 30000 := by
           obtain ⟨_, _, _, _, _, _, _, _, _, hw⟩ := h.form hy
           exact hw
         obtain ⟨F, hF⟩ : ∃ F, F = (naf y).length := ⟨_, rfl⟩
         have hF2 : (F : Int) ≤ 30000 := by omega
         have HR := zh (zi hP (zi hR (zi hy (zi hm hF))))
         clear h hx hahead hnd hxl hwl hP hR hc hfw hlF hy hm hF
         go_upto_region 7 with fail
         go_loopw [7] (fun kk wl => ∃ (k : Nat) (b' : List Bool), k ≤ F ∧ kk = .int .i64 (k : Int) ∧ MarkP vs x z (j + 1) b' ∧ MkR W (x + 1) b' W.heap.size wl ∧ b'[j]? = some m ∧ (m = false → k = 0) ∧ ∀ t ∈ (naf y).take k, ∀ q : Nat, vs[q]? = some (t.2 : Int) → b'[q]? = some true) (fun kk _ => F - (intOf kk).toNat)
         case atStart =>
           obtain ⟨hP, hR, hy, hm, hF⟩ := HR.out
           exact ⟨0, b, Nat.zero_le _, rfl, hP, hR, hm, fun _ => rfl, by simp⟩
         case round =>
           obtain ⟨k, b', hkF, rfl, hP, hR, hm, hk0, hall⟩ := hrel
           obtain ⟨_, _, hy, _, hF⟩ := HR.out
           obtain ⟨h, hx, hahead, hnd, hxl⟩ := HX.out
           have hwl := h.below hR.below
           obtain ⟨y0, f0⟩ := hR.cell hP.len hm
           obtain ⟨bw, cw, v, f, efv, hcb, hrf, htf, hpl, hw⟩ := hwl.form hy
           obtain ⟨x0, _⟩ := hwl.cell
           subst efv
           have hjN : (j : Int) < (vs.length : Int) := by omega
           have hc := h.count
           unfold gMax at hc
           obtain ⟨NN, hNN⟩ : ∃ NN, NN = vs.length := ⟨_, rfl⟩
           rw [← hNN] at hjN hc x0
           have hNN2 : (NN : Int) ≤ 1000000000000 := by omega
           obtain ⟨aF, cF, rfl⟩ := (RowV.of_own hrf).shape
           have hfl : f.length = F := by rw [htf.len, hF]
           rw [hfl] at hcb
           have hjx2 : (j : Int) < (x : Int) + 1 := by omega
           have hj9 : j < x + 1 := by omega
           cases m
           · obtain rfl := hk0 rfl
             have HQ := zh (zi (hP.skip (by rw [hm]; simp)) hR)
             clear h hx hahead hnd hxl hwl hP hR hm hk0 hall hcb hrf htf hpl hw hc hNN hfl hy hF x0
             go_wp2
             refine ⟨⟨b', ?_, HQ.out.2⟩, by first | (simp [intOf]; done) | (simp [intOf]; omega)⟩
             rcases Nat.eq_zero_or_pos j with h0 | h0
             · subst h0
               exact .inr ⟨rfl, HQ.out.1⟩
             · refine .inl ⟨j - 1, by omega, ?_, ?_⟩
               · go_num
               · rw [show j - 1 + 1 = j by omega]; exact HQ.out.1
           · by_cases hk : k < F
             · have hk' : (k : Int) < (F : Int) := by omega
               obtain ⟨b2, c2, e2, u0, u1⟩ := Zao (n := k) hrf (by omega)
               rw [hfl] at e2
               cases e2
               obtain ⟨m1, q, hm1⟩ : ∃ m q, f[k]? = some (m, q) := ⟨_, _, List.getElem?_eq_getElem (by omega)⟩
               have g1 := (htf.get k (by omega) (by omega)).2
               rw [(List.getElem?_eq_some_iff.1 hm1).2] at u1 g1
               simp only at u1 g1
               obtain ⟨hP2, hqj, hql⟩ := hP.mark (by omega) hnd hahead hm hy (List.getElem_mem (show k < (naf y).length by omega)) g1
               obtain ⟨mq, hmq⟩ : ∃ mq, b'[q]? = some mq := ⟨_, List.getElem?_eq_getElem hql⟩
               obtain ⟨s0, s1⟩ := hR.cell hP.len hmq
               have hR2 := hR.set q
               have hqx : (q : Int) < (x : Int) + 1 := by omega
               have hq9 : q < x + 1 := by omega
               have hq0 : (0 : Int) ≤ (q : Int) := by omega
               have hall2 : ∀ t ∈ (naf y).take (k + 1), ∀ q' : Nat, vs[q']? = some (t.2 : Int) → (b'.set q true)[q']? = some true := by
                 intro t ht q' hq'
                 rw [List.take_succ_eq_append_getElem (show k < (naf y).length by omega)] at ht
                 rcases List.mem_append.1 ht with a | a
                 · exact Zgk (hall t a q' hq')
                 · rw [List.mem_singleton.1 a] at hq'
                   rw [Zbj hnd hq' g1]
                   simp [hql]
               have hbm : (b'.set q true)[j]? = some true := Zgk hm
               have HQ := zh (zi hP2 (zi hR2 (zi hall2 hbm)))
               clear h hx hahead hnd hxl hwl hP hR hm hk0 hall hrf htf hpl hw hc hNN hfl hy hF hm1 g1 hP2 hR2 hall2 hbm hmq u0 hql hqj hk hkF
               go_wp2
               exact ⟨⟨k + 1, b'.set q true, by omega, by go_num, HQ.out.1, HQ.out.2.1, HQ.out.2.2.2, fun h => (Bool.noConfusion h), HQ.out.2.2.1⟩, by simp [intOf]; omega⟩
             · have hkn : k = F := by omega
               have hk' : ¬ (k : Int) < (F : Int) := by omega
               rw [List.take_of_length_le (by omega)] at hall
               have HQ := zh (zi (hP.next hnd hy hall) hR)
               clear h hx hahead hnd hxl hwl hP hR hm hk0 hall hrf htf hpl hw hc hNN hfl hy hF hk hkF hkn
               go_wp2
               refine ⟨⟨b', ?_, HQ.out.2⟩, by first | (simp [intOf]; done) | (simp [intOf]; omega)⟩
               rcases Nat.eq_zero_or_pos j with h0 | h0
               · subst h0
                 exact .inr ⟨rfl, HQ.out.1⟩
               · refine .inl ⟨j - 1, by omega, ?_, ?_⟩
                 · go_num
                 · rw [show j - 1 + 1 = j by omega]; exact HQ.out.1
       · have HQ := zh (zi hP hR)
         clear hP hR
         go_wp2
         go_meet
         exact ⟨b, HQ.out⟩
 obtain ⟨b, hP, hR⟩ := hcut
 obtain ⟨h, hx, hahead, hnd, hxl⟩ := HX.out
 have hperm := Zod hP hx hahead hnd hxl
 have hblen := hP.len
 have HPM := zh (zi hperm hblen)
 have HR := zh hR
 clear h hx hahead hnd hxl hP hR hperm hblen HA
 go_upto_block 4 with fail
 have hRa : MkR W (x + 1) b W.heap.size (wc.alloc (.cells #[] 3)) := HR.out.later ((zb).alloc (zl) _)
 have hOa : (wc.alloc (.cells #[] 3)).ownsRow W.heap.size 3 1 (.slice (some ⟨wc.heap.size, 0, none⟩) 0 0) 0 (natV (gath b 0)) := World.ownsRow_lit wc #[] 0 HR.out.below.size (by decide) rfl
 have HA := zh (zi hRa hOa)
 clear hRa hOa
 go_cut [8, 9] from 55 to 67 (fun v8 v9 wx => ∃ (a : Option Addr) (c : Nat), v8 = .slice a (gath b x).length c ∧ wx.ownsRow W.heap.size 3 1 (.slice a (gath b x).length c) (gath b x).length (natV (gath b x)) ∧ Below W.heap.size W wx)
 case first =>
   as_aux_lemma =>
     go_wp2_with fail
     go_loopw [8, 9] (fun o i wl => ∃ (j : Nat) (a : Option Addr) (c : Nat), j ≤ x ∧ i = .int .i64 (j : Int) ∧ o = .slice a (gath b j).length c ∧ wl.ownsRow W.heap.size 3 1 (.slice a (gath b j).length c) (gath b j).length (natV (gath b j)) ∧ MkR W (x + 1) b W.heap.size wl) (fun _ i _ => x - (intOf i).toNat)
     case atStart => exact ⟨0, _, _, Nat.zero_le _, rfl, rfl, HA.out.2, HA.out.1⟩
     case round =>
       obtain ⟨j, a, c, hjx, rfl, rfl, hO, hR⟩ := hrel
       have hgl := Zl8 b j
       obtain ⟨L, hL⟩ : ∃ L, L = (gath b j).length := ⟨_, rfl⟩
       have hsuc := Zoc b j
       by_cases hj : j < x
       · have hj' : (j : Int) < (x : Int) := by omega
         obtain ⟨m, hm⟩ : ∃ m, b[j]? = some m := ⟨_, List.getElem?_eq_getElem (by rw [HPM.out.2]; omega)⟩
         obtain ⟨y0, f0⟩ := hR.cell HPM.out.2 hm
         have hjx1 : (j : Int) < (x : Int) + 1 := by omega
         have hjw : IntKind.i64.wrap (j : Int) = (j : Int) := IntWalk.i64_in _ (by omega)
         rw [← hL] at hO ⊢
         have HQ := zh (zi hO (zi hR (zi hL (zi hsuc (zi hm hgl)))))
         clear hO hR hL hsuc hm hgl f0
         cases m
         · go_wp2
           refine ⟨⟨j + 1, a, c, by omega, by go_num, ?_, ?_, HQ.out.2.1⟩, by simp [intOf]; omega⟩
           · have h := HQ.out.2.2.2.1
             rw [HQ.out.2.2.2.2.1, if_neg (by simp)] at h
             rw [h, ← HQ.out.2.2.1]
           · have h := HQ.out.2.2.2.1
             rw [HQ.out.2.2.2.2.1, if_neg (by simp)] at h
             rw [h, ← HQ.out.2.2.1]
             exact HQ.out.1
         · go_wp2_with (first
             | (at_builtin; refine Zaf rfl _ _ 32 rfl W.heap.size 3 ij (.int .i64 0) 1 8 Tryz.underlying32 HJ.out.1 HJ.out.2.1 HJ.out.2.2.1 HJ.out.2.2.2 rfl (by decide) _ L _ rfl (HQ.out.1.alloc _) _ 1 (natV [j]) rfl (Zj4 wr j) (Zma _) (by have := HQ.out.2.2.1; have := HQ.out.2.2.2.2.2; unfold maxLen; omega) (by have := HQ.out.2.2.1; have := HQ.out.2.2.2.2.2; omega) (by have := HQ.out.2.1.below.size; simp; omega) ?_; intro v7 w7 hown7 hg7
                obtain ⟨a7, c7, rfl⟩ := (RowV.of_own hown7).shape
                have H7 := zh (zi hown7 hg7)
                clear hown7 hg7))
           have hlen : (gath b (j + 1)).length = L + 1 := by
             have h := HQ.out.2.2.2.1
             rw [HQ.out.2.2.2.2.1, if_pos rfl] at h
             rw [h, HQ.out.2.2.1]; simp
           have hval : natV (gath b (j + 1)) = natV (gath b j) ++ natV [j] := by
             have h := HQ.out.2.2.2.1
             rw [HQ.out.2.2.2.2.1, if_pos rfl] at h
             rw [h]; simp [natV]
           refine ⟨⟨j + 1, a7, c7, by omega, by go_num, by rw [hlen], by rw [hlen, hval]; exact H7.out.1, ?_⟩, by simp [intOf]; omega⟩
           have hR1 := HQ.out.2.1.later ((zb).alloc (zl) (.cells #[.int .i64 (j : Int)] 3))
           refine ⟨hR1.below.grown H7.out.2 hR1.below.size (fun q hq => (HQ.out.1.lt q hq).1), World.ownsRow.kept hR1.own H7.out.2 (.inr fun e => ?_)⟩
           obtain ⟨c1, e1⟩ := Zau hR1.own _ rfl
           obtain ⟨c2, e2⟩ := Zau (HQ.out.1.alloc _) _ e.symm
           rw [e1] at e2; cases e2
       · have hjn : j = x := by omega
         have hj' : ¬ (j : Int) < (x : Int) := by omega
         have HQ := zh (zi hO (zi hR hjn))
         clear hO hR hL hsuc hgl hjn hj
         go_wp2
         go_meet
         obtain ⟨hO, hR, hjn⟩ := HQ.out
         rw [← hjn]
         exact ⟨a, c, rfl, hO, hR.below⟩
 obtain ⟨a, c, rfl, hO, hB⟩ := hcut
 obtain ⟨L, hL⟩ : ∃ L, L = (gath b x).length := ⟨_, rfl⟩
 have hgl := Zl8 b x
 have hLx : (L : Int) ≤ 1000000000000 := by omega
 rw [← hL] at hO ⊢
 have hmx : ∀ q ∈ gath b x, q < x := fun q hq => (Zi2.1 hq).1
 obtain ⟨ps0, hps0⟩ : ∃ ps0, ps0 = gath b x := ⟨_, rfl⟩
 have hperm := HPM.out.1
 rw [← hps0] at hO hL hmx hperm
 have HO := zh (zi hO hB)
 have HPM := zh (zi hperm (zi hmx hL))
 clear hO hB hgl hL hmx hps0 hperm HR HA
 go_upto_block 6 with fail
 go_cut [10, 11] from 68 to 108 (fun v10 v11 wx => ∃ ps, SortP vs ps0 L ps ∧ ps.length = L ∧ wx.ownsRow W.heap.size 3 1 (.slice a L c) L (natV ps) ∧ Below W.heap.size W wx)
 case first =>
   as_aux_lemma =>
     go_wp2_with fail
     go_loopw [10] (fun i wl => ∃ (k : Nat) (ps : List Nat), 1 ≤ k ∧ (k ≤ L ∨ k = 1) ∧ i = .int .i64 (k : Int) ∧ SortP vs ps0 k ps ∧ wl.ownsRow W.heap.size 3 1 (.slice a L c) L (natV ps) ∧ Below W.heap.size W wl) (fun i _ => L - (intOf i).toNat)
     case atStart => exact ⟨1, ps0, zl, .inr rfl, rfl, SortP.start ps0, HO.out.1, HO.out.2⟩
     case round =>
       obtain ⟨k, ps, hk1, hkL, rfl, hS, hO, hB⟩ := hrel
       have hlp : ps.length = L := by rw [hS.perm.length_eq]; exact HPM.out.2.2.symm
       by_cases hk : k < L
       · have hk' : (k : Int) < (L : Int) := by omega
         have HQ := zh (zi (hS.ins (by omega)) (zi hO hB))
         clear hS hO hB hlp hkL
         go_upto_region 20 with fail
         go_loopw [11] (fun i wl => ∃ (j : Nat) (ps : List Nat), j ≤ k ∧ i = .int .i64 (j : Int) ∧ InsP vs ps0 k j ps ∧ wl.ownsRow W.heap.size 3 1 (.slice a L c) L (natV ps) ∧ Below W.heap.size W wl) (fun i _ => (intOf i).toNat)
         case atStart => exact ⟨k, ps, zl, rfl, HQ.out.1, HQ.out.2.1, HQ.out.2.2⟩
         case round =>
           obtain ⟨j, ps, hjk, rfl, hI, hO, hB⟩ := hrel
           have hlp : ps.length = L := by rw [hI.perm.length_eq]; exact HPM.out.2.2.symm
           by_cases hj0 : 0 < j
           · obtain ⟨i, hi⟩ : ∃ i, j = i + 1 := ⟨j - 1, by omega⟩
             have hj0' : (0 : Int) < (j : Int) := by omega
             have hj1' : (1 : Int) ≤ (j : Int) := by omega
             have hj9 : (j : Int) ≤ 9223372036854775807 := by omega
             have hji : (j : Int) - 1 = (i : Int) := by omega
             have hjw : IntKind.i64.wrap ((j : Int) - 1) = (i : Int) := by rw [IntWalk.i64_in _ (by omega)]; omega
             have hiw : IntKind.i64.wrap (i : Int) = (i : Int) := IntWalk.i64_in _ (by omega)
             have hi0 : (0 : Int) ≤ (i : Int) := by omega
             have hiL : (i : Int) < (L : Int) := by omega
             have hjL : (j : Int) < (L : Int) := by omega
             obtain ⟨pa, hpa⟩ : ∃ pa, ps[i]? = some pa := ⟨_, List.getElem?_eq_getElem (by omega)⟩
             obtain ⟨pv, hpv⟩ : ∃ pv, ps[j]? = some pv := ⟨_, List.getElem?_eq_getElem (by omega)⟩
             obtain ⟨h, hx, hahead, hnd, hxl⟩ := HX.out
             have hpl : ∀ q ∈ ps, q < vs.length := fun q hq => by have := HPM.out.2.1 q (hI.perm.mem_iff.1 hq); omega
             obtain ⟨ya, hya⟩ : ∃ ya, vs[pa]? = some ya := ⟨_, List.getElem?_eq_getElem (hpl _ (List.mem_of_getElem? hpa))⟩
             obtain ⟨yv, hyv⟩ : ∃ yv, vs[pv]? = some yv := ⟨_, List.getElem?_eq_getElem (hpl _ (List.mem_of_getElem? hpv))⟩
             obtain ⟨g2, c2, eg⟩ := Go.Joins.ownsRow_form hO (by omega)
             cases eg
             obtain ⟨G, hM, _⟩ := h
             have hcm := fun W' (hW : Below wr.heap.size wr W') => Zcm _ _ _ (Nat.lt_succ_self _) ((hM.below hB).below hW) pa pv hya hyv
             have HCM := zh hcm
             have hsw : vAt vs pa = ya ∧ vAt vs pv = yv := ⟨Zc0 hya, Zc0 hyv⟩
             have q0 := fun W' (hW : Below wr.heap.size wr W') => (Zac hO hW).cellAt i (by omega)
             have q1 := fun W' (hW : Below wr.heap.size wr W') => (Zac hO hW).cellAt j (by omega)
             rw [Zc1 hpa] at q0
             rw [Zc1 hpv] at q1
             have HS := zh (fun W' (hW : Below wr.heap.size wr W') => zi (q0 W' hW) (q1 W' hW))
             have HN := zh (Below.refl wr.heap.size wr)
             rw [hi] at hI
             have hpv2 := hpv
             rw [hi] at hpv2
             have HQ2 := zh (zi hI (zi hO (zi hB (zi hpa (zi hpv2 (zi hsw hi))))))
             generalize hsv : sgn (ya - yv) = sv at *
             by_cases hlt : yv < ya
             · have hs : decide (0 < sv) = true := by rw [← hsv, Zd5 (by omega)]; rfl
               have HLT := zh hlt
               clear hM hx hahead hnd hxl hpl hya hyv hcm hsw q0 q1 hI hO hB hpa hpv hpv2 hsv hi hlt hlp
               go_upto_region 20 with fail
               go_cut [90] from 75 to 90 (fun t wx => t = .bool true ∧ Below wr.heap.size wr wx)
               case first =>
                 first
                   | go_region_held3 (fun W => W.cell? ⟨g2, i, none⟩ = some (.int .i64 (pa : Int)) ∧ W.cell? ⟨g2, j, none⟩ = some (.int .i64 (pv : Int))) (exact HS.out _ (by repeat (first | with_reducible exact HN.out | with_reducible exact zb | with_reducible refine Below.drew ?_ | with_reducible refine Zaa ?_ _ | with_reducible refine Below.alloc ?_ (by simp) _)))
                       (first
                       | (go_at_call 16; refine (HCM.out _ (by repeat (first | with_reducible exact HN.out | with_reducible exact zb | with_reducible refine Below.drew ?_ | with_reducible refine Zaa ?_ _ | with_reducible refine Below.alloc ?_ (by simp) _))).mono ?_; rintro e5 w5 ⟨rfl, hb5⟩
                          have hb6 : Below wr.heap.size wr w5 := Below.trans (by repeat (first | with_reducible exact HN.out | with_reducible exact zb | with_reducible refine Below.drew ?_ | with_reducible refine Zaa ?_ _ | with_reducible refine Below.alloc ?_ (by simp) _)) (hb5.mono (by first | exact zl | exact HN.out.size))
                          have HN := zh hb6
                          clear hb5 hb6))
                   | fail
                 all_goals
                   (try go_wp2)
                   go_meet
                   exact ⟨rfl, (by repeat (first | with_reducible exact HN.out | with_reducible exact zb | with_reducible refine Below.drew ?_ | with_reducible refine Zaa ?_ _ | with_reducible refine Below.alloc ?_ (by simp) _))⟩
               obtain ⟨rfl, hB20⟩ := hcut
               have HB20 := zh hB20
               clear hB20
               obtain ⟨wd, hwd⟩ : ∃ wd, wd = wc := ⟨_, rfl⟩
               subst hwd
               have hO2 := Zac HQ2.out.2.1 HB20.out
               obtain ⟨r0, r1⟩ := HS.out _ HB20.out
               have f0 := hO2.frozenAt i
               have f1 := hO2.frozenAt j
               have HO2 := zh hO2
               clear hO2
               go_upto_region 22 with fail
               go_region
               go_wp2
               have hs1 := HO2.out.stored i (.int .i64 (pv : Int))
               have hs2 := hs1.1.stored j (.int .i64 (pa : Int))
               have hg2 := (HO2.out.lt g2 rfl).1
               have hBd := HQ2.out.2.2.1.trans (HB20.out.mono HQ2.out.2.2.1.size)
               have hB1 := hBd.grown hs1.2 hBd.size (fun q hq => by cases hq; exact hg2)
               have hB2 := hB1.grown hs2.2 hB1.size (fun q hq => by cases hq; exact hg2)
               have e : natV ((ps.set i pv).set j pa) = ((natV ps).set i (.int .i64 (pv : Int))).set j (.int .i64 (pa : Int)) := by simp [natV, List.map_set]
               have hij := HQ2.out.2.2.2.2.2.2
               refine ⟨⟨i, (ps.set i pv).set j pa, by omega, rfl, ?_, ?_, hB2.drew⟩, by first | (simp [intOf]; done) | (simp [intOf]; omega)⟩
               · rw [hij]
                 exact HQ2.out.1.swap HQ2.out.2.2.2.1 HQ2.out.2.2.2.2.1 (by rw [HQ2.out.2.2.2.2.2.1.1, HQ2.out.2.2.2.2.2.1.2]; exact HLT.out)
               · rw [e]
                 exact hs2.1
             · have hs : decide (0 < sv) = false := by
                 rw [← hsv]
                 refine decide_eq_false ?_
                 unfold sgn
                 split <;> (try split) <;> omega
               have HLT := zh hlt
               clear hM hx hahead hnd hxl hpl hya hyv hcm hsw q0 q1 hI hO hB hpa hpv hpv2 hsv hi hlt hlp
               go_upto_region 20 with fail
               go_cut [90] from 75 to 90 (fun t wx => t = .bool false ∧ Below wr.heap.size wr wx)
               case first =>
                 first
                   | go_region_held3 (fun W => W.cell? ⟨g2, i, none⟩ = some (.int .i64 (pa : Int)) ∧ W.cell? ⟨g2, j, none⟩ = some (.int .i64 (pv : Int))) (exact HS.out _ (by repeat (first | with_reducible exact HN.out | with_reducible exact zb | with_reducible refine Below.drew ?_ | with_reducible refine Zaa ?_ _ | with_reducible refine Below.alloc ?_ (by simp) _)))
                       (first
                       | (go_at_call 16; refine (HCM.out _ (by repeat (first | with_reducible exact HN.out | with_reducible exact zb | with_reducible refine Below.drew ?_ | with_reducible refine Zaa ?_ _ | with_reducible refine Below.alloc ?_ (by simp) _))).mono ?_; rintro e5 w5 ⟨rfl, hb5⟩
                          have hb6 : Below wr.heap.size wr w5 := Below.trans (by repeat (first | with_reducible exact HN.out | with_reducible exact zb | with_reducible refine Below.drew ?_ | with_reducible refine Zaa ?_ _ | with_reducible refine Below.alloc ?_ (by simp) _)) (hb5.mono (by first | exact zl | exact HN.out.size))
                          have HN := zh hb6
                          clear hb5 hb6))
                   | fail
                 all_goals
                   (try go_wp2)
                   go_meet
                   exact ⟨rfl, (by repeat (first | with_reducible exact HN.out | with_reducible exact zb | with_reducible refine Below.drew ?_ | with_reducible refine Zaa ?_ _ | with_reducible refine Below.alloc ?_ (by simp) _))⟩
               obtain ⟨rfl, hB20⟩ := hcut
               have HB20 := zh hB20
               clear hB20
               go_wp2
               have hij := HQ2.out.2.2.2.2.2.2
               refine ⟨⟨k + 1, ps, by omega, .inl (by omega), by go_num, HQ2.out.1.ends (.inr ⟨pa, pv, by omega, HQ2.out.2.2.2.1, HQ2.out.2.2.2.2.1, ?_⟩), Zac HQ2.out.2.1 HB20.out, HQ2.out.2.2.1.trans (HB20.out.mono HQ2.out.2.2.1.size)⟩, by first | (simp [intOf]; done) | (simp [intOf]; omega)⟩
               rw [HQ2.out.2.2.2.2.2.1.1, HQ2.out.2.2.2.2.2.1.2]
               have := HLT.out
               omega
           · have hj1 : j = 0 := by omega
             subst hj1
             have HQ2 := zh (zi hI (zi hO hB))
             have hd : decide ((0 : Int) < ((0 : Nat) : Int)) = false := rfl
             clear hI hO hB hlp hj0
             go_upto_region 20 with fail
             go_quiet (fail)
             go_wp2
             refine ⟨⟨k + 1, ps, by omega, .inl (by omega), by go_num, HQ2.out.1.ends (.inl rfl), Zac HQ2.out.2.1 (Zaa (zb) _), HQ2.out.2.2.trans (Zaa (zb) _ |>.mono HQ2.out.2.2.size)⟩, by first | (simp [intOf]; done) | (simp [intOf]; omega)⟩
       · have hk' : ¬ (k : Int) < (L : Int) := by omega
         have HQ := zh (zi hS (zi hO (zi hB hlp)))
         clear hS hO hB hlp
         go_wp2
         go_meet
         refine ⟨ps, ⟨HQ.out.1.perm, ?_⟩, HQ.out.2.2.2, HQ.out.2.1, HQ.out.2.2.1⟩
         have h1 := HQ.out.1.sorted
         have h2 := HQ.out.2.2.2
         rw [List.take_of_length_le (by omega)] at h1 ⊢
         exact h1
 obtain ⟨ps, hS, hlp, hO, hB⟩ := hcut
 obtain ⟨h, hx, hahead, hnd, hxl⟩ := HX.out
 have hall := hS.all (x := x) (z := z) (by omega) HPM.out.1 (Zc0 hx)
 have hmem : ∀ q ∈ ps ++ [x], q < vs.length := fun q hq => by
   rcases List.mem_append.1 hq with e | e
   · have := HPM.out.2.1 q (hS.perm.mem_iff.1 e); omega
   · rw [List.mem_singleton.1 e]; exact hxl
 have HQ := zh (zi hall (zi hmem (zi hlp (zi hO hB))))
 obtain ⟨we, hwe⟩ : ∃ we, we = wc := ⟨_, rfl⟩
 subst hwe
 clear h hx hahead hnd hxl hall hmem hlp hO hB hS HO
 go_wp2_with (first
   | (at_builtin; refine Zaf rfl _ _ 32 rfl W.heap.size 3 ij (.int .i64 0) 1 8 Tryz.underlying32 HJ.out.1 HJ.out.2.1 HJ.out.2.2.1 HJ.out.2.2.2 rfl (by decide) _ L _ rfl (HQ.out.2.2.2.1.alloc _) _ 1 (natV [x]) rfl (Zj4 we x) (Zma _) (by unfold maxLen; omega) (by omega) (by have := HQ.out.2.2.2.2.size; simp; omega) ?_; intro v7 w7 hown7 hg7
      obtain ⟨a7, c7, rfl⟩ := (RowV.of_own hown7).shape
      have H7 := zh (zi hown7 hg7)
      clear hown7 hg7))
 refine bodyPost_ret (v := .slice a7 (L + 1) c7) (by simp [results, Tryz.results47, go_sem]) rfl ?_
 have hlen : (ps ++ [x]).length = L + 1 := by simp [HQ.out.2.2.1]
 have hval : natV (ps ++ [x]) = natV ps ++ natV [x] := by simp [natV]
 have hBa := HQ.out.2.2.2.2.alloc HQ.out.2.2.2.2.size (.cells #[.int .i64 (x : Int)] 3)
 exact ⟨a7, c7, ps ++ [x], by rw [hlen], by rw [hlen, hval]; exact H7.out.1, HQ.out.1, HQ.out.2.1, hBa.grown H7.out.2 hBa.size (fun q hq => (HQ.out.2.2.2.1.lt q hq).1)⟩
end
section
open Go.RowKit
variable {W W' W1 W2 : World} {p n n' : Nat} {fv fv' fv1 : Value} {vs vs' vs1 G : List Int}
theorem Zi3 (h : WL W p fv vs n) {x : Nat} {z : Int} (hx : vs[x]? = some z) : Calls Tryz.prog 13 #[.pointer (some ⟨p, 0, none⟩), .int .i64 (x : Int)] W fun r w' => r = .returned (.int .i64 (weightZ z : Int)) ∧ Below W.heap.size W w' := by
 have HP := zh (Zdx h hx)
 clear h hx
 go_enter Tryz.func13, Tryz.ntmps13
 go_wp2_with (first
   | (go_at_call 47; refine (HP.out).mono ?_; rintro e5 w5 ⟨a5, c5, ps, rfl, ho, hm, _, hb⟩
      have hl : ps.length = weightZ z := by
        have := congrArg List.length hm
        rw [List.length_map, Zce] at this
        exact this
      have H5 := zh (zi hl hb)
      clear ho hm hb hl))
 refine bodyPost_ret (v := .int .i64 (ps.length : Int)) (by simp [results, Tryz.results13, go_sem]) rfl ⟨by rw [H5.out.1], H5.out.2⟩
theorem Zoe (ha : Ahead vs) : ∀ (j : Nat) (y : Int), vs[j]? = some y → hgt y ≤ j := by
 intro j
 induction j using Nat.strongRecOn with
 | ind j ih =>
   intro y hy
   refine Zmo fun t ht => ?_
   obtain ⟨k, h1, h2⟩ := ha j y hy t ht
   have := ih k h1 _ h2
   omega
structure HtP (vs : List Int) (x i : Nat) (h : Nat) (l : List Nat) : Prop where
 len : l.length = x + 1
 low : ∀ (j : Nat) (y : Int), j < i → vs[j]? = some y → j ≤ x → l[j]? = some (hgt y)
 at' : i ≤ x → l[i]? = some h
 up : ∀ j, i < j → j ≤ x → l[j]? = some 0
theorem HtP.set {x i h h' : Nat} {l : List Nat} (hp : HtP vs x i h l) (hi : i ≤ x) : HtP vs x i h' (l.set i h') := by
 have hl := hp.len
 refine ⟨by rw [List.length_set]; exact hl, fun j y h1 h2 h3 => ?_, fun _ => List.getElem?_set_self (by omega), fun j h1 h2 => ?_⟩
 · rw [List.getElem?_set_ne (by omega)]; exact hp.low j y h1 h2 h3
 · rw [List.getElem?_set_ne (by omega)]; exact hp.up j h1 h2
theorem HtP.next {x i : Nat} {y : Int} {l : List Nat} (hp : HtP vs x i (hgt y) l) (hi : i ≤ x) (hy : vs[i]? = some y) : HtP vs x (i + 1) 0 l := by
 refine ⟨hp.len, fun j u h1 h2 h3 => ?_, fun h => hp.up _ (by omega) h, fun j h1 h2 => hp.up j (by omega) h2⟩
 by_cases e : j = i
 · subst e
   rw [hy] at h2; cases h2
   exact hp.at' hi
 · exact hp.low j u (by omega) h2 h3
theorem HtP.start {x : Nat} (h0 : vs[0]? = some 0) : HtP vs x 1 0 (List.replicate (x + 1) 0) := by
 refine ⟨by simp, fun j y h1 h2 h3 => ?_, fun h => by rw [List.getElem?_replicate, if_pos (by omega)], fun j h1 h2 => by rw [List.getElem?_replicate, if_pos (by omega)]⟩
 have hj : j = 0 := by omega
 subst hj
 rw [h0] at h2; cases h2
 have : hgt 0 = 0 := by rw [Zeo, Zef]; rfl
 rw [this, List.getElem?_replicate, if_pos (by omega)]
theorem WL.first (h : WL W p fv vs n) : vs[0]? = some 0 := by
 obtain ⟨G, h1, _⟩ := h
 exact h1.first
theorem Ze5 (h : WL W p fv vs n) {x : Nat} {z : Int} (hx : vs[x]? = some z) : Calls Tryz.prog 49 #[.pointer (some ⟨p, 0, none⟩), .int .i64 (x : Int)] W fun r w' => r = .returned (.int .i64 (hgt z : Int)) ∧ Below W.heap.size W w' := by
 have hc := h.count
 unfold gMax at hc
 have hxl := (List.getElem?_eq_some_iff.1 hx).1
 have hahead := h.ahead
 obtain ⟨ij, hj0, hj1, hj2, hj3⟩ := info_parts infoeJ
 have hby : ij.bytes * (x + 1) ≤ 281474976710656 := by rw [hj3]; omega
 have HJ := zh (zi hj0 (zi hj1 (zi hj2 hby)))
 have hxw : IntKind.i64.wrap ((x : Int) + 1) = (x : Int) + 1 := IntWalk.i64_in _ (by omega)
 have hxx : (x : Int) ≤ 1000000000000 := by omega
 have hx0 : (0 : Int) ≤ (x : Int) := by omega
 have HX := zh (zi h (zi hx (zi hahead hxl)))
 have hfirst := zh h.first
 clear h hx hahead hj0 hj1 hj2 hj3 hby hc hxl
 go_enter Tryz.func49, Tryz.ntmps49
 go_upto_region 3 with (first
   | (refine wpList_make_full _ rfl _ _ _ rfl W.heap.size 3 ij (.int .i64 0) 1 Tryz.underlying32 HJ.out.1 HJ.out.2.1 HJ.out.2.2.1 .i64 .i64 _ _ (x + 1) rfl rfl (by first | rfl | omega | simp) (by first | rfl | omega | simp) HJ.out.2.2.2 (by unfold maxLen; omega) (zl) ?_; intro w1 hown1 hg1
      have hmk : w1.ownsRow W.heap.size 3 1 (.slice (some ⟨W.heap.size, 0, none⟩) (x + 1) (x + 1)) (x + 1) (natV (List.replicate (x + 1) 0)) ∧ Below W.heap.size W w1 := ⟨by
        have h := hown1
        rw [Nat.mul_one] at h
        have e : (madeCells (Value.int .i64 0).cells (x + 1)).toList = natV (List.replicate (x + 1) 0) := by
          rw [show (Value.int .i64 0).cells = #[Value.int .i64 0] from rfl, toList_madeCells_one]
          simp [natV]
        rw [e] at h
        exact h, (zb).grown hg1 (zl) (fun k hk => by cases hk)⟩
      have H1 := zh hmk
      clear hown1 hg1 hmk))
 go_loopw [6] (fun i wl => ∃ (k : Nat) (l : List Nat), 1 ≤ k ∧ (k ≤ x + 1) ∧ i = .int .i64 (k : Int) ∧ HtP vs x k 0 l ∧ wl.ownsRow W.heap.size 3 1 (.slice (some ⟨W.heap.size, 0, none⟩) (x + 1) (x + 1)) (x + 1) (natV l) ∧ Below W.heap.size W wl) (fun i _ => x + 1 - (intOf i).toNat)
 case atStart => exact ⟨1, _, zl, by omega, rfl, HtP.start hfirst.out, H1.out.1, H1.out.2⟩
 case round =>
   obtain ⟨i, l, hi1, hix, rfl, hH, hO, hB⟩ := hrel
   obtain ⟨h, hx, hahead, hxl⟩ := HX.out
   by_cases hk : i ≤ x
   · have hk' : (i : Int) ≤ (x : Int) := by omega
     have hi0 : (0 : Int) ≤ (i : Int) := by omega
     obtain ⟨y, hy⟩ : ∃ y, vs[i]? = some y := ⟨_, List.getElem?_eq_getElem (by omega)⟩
     have hlF : (naf y).length ≤ 30000 := by
       obtain ⟨_, _, _, _, _, _, _, _, _, hw⟩ := h.form hy
       exact hw
     obtain ⟨F, hF⟩ : ∃ F, F = (naf y).length := ⟨_, rfl⟩
     have hF2 : (F : Int) ≤ 30000 := by omega
     have HQ := zh (zi hH (zi hO (zi hB (zi hy hF))))
     clear h hx hahead hxl hH hO hB hlF hy hF
     go_upto_region 6 with fail
     go_loopw [7] (fun kk wl => ∃ (k : Nat) (l : List Nat), k ≤ F ∧ kk = .int .i64 (k : Int) ∧ HtP vs x i (hgtL ((naf y).take k)) l ∧ wl.ownsRow W.heap.size 3 1 (.slice (some ⟨W.heap.size, 0, none⟩) (x + 1) (x + 1)) (x + 1) (natV l) ∧ Below W.heap.size W wl) (fun kk _ => F - (intOf kk).toNat)
     case atStart => exact ⟨0, l, Nat.zero_le _, rfl, by simpa [hgtL] using HQ.out.1, HQ.out.2.1, HQ.out.2.2.1⟩
     case round =>
       obtain ⟨k, l, hkF, rfl, hH, hO, hB⟩ := hrel
       obtain ⟨_, _, _, hy, hF⟩ := HQ.out
       obtain ⟨h, hx, hahead, hxl⟩ := HX.out
       have hwl := h.below hB
       obtain ⟨bw, cw, v, f, efv, hcb, hrf, htf, hpl, hw⟩ := hwl.form hy
       obtain ⟨x0, _⟩ := hwl.cell
       subst efv
       have hjN : (i : Int) < (vs.length : Int) := by omega
       have hc := h.count
       unfold gMax at hc
       obtain ⟨NN, hNN⟩ : ∃ NN, NN = vs.length := ⟨_, rfl⟩
       rw [← hNN] at hjN hc x0
       have hNN2 : (NN : Int) ≤ 1000000000000 := by omega
       obtain ⟨aF, cF, rfl⟩ := (RowV.of_own hrf).shape
       have hfl : f.length = F := by rw [htf.len, hF]
       rw [hfl] at hcb
       by_cases hkk : k < F
       · have hkk' : (k : Int) < (F : Int) := by omega
         obtain ⟨b2, c2, e2, u0, u1⟩ := Zao (n := k) hrf (by omega)
         rw [hfl] at e2
         cases e2
         obtain ⟨m1, q, hm1⟩ : ∃ m q, f[k]? = some (m, q) := ⟨_, _, List.getElem?_eq_getElem (by omega)⟩
         have g1 := (htf.get k (by omega) (by omega)).2
         rw [(List.getElem?_eq_some_iff.1 hm1).2] at u1 g1
         simp only at u1 g1
         have hqi : q < i := by
           have := hpl _ (List.mem_of_getElem? hm1)
           exact this
         have hlq := hH.low q _ hqi g1 (by omega)
         have hli := hH.at' hk
         obtain ⟨hq, hhq⟩ : ∃ hq, hq = hgt (((naf y)[k]'(by omega)).2 : Int) := ⟨_, rfl⟩
         rw [← hhq] at hlq
         obtain ⟨ha, hha⟩ : ∃ ha, ha = hgtL ((naf y).take k) := ⟨_, rfl⟩
         rw [← hha] at hli
         have hqb : hq ≤ q := by rw [hhq]; exact Zoe hahead q _ g1
         have r0 := (hO.cellAt i (by omega)).trans (Zc1 hli)
         have r1 := (hO.cellAt q (by omega)).trans (Zc1 hlq)
         have f0 := hO.frozenAt i
         have hsn : hgtL ((naf y).take (k + 1)) = max ha (hq + 1) := by
           rw [List.take_succ_eq_append_getElem (show k < (naf y).length by omega), Zkm, ← hhq, ← hha]
         have hqx : (q : Int) < (x : Int) + 1 := by omega
         have hix' : (i : Int) < (x : Int) + 1 := by omega
         have hq0 : (0 : Int) ≤ (q : Int) := by omega
         have hw1 : IntKind.i64.wrap ((hq : Int) + 1) = (hq : Int) + 1 := IntWalk.i64_in _ (by omega)
         have hst := hO.stored i (.int .i64 ((max ha (hq + 1) : Nat) : Int))
         have hbo := (hO.lt _ rfl).1
         have hH2 := hH.set (h' := max ha (hq + 1)) hk
         have hmax : max (ha : Int) ((hq : Int) + 1) = ((max ha (hq + 1) : Nat) : Int) := by omega
         have HS := zh (zi hst (zi hbo (zi hH2 (zi hsn hB))))
         clear h hx hahead hxl hwl hH hO hB hrf htf hpl hw hc hNN hfl hy hF hm1 g1 hlq hli hhq hha hqb hsn hst hbo hH2 u0 hqi hkk hkF
         go_upto_region 8 with fail
         go_region
         go_wp2
         obtain ⟨hst, hbo, hH2, hsn, hB⟩ := HS.out
         have hB2 := hB.grown hst.2 hB.size (fun q hq => by cases hq; exact hbo)
         refine ⟨⟨k + 1, l.set i (max ha (hq + 1)), by omega, by go_num, by rw [hsn]; exact hH2, ?_, hB2.drew⟩, by first | (simp [intOf]; done) | (simp [intOf]; omega)⟩
         have e : natV (l.set i (max ha (hq + 1))) = (natV l).set i (.int .i64 ((max ha (hq + 1) : Nat) : Int)) := by simp [natV, List.map_set]
         rw [e]
         exact hst.1
       · have hkn : k = F := by omega
         have hkk' : ¬ (k : Int) < (F : Int) := by omega
         rw [List.take_of_length_le (by omega), ← hgt_L] at hH
         have HS := zh (zi (hH.next hk hy) (zi hO hB))
         clear h hx hahead hxl hwl hH hO hB hrf htf hpl hw hc hNN hfl hy hF hkk hkF
         go_wp2
         exact ⟨⟨i + 1, l, by omega, by omega, by go_num, HS.out.1, HS.out.2.1, HS.out.2.2⟩, by first | (simp [intOf]; done) | (simp [intOf]; omega)⟩
   · have hk' : ¬ (i : Int) ≤ (x : Int) := by omega
     have hlx := hH.low x z (by omega) hx (zl)
     have r0 := (hO.cellAt x (by omega)).trans (Zc1 hlx)
     have HS := zh hB
     have hxx2 : (x : Int) < (x : Int) + 1 := by omega
     clear h hx hahead hxl hH hO hB hlx hk
     go_wp2
     refine bodyPost_ret (v := .int .i64 (hgt z : Int)) (by simp [results, Tryz.results49, go_sem, *]) rfl ⟨rfl, HS.out⟩
def allowedB (z : Int) : Bool := decide (weightZ z ≤ 2000) && (decide (hgt z ≤ 100) && (partsZ z).all (fun q => decide (wt q ≤ 300)))
theorem Zdy (z : Int) : allowedB z = true ↔ allowedZ z := by
 unfold allowedB allowedZ
 simp
theorem Zhu (h : WL W p fv vs n) {x : Nat} {z : Int} (hx : vs[x]? = some z) : Calls Tryz.prog 26 #[.pointer (some ⟨p, 0, none⟩), .int .i64 (x : Int)] W fun r w' => r = .returned (.bool (allowedB z)) ∧ Below W.heap.size W w' := by
 have HP := zh (Zdx h hx)
 have HX := zh (zi h hx)
 clear h hx
 go_enter Tryz.func26, Tryz.ntmps26
 go_upto_region 3 with (first
   | (go_at_call 47; refine (HP.out).mono ?_; rintro e5 w5 ⟨a5, c5, ps, rfl, ho, hm, hv, hb⟩
      have H5 := zh (zi ho (zi hm (zi hv hb)))
      clear ho hm hv hb))
 obtain ⟨h, hx⟩ := HX.out
 have hpl : ps.length = weightZ z ∧ ps.length ≤ 1000000000000 := by
   have hc := h.count
   unfold gMax at hc
   have h1 := congrArg List.length H5.out.2.1
   rw [List.length_map] at h1
   have h2 := Zdg (listZ z) vs (Zhd z) (fun q hq => by
     rw [← H5.out.2.1] at hq
     obtain ⟨r, hr, rfl⟩ := List.mem_map.1 hq
     have hrl := H5.out.2.2.1 r hr
     rw [Zc0 (List.getElem?_eq_getElem hrl)]
     exact List.getElem_mem hrl)
   rw [Zce] at h1 h2
   omega
 have hmem : ∀ y, y ∈ partsZ z ↔ ∃ q ∈ ps, vAt vs q = y := fun y => by
   rw [← Zb0, ← H5.out.2.1, List.mem_map]
 obtain ⟨L, hL⟩ : ∃ L, L = ps.length := ⟨_, rfl⟩
 rw [← hL] at hpl
 have hLx : (L : Int) ≤ 1000000000000 := by omega
 obtain ⟨wq, hwq⟩ : ∃ wq, wq = w5 := ⟨_, rfl⟩
 subst hwq
 have HM := zh (zi hmem (zi hL hpl.1))
 rw [← hL]
 clear hmem hL hpl h hx
 go_loopw [6] (fun i wl => ∃ k : Nat, k ≤ L ∧ i = .int .i64 (k : Int) ∧ (∀ q ∈ ps.take k, wt (vAt vs q) ≤ 300) ∧ Below wq.heap.size wq wl) (fun i _ => L - (intOf i).toNat)
 case atStart => exact ⟨0, Nat.zero_le _, rfl, by simp, zb⟩
 case round =>
   obtain ⟨k, hkL, rfl, hall, hB⟩ := hrel
   obtain ⟨hmem, hL, hwz⟩ := HM.out
   obtain ⟨h, hx⟩ := HX.out
   have hbw : Below W.heap.size W wr := H5.out.2.2.2.trans (hB.mono H5.out.2.2.2.size)
   by_cases hk : k < L
   · have hk' : (k : Int) < (L : Int) := by omega
     obtain ⟨q, hq⟩ : ∃ q, ps[k]? = some q := ⟨_, List.getElem?_eq_getElem (by omega)⟩
     have hqv := H5.out.2.2.1 q (List.mem_of_getElem? hq)
     obtain ⟨y, hy⟩ : ∃ y, vs[q]? = some y := ⟨_, List.getElem?_eq_getElem hqv⟩
     have hwl := h.below hbw
     obtain ⟨bw, cw, v, f, efv, hcb, hrf, htf, hpl, hw⟩ := hwl.form hy
     obtain ⟨x0, _⟩ := hwl.cell
     subst efv
     have hqN : (q : Int) < (vs.length : Int) := by omega
     have hc := h.count
     unfold gMax at hc
     obtain ⟨NN, hNN⟩ : ∃ NN, NN = vs.length := ⟨_, rfl⟩
     rw [← hNN] at hqN hc x0
     have hNN2 : (NN : Int) ≤ 1000000000000 := by omega
     obtain ⟨aF, cF, rfl⟩ := (RowV.of_own hrf).shape
     have hfl : f.length = wt y := htf.len
     rw [hfl] at hcb
     have hq0 : (0 : Int) ≤ (q : Int) := by omega
     obtain ⟨bp, cp, ep⟩ := Go.Joins.ownsRow_form H5.out.1 (by omega)
     cases ep
     have r0 := ((Zac H5.out.1 hB).cellAt k (by omega)).trans (Zc1 hq)
     have hvq : vAt vs q = y := Zc0 hy
     have hst : ∀ q' ∈ ps.take (k + 1), q' ∈ ps.take k ∨ q' = q := fun q' h' => by
       rw [List.take_add_one, hq] at h'
       simpa using h'
     have HS := zh (zi hall (zi hB (zi hvq (zi hst (zi hbw (zi hq hmem))))))
     clear h hx hwl hrf htf hpl hw hc hNN hfl hq hqv hy hvq hall hB hmem hL hwz hst hbw hk hkL
     by_cases hbig : 300 < wt y
     · have hd : decide ((300 : Int) < (wt y : Int)) = true := decide_eq_true (by omega)
       have hd2 : (300 : Int) < (wt y : Int) := by omega
       have HB := zh hbig
       clear hbig
       go_upto_region 5 with fail
       go_quiet (fail)
       go_wp2
       refine bodyPost_ret (v := .bool false) (by simp [results, Tryz.results26, go_sem]) rfl ⟨?_, Zaa HS.out.2.2.2.2.1 _⟩
       have hn : ¬ allowedZ z := fun ha => by
         have := ha.2.2 y ((HS.out.2.2.2.2.2.2 y).2 ⟨q, List.mem_of_getElem? HS.out.2.2.2.2.2.1, HS.out.2.2.1⟩)
         have := HB.out
         omega
       have : allowedB z = false := by
         rcases hb : allowedB z with _ | _
         · rfl
         · exact absurd ((Zdy z).1 hb) hn
       rw [this]
     · have hd : decide ((300 : Int) < (wt y : Int)) = false := decide_eq_false (by omega)
       have HB := zh hbig
       clear hbig
       go_upto_region 5 with fail
       go_quiet (fail)
       go_wp2
       refine ⟨⟨k + 1, by omega, by go_num, fun q' h' => ?_, Zaa HS.out.2.1 _⟩, by first | (simp [intOf]; done) | (simp [intOf]; omega)⟩
       rcases HS.out.2.2.2.1 q' h' with e | e
       · exact HS.out.1 q' e
       · rw [e, HS.out.2.2.1]; have := HB.out; omega
   · have hkn : k = L := by omega
     have hk' : ¬ (k : Int) < (L : Int) := by omega
     rw [List.take_of_length_le (by omega)] at hall
     have hall2 : (partsZ z).all (fun q => decide (wt q ≤ 300)) = true := by
       rw [List.all_eq_true]
       intro y hy
       obtain ⟨q, h1, rfl⟩ := (hmem y).1 hy
       exact decide_eq_true (hall q h1)
     have hres : allowedB z = (decide (weightZ z ≤ 2000) && decide (hgt z ≤ 100)) := by unfold allowedB; rw [hall2, Bool.and_true]
     have hwl := h.below hbw
     have hHT := Ze5 hwl hx
     have HHT := zh hHT
     have HS := zh (zi hres hbw)
     have hLw : L = weightZ z := hwz
     clear hmem hL hwz h hx hall hB hbw hall2 hres hwl hHT hkn hk hkL HM H5
     by_cases hw : weightZ z ≤ 2000
     · have hLI : (L : Int) ≤ 2000 := by omega
       have HW := zh hw
       clear hLw hw
       go_wp2_with (first
         | (go_at_call 49; refine (HHT.out).mono ?_; rintro e6 w6 ⟨rfl, hb6⟩
            have H6 := zh hb6
            clear hb6))
       refine bodyPost_ret (v := .bool (decide (hgt z ≤ 100))) (by simp [results, Tryz.results26, go_sem]; omega) rfl ⟨?_, HS.out.2.trans (H6.out.mono HS.out.2.size)⟩
       rw [HS.out.1, decide_eq_true HW.out, Bool.true_and]
     · have hLI : ¬ (L : Int) ≤ 2000 := by omega
       have HW := zh hw
       clear hLw hw
       go_wp2
       refine bodyPost_ret (v := .bool false) (by simp [results, Tryz.results26, go_sem]) rfl ⟨?_, HS.out.2⟩
       rw [HS.out.1, decide_eq_false HW.out, Bool.false_and]
end
section
open Go.RowKit
variable {W W' W1 W2 : World} {p n n' : Nat} {fv fv' fv1 : Value} {vs vs' vs1 G : List Int}
def u64m (a : Int) : Int := a % 18446744073709551616
theorem Zgl (a : Int) : IntKind.u64.wrap a = u64m a := by unfold u64m; rfl
def intZ (z : Int) : Int := if i64 z then z else 0
theorem Zmb (a b : Int) : u64m (u64m a + b) = u64m (a + b) := by unfold u64m; rw [Int.emod_add_emod]
theorem Zmc {e : Nat} (h : e ≤ 63) : u64m ((2 : Int) ^ e) = (2 : Int) ^ e := by
 unfold u64m
 have h1 := Zc2 h
 have h2 := pow_pos e
 rw [pow63] at h1
 exact Int.emod_eq_of_lt (by omega) (by omega)
theorem Zq0 {z : Int} (h : i64 z) : IntKind.i64.wrap (u64m z) = z := by
 unfold i64 at h
 have : IntKind.i64.wrap (u64m z) = wrap64 (u64m z) := Zec _
 rw [this]
 unfold wrap64 u64m
 omega
theorem u64_up {e : Nat} (h : e ≤ 63) (v : Int) : IntKind.u64.wrap (u64m v + IntKind.u64.wrap ((2 : Int) ^ e)) = u64m (v + tv (false, e)) := by
 rw [Zgl, Zgl, Zmc h, Zmb]
 simp [tv, sg]
theorem Zpw {e : Nat} (h : e ≤ 63) (v : Int) : IntKind.u64.wrap (u64m v - IntKind.u64.wrap ((2 : Int) ^ e)) = u64m (v + tv (true, e)) := by
 rw [Zgl, Zgl, Zmc h, Int.sub_eq_add_neg, Zmb]
 simp [tv, sg]
theorem Zq1 {z : Int} (h : i64 z) {t : Tm} (ht : t ∈ naf z) : t.2 ≤ 63 := by
 unfold i64 at h
 rcases hl : naf z with _ | ⟨u, l⟩
 · rw [hl] at ht; simp at ht
 · have hn := Za3 z
   have hv := Zam z
   rw [hl] at ht hn hv
   have hf := (Zbm hn).1
   rw [hv] at hf
   have hu : u.2 ≤ 63 := by
     rcases Nat.lt_or_ge 63 u.2 with c | c
     · exfalso
       have hb := Zc2 (a := 64) (b := u.2) (by omega)
       rw [Zai 63, pow63] at hb
       rcases Zay u.1 with ⟨_, e⟩ | ⟨_, e⟩ <;> rw [e] at hf <;> omega
     · exact c
   rcases List.mem_cons.1 ht with rfl | hm
   · exact hu
   · have := hn.head t hm
     omega
theorem Grow.get {i : Nat} {z : Int} {fv1 : Value} {vs1 : List Int} {W1 : World} (k : Grow W p fv vs G fv1 vs1 W1) (h : vs[i]? = some z) : vs1[i]? = some z := Zci k.2.1 h
theorem Zqj : ∀ (k : Nat) (z : Int), z.natAbs < k → ∀ {W : World} {p : Nat} {fv : Value} {vs G : List Int} (hM : WM W p fv vs G) (x : Nat) (hx : vs[x]? = some z), Calls Tryz.prog 48 #[.pointer (some ⟨p, 0, none⟩), .int .i64 (x : Int)] W fun r w' => ∃ (fv' : Value) (vs' : List Int), r = .returned (.tuple #[.int .i64 (intZ z), .bool (decide (i64 z))]) ∧ Grow W p fv vs G fv' vs' w'
 | 0, _, h, _, _, _, _, _, _, _, _ => by omega
 | k + 1, z, hk, W, p, fv, vs, G, hM, x, hx => by
   have IH := zh (fun (e : Int) (he : e.natAbs < k) (W' : World) (f' : Value) (s' : List Int) (hW : WM W' p f' s' G) (i : Nat) (hi : s'[i]? = some e) => Zqj k e he hW i hi)
   obtain ⟨b, c, v, f, efv, hcb, hrf, htf, hpl, hzG⟩ := hM.form hx
   obtain ⟨x0, x1⟩ := hM.cell
   have hxl : (x : Int) < (vs.length : Int) := by have := (List.getElem?_eq_some_iff.1 hx).1; omega
   have hc := hM.count
   unfold gMax at hc
   subst efv
   obtain ⟨aF, cF, rfl⟩ := (RowV.of_own hrf).shape
   have hlen := htf.len
   obtain ⟨N, hN⟩ : ∃ N, N = vs.length := ⟨_, rfl⟩
   obtain ⟨F, hF⟩ : ∃ F, F = f.length := ⟨_, rfl⟩
   have hw := hM.ok.wts z hzG
   have hF3 : (F : Int) ≤ 30000 := by unfold wt at hw; omega
   rw [← hN] at hxl x0 hc
   have hc2 : (N : Int) ≤ 1000000000000 := by omega
   rw [← hF] at hcb
   by_cases h0 : F = 0
   · have hz : z = 0 := Zfp (List.length_eq_zero_iff.1 (by omega))
     subst hz
     have HM := zh (Grow.refl hM)
     rw [h0] at hcb
     have HN := zh hN
     clear hM hx hrf htf hpl hzG hlen hN hF hc h0 hw
     go_enter Tryz.func48, Tryz.ntmps48
     go_wp2
     refine bodyPost_ret (v := .tuple #[.int .i64 0, .bool true]) (by simp [results, Tryz.results48, go_sem]) rfl ?_
     refine ⟨_, _, by rw [show intZ 0 = 0 by simp [intZ], show decide (i64 0) = true by decide], HM.out⟩
   · have hF0 : ((F : Int) == 0) = false := by rw [beq_eq_false_iff_ne]; omega
     have hok := hM.ok
     have h63G : (63 : Int) ∈ G := hok.low 63 (by omega)
     have i63 : i64 63 := by decide
     have HM := zh (Grow.refl hM)
     have HX := zh (zi hM (zi hx (zi hrf (zi htf (zi hF (zi hlen (zi hk hN)))))))
     have HG := zh (zi h63G (zi hok.big (zi i63 hok)))
     clear hM hx hrf htf hpl hzG hlen hN hF hc h0 hw hk h63G i63 hok
     go_enter Tryz.func48, Tryz.ntmps48
     go_upto_region 5 with (first
       | (go_at_call 9; refine (wOf_G HM.out.1 HG.out.2.2.1 HG.out.1).mono ?_; rintro e5 w5 ⟨f5, s5, i5, rfl, hg5, hi5⟩
          have HI := zh hi5
          have HM := zh (HM.out.trans hg5)
          (try (have hl5 := HL.out; have HL := zh (hg5.get hl5); clear hl5))
          clear hg5 hi5)
       | (go_at_call 23; refine (Zpv (e := 63) HM.out.1 HI.out HG.out.2.1.1).mono ?_; rintro e5 w5 ⟨f5, s5, i5, rfl, hg5, hi5⟩
          have HI := zh hi5
          have HM := zh (HM.out.trans hg5)
          (try (have hl5 := HL.out; have HL := zh (hg5.get hl5); clear hl5))
          clear hg5 hi5)
       | (go_at_call 43; refine (wNeg_G HM.out.1 HI.out HG.out.2.1.2).mono ?_; rintro e5 w5 ⟨f5, s5, i5, rfl, hg5, hi5⟩
          have HL := zh hi5
          have HM := zh (HM.out.trans hg5)
          clear hg5 hi5))
     obtain ⟨hM, hx, hrf, htf, hF, hlen, hk, hN⟩ := HX.out
     have hxc := HM.out.get hx
     have hC1 := Zcm _ _ _ (Nat.lt_succ_self _) HM.out.1 x _ hxc HL.out
     have hC2 := fun W' (hW : Below w5.heap.size w5 W') => Zcm _ _ _ (Nat.lt_succ_self _) (HM.out.1.below hW) x _ hxc HI.out
     clear hM hx hrf htf hF hlen hk hN hxc
     have hz1 : decide (sgn (z - -(2 : Int) ^ 63) < 0) = decide (z < -9223372036854775808) := by
       rw [pow63]
       unfold sgn
       split <;> (try split) <;> simp <;> omega
     have hz2 : decide (0 ≤ sgn (z - (2 : Int) ^ 63)) = decide (9223372036854775808 ≤ z) := by
       rw [pow63]
       unfold sgn
       split <;> (try split) <;> simp <;> omega
     generalize sgn (z - -(2 : Int) ^ 63) = sv1 at hC1 hz1
     generalize sgn (z - (2 : Int) ^ 63) = sv2 at hC2 hz2
     have HC1 := zh hC1
     have HC2 := zh hC2
     have HN := zh (Below.refl w5.heap.size w5)
     clear hC1 hC2
     by_cases hi : i64 z
     · have h1 : decide (sv1 < 0) = false := by rw [hz1]; unfold i64 at hi; exact decide_eq_false (by omega)
       have h2 : decide (0 ≤ sv2) = false := by rw [hz2]; unfold i64 at hi; exact decide_eq_false (by omega)
       have HZ := zh hi
       clear hz1 hz2 hi
       go_upto_region 9 with (first
         | (go_at_call 16; with_reducible refine (HC1.out).mono ?_; rintro e6 w6 ⟨rfl, hb6⟩
            have HN := zh hb6
            clear hb6)
         | (go_at_call 16; with_reducible refine (HC2.out _ HN.out).mono ?_; rintro e6 w6 ⟨rfl, hb6⟩
            have HN := zh (HN.out.trans (hb6.mono HN.out.size))
            clear hb6))
       obtain ⟨wz, hwz⟩ : ∃ wz, wz = w6 := ⟨_, rfl⟩
       subst hwz
       have HM := zh (HM.out.below HN.out)
       go_loopw [9, 10] (fun o i wl => ∃ (k' : Nat) (fk : Value) (vk : List Int), k' ≤ F ∧ i = .int .i64 (k' : Int) ∧ o = .int .u64 (u64m (val ((naf z).take k'))) ∧ Grow W p (.slice (some ⟨b, 0, none⟩) vs.length c) vs G fk vk wl) (fun _ i _ => F - (intOf i).toNat)
       case atStart => exact ⟨0, _, _, Nat.zero_le _, rfl, by simp [val, u64m], HM.out⟩
       case round =>
         obtain ⟨k', fk, vk, hkF, rfl, rfl, hg⟩ := hrel
         obtain ⟨hM, hx, hrf, htf, hF, hlen, hk, hN⟩ := HX.out
         by_cases hlt : k' < F
         · have hlt' : (k' : Int) < (F : Int) := by omega
           have hkn : k' < (naf z).length := by omega
           obtain ⟨b2, c2, e2, y0, y1⟩ := Zao (n := k') (Grow.row hM hg hrf) (by omega)
           rw [← hF] at e2
           cases e2
           obtain ⟨m1, q, hm1⟩ : ∃ m q, f[k']? = some (m, q) := ⟨_, _, List.getElem?_eq_getElem (by omega)⟩
           obtain ⟨g0, g1⟩ := htf.get k' (by omega) hkn
           rw [(List.getElem?_eq_some_iff.1 hm1).2] at y0 y1 g0 g1
           simp only at y0 y1 g0 g1
           obtain ⟨m2, e, he⟩ : ∃ m e, (naf z)[k'] = (m, e) := ⟨_, _, rfl⟩
           rw [he] at g0 g1
           simp only at g0 g1
           subst g0
           have he63 : e ≤ 63 := Zq1 HZ.out (t := (m1, e)) (by rw [← he]; exact List.getElem_mem _)
           have hez : e < z.natAbs := Zbf (t := (m1, e)) (by rw [← he]; exact List.getElem_mem _)
           have hie : intZ (e : Int) = (e : Int) ∧ decide (i64 (e : Int)) = true := by
             have : i64 (e : Int) := by unfold i64; omega
             simp [intZ, this]
           have hIH := IH.out (e : Int) (by omega) _ _ _ hg.1 q (hg.get g1)
           rw [hie.1, hie.2] at hIH
           have HIH := zh hIH
           have hvk : val ((naf z).take (k' + 1)) = val ((naf z).take k') + tv (m1, e) := by rw [Zi1 hkn, he]
           have HQ := zh (zi hM (zi hrf (zi hg (zi hvk (zi hF (zi he63 hm1))))))
           have he0 : (0 : Int) ≤ (e : Int) := by omega
           have he1 : (e : Int) ≤ 63 := by omega
           have he2 : ((e : Int)).toNat = e := by omega
           clear hM hx hrf htf hF hlen hk hN hkn hg hm1 g1 he hez hie hIH hvk he63 hlt hkF
           go_upto_region 13 with (first
             | (go_at_call 48; refine (HIH.out).mono ?_; rintro e7 w7 ⟨f7, s7, rfl, hg7⟩
                have hg8 := HQ.out.2.2.1.trans hg7
                obtain ⟨b3, c3, e3, v0, v1⟩ := Zao (n := k') (Grow.row HQ.out.1 hg8 HQ.out.2.1) (List.getElem?_eq_some_iff.1 HQ.out.2.2.2.2.2.2).1
                rw [← HQ.out.2.2.2.2.1] at e3
                cases e3
                rw [(List.getElem?_eq_some_iff.1 HQ.out.2.2.2.2.2.2).2] at v0
                simp only at v0
                have H7 := zh hg8
                clear hg7 hg8 v1))
           have hup := u64_up HQ.out.2.2.2.2.2.1 (val ((naf z).take k'))
           have hdn := Zpw HQ.out.2.2.2.2.2.1 (val ((naf z).take k'))
           generalize val ((naf z).take k') = vt at hup hdn HQ ⊢
           generalize IntKind.u64.wrap ((2 : Int) ^ e) = pe at hup hdn ⊢
           generalize u64m vt = ut at hup hdn ⊢
           cases m1
           all_goals
             go_wp2
             refine ⟨⟨k' + 1, f7, s7, by omega, by first | rfl | go_num, ?_, H7.out⟩, by first | (simp [intOf]; done) | (simp [intOf]; omega)⟩
             have hv := HQ.out.2.2.2.1
             rw [hv]
         · have hkn : k' = F := by omega
           have hlt' : ¬ (k' : Int) < (F : Int) := by omega
           have hfull : val ((naf z).take k') = z := by rw [List.take_of_length_le (by omega), Zam]
           rw [hfull]
           have hwz := Zq0 HZ.out
           have hint : intZ z = z ∧ decide (i64 z) = true := by simp [intZ, HZ.out]
           have HQ := zh (zi hg hint)
           clear hM hx hrf htf hF hlen hk hN hkn hg hfull hint hlt hkF
           generalize u64m z = uz at hwz ⊢
           have HWZ := zh hwz
           go_wp2
           refine bodyPost_ret (v := .tuple #[.int .i64 z, .bool true]) (by simp [results, Tryz.results48, go_sem, *]) rfl ?_
           rw [HQ.out.2.1, HQ.out.2.2]
           first
             | exact ⟨_, _, rfl, HQ.out.1⟩
             | exact ⟨rfl, _, _, HQ.out.1⟩
             | exact ⟨_, _, HQ.out.1⟩
     · have hpost : intZ z = 0 ∧ decide (i64 z) = false := by simp [intZ, hi]
       have HZ := zh (zi hpost hi)
       clear hpost hi
       by_cases hs : z < -9223372036854775808
       · have h1 : decide (sv1 < 0) = true := by rw [hz1]; exact decide_eq_true hs
         clear hz1 hz2 hs
         go_wp2_with (first
           | (go_at_call 16; with_reducible refine (HC1.out).mono ?_; rintro e6 w6 ⟨rfl, hb6⟩
              have HN := zh hb6
              clear hb6))
         refine bodyPost_ret (v := .tuple #[.int .i64 0, .bool false]) (by simp [results, Tryz.results48, go_sem]) rfl ?_
         rw [HZ.out.1.1, HZ.out.1.2]
         exact ⟨_, _, rfl, HM.out.below HN.out⟩
       · have h1 : decide (sv1 < 0) = false := by rw [hz1]; exact decide_eq_false hs
         have h2 : decide (0 ≤ sv2) = true := by
           rw [hz2]
           have := HZ.out.2
           unfold i64 at this
           exact decide_eq_true (by omega)
         clear hz1 hz2 hs
         go_wp2_with (first
           | (go_at_call 16; with_reducible refine (HC1.out).mono ?_; rintro e6 w6 ⟨rfl, hb6⟩
              have HN := zh hb6
              clear hb6)
           | (go_at_call 16; with_reducible refine (HC2.out _ HN.out).mono ?_; rintro e6 w6 ⟨rfl, hb6⟩
              have HN := zh (HN.out.trans (hb6.mono HN.out.size))
              clear hb6))
         refine bodyPost_ret (v := .tuple #[.int .i64 0, .bool false]) (by simp [results, Tryz.results48, go_sem]) rfl ?_
         rw [HZ.out.1.1, HZ.out.1.2]
         exact ⟨_, _, rfl, HM.out.below HN.out⟩
end
section
end
end Go.Proofs.YtlkmgclbckojgaaGreatDoor

