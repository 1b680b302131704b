import Derived.Test.YtlkmgclbckojgaaGreatDoorG3
import Derived.Deep.AppendLies
import Derived.Deep.RegionLaw
import Derived.Deep.CutRange
import Derived.Deep.DrawnRows
set_option linter.unusedVariables false
set_option linter.unusedSimpArgs false
set_option maxHeartbeats 8000000
set_option maxRecDepth 100000
namespace Go.Proofs.YtlkmgclbckojgaaGreatDoor
section
open Go.RowKit
attribute [local go_sem ↓] Go.wp_at_zero Go.wp_at_succ
theorem Zp5 {w : World} {lb : Nat} {A : Nat → Prop} {D : Addr → Option Int} {bs : List Nat} {n : Nat} {wq : World} (h : LdS w lb A D [] bs n wq) (h0 : 0 < w.heap.size) {s z : Int} {g : Option Addr} (hv : ValD D s g z) :
   Calls Tryz.prog 62 #[.pointer (some ⟨lb, 0, none⟩), .agg #[.int .i64 s, .pointer g]] wq fun e w' => e = .returned (.bool true) ∧ LdS w lb A D ([] ++ [z]) bs n w' := by
 obtain ⟨F, K, G, qs, lv, pv, bv, h⟩ := h
 have hb1 : Below wq.heap.size wq (wq.alloc (.cells #[.int .i64 s, .pointer g] 28)) := (zb).alloc (zl) _
 have a0 := heap_alloc_new wq (.cells #[.int .i64 s, .pointer g] 28)
 have h1 := h.below hb1
 obtain ⟨a, c, rfl⟩ := (RowV.of_own h1.own).shape
 obtain ⟨a', c', rfl⟩ := (RowV.of_own h1.bes).shape
 have hst := h1.stepP h0 hv a0 (fun e => by have := (h.own.lt _ e).2; omega)
 have c6 := h1.mem.cell 6 h1.c6
 have c6d := (h1.below ((zb).alloc (zl) (.cells #[.int .i64 s, .pointer g] 28))).mem.cell 6 h1.c6
 obtain ⟨e0, e1⟩ := Zab a0
 obtain ⟨i0, hi0, hz0, hz1, hz2⟩ := info_parts infoeN
 obtain ⟨j0, hj0, hy0, hy1, hy2⟩ := info_parts infoeB
 have hsz := h1.bl.size
 have hfr : (wq.alloc (.cells #[.int .i64 s, .pointer g] 28)).frozen? ⟨lb, 6, none⟩ = false := by simp only [World.frozen?]; rw [h1.mem.hs]; rfl
 have HI := zh (zi hi0 (zi hz0 (zi hz1 (zi hz2 (zi hj0 (zi hy0 (zi hy1 hy2)))))))
 have HX := zh (zi h1.own (zi hst h0))
 have hnw := Zaj (wq.alloc (.cells #[.int .i64 s, .pointer g] 28)) (cellsN (s, g)) 28 (0, 0)
 rw [show (wq.alloc (.cells #[.int .i64 s, .pointer g] 28)).heap.size = wq.heap.size + 1 by simp] at hnw hsz
 simp only [List.length_nil] at c6 c6d
 clear h1 hv hi0 hz0 hz1 hz2 hj0 hy0 hy1 hy2 a0 h0 hst h hb1
 go_enter Tryz.func62, Tryz.ntmps62
 go_upto_region 7 with fail
 go_cut [] from 38 to 57 (fun wx => ∃ (F : Nat → Prop) (K : List Addr) (G : StG) (qs : List NV) (lv pv bv : Value), Ld w lb F A D K G qs lv pv bv ([] ++ [z]) (besL []) bs n wx)
 case first =>
   first
     | go_region_law
       ((refine step_append_lies _ (by rfl) _ _ _ (by rfl) w.heap.size 28 i0 zN 2 16 Tryz.underlying30 HI.out.1 HI.out.2.1 HI.out.2.2.1 HI.out.2.2.2.1 (by rfl) (by decide) _ 0 _ (by rfl) (HX.out.1.alloc _) ⟨wq.heap.size + 1, 0, none⟩ 1 1 (cellsN (s, g)) (by rfl) (by rfl) hnw (by simp [cellsN, Value.oneCell']) (by decide) (by unfold maxLen; omega) (by omega) (by simp; omega) _ rfl ?_; intro g6 k6 w6 hown6 hg6 hat6 hlt6
         obtain ⟨⟨c6b, _, _⟩, f6, c7, f7, hz6, _, hL6⟩ := HX.out.2.1 _ (by repeat (first | exact zb | refine Below.drew ?_ | refine Below.alloc ?_ (by simp) _)) g6 k6 w6 hown6 hg6 hat6
         have H6 := zh hL6
         clear hown6 hg6 hat6 hL6))
     | fail
   all_goals
     (try go_wp2)
     go_meet
     exact ⟨_, _, _, _, _, _, _, H6.out⟩
 case rest =>
   obtain ⟨F2, K2, G2, qs2, lv2, pv2, bv2, hL⟩ := hcut
   obtain ⟨a2, c2, rfl⟩ := (RowV.of_own hL.bes).shape
   have c7 := hL.mem.cell 7 hL.c7
   have hsB := hL.stepB HX.out.2.2 (b := false) (by simp)
   have hs2 := hL.bl.size
   have HB := zh (zi hL.bes hsB)
   clear hL hsB c6 c6d e0 e1 hnw hsz hfr
   simp only [besL, List.length_nil, List.range_zero, List.map_nil] at c7
   go_wp2_with (first
     | (at_builtin; refine wpList_append_own_at _ rfl _ _ 100 rfl w.heap.size 4 j0 (.bool false) 1 1 Tryz.underlying100 HI.out.2.2.2.2.1 HI.out.2.2.2.2.2.1 HI.out.2.2.2.2.2.2.1 HI.out.2.2.2.2.2.2.2 rfl (by decide) _ 0 _ rfl (HB.out.1.alloc _) ⟨wc.heap.size, 0, none⟩ 1 1 [.bool false] rfl rfl (Zaj wc _ _ _) (by simp [Value.oneCell']) (by unfold maxLen; omega) (by omega) (by simp; omega) ?_; intro v8 w8 hown8 hg8 _ hat8
        obtain ⟨f8, c8, hL8⟩ := HB.out.2 _ ((zb).alloc (zl) _) v8 w8 hown8 hg8 hat8
        obtain ⟨a8, k8, rfl⟩ := (RowV.of_own hown8).shape
        have H8 := zh hL8
        clear hown8 hg8 hat8 hL8))
   refine bodyPost_ret (v := .bool true) (by simp [results, Tryz.results62, go_sem]) rfl ⟨rfl, H8.out⟩
end
section
open Go.RowKit
attribute [local go_sem ↓] Go.wp_at_zero Go.wp_at_succ
theorem Zq5 {w : World} {lb : Nat} {A : Nat → Prop} {D : Addr → Option Int} {ps : List Int} {bs : List Nat} {n m : Nat} {wq : World} (h : LdS w lb A D ps bs n wq) (h0 : 0 < w.heap.size) {s z y0 : Int} {g : Option Addr} (hv : ValD D s g z) (hm : ps.length = m + 1) (hl9 : ps.length ≤ 2000) (hy : ps[m]? = some y0) (hy0 : 0 ≤ y0) (hw0 : wt y0 ≤ 300) (hn : n + 1 ≤ big) (hge : z ≤ y0) :
   Calls Tryz.prog 62 #[.pointer (some ⟨lb, 0, none⟩), .agg #[.int .i64 s, .pointer g]] wq fun e w' => e = .returned (.bool false) ∧ Below w.heap.size w w' := by
 obtain ⟨F, K, G, qs, lv, pv, bv, h⟩ := h
 have hb1 : Below wq.heap.size wq (wq.alloc (.cells #[.int .i64 s, .pointer g] 28)) := (zb).alloc (zl) _
 have a0 := heap_alloc_new wq (.cells #[.int .i64 s, .pointer g] 28)
 have h1 := h.vars hb1 (A' := fun k => A k ∨ k = wq.heap.size) (by
   rintro k (x | x)
   · exact .inl x
   · rw [x]; exact .inr ⟨zl, Own.of a0 (by decide) (by decide) (by decide)⟩)
 have hql := h1.len
 have hmq : m < qs.length := by omega
 obtain ⟨b, c, hpv⟩ : ∃ b c, pv = .slice (some ⟨b, 0, none⟩) ps.length c := by
   obtain ⟨_, h2⟩ := h1.own
   rcases h2 with ⟨e, _⟩ | ⟨g', cap, cur, ev, _⟩
   · omega
   · exact ⟨g', cap, ev⟩
 subst hpv
 have hval : ValD D qs[m].1 qs[m].2 y0 := by
   obtain ⟨y, hy1⟩ := h1.kn qs[m] (List.getElem_mem hmq)
   have e1 : (qs.map (rankN D))[m]? = some y := by rw [List.getElem?_map, List.getElem?_eq_getElem hmq]; simp [rankN, hy1.val]
   rw [h1.rk, hy] at e1
   cases e1; exact hy1
 obtain ⟨q0, q1⟩ := RowC.num (RowV.of_own h1.own).rowC m hmq
 have c6 := h1.mem.cell 6 h1.c6
 obtain ⟨e0, e1⟩ := Zab a0
 have hbZ : Below (wq.alloc (.cells #[.int .i64 s, .pointer g] 28)).heap.size (wq.alloc (.cells #[.int .i64 s, .pointer g] 28)) ((wq.alloc (.cells #[.int .i64 s, .pointer g] 28)).alloc (.cells #[.int .i64 0, .pointer none] 28)) := (zb).alloc (zl) _
 have hblt := (h1.own.lt b rfl).2
 have r0 := (hbZ.cell (p := ⟨b, 0 + m * 2, none⟩) hblt).trans q0
 have r1 := (hbZ.cell (p := ⟨b, 0 + m * 2 + 1, none⟩) hblt).trans q1
 have r6 := (h1.below hbZ).mem.cell 6 h1.c6
 have hsv : (0 : Int) ≤ sgn (y0 - z) := by unfold sgn; split <;> (try split) <;> omega
 have hlt1 := h1.bl.size
 have hbS : Below wq.heap.size wq ((wq.alloc (.cells #[.int .i64 s, .pointer g] 28)).alloc (.cells #[.int .i64 s, .pointer g] 28)) := hb1.alloc (by simp) _
 have HX := zh (zi h1 (zi a0 (zi hv (zi hval (zi hy (zi h0 (zi hn (zi hw0 (zi hge hm)))))))))
 generalize qs[m] = pm at q0 q1 r0 r1 hval HX
 obtain ⟨s0, g0⟩ := pm
 simp only [Nat.zero_add] at q0 q1 r0 r1 hval HX
 have p1 : (ps.length : Int) - 1 = (m : Int) := by omega
 have p2 : (0 : Int) ≤ (m : Int) := by omega
 have p3 : (m : Int) < (ps.length : Int) := by omega
 have p4 : (0 : Int) < (ps.length : Int) := by omega
 have p6 : IntKind.i64.wrap ((ps.length : Int) - 1) = (m : Int) := by rw [Zec, p1]; exact Za4 (by unfold i64; omega)
 have p7 : (m : Int).toNat = m := by omega
 have p10 : IntKind.i64.wrap (m : Int) = (m : Int) := by rw [Zec]; exact Za4 (by unfold i64; omega)
 have p8 : m < ps.length := by omega
 have p9 : (ps.length : Int) ≤ 2000 := by omega
 clear h h1 hv hb1 a0 hval hy h0 hn hw0 hql hmq hge hm hbS hlt1 hl9 hbZ hblt
 go_enter Tryz.func62, Tryz.ntmps62
 go_upto_region 3 with fail
 go_cut [6, 12] from 13 to 57 (fun t _ wx => t = .pointer (some ⟨wq.heap.size + 1, 0, none⟩) ∧ Below (wq.alloc (.cells #[.int .i64 s, .pointer g] 28)).heap.size (wq.alloc (.cells #[.int .i64 s, .pointer g] 28)) wx ∧ wx.heap[wq.heap.size + 1]? = some (.cells #[.int .i64 s0, .pointer g0] 28 (0, 0)))
 case first =>
   first
     | go_region
     | fail
   all_goals
     (try go_wp2)
     go_meet
     refine ⟨rfl, ((zb).alloc (zl) _).drew, ?_⟩
     have := heap_alloc_new (wq.alloc (.cells #[.int .i64 s, .pointer g] 28)) (.cells #[.int .i64 s0, .pointer g0] 28)
     rw [show (wq.alloc (.cells #[.int .i64 s, .pointer g] 28)).heap.size = wq.heap.size + 1 by simp] at this
     exact this
 case rest =>
   obtain ⟨rfl, hbw, ha⟩ := hcut
   obtain ⟨h1, a0, hv, hval, hy, h0, hn, hw0, hge, hm⟩ := HX.out
   have hS : LdS w lb (fun k => A k ∨ k = wq.heap.size) D ps bs n wc := ⟨F, K, G, qs, lv, _, bv, h1.below hbw⟩
   have x0 := (hbw.block _ (Zap a0)).trans a0
   obtain ⟨x1, x2⟩ := Zab x0
   obtain ⟨x3, x4⟩ := Zab ha
   have hcmp : ∀ W, Below wc.heap.size wc W → Calls Tryz.prog 50 #[.pointer (some ⟨lb, 0, none⟩), .agg #[.int .i64 s0, .pointer g0], .agg #[.int .i64 s, .pointer g]] W fun e w' => e = .returned (.int .i64 (sgn (y0 - z))) ∧ LdS w lb (fun k => A k ∨ k = wq.heap.size) D ps bs n w' ∧
       w'.heap[wq.heap.size]? = some (.cells #[.int .i64 s, .pointer g] 28 (0, 0)) ∧ w'.heap[wq.heap.size + 1]? = some (.cells #[.int .i64 s0, .pointer g0] 28 (0, 0)) := by
     intro W hW
     refine ((hS.below hW).compare (by omega) hval hv).mono ?_
     rintro e w' ⟨rfl, hS', ho⟩
     exact ⟨rfl, hS', ho _ _ _ _ ((hW.block _ (Zap x0)).trans x0) (by decide) (by decide) (by decide), ho _ _ _ _ ((hW.block _ (Zap ha)).trans ha) (by decide) (by decide) (by decide)⟩
   generalize sgn (y0 - z) = sv at hsv hcmp
   clear hbw ha h1 a0 hv hval hy h0 hn hw0 hge hm hS x0 q0 q1 r0 r1 r6 c6 e0 e1
   go_upto_region 4 with fail
   go_cut [31] from 25 to 57 (fun t wx => t = .bool true ∧ LdS w lb (fun k => A k ∨ k = wq.heap.size) D ps bs n wx ∧ wx.heap[wq.heap.size]? = some (.cells #[.int .i64 s, .pointer g] 28 (0, 0)) ∧ wx.heap[wq.heap.size + 1]? = some (.cells #[.int .i64 s0, .pointer g0] 28 (0, 0)))
   case first =>
     first
       | go_region_with (first
         | (go_at_call 50; refine (hcmp _ (by repeat (first | exact zb | refine Below.drew ?_))).mono ?_; rintro e4 w4 ⟨rfl, hS4, x5, x6⟩
            have H4 := zh (zi hS4 (zi x5 x6))
            clear hS4 x5 x6))
       | fail
     all_goals
       (try go_wp2)
       go_meet
       exact ⟨by simp [hsv], H4.out⟩
   case rest =>
     obtain ⟨rfl, hS4, x5, x6⟩ := hcut
     have HS4 := zh hS4
     clear hS4 x5 x6 hcmp
     go_wp2
     refine bodyPost_ret (v := .bool false) (by simp [results, Tryz.results62, go_sem]) rfl ⟨rfl, HS4.out.bl⟩
theorem Zq6 {w : World} {lb : Nat} {A : Nat → Prop} {D : Addr → Option Int} {ps : List Int} {bs : List Nat} {n m : Nat} {wq : World} (h : LdS w lb A D ps bs n wq) (h0 : 0 < w.heap.size) {s z y0 : Int} {g : Option Addr} (hv : ValD D s g z) (hm : ps.length = m + 1) (hl9 : ps.length ≤ 2000) (hy : ps[m]? = some y0) (hy0 : 0 ≤ y0) (hw0 : wt y0 ≤ 300) (hn : n + 1 ≤ big) (hge : y0 < z) :
   Calls Tryz.prog 62 #[.pointer (some ⟨lb, 0, none⟩), .agg #[.int .i64 s, .pointer g]] wq fun e w' => e = .returned (.bool true) ∧ ∃ D', LdS w lb A D' (ps ++ [z]) bs (n + 1) w' ∧ ∀ p u, D p = some u → D' p = some u := by
 obtain ⟨F, K, G, qs, lv, pv, bv, h⟩ := h
 have hb1 : Below wq.heap.size wq (wq.alloc (.cells #[.int .i64 s, .pointer g] 28)) := (zb).alloc (zl) _
 have a0 := heap_alloc_new wq (.cells #[.int .i64 s, .pointer g] 28)
 have h1 := h.vars hb1 (A' := fun k => A k ∨ k = wq.heap.size) (by
   rintro k (x | x)
   · exact .inl x
   · rw [x]; exact .inr ⟨zl, Own.of a0 (by decide) (by decide) (by decide)⟩)
 have hql := h1.len
 have hmq : m < qs.length := by omega
 obtain ⟨b, c, hpv⟩ : ∃ b c, pv = .slice (some ⟨b, 0, none⟩) ps.length c := by
   obtain ⟨_, h2⟩ := h1.own
   rcases h2 with ⟨e, _⟩ | ⟨g', cap, cur, ev, _⟩
   · omega
   · exact ⟨g', cap, ev⟩
 subst hpv
 have hval : ValD D qs[m].1 qs[m].2 y0 := by
   obtain ⟨y, hy1⟩ := h1.kn qs[m] (List.getElem_mem hmq)
   have e1 : (qs.map (rankN D))[m]? = some y := by rw [List.getElem?_map, List.getElem?_eq_getElem hmq]; simp [rankN, hy1.val]
   rw [h1.rk, hy] at e1
   cases e1; exact hy1
 obtain ⟨q0, q1⟩ := RowC.num (RowV.of_own h1.own).rowC m hmq
 have c6 := h1.mem.cell 6 h1.c6
 obtain ⟨e0, e1⟩ := Zab a0
 have hbZ : Below (wq.alloc (.cells #[.int .i64 s, .pointer g] 28)).heap.size (wq.alloc (.cells #[.int .i64 s, .pointer g] 28)) ((wq.alloc (.cells #[.int .i64 s, .pointer g] 28)).alloc (.cells #[.int .i64 0, .pointer none] 28)) := (zb).alloc (zl) _
 have hblt := (h1.own.lt b rfl).2
 have r0 := (hbZ.cell (p := ⟨b, 0 + m * 2, none⟩) hblt).trans q0
 have r1 := (hbZ.cell (p := ⟨b, 0 + m * 2 + 1, none⟩) hblt).trans q1
 have r6 := (h1.below hbZ).mem.cell 6 h1.c6
 have hsv : ¬ (0 : Int) ≤ sgn (y0 - z) := by unfold sgn; split <;> (try split) <;> omega
 have hlt1 := h1.bl.size
 have hbS : Below wq.heap.size wq ((wq.alloc (.cells #[.int .i64 s, .pointer g] 28)).alloc (.cells #[.int .i64 s, .pointer g] 28)) := hb1.alloc (by simp) _
 have HX := zh (zi h1 (zi a0 (zi hv (zi hval (zi hy (zi h0 (zi hn (zi hw0 (zi hge hm)))))))))
 generalize qs[m] = pm at q0 q1 r0 r1 hval HX
 obtain ⟨s0, g0⟩ := pm
 simp only [Nat.zero_add] at q0 q1 r0 r1 hval HX
 have p1 : (ps.length : Int) - 1 = (m : Int) := by omega
 have p2 : (0 : Int) ≤ (m : Int) := by omega
 have p3 : (m : Int) < (ps.length : Int) := by omega
 have p4 : (0 : Int) < (ps.length : Int) := by omega
 have p6 : IntKind.i64.wrap ((ps.length : Int) - 1) = (m : Int) := by rw [Zec, p1]; exact Za4 (by unfold i64; omega)
 have p7 : (m : Int).toNat = m := by omega
 have p10 : IntKind.i64.wrap (m : Int) = (m : Int) := by rw [Zec]; exact Za4 (by unfold i64; omega)
 have p8 : m < ps.length := by omega
 have p9 : (ps.length : Int) ≤ 2000 := by omega
 clear h h1 hv hb1 a0 hval hy h0 hn hw0 hql hmq hge hm hbS hlt1 hl9 hbZ hblt
 go_enter Tryz.func62, Tryz.ntmps62
 go_upto_region 3 with fail
 go_cut [6, 12] from 13 to 57 (fun t _ wx => t = .pointer (some ⟨wq.heap.size + 1, 0, none⟩) ∧ Below (wq.alloc (.cells #[.int .i64 s, .pointer g] 28)).heap.size (wq.alloc (.cells #[.int .i64 s, .pointer g] 28)) wx ∧ wx.heap[wq.heap.size + 1]? = some (.cells #[.int .i64 s0, .pointer g0] 28 (0, 0)))
 case first =>
   first
     | go_region
     | fail
   all_goals
     (try go_wp2)
     go_meet
     refine ⟨rfl, ((zb).alloc (zl) _).drew, ?_⟩
     have := heap_alloc_new (wq.alloc (.cells #[.int .i64 s, .pointer g] 28)) (.cells #[.int .i64 s0, .pointer g0] 28)
     rw [show (wq.alloc (.cells #[.int .i64 s, .pointer g] 28)).heap.size = wq.heap.size + 1 by simp] at this
     exact this
 case rest =>
   obtain ⟨rfl, hbw, ha⟩ := hcut
   obtain ⟨h1, a0, hv, hval, hy, h0, hn, hw0, hge, hm⟩ := HX.out
   have hS : LdS w lb (fun k => A k ∨ k = wq.heap.size) D ps bs n wc := ⟨F, K, G, qs, lv, _, bv, h1.below hbw⟩
   have x0 := (hbw.block _ (Zap a0)).trans a0
   obtain ⟨x1, x2⟩ := Zab x0
   obtain ⟨x3, x4⟩ := Zab ha
   have hcmp : ∀ W, Below wc.heap.size wc W → Calls Tryz.prog 50 #[.pointer (some ⟨lb, 0, none⟩), .agg #[.int .i64 s0, .pointer g0], .agg #[.int .i64 s, .pointer g]] W fun e w' => e = .returned (.int .i64 (sgn (y0 - z))) ∧ LdS w lb (fun k => A k ∨ k = wq.heap.size) D ps bs n w' ∧
       w'.heap[wq.heap.size]? = some (.cells #[.int .i64 s, .pointer g] 28 (0, 0)) ∧ w'.heap[wq.heap.size + 1]? = some (.cells #[.int .i64 s0, .pointer g0] 28 (0, 0)) := by
     intro W hW
     refine ((hS.below hW).compare (by omega) hval hv).mono ?_
     rintro e w' ⟨rfl, hS', ho⟩
     exact ⟨rfl, hS', ho _ _ _ _ ((hW.block _ (Zap x0)).trans x0) (by decide) (by decide) (by decide), ho _ _ _ _ ((hW.block _ (Zap ha)).trans ha) (by decide) (by decide) (by decide)⟩
   generalize sgn (y0 - z) = sv at hsv hcmp
   clear hbw ha h1 a0 hv hval hy h0 hn hw0 hge hm hS x0 q0 q1 r0 r1 r6 c6 e0 e1
   go_upto_region 4 with fail
   go_cut [31] from 25 to 57 (fun t wx => t = .bool false ∧ LdS w lb (fun k => A k ∨ k = wq.heap.size) D ps bs n wx ∧ wx.heap[wq.heap.size]? = some (.cells #[.int .i64 s, .pointer g] 28 (0, 0)) ∧ wx.heap[wq.heap.size + 1]? = some (.cells #[.int .i64 s0, .pointer g0] 28 (0, 0)))
   case first =>
     first
       | go_region_with (first
         | (go_at_call 50; refine (hcmp _ (by repeat (first | exact zb | refine Below.drew ?_))).mono ?_; rintro e4 w4 ⟨rfl, hS4, x5, x6⟩
            have H4 := zh (zi hS4 (zi x5 x6))
            clear hS4 x5 x6))
       | fail
     all_goals
       (try go_wp2)
       go_meet
       exact ⟨by simp [hsv], H4.out⟩
   case rest =>
     obtain ⟨rfl, hS4, x5, x6⟩ := hcut
     obtain ⟨h1, a0, hv, hval, hy, h0, hn, hw0, hge, hm⟩ := HX.out
     obtain ⟨e, rfl⟩ : ∃ e : Nat, y0 = (e : Int) := ⟨y0.toNat, by omega⟩
     obtain ⟨f, rfl⟩ : ∃ f : Nat, z = (f : Int) := ⟨z.toNat, by omega⟩
     have hfol : ∀ W, Below wc.heap.size wc W → Calls Tryz.prog 83 #[.pointer (some ⟨lb, 0, none⟩), .agg #[.int .i64 s0, .pointer g0], .agg #[.int .i64 s, .pointer g]] W fun x w' => ∃ D' : Addr → Option Int, x = .returned (.bool (decide (f = e + 1))) ∧ LdS w lb (fun k => A k ∨ k = wq.heap.size) D' ps bs (n + 1) w' ∧ (∀ p u, D p = some u → D' p = some u) ∧
         w'.heap[wq.heap.size]? = some (.cells #[.int .i64 s, .pointer g] 28 (0, 0)) := by
       intro W hW
       refine ((hS4.below hW).follows hn hval hv (by omega)).mono ?_
       rintro x w' ⟨D', rfl, hS', hmo, ho⟩
       exact ⟨D', rfl, hS', hmo, ho _ _ _ _ ((hW.block _ (Zap x5)).trans x5) (by decide) (by decide) (by decide)⟩
     obtain ⟨y1, y2⟩ := Zab x5
     obtain ⟨y3, y4⟩ := Zab x6
     generalize hfb : decide (f = e + 1) = fb at hfol
     have hy' := hy
     have HY := zh (zi hv (zi h0 (zi hy' (zi hm hfb))))
     clear hcmp hS4 x5 x6 h1 a0 hv hval hy h0 hn hw0 hge hm hy' hfb HX
     go_upto_region 6 with fail
     go_cut [5] from 32 to 57 (fun t wx => ∃ D' : Addr → Option Int, t = .bool fb ∧ LdS w lb (fun k => A k ∨ k = wq.heap.size) D' ps bs (n + 1) wx ∧ (∀ p u, D p = some u → D' p = some u) ∧ wx.heap[wq.heap.size]? = some (.cells #[.int .i64 s, .pointer g] 28 (0, 0)))
     case first =>
       first
         | go_region_with (first
           | (go_at_call 83; refine (hfol _ (by repeat (first | exact zb | refine Below.drew ?_))).mono ?_; rintro e6 w6 ⟨D6, rfl, hS6⟩
              have H6 := zh hS6
              clear hS6))
         | fail
       all_goals
         (try go_wp2)
         go_meet
         exact ⟨D6, rfl, H6.out⟩
     case rest =>
       obtain ⟨D', rfl, ⟨F5, K5, G5, qs5, lv5, pv5, bv5, hL⟩, hmo, x7⟩ := hcut
       obtain ⟨hv, h0, hy, hm, hfb⟩ := HY.out
       obtain ⟨a5, c5, rfl⟩ := (RowV.of_own hL.own).shape
       have hst := hL.stepP h0 (hv.mono hmo) x7 (fun e => (hL.av wq.heap.size (.inr rfl)).1 e)
       have c6 := hL.mem.cell 6 hL.c6
       have c6d := (hL.below ((zb).alloc (zl) (.cells #[.int .i64 s, .pointer g] 28))).mem.cell 6 hL.c6
       obtain ⟨e0, e1⟩ := Zab x7
       obtain ⟨i0, hi0, hz0, hz1, hz2⟩ := info_parts infoeN
       obtain ⟨j0, hj0, hy0, hy1, hy2⟩ := info_parts infoeB
       have hsz := hL.bl.size
       have hbl : (besL ps).length = ps.length := Zmf ps
       have HI := zh (zi hi0 (zi hz0 (zi hz1 (zi hz2 (zi hj0 (zi hy0 (zi hy1 hy2)))))))
       have HZ := zh (zi hL.own (zi hst (zi h0 (zi hmo hbl))))
       have hnw := Zaj wc (cellsN (s, g)) 28 (0, 0)
       clear hL hv h0 hy hm hfb hst hi0 hz0 hz1 hz2 hj0 hy0 hy1 hy2 x7 hmo hbl y1 y2 y3 y4 hfol
       go_upto_region 7 with fail
       go_cut [] from 38 to 57 (fun wx => ∃ (F : Nat → Prop) (K : List Addr) (G : StG) (qs : List NV) (lv pv bv : Value), Ld w lb F (fun k => A k ∨ k = wq.heap.size) D' K G qs lv pv bv (ps ++ [(f : Int)]) (besL ps) bs (n + 1) wx)
       case first =>
         first
           | go_region_law
             ((refine step_append_lies _ (by rfl) _ _ _ (by rfl) w.heap.size 28 i0 zN 2 16 Tryz.underlying30 HI.out.1 HI.out.2.1 HI.out.2.2.1 HI.out.2.2.2.1 (by rfl) (by decide) _ _ _ (by rfl) (HZ.out.1.alloc _) ⟨wc.heap.size, 0, none⟩ 1 1 (cellsN (s, g)) (by rfl) (by rfl) hnw (by simp [cellsN, Value.oneCell']) (by decide) (by unfold maxLen; omega) (by omega) (by simp; omega) _ rfl ?_; intro g6 k6 w6 hown6 hg6 hat6 hlt6
               obtain ⟨⟨c6b, _, _⟩, f6, c7, f7, hz6, _, hL6⟩ := HZ.out.2.1 _ (by repeat (first | exact zb | refine Below.drew ?_ | refine Below.alloc ?_ (by simp) _)) g6 k6 w6 hown6 hg6 hat6
               have H6 := zh hL6
               clear hown6 hg6 hat6 hL6))
           | fail
         all_goals
           (try go_wp2)
           go_meet
           exact ⟨_, _, _, _, _, _, _, H6.out⟩
       case rest =>
         obtain ⟨F8, K8, G8, qs8, lv8, pv8, bv8, hL⟩ := hcut
         obtain ⟨a2, c2, rfl⟩ := (RowV.of_own hL.bes).shape
         have c7 := hL.mem.cell 7 hL.c7
         have hsB := hL.stepB HZ.out.2.2.1 (b := fb) (by
           obtain ⟨hv, h0, hy, hm, hfb⟩ := HY.out
           rw [← hfb, hm, Nat.add_sub_cancel, List.getD, hy, Option.getD_some]
           simp
           omega)
         have hs2 := hL.bl.size
         have hbl := HZ.out.2.2.2.2
         have HB := zh (zi hL.own (zi hL.bes hsB))
         clear hL hsB c6 c6d e0 e1 hnw hsz
         rw [hbl] at c7
         go_wp2_with (first
           | (at_builtin; refine wpList_append_own_at _ rfl _ _ 100 rfl w.heap.size 4 j0 (.bool false) 1 1 Tryz.underlying100 HI.out.2.2.2.2.1 HI.out.2.2.2.2.2.1 HI.out.2.2.2.2.2.2.1 HI.out.2.2.2.2.2.2.2 rfl (by decide) _ (besL ps).length _ (by rw [hbl]; rfl) (HB.out.2.1.alloc _) ⟨wc.heap.size, 0, none⟩ 1 1 [.bool fb] rfl rfl (Zaj wc _ _ _) (by simp [Value.oneCell']) (by unfold maxLen; omega) (by omega) (by simp; omega) ?_; intro v8 w8 hown8 hg8 _ hat8
              obtain ⟨f8, c8, hL8⟩ := HB.out.2.2 _ ((zb).alloc (zl) _) v8 w8 hown8 hg8 hat8
              rw [hbl] at c8
              obtain ⟨a8, k8, rfl⟩ := (RowV.of_own hown8).shape
              have H8 := zh hL8
              clear hown8 hg8 hat8 hL8))
         refine bodyPost_ret (v := .bool true) (by simp [results, Tryz.results62, go_sem]) rfl ⟨rfl, D', by have h8 := H8.out; rw [hbl] at h8; exact h8.less (fun k hk => .inl hk), HZ.out.2.2.2.1⟩
end
end Go.Proofs.YtlkmgclbckojgaaGreatDoor

