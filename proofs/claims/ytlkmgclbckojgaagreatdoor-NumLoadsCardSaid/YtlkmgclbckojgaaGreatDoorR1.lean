import Derived.Test.YtlkmgclbckojgaaGreatDoorV2
set_option linter.unusedVariables false
set_option linter.unusedSimpArgs false
set_option maxHeartbeats 16000000
set_option maxRecDepth 100000
namespace Go.Proofs.YtlkmgclbckojgaaGreatDoor
open Go.RowKit
variable {B : Nat → Prop}
def ResA (B : Nat → Prop) (w : World) (z : Int) (e : Ending) (w' : World) : Prop :=
 Below w.heap.size w w' ∧ ((allowedZ z ∧ ∃ (r : Int) (q : Option Addr), e = .returned (.tuple #[.agg #[.int .i64 r, .pointer q], .int .i64 0]) ∧ NumA B w' r q z) ∨ (¬ allowedZ z ∧ e = .returned (.tuple #[.agg #[.int .i64 0, .pointer none], .int .i64 5])))
theorem Zrf {w : World} {s s' z z' : Int} {g g' : Option Addr} (hx : NumA B w s g z) (hy : NumA B w s' g' z') (tab : Tab w) (h0 : 0 < w.heap.size) (hB : ∀ k, B k → k < w.heap.size) (hall :  allowedZ (z + z')) :
   Calls Tryz.prog 27 #[.agg #[.int .i64 s, .pointer g], .agg #[.int .i64 s', .pointer g']] w (ResA B w (z + z')) := by
 obtain ⟨w4, hw4⟩ : ∃ w4, w4 = (((w.alloc (.cells #[.int .i64 s, .pointer g] 28)).alloc (.cells #[.int .i64 s', .pointer g'] 28)).alloc (.cells #[.int .i64 0, .pointer none] 28)).alloc (.cells #[.map none, .map none, .map none, .map none, .map none] 87) := ⟨_, rfl⟩
 have hb3 : Below w.heap.size w (((w.alloc (.cells #[.int .i64 s, .pointer g] 28)).alloc (.cells #[.int .i64 s', .pointer g'] 28)).alloc (.cells #[.int .i64 0, .pointer none] 28)) := by repeat (first | exact zb | refine Below.alloc ?_ (by simp <;> omega) _)
 obtain ⟨q0, q1, q2, qz⟩ := Zcq w (.cells #[.int .i64 s, .pointer g] 28) (.cells #[.int .i64 s', .pointer g'] 28) (.cells #[.int .i64 0, .pointer none] 28)
 have hC0 := CallM.start (A := fun k => k = w.heap.size + 1 + 1) hb3 tab h0 hB (by rintro k rfl; exact ⟨by omega, Own.of q2 (by decide) (by decide) (by decide)⟩)
 obtain ⟨a0, a1, a2, hz4⟩ := Zfw w (.cells #[.int .i64 s, .pointer g] 28) (.cells #[.int .i64 s', .pointer g'] 28) (.cells #[.int .i64 0, .pointer none] 28) (.cells #[.map none, .map none, .map none, .map none, .map none] 87)
 rw [qz, ← hw4] at hC0
 rw [← hw4] at a0 a1 a2 hz4
 clear q0 q1 q2 qz hb3
 have hl1 := hx.wt
 have hl2 := hy.wt
 have he1 := fun u hu => Nat.le_trans (hx.exp u hu) (show 300 ≤ 29900 by omega)
 have he2 := fun u hu => Nat.le_trans (hy.exp u hu) (show 300 ≤ 29900 by omega)
 have hbe := Zcj
 have hT1 : ∀ W, Below w4.heap.size w4 W → Calls Tryz.prog 64 #[.pointer (some ⟨w.heap.size + 1 + 1 + 1, 0, none⟩), .agg #[.int .i64 s, .pointer g]] W fun x w' => ∃ (s1 : Int) (g1 : Option Addr) (D1 : Addr → Option Int), x = .returned (.agg #[.int .i64 s1, .pointer g1]) ∧ ValD D1 s1 g1 z ∧ CallM B w (w.heap.size + 1 + 1 + 1) (fun k => k = w.heap.size + 1 + 1) 2000 w' D1 ∧
     w'.heap[w.heap.size + 1]? = some (.cells #[.int .i64 s', .pointer g'] 28 (0, 0)) ∧ w'.heap[w.heap.size + 1 + 1]? = some (.cells #[.int .i64 0, .pointer none] 28 (0, 0)) := by
   intro W hW
   refine ((hC0.below hW).take hx.2 (by omega)).mono ?_
   rintro x w' ⟨s1, g1, D1, rfl, h1, h2, h3, h4⟩
   exact ⟨s1, g1, D1, rfl, h1, h2.more (by omega), h4 _ _ _ _ ((hW.block _ (by omega)).trans a1) (by decide) (by decide) (by decide), h4 _ _ _ _ ((hW.block _ (by omega)).trans a2) (by decide) (by decide) (by decide)⟩
 obtain ⟨e0, e1⟩ := Zab a0
 obtain ⟨e2, e3⟩ := Zab a1
 have HX := zh (zi hx (zi hy (zi hl1 (zi hl2 (zi he1 (zi he2 (zi hbe hall)))))))
 clear hx hy hl1 hl2 he1 he2 hbe hall hC0 a0 a1 a2 hz4 tab hB
 subst hw4
 go_enter Tryz.func27, Tryz.ntmps27
 go_wp2
 first
   | go_region_with (first
     | (have hq := HT1
        go_at_call 64; refine hq.out.2.2.2.2.mono ?_; rintro x6 w6 ⟨s2, g2, D2, rfl, hv2, hC2, hmo2, hoth2⟩
        obtain ⟨hv1, hC1, b1, b2, _⟩ := hq.out
        obtain ⟨hx, hy, hl1, hl2, he1, he2, hbe, hall⟩ := HX.out
        have hA := hC2.add (hv1.mono hmo2) hv2 (by omega) he1 he2 (by omega)
        have r6 := hoth2 _ _ _ _ b2 (by decide) (by decide) (by decide)
        have HA := zh (zi hA r6)
        clear hv2 hC2 hmo2 hoth2 hv1 hC1 b1 b2 hx hy hl1 hl2 he1 he2 hbe hall hA r6)
     | (go_at_call 64; refine (hT1 _ (by first | exact (zb).drew | exact zb)).mono ?_; rintro x5 w5 ⟨s1, g1, D1, rfl, hv1, hC1, b1, b2⟩
        obtain ⟨hx, hy, hl1, hl2, he1, he2, hbe, hall⟩ := HX.out
        obtain ⟨x2, x3⟩ := Zab b1
        have hT2 := hC1.take hy.2 (by omega)
        have HT1 := zh (zi hv1 (zi hC1 (zi b1 (zi b2 hT2))))
        clear hv1 hC1 b1 b2 hT2 hx hy hl1 hl2 he1 he2 hbe hall)
     | (go_at_call 66; refine HA.out.1.mono ?_; rintro x7 w7 ⟨r7, q7, D7, rfl, hv7, hC7, hmo7, hoth7⟩
        obtain ⟨hx, hy, hl1, hl2, he1, he2, hbe, hall⟩ := HX.out
        have r7b := hoth7 _ _ _ _ HA.out.2 (by decide) (by decide) (by decide)
        have hN := (hC7.numA hv7).more (L' := 200000000) (by omega)
        have hlim := Zeu (hN.shrink (fun i hi => hi.elim)) hall
        have HL := zh (zi hlim (zi hN (zi r7b hC7.all)))
        clear hv7 hC7 hmo7 hoth7 r7b hN hlim hx hy hl1 hl2 he1 he2 hbe hall)
     | (go_at_call 67; refine HL.out.1.mono ?_; rintro x8 w8 ⟨rfl, hb8⟩
        obtain ⟨hlim, hN, r7b, hbe7⟩ := HL.out
        have r8 := (hb8.block _ (Zad r7b)).trans r7b
        obtain ⟨y0, y1⟩ := Zab r8
        obtain ⟨y2, y3⟩ := Zae r8
        have H8 := zh (zi hb8 (zi hN hbe7))
        clear hb8 r8 hlim hN r7b hbe7))
   | fail
 all_goals
   (try go_wp2)
   refine bodyPost_ret (v := .tuple #[.agg #[.int .i64 r7, .pointer q7], .int .i64 0]) (by simp [results, Tryz.results27, go_sem, *]) rfl ?_
   obtain ⟨hb8, hN, hbe7⟩ := H8.out
   have hall := HX.out.2.2.2.2.2.2.2
   have hs7 := hbe7.size
   have hbF := ((hbe7.trans (hb8.mono hs7)).setCell (p := ⟨w.heap.size + 1 + 1, 0, none⟩) (by show w.heap.size ≤ w.heap.size + 1 + 1; omega) (.int .i64 r7)).setCell (p := ⟨w.heap.size + 1 + 1, 1, none⟩) (by show w.heap.size ≤ w.heap.size + 1 + 1; omega) (.pointer q7)
   exact ⟨hbF, .inl ⟨hall, r7, q7, rfl, hN.put hb8 _ _ hall⟩⟩
theorem Add_no {w : World} {s s' z z' : Int} {g g' : Option Addr} (hx : NumA B w s g z) (hy : NumA B w s' g' z') (tab : Tab w) (h0 : 0 < w.heap.size) (hB : ∀ k, B k → k < w.heap.size) (hall : ¬ allowedZ (z + z')) :
   Calls Tryz.prog 27 #[.agg #[.int .i64 s, .pointer g], .agg #[.int .i64 s', .pointer g']] w (ResA B w (z + z')) := by
 obtain ⟨w4, hw4⟩ : ∃ w4, w4 = (((w.alloc (.cells #[.int .i64 s, .pointer g] 28)).alloc (.cells #[.int .i64 s', .pointer g'] 28)).alloc (.cells #[.int .i64 0, .pointer none] 28)).alloc (.cells #[.map none, .map none, .map none, .map none, .map none] 87) := ⟨_, rfl⟩
 have hb3 : Below w.heap.size w (((w.alloc (.cells #[.int .i64 s, .pointer g] 28)).alloc (.cells #[.int .i64 s', .pointer g'] 28)).alloc (.cells #[.int .i64 0, .pointer none] 28)) := by repeat (first | exact zb | refine Below.alloc ?_ (by simp <;> omega) _)
 obtain ⟨q0, q1, q2, qz⟩ := Zcq w (.cells #[.int .i64 s, .pointer g] 28) (.cells #[.int .i64 s', .pointer g'] 28) (.cells #[.int .i64 0, .pointer none] 28)
 have hC0 := CallM.start (A := fun k => k = w.heap.size + 1 + 1) hb3 tab h0 hB (by rintro k rfl; exact ⟨by omega, Own.of q2 (by decide) (by decide) (by decide)⟩)
 obtain ⟨a0, a1, a2, hz4⟩ := Zfw w (.cells #[.int .i64 s, .pointer g] 28) (.cells #[.int .i64 s', .pointer g'] 28) (.cells #[.int .i64 0, .pointer none] 28) (.cells #[.map none, .map none, .map none, .map none, .map none] 87)
 rw [qz, ← hw4] at hC0
 rw [← hw4] at a0 a1 a2 hz4
 clear q0 q1 q2 qz hb3
 have hl1 := hx.wt
 have hl2 := hy.wt
 have he1 := fun u hu => Nat.le_trans (hx.exp u hu) (show 300 ≤ 29900 by omega)
 have he2 := fun u hu => Nat.le_trans (hy.exp u hu) (show 300 ≤ 29900 by omega)
 have hbe := Zcj
 have hT1 : ∀ W, Below w4.heap.size w4 W → Calls Tryz.prog 64 #[.pointer (some ⟨w.heap.size + 1 + 1 + 1, 0, none⟩), .agg #[.int .i64 s, .pointer g]] W fun x w' => ∃ (s1 : Int) (g1 : Option Addr) (D1 : Addr → Option Int), x = .returned (.agg #[.int .i64 s1, .pointer g1]) ∧ ValD D1 s1 g1 z ∧ CallM B w (w.heap.size + 1 + 1 + 1) (fun k => k = w.heap.size + 1 + 1) 2000 w' D1 ∧
     w'.heap[w.heap.size + 1]? = some (.cells #[.int .i64 s', .pointer g'] 28 (0, 0)) ∧ w'.heap[w.heap.size + 1 + 1]? = some (.cells #[.int .i64 0, .pointer none] 28 (0, 0)) := by
   intro W hW
   refine ((hC0.below hW).take hx.2 (by omega)).mono ?_
   rintro x w' ⟨s1, g1, D1, rfl, h1, h2, h3, h4⟩
   exact ⟨s1, g1, D1, rfl, h1, h2.more (by omega), h4 _ _ _ _ ((hW.block _ (by omega)).trans a1) (by decide) (by decide) (by decide), h4 _ _ _ _ ((hW.block _ (by omega)).trans a2) (by decide) (by decide) (by decide)⟩
 obtain ⟨e0, e1⟩ := Zab a0
 obtain ⟨e2, e3⟩ := Zab a1
 have HX := zh (zi hx (zi hy (zi hl1 (zi hl2 (zi he1 (zi he2 (zi hbe hall)))))))
 clear hx hy hl1 hl2 he1 he2 hbe hall hC0 a0 a1 a2 hz4 tab hB
 subst hw4
 go_enter Tryz.func27, Tryz.ntmps27
 go_wp2
 first
   | go_region_with (first
     | (have hq := HT1
        go_at_call 64; refine hq.out.2.2.2.2.mono ?_; rintro x6 w6 ⟨s2, g2, D2, rfl, hv2, hC2, hmo2, hoth2⟩
        obtain ⟨hv1, hC1, b1, b2, _⟩ := hq.out
        obtain ⟨hx, hy, hl1, hl2, he1, he2, hbe, hall⟩ := HX.out
        have hA := hC2.add (hv1.mono hmo2) hv2 (by omega) he1 he2 (by omega)
        have r6 := hoth2 _ _ _ _ b2 (by decide) (by decide) (by decide)
        have HA := zh (zi hA r6)
        clear hv2 hC2 hmo2 hoth2 hv1 hC1 b1 b2 hx hy hl1 hl2 he1 he2 hbe hall hA r6)
     | (go_at_call 64; refine (hT1 _ (by first | exact (zb).drew | exact zb)).mono ?_; rintro x5 w5 ⟨s1, g1, D1, rfl, hv1, hC1, b1, b2⟩
        obtain ⟨hx, hy, hl1, hl2, he1, he2, hbe, hall⟩ := HX.out
        obtain ⟨x2, x3⟩ := Zab b1
        have hT2 := hC1.take hy.2 (by omega)
        have HT1 := zh (zi hv1 (zi hC1 (zi b1 (zi b2 hT2))))
        clear hv1 hC1 b1 b2 hT2 hx hy hl1 hl2 he1 he2 hbe hall)
     | (go_at_call 66; refine HA.out.1.mono ?_; rintro x7 w7 ⟨r7, q7, D7, rfl, hv7, hC7, hmo7, hoth7⟩
        obtain ⟨hx, hy, hl1, hl2, he1, he2, hbe, hall⟩ := HX.out
        have r7b := hoth7 _ _ _ _ HA.out.2 (by decide) (by decide) (by decide)
        have hN := (hC7.numA hv7).more (L' := 200000000) (by omega)
        have hlim := Zfu (hN.shrink (fun i hi => hi.elim)) hall
        have HL := zh (zi hlim (zi hN (zi r7b hC7.all)))
        clear hv7 hC7 hmo7 hoth7 r7b hN hlim hx hy hl1 hl2 he1 he2 hbe hall)
     | (go_at_call 67; refine HL.out.1.mono ?_; rintro x8 w8 ⟨rfl, hb8⟩
        obtain ⟨hlim, hN, r7b, hbe7⟩ := HL.out
        have r8 := (hb8.block _ (Zad r7b)).trans r7b
        obtain ⟨y0, y1⟩ := Zab r8
        obtain ⟨y2, y3⟩ := Zae r8
        have H8 := zh (zi hb8 (zi hN hbe7))
        clear hb8 r8 hlim hN r7b hbe7))
   | fail
 all_goals
   (try go_wp2)
   refine bodyPost_ret (v := .tuple #[.agg #[.int .i64 0, .pointer none], .int .i64 5]) (by simp [results, Tryz.results27, go_sem, *]) rfl ?_
   obtain ⟨hb8, hN, hbe7⟩ := H8.out
   have hall := HX.out.2.2.2.2.2.2.2
   have hs7 := hbe7.size
   have hbF := ((hbe7.trans (hb8.mono hs7)).setCell (p := ⟨w.heap.size + 1 + 1, 0, none⟩) (by show w.heap.size ≤ w.heap.size + 1 + 1; omega) (.int .i64 0)).setCell (p := ⟨w.heap.size + 1 + 1, 1, none⟩) (by show w.heap.size ≤ w.heap.size + 1 + 1; omega) (.pointer none)
   exact ⟨hbF, .inr ⟨hall, rfl⟩⟩
theorem Zo7 {w : World} {s s' z z' : Int} {g g' : Option Addr} (hx : NumA B w s g z) (hy : NumA B w s' g' z') (tab : Tab w) (h0 : 0 < w.heap.size) (hB : ∀ k, B k → k < w.heap.size) :
   Calls Tryz.prog 27 #[.agg #[.int .i64 s, .pointer g], .agg #[.int .i64 s', .pointer g']] w (ResA B w (z + z')) := by
 by_cases h : allowedZ (z + z')
 · exact Zrf hx hy tab h0 hB h
 · exact Add_no hx hy tab h0 hB h
end Go.Proofs.YtlkmgclbckojgaaGreatDoor

