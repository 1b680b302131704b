import Derived.Test.YtlkmgclbckojgaaGreatDoorA1
import Derived.Deep.CutRange
import Derived.Deep.RegionHeld3
import Derived.Deep.DrawnRows
set_option linter.unusedVariables false
set_option linter.unusedSimpArgs false
set_option maxHeartbeats 8000000
set_option maxRecDepth 100000
namespace Go.Proofs.YtlkmgclbckojgaaGreatDoor
open Go.RowKit
attribute [local go_sem ↓] Go.wp_at_zero Go.wp_at_succ
theorem Zky {w : World} (tab : Tab w) (h0 : 0 < w.heap.size) :
   Calls Tryz.prog 6 #[] w fun e w' => e = .returned (.bool true) ∧ Below w.heap.size w w' := by
 obtain ⟨P, Q, eP, eQ, rP, rQ, aP, aQ, aR, hPQ⟩ := Zmt
 have hB : ∀ (W : World), ∀ k, cold k → k < W.heap.size := fun W k hk => hk.elim
 have HX := zh (zi tab (zi h0 (zi eP (zi eQ (zi rP (zi rQ (zi aP (zi aQ (zi aR hPQ)))))))))
 have htw : ∀ W, Below w.heap.size w W → Tab W ∧ 0 < W.heap.size := fun W hW => ⟨Zfi tab h0 hW, by have := hW.size; omega⟩
 clear tab h0 eP eQ rP rQ aP aQ aR hPQ
 have HT := zh htw
 have HB := zh hB
 clear htw hB
 go_enter Tryz.func6, Tryz.ntmps6
 go_upto_region 2 with (first
   | (go_at_call 8; refine (Zax _ _).mono ?_; rintro e1 w1 ⟨rfl, hb1⟩))
 go_cut [1, 2, 3] from 16 to 139 (fun t1 t2 t3 wx => ∃ b1 b2, t1 = .pointer (some ⟨b1, 0, none⟩) ∧ t2 = .pointer (some ⟨b2, 0, none⟩) ∧ t3 = .int .i64 0 ∧ Below w.heap.size w wx ∧ NumAt cold wx b1 7 ∧ NumAt cold wx b2 P)
 case first =>
   have hbA : Below w.heap.size w (w1.alloc (.cells #[.int .i64 7, .pointer none] 28)) := hb1.alloc hb1.size _
   have hx : NumAt cold (w1.alloc (.cells #[.int .i64 7, .pointer none] 28)) w1.heap.size 7 := NumAt.new (NumA.small w1 (by unfold i64; omega))
   have H1 := zh (zi hbA hx)
   clear hb1 hbA hx
   go_wp2_with (first
     | (have hq := H3
        go_at_call 22; refine (Zjt (B := cold) (z := 1) (y := 100) (NumA.small _ (by unfold i64; omega)) (NumA.small _ (by unfold i64; omega)) (HT.out _ hq.out.1).1 (HT.out _ hq.out.1).2 (HB.out _) HX.out.2.2.2.2.1 (by rw [HX.out.2.2.1]; exact HX.out.2.2.2.2.2.2.1)).mono ?_; rintro e4 w4 ⟨r4, q4, rfl, hn4, hb4⟩
        rw [HX.out.2.2.1] at hn4
        have H4 := zh (zi (hq.out.1.trans (hb4.mono hq.out.1.size)) (zi (hq.out.2.below hb4) hn4))
        clear hn4 hb4 hq)
     | (have hq := H2
        go_at_call 8; refine (Zax _ _).mono ?_; rintro e3 w3 ⟨rfl, hb3⟩
        have H3 := zh (zi (hq.out.1.trans (hb3.mono hq.out.1.size)) (hq.out.2.below hb3))
        clear hb3 hq)
     | (have hq := H1
        go_at_call 8; refine (Zax _ _).mono ?_; rintro e2 w2 ⟨rfl, hb2⟩
        have H2 := zh (zi (hq.out.1.trans (hb2.mono hq.out.1.size)) (hq.out.2.below hb2))
        clear hb2 hq))
   go_meet
   obtain ⟨h1, h2, h3⟩ := H4.out
   refine ⟨_, _, rfl, rfl, rfl, h1.alloc h1.size _, h2.below ((zb).alloc (zl) _), NumAt.new h3⟩
 case rest =>
   obtain ⟨b1, b2, rfl, rfl, rfl, hbw, hb1, hb2⟩ := hcut
   go_upto_region 3 with fail
   go_cut [4, 5] from 16 to 139 (fun ta te wx => ∃ b4, ta = .pointer (some ⟨b4, 0, none⟩) ∧ te = .int .i64 0 ∧ Below w.heap.size w wx ∧ NumAt cold wx b1 7 ∧ NumAt cold wx b2 P ∧ NumAt cold wx b4 Q)
   case first =>
     have hsrc := hb2
     obtain ⟨sv, gv, hsv, hsn⟩ := hsrc
     have HN := zh hsn
     have HL := zh (zi hbw (zi hb1 hb2))
     have HF : Hid (∀ W b, Below wc.heap.size wc W → NumAt cold W b Q → (Below w.heap.size w W ∧ NumAt cold W b1 7 ∧ NumAt cold W b2 P ∧ NumAt cold W b Q)) := fun W b hW hn => ⟨HL.out.1.trans (hW.mono HL.out.1.size), HL.out.2.1.below hW, HL.out.2.2.below hW, hn⟩
     obtain ⟨e0, e1⟩ := Zab hsv
     have hSS : ∀ W, Below wc.heap.size wc W → W.cell? ⟨b2, 0, none⟩ = some (.int .i64 sv) ∧ W.cell? ⟨b2, 1, none⟩ = some (.pointer gv) := fun W hW => Zab ((hW.block _ (Zap hsv)).trans hsv)
     clear hsn hbw hb1 hb2 hsv
     first
       | go_region_held3 (fun w' => w'.cell? ⟨b2, 0, none⟩ = some (.int .i64 sv) ∧ w'.cell? ⟨b2, 1, none⟩ = some (.pointer gv)) (first | exact hSS _ HW4.out | exact hSS _ ((HW4.out.setCell (by first | exact zl | exact HW3.out.size) _).setCell (by first | exact zl | exact HW3.out.size) _) | exact hSS _ (HW4.out.alloc HW4.out.size _) | exact hSS _ HW3.out | exact hSS _ (HW3.out.alloc HW3.out.size _) | exact hSS _ (by repeat (first | exact zb | refine Below.drew ?_ | refine Below.alloc ?_ (by simp) _)) | (go_keep; done))
         (first
         | (go_at_call 22; refine (Zjt (B := cold) (z := 1) (y := P) (NumA.small _ (by unfold i64; omega)) (HN.out.below (by first | exact HW3.out | exact HW3.out.alloc HW3.out.size _)) (HT.out _ (HL.out.1.trans ((by first | exact HW3.out | exact HW3.out.alloc HW3.out.size _ : Below wc.heap.size wc _).mono HL.out.1.size))).1 (HT.out _ (HL.out.1.trans ((by first | exact HW3.out | exact HW3.out.alloc HW3.out.size _ : Below wc.heap.size wc _).mono HL.out.1.size))).2 (HB.out _) HX.out.2.2.2.2.2.1 (by rw [HX.out.2.2.2.1]; exact HX.out.2.2.2.2.2.2.2.1)).mono ?_; rintro e4 w4 ⟨r4, q4, rfl, hn4, hb4⟩
            have hw4 : Below wc.heap.size wc w4 := Below.trans (by first | exact HW3.out | exact HW3.out.alloc HW3.out.size _) (hb4.mono (by have := HW3.out.size; first | exact this | (simp; omega)))
            (first
              | (have z4 := (hb4.block w3.heap.size (by simp)).trans (heap_alloc_new w3 (.cells #[.int .i64 0, .pointer none] 28))
                 obtain ⟨z40, z41⟩ := Zab z4
                 obtain ⟨z42, z43⟩ := Zae z4
                 have HZ4 := zh z4
                 clear z4)
              | (have z4 := (hb4.block wc.heap.size (Zap HZ3.out)).trans HZ3.out
                 obtain ⟨z40, z41⟩ := Zab z4
                 obtain ⟨z42, z43⟩ := Zae z4
                 have HZ4 := zh z4
                 clear z4)
              | skip)
            have HW4 := zh hw4
            have H4 := zh (by have h := hn4; rw [HX.out.2.2.2.1] at h; exact h)
            clear hn4 hb4 hw4)
         | (go_at_call 8; refine (Zax _ _).mono ?_; rintro e3 w3 ⟨rfl, hb3⟩
            have hw3 : Below wc.heap.size wc w3 := Below.trans (by repeat (first | exact zb | refine Below.drew ?_ | refine Below.alloc ?_ (by simp) _)) (hb3.mono (by first | exact zl | simp))
            (first
              | (have z3 := (hb3.block wc.heap.size (by simp)).trans (heap_alloc_new wc (.cells #[.int .i64 0, .pointer none] 28))
                 have HZ3 := zh z3
                 clear z3)
              | skip)
            have HW3 := zh hw3
            clear hb3 hw3))
       | fail
     all_goals
       (try go_wp2)
       go_meet
       first
         | exact ⟨_, rfl, rfl, HF.out _ _ (HW4.out.alloc HW4.out.size _) (NumAt.new H4.out)⟩
         | exact ⟨_, rfl, rfl, HF.out _ _ ((HW4.out.setCell (by first | exact zl | exact HW3.out.size) _).setCell (by first | exact zl | exact HW3.out.size) _) (NumAt.put HZ4.out H4.out)⟩
   case rest =>
     obtain ⟨b4, rfl, rfl, hbw, hb1, hb2, hb4⟩ := hcut
     go_upto_region 4 with fail
     go_cut [6, 7] from 16 to 139 (fun ta te wx => ∃ b6, ta = .pointer (some ⟨b6, 0, none⟩) ∧ te = .int .i64 0 ∧ Below w.heap.size w wx ∧ NumAt cold wx b1 7 ∧ NumAt cold wx b2 P ∧ NumAt cold wx b4 Q ∧ NumAt cold wx b6 (Q + 1))
     case first =>
       have hsrc := hb4
       obtain ⟨sv, gv, hsv, hsn⟩ := hsrc
       have HN := zh hsn
       have HL := zh (zi hbw (zi hb1 (zi hb2 hb4)))
       have HF : Hid (∀ W b, Below wc.heap.size wc W → NumAt cold W b (Q + 1) → (Below w.heap.size w W ∧ NumAt cold W b1 7 ∧ NumAt cold W b2 P ∧ NumAt cold W b4 Q ∧ NumAt cold W b (Q + 1))) := fun W b hW hn => ⟨HL.out.1.trans (hW.mono HL.out.1.size), HL.out.2.1.below hW, HL.out.2.2.1.below hW, HL.out.2.2.2.below hW, hn⟩
       obtain ⟨e0, e1⟩ := Zab hsv
       have hSS : ∀ W, Below wc.heap.size wc W → W.cell? ⟨b4, 0, none⟩ = some (.int .i64 sv) ∧ W.cell? ⟨b4, 1, none⟩ = some (.pointer gv) := fun W hW => Zab ((hW.block _ (Zap hsv)).trans hsv)
       clear hsn hbw hb1 hb2 hb4 hsv
       first
         | go_region_held3 (fun w' => w'.cell? ⟨b4, 0, none⟩ = some (.int .i64 sv) ∧ w'.cell? ⟨b4, 1, none⟩ = some (.pointer gv)) (first | exact hSS _ HW4.out | exact hSS _ ((HW4.out.setCell (by first | exact zl | exact HW3.out.size) _).setCell (by first | exact zl | exact HW3.out.size) _) | exact hSS _ (HW4.out.alloc HW4.out.size _) | exact hSS _ HW3.out | exact hSS _ (HW3.out.alloc HW3.out.size _) | exact hSS _ (by repeat (first | exact zb | refine Below.drew ?_ | refine Below.alloc ?_ (by simp) _)) | (go_keep; done))
           (first
           | (go_at_call 27; refine (Zpo (B := cold) (z := Q) (y := 1) (HN.out.below (by first | exact HW3.out | exact HW3.out.alloc HW3.out.size _)) (NumA.small _ (by unfold i64; omega)) (HT.out _ (HL.out.1.trans ((by first | exact HW3.out | exact HW3.out.alloc HW3.out.size _ : Below wc.heap.size wc _).mono HL.out.1.size))).1 (HT.out _ (HL.out.1.trans ((by first | exact HW3.out | exact HW3.out.alloc HW3.out.size _ : Below wc.heap.size wc _).mono HL.out.1.size))).2 (HB.out _) HX.out.2.2.2.2.2.2.2.2.1).mono ?_; rintro e4 w4 ⟨r4, q4, rfl, hn4, hb4⟩
              have hw4 : Below wc.heap.size wc w4 := Below.trans (by first | exact HW3.out | exact HW3.out.alloc HW3.out.size _) (hb4.mono (by have := HW3.out.size; first | exact this | (simp; omega)))
              (first
                | (have z4 := (hb4.block w3.heap.size (by simp)).trans (heap_alloc_new w3 (.cells #[.int .i64 0, .pointer none] 28))
                   obtain ⟨z40, z41⟩ := Zab z4
                   obtain ⟨z42, z43⟩ := Zae z4
                   have HZ4 := zh z4
                   clear z4)
                | (have z4 := (hb4.block wc.heap.size (Zap HZ3.out)).trans HZ3.out
                   obtain ⟨z40, z41⟩ := Zab z4
                   obtain ⟨z42, z43⟩ := Zae z4
                   have HZ4 := zh z4
                   clear z4)
                | skip)
              have HW4 := zh hw4
              have H4 := zh (hn4)
              clear hn4 hb4 hw4)
           | (go_at_call 8; refine (Zax _ _).mono ?_; rintro e3 w3 ⟨rfl, hb3⟩
              have hw3 : Below wc.heap.size wc w3 := Below.trans (by repeat (first | exact zb | refine Below.drew ?_ | refine Below.alloc ?_ (by simp) _)) (hb3.mono (by first | exact zl | simp))
              (first
                | (have z3 := (hb3.block wc.heap.size (by simp)).trans (heap_alloc_new wc (.cells #[.int .i64 0, .pointer none] 28))
                   have HZ3 := zh z3
                   clear z3)
                | skip)
              have HW3 := zh hw3
              clear hb3 hw3))
         | fail
       all_goals
         (try go_wp2)
         go_meet
         first
           | exact ⟨_, rfl, rfl, HF.out _ _ (HW4.out.alloc HW4.out.size _) (NumAt.new H4.out)⟩
           | exact ⟨_, rfl, rfl, HF.out _ _ ((HW4.out.setCell (by first | exact zl | exact HW3.out.size) _).setCell (by first | exact zl | exact HW3.out.size) _) (NumAt.put HZ4.out H4.out)⟩
     case rest =>
       obtain ⟨b6, rfl, rfl, hbw, hb1, hb2, hb4, hb6⟩ := hcut
       have hTC : ∀ W, Below wc.heap.size wc W → Tab W ∧ 0 < W.heap.size := fun W hW => HT.out W (hbw.trans (hW.mono hbw.size))
       have HSUM := zh (Sum_54 hTC)
       have HF : Hid (∀ W b, Below wc.heap.size wc W → NumAt cold W b 16 → (Below w.heap.size w W ∧ NumAt cold W b1 7 ∧ NumAt cold W b2 P ∧ NumAt cold W b4 Q ∧ NumAt cold W b6 (Q + 1) ∧ NumAt cold W b 16)) := fun W b hW hn => ⟨hbw.trans (hW.mono hbw.size), hb1.below hW, hb2.below hW, hb4.below hW, hb6.below hW, hn⟩
       clear hTC hbw hb1 hb2 hb4 hb6
       go_upto_region 5 with fail
       go_cut [8, 9] from 16 to 139 (fun ta te wx => ∃ b8, ta = .pointer (some ⟨b8, 0, none⟩) ∧ te = .int .i64 0 ∧ Below w.heap.size w wx ∧ NumAt cold wx b1 7 ∧ NumAt cold wx b2 P ∧ NumAt cold wx b4 Q ∧ NumAt cold wx b6 (Q + 1) ∧ NumAt cold wx b8 16)
       case first =>
         have HC := zh (Below.refl wc.heap.size wc)
         go_wp2_with (first
           | (have hq := HC
              go_at_call 24; refine (HSUM.out _ hq.out).mono ?_; rintro e5 w5 ⟨s5, g5, rfl, hn5, hc5⟩
              have HC := zh hc5
              have HN5 := zh hn5
              clear hn5 hq hc5)
           | (have hq := HC
              go_at_call 8; refine (Zax _ _).mono ?_; rintro e2 w2 ⟨rfl, hb2⟩
              have HC := zh (hq.out.trans (hb2.mono hq.out.size))
              clear hb2 hq))
         go_meet
         exact ⟨_, rfl, rfl, HF.out _ _ (HC.out.alloc HC.out.size _) (NumAt.new HN5.out)⟩
       case rest =>
         obtain ⟨b8, rfl, rfl, hbw, hb1, hb2, hb4, hb6, hb8⟩ := hcut
         have HFF := zh (zi hbw (zi hb1 (zi hb2 (zi hb4 (zi hb6 hb8)))))
         clear hbw hb1 hb2 hb4 hb6 hb8 HF HSUM
         have HC := zh (Below.refl wc.heap.size wc)
         go_upto_region 10 with (first
           | (have hq := HC
              go_at_call 28; refine (Zpn (s := 3) (s' := 5) (by unfold i64; omega) (by unfold i64; omega) (by unfold i64; omega) _).mono ?_; rintro e6 w6 ⟨rfl, hb6⟩
              have HC := zh (hq.out.trans (hb6.mono hq.out.size))
              clear hb6 hq)
           | (have hq := HC
              go_at_call 29; refine (Zj9 _ _ _).mono ?_; rintro e7 w7 ⟨rfl, hb7⟩
              have HC := zh ((hq.out.alloc hq.out.size _).trans (hb7.mono (Nat.le_trans hq.out.size (by simp))))
              clear hb7 hq)
           | (have hq := HC
              go_at_call 8; refine (Zax _ _).mono ?_; rintro e2 w2 ⟨rfl, hb2⟩
              have HC := zh (hq.out.trans (hb2.mono hq.out.size))
              clear hb2 hq))
         have HG : Hid (Below w.heap.size w w7 ∧ NumAt cold w7 b1 7 ∧ NumAt cold w7 b2 P ∧ NumAt cold w7 b4 Q ∧ NumAt cold w7 b6 (Q + 1) ∧ NumAt cold w7 b8 16) := by
           obtain ⟨hbw, hb1, hb2, hb4, hb6, hb8⟩ := HFF.out
           have hW := HC.out
           exact ⟨hbw.trans (hW.mono hbw.size), hb1.below hW, hb2.below hW, hb4.below hW, hb6.below hW, hb8.below hW⟩
         clear HFF HC
         have hb1 := HG.out.2.1
         obtain ⟨s1, g1, hs1, hn1⟩ := hb1
         obtain ⟨rfl, rfl⟩ : g1 = none ∧ s1 = 7 := by
           obtain ⟨_, D, S, h1, h2, h3, h4⟩ := hn1
           cases g1 with
           | none => exact ⟨rfl, h4.1⟩
           | some p => exact absurd (by unfold i64; omega) (h1.great p 7 h4.2).1
         obtain ⟨e0, e1⟩ := Zab hs1
         have htt := HT.out _ HG.out.1
         have hBy := Zcr (B := cold) (z := 7) (w := w7) (Zb8 (by omega)) ((NumA.small w7 (show i64 7 by unfold i64; omega)).2) htt.1 htt.2
         have HTT := zh htt
         clear hs1 hn1 htt
         go_cut [14, 15] from 16 to 139 (fun ta te wx => ∃ b14, ta = .pointer (some ⟨b14, 0, none⟩) ∧ te = .int .i64 0 ∧ Below w.heap.size w wx ∧ NumAt cold wx b1 7 ∧ NumAt cold wx b2 P ∧ NumAt cold wx b4 Q ∧ NumAt cold wx b6 (Q + 1) ∧ NumAt cold wx b8 16 ∧ NumAt cold wx b14 7)
         case first =>
           go_wp2_with (first
             | (go_at_call 18; refine hBy.mono ?_; rintro e8 w8 ⟨a8, c8, rfl, ho8, hb8⟩
                have HO8 := zh (zi ho8 hb8)
                clear hb8 ho8)
             | (have hq := HO8
                go_at_call 21; refine (Zpp (Zb8 (by omega)) (RowV.of_own hq.out.1) (Zfi HTT.out.1 HTT.out.2 hq.out.2) (by have := hq.out.2.size; have := HTT.out.2; omega)).mono ?_; rintro e9 w9 ⟨s9, g9, rfl, hn9, hb9⟩
                have H9 := zh (zi hn9 (hq.out.2.trans (hb9.mono hq.out.2.size)))
                clear hb9 hq hn9))
           go_meet
           obtain ⟨hn9, hb79⟩ := H9.out
           obtain ⟨hbw, hb1, hb2, hb4, hb6, hb8⟩ := HG.out
           have hW := hb79.alloc hb79.size (.cells #[.int .i64 s9, .pointer g9] 28)
           exact ⟨_, rfl, rfl, hbw.trans (hW.mono hbw.size), hb1.below hW, hb2.below hW, hb4.below hW, hb6.below hW, hb8.below hW, NumAt.new hn9⟩
         case rest =>
           obtain ⟨b14, rfl, rfl, hbw, hb1, hb2, hb4, hb6, hb8, hb14⟩ := hcut
           clear HG hBy HTT e0 e1
           obtain ⟨s1, g1, hs1, hn1⟩ := hb1
           obtain ⟨rfl, rfl⟩ : g1 = none ∧ s1 = 7 := by
             obtain ⟨_, D, S, h1, h2, h3, h4⟩ := hn1
             cases g1 with
             | none => exact ⟨rfl, h4.1⟩
             | some p => exact absurd (by unfold i64; omega) (h1.great p 7 h4.2).1
           obtain ⟨s2, g2, hs2, hn2⟩ := hb2
           obtain ⟨s4, g4, hs4, hn4⟩ := hb4
           obtain ⟨s6, g6, hs6, hn6⟩ := hb6
           obtain ⟨s8, g8, hs8, hn8⟩ := hb8
           obtain ⟨s14, g14, hs14, hn14⟩ := hb14
           have htc : ∀ W, Below wc.heap.size wc W → Tab W ∧ 0 < W.heap.size := fun W hW => HT.out W (hbw.trans (hW.mono hbw.size))
           have hPQ := HX.out.2.2.2.2.2.2.2.2.2
           have hbig := Zcj
           have hcmp : ∀ (s s' z z' : Int) (g g' : Option Addr) (v : Int), NumA cold wc s g z → NumA cold wc s' g' z' → sgn (z - z') = v → ∀ W, Below wc.heap.size wc W → Calls Tryz.prog 15 #[.agg #[.int .i64 s, .pointer g], .agg #[.int .i64 s', .pointer g']] W fun e w' => e = .returned (.int .i64 v) ∧ Below wc.heap.size wc w' := by
             intro s s' z z' g g' v h1 h2 hv W hW
             refine (Zpg (h1.below hW).2 (h2.below hW).2 (by omega) (htc W hW).1 (htc W hW).2).mono ?_
             rintro e w' ⟨rfl, hb⟩
             exact ⟨by rw [hv], hW.trans (hb.mono hW.size)⟩
           have hC1 := hcmp _ _ _ _ _ _ 1 hn6 hn4 (by unfold sgn; split <;> (try split) <;> omega)
           have hC2 := hcmp _ _ _ _ _ _ 1 hn4 hn2 (by unfold sgn; split <;> (try split) <;> omega)
           have hC3 := hcmp _ _ _ _ _ _ 0 hn8 (NumA.small wc (show i64 16 by unfold i64; omega)) (by decide)
           have hC4 := hcmp _ _ _ _ _ _ 0 hn14 hn1 (by decide)
           have hBy : ∀ W, Below wc.heap.size wc W → Calls Tryz.prog 18 #[.agg #[.int .i64 7, .pointer none]] W fun e w' => (∃ (a : Option Addr) (c : Nat), e = .returned (.slice a 30 c)) ∧ Below wc.heap.size wc w' := by
             intro W hW
             refine (Zcr hn1.1 (hn1.below hW).2 (htc W hW).1 (htc W hW).2).mono ?_
             rintro e w' ⟨a, c, rfl, _, hb⟩
             exact ⟨⟨a, c, by rw [bytes7]⟩, hW.trans (hb.mono hW.size)⟩
           have hWt : ∀ W, Below wc.heap.size wc W → Calls Tryz.prog 30 #[.agg #[.int .i64 7, .pointer none]] W fun e w' => e = .returned (.int .i64 5) ∧ Below wc.heap.size wc w' := by
             intro W hW
             refine (Zcf ((hn1.below hW).2.more (by omega))).mono ?_
             rintro e w' ⟨rfl, hb⟩
             exact ⟨by rw [weight7]; rfl, hW.trans (hb.mono hW.size)⟩
           have hHt : ∀ W, Below wc.heap.size wc W → Calls Tryz.prog 31 #[.agg #[.int .i64 7, .pointer none]] W fun e w' => e = .returned (.int .i64 4) ∧ Below wc.heap.size wc w' := by
             intro W hW
             refine (Zgc ((hn1.below hW).2.more (by omega))).mono ?_
             rintro e w' ⟨rfl, hb⟩
             exact ⟨by rw [hgt7]; rfl, hW.trans (hb.mono hW.size)⟩
           have hTm : ∀ W, Below wc.heap.size wc W → Calls Tryz.prog 32 #[.agg #[.int .i64 7, .pointer none]] W fun e w' => (∃ (a : Option Addr) (c : Nat), e = .returned (.slice a 2 c)) ∧ Below wc.heap.size wc w' := by
             intro W hW
             obtain ⟨_, D, S, h1, h2, h3, h4⟩ := hn1.below hW
             refine (Zey h1 h4 (by unfold wide wt; rw [wt7]; omega)).mono ?_
             rintro e w' ⟨v, ts, rfl, ho, htv, hb⟩
             obtain ⟨a, c, rfl⟩ := (RowV.of_own ho).shape
             exact ⟨⟨a, c, by rw [htv.len, wt7]⟩, hW.trans (hb.mono hW.size)⟩
           have hOf : ∀ W, Below wc.heap.size wc W → Calls Tryz.prog 8 #[.int .i64 16] W fun e w' => e = .returned (.agg #[.int .i64 16, .pointer none]) ∧ Below wc.heap.size wc w' := by
             intro W hW
             refine (Zax 16 W).mono ?_
             rintro e w' ⟨rfl, hb⟩
             exact ⟨rfl, hW.trans (hb.mono hW.size)⟩
           have hNg : ∀ W, Below wc.heap.size wc W → Calls Tryz.prog 33 #[.agg #[.int .i64 7, .pointer none]] W fun e w' => ∃ (r : Int) (q : Option Addr), e = .returned (.agg #[.int .i64 r, .pointer q]) ∧ (∀ W', Below w'.heap.size w' W' → Calls Tryz.prog 34 #[.agg #[.int .i64 r, .pointer q]] W' fun e2 w2 => e2 = .returned (.int .i64 (-1)) ∧ Below wc.heap.size wc w2) ∧ Below wc.heap.size wc w' := by
             intro W hW
             refine (Zo8 (hn1.below hW) (htc W hW).1 (htc W hW).2 (HB.out W)).mono ?_
             rintro e w' ⟨r, q, rfl, hn, hb⟩
             have hw' := hW.trans (hb.mono hW.size)
             refine ⟨r, q, rfl, fun W' hW' => ?_, hw'⟩
             refine (Zcn r q (-7) W' (hn.below hW').2.isN).mono ?_
             rintro e2 w2 ⟨rfl, hb2⟩
             have hw2 := hw'.trans (hW'.mono hw'.size)
             exact ⟨rfl, hw2.trans (hb2.mono hw2.size)⟩
           have hSS : ∀ W, Below wc.heap.size wc W → (W.cell? ⟨b1, 0, none⟩ = some (.int .i64 7) ∧ W.cell? ⟨b1, 1, none⟩ = some (.pointer none) ∧ W.cell? ⟨b2, 0, none⟩ = some (.int .i64 s2) ∧ W.cell? ⟨b2, 1, none⟩ = some (.pointer g2) ∧ W.cell? ⟨b4, 0, none⟩ = some (.int .i64 s4) ∧ W.cell? ⟨b4, 1, none⟩ = some (.pointer g4) ∧ W.cell? ⟨b6, 0, none⟩ = some (.int .i64 s6) ∧ W.cell? ⟨b6, 1, none⟩ = some (.pointer g6) ∧ W.cell? ⟨b8, 0, none⟩ = some (.int .i64 s8) ∧ W.cell? ⟨b8, 1, none⟩ = some (.pointer g8) ∧ W.cell? ⟨b14, 0, none⟩ = some (.int .i64 s14) ∧ W.cell? ⟨b14, 1, none⟩ = some (.pointer g14)) := by
             intro W hW
             obtain ⟨a1, a2⟩ := Zab ((hW.block _ (Zap hs1)).trans hs1)
             obtain ⟨a3, a4⟩ := Zab ((hW.block _ (Zap hs2)).trans hs2)
             obtain ⟨a5, a6⟩ := Zab ((hW.block _ (Zap hs4)).trans hs4)
             obtain ⟨a7, a8⟩ := Zab ((hW.block _ (Zap hs6)).trans hs6)
             obtain ⟨a9, a10⟩ := Zab ((hW.block _ (Zap hs8)).trans hs8)
             obtain ⟨a11, a12⟩ := Zab ((hW.block _ (Zap hs14)).trans hs14)
             exact ⟨a1, a2, a3, a4, a5, a6, a7, a8, a9, a10, a11, a12⟩
           obtain ⟨c1, c2, c3, c4, c5, c6, c7, c8, c9, c10, c11, c12⟩ := hSS wc (zb)
           have HCC := zh (zi hC1 (zi hC2 (zi hC3 (zi hC4 (zi hBy (zi hWt (zi hHt (zi hTm (zi hOf (zi hNg hbw))))))))))
           clear hs1 hn1 hs2 hn2 hs4 hn4 hs6 hn6 hs8 hn8 hs14 hn14 htc hPQ hbig hcmp hC1 hC2 hC3 hC4 hBy hWt hHt hTm hOf hNg hbw
           have HC := zh ((Below.refl wc.heap.size wc).drew)
           go_upto_region 11 with fail
           first
             | go_region_held3 (fun W => W.cell? ⟨b1, 0, none⟩ = some (.int .i64 7) ∧ W.cell? ⟨b1, 1, none⟩ = some (.pointer none) ∧ W.cell? ⟨b2, 0, none⟩ = some (.int .i64 s2) ∧ W.cell? ⟨b2, 1, none⟩ = some (.pointer g2) ∧ W.cell? ⟨b4, 0, none⟩ = some (.int .i64 s4) ∧ W.cell? ⟨b4, 1, none⟩ = some (.pointer g4) ∧ W.cell? ⟨b6, 0, none⟩ = some (.int .i64 s6) ∧ W.cell? ⟨b6, 1, none⟩ = some (.pointer g6) ∧ W.cell? ⟨b8, 0, none⟩ = some (.int .i64 s8) ∧ W.cell? ⟨b8, 1, none⟩ = some (.pointer g8) ∧ W.cell? ⟨b14, 0, none⟩ = some (.int .i64 s14) ∧ W.cell? ⟨b14, 1, none⟩ = some (.pointer g14)) (first | exact hSS _ HC.out | exact hSS _ ((zb).drew) | (go_keep; done))
               (first
               | (have hq := HC
                  go_at_call 18; refine (HCC.out.2.2.2.2.1 _ hq.out).mono ?_; rintro e5 w5 ⟨⟨a5, k5, rfl⟩, hc5⟩
                  have HC := zh hc5
                  clear hq hc5)
               | (have hq := HC
                  go_at_call 30; refine (HCC.out.2.2.2.2.2.1 _ hq.out).mono ?_; rintro e5 w5 ⟨rfl, hc5⟩
                  have HC := zh hc5
                  clear hq hc5)
               | (have hq := HC
                  go_at_call 31; refine (HCC.out.2.2.2.2.2.2.1 _ hq.out).mono ?_; rintro e5 w5 ⟨rfl, hc5⟩
                  have HC := zh hc5
                  clear hq hc5)
               | (have hq := HC
                  go_at_call 32; refine (HCC.out.2.2.2.2.2.2.2.1 _ hq.out).mono ?_; rintro e5 w5 ⟨⟨a5, k5, rfl⟩, hc5⟩
                  have HC := zh hc5
                  clear hq hc5)
               | (have hq := HC
                  go_at_call 8; refine (HCC.out.2.2.2.2.2.2.2.2.1 _ hq.out).mono ?_; rintro e5 w5 ⟨rfl, hc5⟩
                  have HC := zh hc5
                  clear hq hc5)
               | (have hq := HC
                  go_at_call 15; refine (HCC.out.1 _ hq.out).mono ?_; rintro e5 w5 ⟨rfl, hc5⟩
                  have HC := zh hc5
                  clear hq hc5)
               | (have hq := HC
                  go_at_call 15; refine (HCC.out.2.1 _ hq.out).mono ?_; rintro e5 w5 ⟨rfl, hc5⟩
                  have HC := zh hc5
                  clear hq hc5)
               | (have hq := HC
                  go_at_call 15; refine (HCC.out.2.2.1 _ hq.out).mono ?_; rintro e5 w5 ⟨rfl, hc5⟩
                  have HC := zh hc5
                  clear hq hc5)
               | (have hq := HC
                  go_at_call 15; refine (HCC.out.2.2.2.1 _ hq.out).mono ?_; rintro e5 w5 ⟨rfl, hc5⟩
                  have HC := zh hc5
                  clear hq hc5)
               | (have hq := HC
                  go_at_call 33; refine (HCC.out.2.2.2.2.2.2.2.2.2.1 _ hq.out).mono ?_; rintro e5 w5 ⟨r5, q5, rfl, hsg, hc5⟩
                  have HSG := zh hsg
                  have HC := zh hc5
                  clear hq hc5 hsg)
               | (go_at_call 34; refine (HSG.out _ (zb)).mono ?_; rintro e5 w5 ⟨rfl, hc5⟩
                  have HC := zh hc5
                  clear hc5))
             | fail
           all_goals
             (try go_wp2)
             have hbw : Below w.heap.size w wc := HCC.out.2.2.2.2.2.2.2.2.2.2
             have hfin := hbw.trans (HC.out.mono hbw.size)
             first
               | (refine bodyPost_ret (v := .bool true) (by simp [results, Tryz.results6, go_sem]) rfl ⟨rfl, ?_⟩; exact hfin)
               | (go_ret; exact ⟨rfl, hfin⟩)
               | (go_ret; exact hfin)
end Go.Proofs.YtlkmgclbckojgaaGreatDoor

