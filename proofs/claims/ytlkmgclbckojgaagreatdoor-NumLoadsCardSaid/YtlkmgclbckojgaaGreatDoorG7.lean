import Derived.Test.YtlkmgclbckojgaaGreatDoorG6
set_option linter.unusedVariables false
set_option linter.unusedSimpArgs false
set_option maxHeartbeats 8000000
set_option maxRecDepth 100000
namespace Go.Proofs.YtlkmgclbckojgaaGreatDoor
open Go.RowKit
attribute [local go_sem ↓] Go.wp_at_zero Go.wp_at_succ
def PartR (w : World) (lb : Nat) (A : Nat → Prop) (D : Addr → Option Int) (ps : List Int) (bs : List Nat) (n : Nat) (e : Ending) (w' : World) : Prop :=
 (∃ (z : Int) (r : List Nat) (s : Int) (g : Option Addr) (D' : Addr → Option Int), readPart ps bs = some (z, r) ∧ e = .returned (.tuple #[.agg #[.int .i64 s, .pointer g], .bool true]) ∧ ValD D' s g z ∧ LdS w lb A D' ps r (n + 1) w' ∧ (∀ p u, D p = some u → D' p = some u)) ∨
 (readPart ps bs = none ∧ e = .returned (.tuple #[.agg #[.int .i64 0, .pointer none], .bool false]) ∧ Below w.heap.size w w')
theorem Zhv {ps : List Int} {bs r0 : List Nat} {count : Nat} (h : readTwo bs = some (count, r0)) (hc : count ≤ 300) : readPart ps bs = (readTerms ps count ps.length false r0).map (fun p => (val p.1, p.2)) := by
 unfold readPart
 rw [h]
 simp only
 rw [if_neg (by omega)]
 cases readTerms ps count ps.length false r0 with
 | none => rfl
 | some p => rfl
theorem Zm7 {w : World} {lb : Nat} {A : Nat → Prop} {D : Addr → Option Int} {ps : List Int} {bs : List Nat} {n : Nat} {wq : World} (h : LdS w lb A D ps bs n wq) (h0 : 0 < w.heap.size) (hr : Rising ps) (hb : ByteL bs) (hl9 : ps.length ≤ 2000) (hn : n ≤ big) :
   Calls Tryz.prog 61 #[.pointer (some ⟨lb, 0, none⟩)] wq (PartR w lb A D ps bs n) := by
 have hb1 : Below wq.heap.size wq (wq.alloc (.cells #[.int .i64 0, .pointer none] 28)) := (zb).alloc (zl) _
 have a0 := heap_alloc_new wq (.cells #[.int .i64 0, .pointer none] 28)
 have hws := h.bl.size
 have h1 : LdS w lb (fun j => A j ∨ j = wq.heap.size) D ps bs n (wq.alloc (.cells #[.int .i64 0, .pointer none] 28)) := h.vars hb1 (by
   rintro k (x | x)
   · exact .inl x
   · rw [x]; exact .inr ⟨zl, Own.of a0 (by decide) (by decide) (by decide)⟩)
 have hAl : ∀ j, A j → j < wq.heap.size := fun j hj => (h.var j hj).lt h.bl.size
 cases h2 : readTwo bs with
 | none =>
   have ht := Ze8 h1 hb h2
   have HX := zh (zi (show readPart ps bs = none by unfold readPart; rw [h2]) a0)
   clear h h1 hb1 a0 hAl hr hb h2
   go_enter Tryz.func61, Tryz.ntmps61
   go_wp2_with (first
     | (go_at_call 60; refine ht.mono ?_; rintro e2 w2 ⟨⟨m2, rfl⟩, hS2, ho2⟩
        have r2 := ho2 _ _ _ _ HX.out.2 (by decide) (by decide) (by decide)
        obtain ⟨y0, y1⟩ := Zab r2
        obtain ⟨y2, y3⟩ := Zae r2
        have H2 := zh hS2
        clear hS2 ho2 r2))
   refine bodyPost_ret (v := .tuple #[.agg #[.int .i64 0, .pointer none], .bool false]) (by simp [results, Tryz.results61, go_sem, *]) rfl (.inr ⟨HX.out.1, rfl, ?_⟩)
   exact (H2.out.bl.setCell (p := ⟨wq.heap.size, 0, none⟩) hws _).setCell (p := ⟨wq.heap.size, 1, none⟩) hws _
 | some cr =>
   obtain ⟨count, r0⟩ := cr
   have ht := Zby h1 hb h2
   by_cases hc : 300 < count
   · have HX := zh (zi (show readPart ps bs = none by unfold readPart; rw [h2]; simp only; rw [if_pos hc]) a0)
     have hc' : (300 : Int) < (count : Int) := by omega
     clear h h1 hb1 a0 hAl hr hb h2
     go_enter Tryz.func61, Tryz.ntmps61
     go_wp2_with (first
       | (go_at_call 60; refine ht.mono ?_; rintro e2 w2 ⟨rfl, hS2, ho2⟩
          have r2 := ho2 _ _ _ _ HX.out.2 (by decide) (by decide) (by decide)
          obtain ⟨y0, y1⟩ := Zab r2
          obtain ⟨y2, y3⟩ := Zae r2
          have H2 := zh hS2
          clear hS2 ho2 r2))
     refine bodyPost_ret (v := .tuple #[.agg #[.int .i64 0, .pointer none], .bool false]) (by simp [results, Tryz.results61, go_sem, *]) rfl (.inr ⟨HX.out.1, rfl, ?_⟩)
     exact (H2.out.bl.setCell (p := ⟨wq.heap.size, 0, none⟩) hws _).setCell (p := ⟨wq.heap.size, 1, none⟩) hws _
   · have hc' : ¬ ((300 : Int) < (count : Int)) := by omega
     have hrp := Zhv (ps := ps) h2 (by omega)
     obtain ⟨x1, x2, hbsx, _⟩ := Zca h2
     have hbr0 : ByteL r0 := by rw [hbsx] at hb; exact hb.tail.tail
     have HX := zh (zi hrp (zi a0 (zi hAl (zi hr (zi hbr0 (zi h0 hn))))))
     clear h h1 hb1 a0 hAl hr hb h2 hrp hbsx hbr0 h0 hn
     go_enter Tryz.func61, Tryz.ntmps61
     go_wp2_with (first
       | (go_at_call 60; refine ht.mono ?_; rintro e2 w2 ⟨rfl, hS2, ho2⟩
          have r2 := ho2 _ _ _ _ HX.out.2.1 (by decide) (by decide) (by decide)
          obtain ⟨a6, c6, k6⟩ := hS2.cells.1
          have H2 := zh (zi hS2 r2)
          clear hS2 ho2 r2))
     have hst : PtS w lb wq.heap.size A D ps r0 count n 0 ps.length [] [] r0 (.slice none 0 0) w2 := by
       obtain ⟨hS2, r2⟩ := H2.out
       refine ⟨rfl, trivial, hS2.less (fun j hj => ?_), World.ownsRow_nil _ _ _ _, zl, fun h => by omega, r2, HX.out.2.2.2.2.1, ?_⟩
       · rcases hj with x | x
         · exact x
         · simp [Value.ownBlock] at x
       · simp only [Nat.sub_zero, List.nil_append]
         show readTerms ps count ps.length false r0 = (readTerms ps count ps.length false r0).map (fun p => (p.1, p.2))
         cases readTerms ps count ps.length false r0 <;> rfl
     have HST := zh hst
     clear hst H2 ht k6
     go_loopw [30, 6, 7] (fun i o ab wl => ∃ (k above : Nat) (l : List Tm) (ts : List TV) (bs' : List Nat) (a : Option Addr) (c : Nat), k ≤ count ∧ i = .int .i64 k ∧ o = .slice a ts.length c ∧ ab = .int .i64 above ∧ PtS w lb wq.heap.size A D ps r0 count n k above l ts bs' (.slice a ts.length c) wl ∧ (∀ j, A j → (Value.slice a ts.length c).ownBlock ≠ some j)) (fun i _ _ _ => count - (intOf i).toNat)
     case atStart => exact ⟨0, ps.length, [], [], r0, none, 0, by omega, by simp, rfl, rfl, HST.out, fun j _ => by simp [Value.ownBlock]⟩
     case round =>
       obtain ⟨k, above, l, ts, bs', a, c, hkl, rfl, rfl, rfl, hP, hAo⟩ := hrel
       clear HST
       obtain ⟨hrp, a0, hAl, hr, hbr0, h0, hn⟩ := HX.out
       by_cases hlt : k < count
       · have hlt' : (k : Int) < (count : Int) := by omega
         have hck : count - k = (count - (k + 1)) + 1 := by omega
         have hrd := hP.rd
         have hrb := hP.rb
         have hld := hP.ld
         have hby := hP.by'
         have HQ := zh (zi hrp (zi hrd (zi hrb (zi hP (zi hAo (zi hAl (zi hr h0)))))))
         rcases Nat.eq_zero_or_pos bs'.length with hz | hz
         · obtain rfl := List.length_eq_zero_iff.1 hz
           have HNO := zh (show readTerms ps (count - k) above (decide (0 < k)) [] = none by rw [hck]; exact Zem (.inl rfl))
           have HLD := zh hld
           clear hrp a0 hAl hr hbr0 h0 hn hP hAo hrd hld hby hz hrb
           go_wp2_with (first
             | (go_at_call 82; refine (Zi6 HLD.out).mono ?_; rintro e1 w1 ⟨rfl, rfl⟩)
             | (go_at_call 60; refine (Ze8 HLD.out (fun x hx => by simp at hx) rfl).mono ?_; rintro e2 w2 ⟨⟨m2, rfl⟩, hS2, ho2⟩
                have r2 := ho2 _ _ _ _ HQ.out.2.2.1 (by decide) (by decide) (by decide)
                obtain ⟨y0, y1⟩ := Zab r2
                obtain ⟨y2, y3⟩ := Zae r2
                have H2 := zh hS2
                clear hS2 ho2 r2))
           refine bodyPost_ret (v := .tuple #[.agg #[.int .i64 0, .pointer none], .bool false]) (by simp [results, Tryz.results61, go_sem, *]) rfl (.inr ⟨?_, rfl, ?_⟩)
           · rw [HQ.out.1, HQ.out.2.1, HNO.out]; rfl
           · exact (H2.out.bl.setCell (p := ⟨wq.heap.size, 0, none⟩) hws _).setCell (p := ⟨wq.heap.size, 1, none⟩) hws _
         · obtain ⟨s, b, rfl⟩ : ∃ s b, bs' = s :: b := by
             cases bs' with
             | nil => simp at hz
             | cons s b => exact ⟨s, b, rfl⟩
           have hs256 : s < 256 := hby s (by simp)
           have hs256' : (s : Int) < 256 := by omega
           have hbb : ByteL b := hby.tail
           have h1c := Zgn hld hs256
           cases h2 : readTwo b with
           | none =>
             have HNO := zh (show readTerms ps (count - k) above (decide (0 < k)) (s :: b) = none by rw [hck]; exact Zem (.inr ⟨s, b, rfl, h2⟩))
             have HB := zh (zi hbb h2)
             clear hrp a0 hAl hr hbr0 h0 hn hP hAo hrd hld hby hz hrb hbb h2
             by_cases hs1 : 1 < s
             · have hs1' : (1 : Int) < (s : Int) := by omega
               go_wp2_with (first
                 | (have hq := H1
                    go_at_call 60; refine (Ze8 hq.out.1 HB.out.1 HB.out.2).mono ?_; rintro e2 w2 ⟨⟨m2, rfl⟩, hS2, ho2⟩
                    have r2 := ho2 _ _ _ _ hq.out.2 (by decide) (by decide) (by decide)
                    obtain ⟨y0, y1⟩ := Zab r2
                    obtain ⟨y2, y3⟩ := Zae r2
                    have H2 := zh hS2
                    clear hS2 ho2 r2 hq)
                 | (go_at_call 82; refine h1c.mono ?_; rintro e1 w1 ⟨rfl, hS1, ho1⟩
                    have H1 := zh (zi hS1 (ho1 _ _ _ _ HQ.out.2.2.1 (by decide) (by decide) (by decide)))
                    clear hS1 ho1))
               refine bodyPost_ret (v := .tuple #[.agg #[.int .i64 0, .pointer none], .bool false]) (by simp [results, Tryz.results61, go_sem, *]) rfl (.inr ⟨?_, rfl, ?_⟩)
               · rw [HQ.out.1, HQ.out.2.1, HNO.out]; rfl
               · exact (H2.out.bl.setCell (p := ⟨wq.heap.size, 0, none⟩) hws _).setCell (p := ⟨wq.heap.size, 1, none⟩) hws _
             · have hs1' : ¬ (1 : Int) < (s : Int) := by omega
               go_wp2_with (first
                 | (have hq := H1
                    go_at_call 60; refine (Ze8 hq.out.1 HB.out.1 HB.out.2).mono ?_; rintro e2 w2 ⟨⟨m2, rfl⟩, hS2, ho2⟩
                    have r2 := ho2 _ _ _ _ hq.out.2 (by decide) (by decide) (by decide)
                    obtain ⟨y0, y1⟩ := Zab r2
                    obtain ⟨y2, y3⟩ := Zae r2
                    have H2 := zh hS2
                    clear hS2 ho2 r2 hq)
                 | (go_at_call 82; refine h1c.mono ?_; rintro e1 w1 ⟨rfl, hS1, ho1⟩
                    have H1 := zh (zi hS1 (ho1 _ _ _ _ HQ.out.2.2.1 (by decide) (by decide) (by decide)))
                    clear hS1 ho1))
               refine bodyPost_ret (v := .tuple #[.agg #[.int .i64 0, .pointer none], .bool false]) (by simp [results, Tryz.results61, go_sem, *]) rfl (.inr ⟨?_, rfl, ?_⟩)
               · rw [HQ.out.1, HQ.out.2.1, HNO.out]; rfl
               · exact (H2.out.bl.setCell (p := ⟨wq.heap.size, 0, none⟩) hws _).setCell (p := ⟨wq.heap.size, 1, none⟩) hws _
           | some mr =>
             obtain ⟨m, r⟩ := mr
             have HB := zh (zi hbb h2)
             have hsome := Zen (ps := ps) (c := count - (k + 1)) (above := above) (later := decide (0 < k)) (s := s) h2
             rw [← hck] at hsome
             by_cases hs1 : 1 < s
             · have hs1' : (1 : Int) < (s : Int) := by omega
               rw [if_pos (.inl hs1)] at hsome
               have HNO := zh hsome
               clear hrp a0 hAl hr hbr0 h0 hn hP hAo hrd hld hby hz hrb hbb h2 hsome
               go_wp2_with (first
                 | (have hq := H1
                    go_at_call 60; refine (Zby hq.out.1 HB.out.1 HB.out.2).mono ?_; rintro e2 w2 ⟨rfl, hS2, ho2⟩
                    have r2 := ho2 _ _ _ _ hq.out.2 (by decide) (by decide) (by decide)
                    obtain ⟨y0, y1⟩ := Zab r2
                    obtain ⟨y2, y3⟩ := Zae r2
                    have H2 := zh hS2
                    clear hS2 ho2 r2 hq)
                 | (go_at_call 82; refine h1c.mono ?_; rintro e1 w1 ⟨rfl, hS1, ho1⟩
                    have H1 := zh (zi hS1 (ho1 _ _ _ _ HQ.out.2.2.1 (by decide) (by decide) (by decide)))
                    clear hS1 ho1))
               refine bodyPost_ret (v := .tuple #[.agg #[.int .i64 0, .pointer none], .bool false]) (by simp [results, Tryz.results61, go_sem, *]) rfl (.inr ⟨?_, rfl, ?_⟩)
               · rw [HQ.out.1, HQ.out.2.1, HNO.out]; rfl
               · exact (H2.out.bl.setCell (p := ⟨wq.heap.size, 0, none⟩) hws _).setCell (p := ⟨wq.heap.size, 1, none⟩) hws _
             have hs1' : ¬ (1 : Int) < (s : Int) := by omega
             by_cases hma : above ≤ m
             · have hma' : (above : Int) ≤ (m : Int) := by omega
               rw [if_pos (.inr (.inl hma))] at hsome
               have HNO := zh hsome
               clear hrp a0 hAl hr hbr0 h0 hn hP hAo hrd hld hby hz hrb hbb h2 hsome
               go_wp2_with (first
                 | (have hq := H1
                    go_at_call 60; refine (Zby hq.out.1 HB.out.1 HB.out.2).mono ?_; rintro e2 w2 ⟨rfl, hS2, ho2⟩
                    have r2 := ho2 _ _ _ _ hq.out.2 (by decide) (by decide) (by decide)
                    obtain ⟨y0, y1⟩ := Zab r2
                    obtain ⟨y2, y3⟩ := Zae r2
                    have H2 := zh hS2
                    clear hS2 ho2 r2 hq)
                 | (go_at_call 82; refine h1c.mono ?_; rintro e1 w1 ⟨rfl, hS1, ho1⟩
                    have H1 := zh (zi hS1 (ho1 _ _ _ _ HQ.out.2.2.1 (by decide) (by decide) (by decide)))
                    clear hS1 ho1))
               refine bodyPost_ret (v := .tuple #[.agg #[.int .i64 0, .pointer none], .bool false]) (by simp [results, Tryz.results61, go_sem, *]) rfl (.inr ⟨?_, rfl, ?_⟩)
               · rw [HQ.out.1, HQ.out.2.1, HNO.out]; rfl
               · exact (H2.out.bl.setCell (p := ⟨wq.heap.size, 0, none⟩) hws _).setCell (p := ⟨wq.heap.size, 1, none⟩) hws _
             have hma' : ¬ (above : Int) ≤ (m : Int) := by omega
             obtain ⟨y, hy⟩ : ∃ y, ps[m]? = some y := ⟨_, List.getElem?_eq_getElem (by have := hP.le; omega)⟩
             have hy0 : 0 ≤ y := hr.z y (List.mem_of_getElem? hy)
             have hgd : ps.getD m 0 = y := by simp [List.getD, hy]
             have htl : ts.length = k := by rw [hP.tv.len]; exact hP.len
             have hal := hP.le
             obtain ⟨p, hp⟩ : ∃ p, above = p + 1 := ⟨above - 1, by omega⟩
             have u1 : (above : Int) - 1 = (p : Int) := by omega
             have u2 : (p : Int) ≤ 2000 := by omega
             have u3 : (0 : Int) ≤ (p : Int) := by omega
             have hmps : (m : Int) < (ps.length : Int) := by omega
             have hm0 : (0 : Int) ≤ (m : Int) := by omega
             have hpl9 : (ps.length : Int) ≤ 2000 := by omega
             have htl9 : ts.length ≤ 300 := by omega
             have hs01 : s = 0 ∨ s = 1 := by omega
             obtain ⟨i0, hi0, hz0, hz1, hz2⟩ := info_parts infoeT
             have HI := zh (zi hi0 (zi hz0 (zi hz1 hz2)))
             have HY := zh (zi hy (zi hy0 (zi hgd (zi htl (zi hal (zi hp (zi hsome hlt)))))))
             have hpa : ps[above]? = some (ps.getD m 0 + 1) ↔ ps[above]? = some (y + 1) := by rw [hgd]
             by_cases hk0 : k = 0
             · have htz : ¬ (0 : Int) < (ts.length : Int) := by omega
               have HNB := zh (show ¬ (0 < k ∧ m + 1 = above ∧ ps[above]? = some (ps.getD m 0 + 1)) from fun h => by omega)
               clear hrp a0 hAl hr hbr0 h0 hn hP hAo hrd hld hby hz hrb hbb h2 hsome hy hy0 hgd htl hal hp hpa hs256 hi0 hz0 hz1 hz2
               obtain rfl | rfl := hs01
               · have hdummy := trivial
                 go_wp2_with (first
                   | (have hq := H1
                      go_at_call 60; refine (Zby hq.out.1 HB.out.1 HB.out.2).mono ?_; rintro e2 w2 ⟨rfl, hS2, ho2⟩
                      obtain ⟨b6, c6b, sv, gv, k6, q0, q1, hval⟩ := hS2.cells.2 m y HY.out.1
                      have hoo := hq.out.2
                      have hown2 := Zan (Zan HQ.out.2.2.2.1.own hoo) ho2
                      have hz2 := hS2.bl.size
                      have H2 := zh (zi hS2 (zi hval (zi hown2 (fun x c t fr hx h1 h2 h3 => ho2 x c t fr (hoo x c t fr hx h1 h2 h3) h1 h2 h3 : Others wr w2))))
                      clear hS2 ho2 hq hval hown2 hoo)
                   | (go_at_call 82; refine h1c.mono ?_; rintro e1 w1 ⟨rfl, hS1, ho1⟩
                      have H1 := zh (zi hS1 ho1)
                      clear hS1 ho1)
                   | (at_builtin; refine wpList_append_own_at _ rfl _ _ 59 rfl w.heap.size 62 i0 zT 3 24 Tryz.underlying59 HI.out.1 HI.out.2.1 HI.out.2.2.1 HI.out.2.2.2 rfl (by decide) _ _ _ rfl (H2.out.2.2.1.alloc _) ⟨w2.heap.size, 0, none⟩ 1 1 (cellsT (false, sv, gv)) rfl rfl (Zaj w2 _ _ _) (by simp [cellsT, Value.oneCell']) (by unfold maxLen; omega) (by omega) (by simp; omega) ?_; intro v3 w3 hown3 hg3 _ hat3
                      obtain ⟨a3, c3, rfl⟩ := (RowV.of_own hown3).shape
                      have H3 := zh (zi hown3 (zi hg3 hat3))
                      clear hown3 hg3 hat3))
                 obtain ⟨hS2, hval, hown2, ho2⟩ := H2.out
                 obtain ⟨hown3, hg3, hat3⟩ := H3.out
                 obtain ⟨hrp, hrd, hrb, hP, hAo, hAl, hr, h0⟩ := HQ.out
                 obtain ⟨hy, hy0, hgd, htl, hal, hp, hsome, hlt⟩ := HY.out
                 have hnx := hP.next h0 hlt HB.out.2 hAo (by omega) (by omega) HNB.out hy hy0 hval hS2 ho2 hown3 hg3 hat3
                 have r2 := ho2 _ _ _ _ hrb (by decide) (by decide) (by decide)
                 refine ⟨⟨k + 1, m, l ++ [((0 : Nat) == 1, y.toNat)], ts ++ [((0 : Nat) == 1, sv, gv)], r, a3, c3, by omega, by go_num, by rw [List.length_append]; rfl, rfl, by rw [List.length_append]; exact hnx, fun j hj e => ?_⟩, by simp [intOf]; omega⟩
                 rw [List.length_append] at e
                 rcases hat3 with e3 | e3
                 · exact hAo j hj (e3.symm.trans e)
                 · have h7 := hAl j hj
                   have h8 := Zap r2
                   have h9 := e3.symm.trans e
                   simp at h9
                   omega
               · have hdummy := trivial
                 go_wp2_with (first
                   | (have hq := H1
                      go_at_call 60; refine (Zby hq.out.1 HB.out.1 HB.out.2).mono ?_; rintro e2 w2 ⟨rfl, hS2, ho2⟩
                      obtain ⟨b6, c6b, sv, gv, k6, q0, q1, hval⟩ := hS2.cells.2 m y HY.out.1
                      have hoo := hq.out.2
                      have hown2 := Zan (Zan HQ.out.2.2.2.1.own hoo) ho2
                      have hz2 := hS2.bl.size
                      have H2 := zh (zi hS2 (zi hval (zi hown2 (fun x c t fr hx h1 h2 h3 => ho2 x c t fr (hoo x c t fr hx h1 h2 h3) h1 h2 h3 : Others wr w2))))
                      clear hS2 ho2 hq hval hown2 hoo)
                   | (go_at_call 82; refine h1c.mono ?_; rintro e1 w1 ⟨rfl, hS1, ho1⟩
                      have H1 := zh (zi hS1 ho1)
                      clear hS1 ho1)
                   | (at_builtin; refine wpList_append_own_at _ rfl _ _ 59 rfl w.heap.size 62 i0 zT 3 24 Tryz.underlying59 HI.out.1 HI.out.2.1 HI.out.2.2.1 HI.out.2.2.2 rfl (by decide) _ _ _ rfl (H2.out.2.2.1.alloc _) ⟨w2.heap.size, 0, none⟩ 1 1 (cellsT (true, sv, gv)) rfl rfl (Zaj w2 _ _ _) (by simp [cellsT, Value.oneCell']) (by unfold maxLen; omega) (by omega) (by simp; omega) ?_; intro v3 w3 hown3 hg3 _ hat3
                      obtain ⟨a3, c3, rfl⟩ := (RowV.of_own hown3).shape
                      have H3 := zh (zi hown3 (zi hg3 hat3))
                      clear hown3 hg3 hat3))
                 obtain ⟨hS2, hval, hown2, ho2⟩ := H2.out
                 obtain ⟨hown3, hg3, hat3⟩ := H3.out
                 obtain ⟨hrp, hrd, hrb, hP, hAo, hAl, hr, h0⟩ := HQ.out
                 obtain ⟨hy, hy0, hgd, htl, hal, hp, hsome, hlt⟩ := HY.out
                 have hnx := hP.next h0 hlt HB.out.2 hAo (by omega) (by omega) HNB.out hy hy0 hval hS2 ho2 hown3 hg3 hat3
                 have r2 := ho2 _ _ _ _ hrb (by decide) (by decide) (by decide)
                 refine ⟨⟨k + 1, m, l ++ [((1 : Nat) == 1, y.toNat)], ts ++ [((1 : Nat) == 1, sv, gv)], r, a3, c3, by omega, by go_num, by rw [List.length_append]; rfl, rfl, by rw [List.length_append]; exact hnx, fun j hj e => ?_⟩, by simp [intOf]; omega⟩
                 rw [List.length_append] at e
                 rcases hat3 with e3 | e3
                 · exact hAo j hj (e3.symm.trans e)
                 · have h7 := hAl j hj
                   have h8 := Zap r2
                   have h9 := e3.symm.trans e
                   simp at h9
                   omega
             · have htz : (0 : Int) < (ts.length : Int) := by omega
               by_cases hmp : m = p
               · have habl : above < ps.length := hP.lt (by omega)
                 have hbc : ps[above]? = some (ps.getD above 0) := by rw [List.getD, List.getElem?_eq_getElem habl]; rfl
                 obtain rfl := hmp
                 have habl' : (above : Int) < (ps.length : Int) := by omega
                 have hab0 : (0 : Int) ≤ (above : Int) := by omega
                 by_cases hbe : ps.getD above 0 = y + 1
                 · have hbv : decide (0 < above ∧ ps.getD above 0 = ps.getD (above - 1) 0 + 1) = true := by
                     rw [decide_eq_true_iff]
                     exact ⟨by omega, by rw [hbe, show above - 1 = m by omega, hgd]⟩
                   rw [if_pos (.inr (.inr ⟨by simp; omega, by omega, by rw [hbc, hbe, hgd]⟩))] at hsome
                   have HNO := zh hsome
                   clear hrp a0 hAl hr hbr0 h0 hn hP hAo hrd hld hby hz hrb hbb h2 hsome hy hy0 hgd htl hal hp hpa hs256 hi0 hz0 hz1 hz2 hbc hbe
                   go_wp2_with (first
                     | (have hq := H1
                        go_at_call 60; refine (Zby hq.out.1 HB.out.1 HB.out.2).mono ?_; rintro e2 w2 ⟨rfl, hS2, ho2⟩
                        obtain ⟨b7, c7b, k7, q7⟩ := hS2.besides (i := above) habl
                        rw [hbv] at q7
                        have r2 := ho2 _ _ _ _ hq.out.2 (by decide) (by decide) (by decide)
                        obtain ⟨y0, y1⟩ := Zab r2
                        obtain ⟨y2, y3⟩ := Zae r2
                        have H2 := zh hS2
                        clear hS2 ho2 r2 hq)
                     | (go_at_call 82; refine h1c.mono ?_; rintro e1 w1 ⟨rfl, hS1, ho1⟩
                        have H1 := zh (zi hS1 (ho1 _ _ _ _ HQ.out.2.2.1 (by decide) (by decide) (by decide)))
                        clear hS1 ho1))
                   refine bodyPost_ret (v := .tuple #[.agg #[.int .i64 0, .pointer none], .bool false]) (by simp [results, Tryz.results61, go_sem, *]) rfl (.inr ⟨?_, rfl, ?_⟩)
                   · rw [HQ.out.1, HQ.out.2.1, HNO.out]; rfl
                   · exact (H2.out.bl.setCell (p := ⟨wq.heap.size, 0, none⟩) hws _).setCell (p := ⟨wq.heap.size, 1, none⟩) hws _
                 · have hbv : decide (0 < above ∧ ps.getD above 0 = ps.getD (above - 1) 0 + 1) = false := by
                     rw [decide_eq_false_iff_not]
                     exact fun h => hbe (by rw [h.2, show above - 1 = m by omega, hgd])
                   have HNB := zh (show ¬ (0 < k ∧ m + 1 = above ∧ ps[above]? = some (ps.getD m 0 + 1)) from fun h => hbe (by have h3 := h.2.2; rw [hbc, hgd] at h3; exact Option.some.inj h3))
                   clear hrp a0 hAl hr hbr0 h0 hn hP hAo hrd hld hby hz hrb hbb h2 hsome hy hy0 hgd htl hal hp hpa hs256 hi0 hz0 hz1 hz2 hbc hbe
                   obtain rfl | rfl := hs01
                   · have hdummy := trivial
                     go_wp2_with (first
                       | (have hq := H1
                          go_at_call 60; refine (Zby hq.out.1 HB.out.1 HB.out.2).mono ?_; rintro e2 w2 ⟨rfl, hS2, ho2⟩
                          obtain ⟨b6, c6b, sv, gv, k6, q0, q1, hval⟩ := hS2.cells.2 m y HY.out.1
                          obtain ⟨b7, c7b, k7, q7⟩ := hS2.besides (i := above) habl
                          rw [hbv] at q7
                          have hoo := hq.out.2
                          have hown2 := Zan (Zan HQ.out.2.2.2.1.own hoo) ho2
                          have hz2 := hS2.bl.size
                          have H2 := zh (zi hS2 (zi hval (zi hown2 (fun x c t fr hx h1 h2 h3 => ho2 x c t fr (hoo x c t fr hx h1 h2 h3) h1 h2 h3 : Others wr w2))))
                          clear hS2 ho2 hq hval hown2 hoo)
                       | (go_at_call 82; refine h1c.mono ?_; rintro e1 w1 ⟨rfl, hS1, ho1⟩
                          have H1 := zh (zi hS1 ho1)
                          clear hS1 ho1)
                       | (at_builtin; refine wpList_append_own_at _ rfl _ _ 59 rfl w.heap.size 62 i0 zT 3 24 Tryz.underlying59 HI.out.1 HI.out.2.1 HI.out.2.2.1 HI.out.2.2.2 rfl (by decide) _ _ _ rfl (H2.out.2.2.1.alloc _) ⟨w2.heap.size, 0, none⟩ 1 1 (cellsT (false, sv, gv)) rfl rfl (Zaj w2 _ _ _) (by simp [cellsT, Value.oneCell']) (by unfold maxLen; omega) (by omega) (by simp; omega) ?_; intro v3 w3 hown3 hg3 _ hat3
                          obtain ⟨a3, c3, rfl⟩ := (RowV.of_own hown3).shape
                          have H3 := zh (zi hown3 (zi hg3 hat3))
                          clear hown3 hg3 hat3))
                     obtain ⟨hS2, hval, hown2, ho2⟩ := H2.out
                     obtain ⟨hown3, hg3, hat3⟩ := H3.out
                     obtain ⟨hrp, hrd, hrb, hP, hAo, hAl, hr, h0⟩ := HQ.out
                     obtain ⟨hy, hy0, hgd, htl, hal, hp, hsome, hlt⟩ := HY.out
                     have hnx := hP.next h0 hlt HB.out.2 hAo (by omega) (by omega) HNB.out hy hy0 hval hS2 ho2 hown3 hg3 hat3
                     have r2 := ho2 _ _ _ _ hrb (by decide) (by decide) (by decide)
                     refine ⟨⟨k + 1, m, l ++ [((0 : Nat) == 1, y.toNat)], ts ++ [((0 : Nat) == 1, sv, gv)], r, a3, c3, by omega, by go_num, by rw [List.length_append]; rfl, rfl, by rw [List.length_append]; exact hnx, fun j hj e => ?_⟩, by simp [intOf]; omega⟩
                     rw [List.length_append] at e
                     rcases hat3 with e3 | e3
                     · exact hAo j hj (e3.symm.trans e)
                     · have h7 := hAl j hj
                       have h8 := Zap r2
                       have h9 := e3.symm.trans e
                       simp at h9
                       omega
                   · have hdummy := trivial
                     go_wp2_with (first
                       | (have hq := H1
                          go_at_call 60; refine (Zby hq.out.1 HB.out.1 HB.out.2).mono ?_; rintro e2 w2 ⟨rfl, hS2, ho2⟩
                          obtain ⟨b6, c6b, sv, gv, k6, q0, q1, hval⟩ := hS2.cells.2 m y HY.out.1
                          obtain ⟨b7, c7b, k7, q7⟩ := hS2.besides (i := above) habl
                          rw [hbv] at q7
                          have hoo := hq.out.2
                          have hown2 := Zan (Zan HQ.out.2.2.2.1.own hoo) ho2
                          have hz2 := hS2.bl.size
                          have H2 := zh (zi hS2 (zi hval (zi hown2 (fun x c t fr hx h1 h2 h3 => ho2 x c t fr (hoo x c t fr hx h1 h2 h3) h1 h2 h3 : Others wr w2))))
                          clear hS2 ho2 hq hval hown2 hoo)
                       | (go_at_call 82; refine h1c.mono ?_; rintro e1 w1 ⟨rfl, hS1, ho1⟩
                          have H1 := zh (zi hS1 ho1)
                          clear hS1 ho1)
                       | (at_builtin; refine wpList_append_own_at _ rfl _ _ 59 rfl w.heap.size 62 i0 zT 3 24 Tryz.underlying59 HI.out.1 HI.out.2.1 HI.out.2.2.1 HI.out.2.2.2 rfl (by decide) _ _ _ rfl (H2.out.2.2.1.alloc _) ⟨w2.heap.size, 0, none⟩ 1 1 (cellsT (true, sv, gv)) rfl rfl (Zaj w2 _ _ _) (by simp [cellsT, Value.oneCell']) (by unfold maxLen; omega) (by omega) (by simp; omega) ?_; intro v3 w3 hown3 hg3 _ hat3
                          obtain ⟨a3, c3, rfl⟩ := (RowV.of_own hown3).shape
                          have H3 := zh (zi hown3 (zi hg3 hat3))
                          clear hown3 hg3 hat3))
                     obtain ⟨hS2, hval, hown2, ho2⟩ := H2.out
                     obtain ⟨hown3, hg3, hat3⟩ := H3.out
                     obtain ⟨hrp, hrd, hrb, hP, hAo, hAl, hr, h0⟩ := HQ.out
                     obtain ⟨hy, hy0, hgd, htl, hal, hp, hsome, hlt⟩ := HY.out
                     have hnx := hP.next h0 hlt HB.out.2 hAo (by omega) (by omega) HNB.out hy hy0 hval hS2 ho2 hown3 hg3 hat3
                     have r2 := ho2 _ _ _ _ hrb (by decide) (by decide) (by decide)
                     refine ⟨⟨k + 1, m, l ++ [((1 : Nat) == 1, y.toNat)], ts ++ [((1 : Nat) == 1, sv, gv)], r, a3, c3, by omega, by go_num, by rw [List.length_append]; rfl, rfl, by rw [List.length_append]; exact hnx, fun j hj e => ?_⟩, by simp [intOf]; omega⟩
                     rw [List.length_append] at e
                     rcases hat3 with e3 | e3
                     · exact hAo j hj (e3.symm.trans e)
                     · have h7 := hAl j hj
                       have h8 := Zap r2
                       have h9 := e3.symm.trans e
                       simp at h9
                       omega
               · have hmp' : ¬ (m : Int) = (p : Int) := by omega
                 have hmpb : ((m : Int) == (p : Int)) = false := by simp; omega
                 have HNB := zh (show ¬ (0 < k ∧ m + 1 = above ∧ ps[above]? = some (ps.getD m 0 + 1)) from fun h => by omega)
                 clear hrp a0 hAl hr hbr0 h0 hn hP hAo hrd hld hby hz hrb hbb h2 hsome hy hy0 hgd htl hal hp hpa hs256 hi0 hz0 hz1 hz2
                 obtain rfl | rfl := hs01
                 · have hdummy := trivial
                   go_wp2_with (first
                     | (have hq := H1
                        go_at_call 60; refine (Zby hq.out.1 HB.out.1 HB.out.2).mono ?_; rintro e2 w2 ⟨rfl, hS2, ho2⟩
                        obtain ⟨b6, c6b, sv, gv, k6, q0, q1, hval⟩ := hS2.cells.2 m y HY.out.1
                        have hoo := hq.out.2
                        have hown2 := Zan (Zan HQ.out.2.2.2.1.own hoo) ho2
                        have hz2 := hS2.bl.size
                        have H2 := zh (zi hS2 (zi hval (zi hown2 (fun x c t fr hx h1 h2 h3 => ho2 x c t fr (hoo x c t fr hx h1 h2 h3) h1 h2 h3 : Others wr w2))))
                        clear hS2 ho2 hq hval hown2 hoo)
                     | (go_at_call 82; refine h1c.mono ?_; rintro e1 w1 ⟨rfl, hS1, ho1⟩
                        have H1 := zh (zi hS1 ho1)
                        clear hS1 ho1)
                     | (at_builtin; refine wpList_append_own_at _ rfl _ _ 59 rfl w.heap.size 62 i0 zT 3 24 Tryz.underlying59 HI.out.1 HI.out.2.1 HI.out.2.2.1 HI.out.2.2.2 rfl (by decide) _ _ _ rfl (H2.out.2.2.1.alloc _) ⟨w2.heap.size, 0, none⟩ 1 1 (cellsT (false, sv, gv)) rfl rfl (Zaj w2 _ _ _) (by simp [cellsT, Value.oneCell']) (by unfold maxLen; omega) (by omega) (by simp; omega) ?_; intro v3 w3 hown3 hg3 _ hat3
                        obtain ⟨a3, c3, rfl⟩ := (RowV.of_own hown3).shape
                        have H3 := zh (zi hown3 (zi hg3 hat3))
                        clear hown3 hg3 hat3))
                   obtain ⟨hS2, hval, hown2, ho2⟩ := H2.out
                   obtain ⟨hown3, hg3, hat3⟩ := H3.out
                   obtain ⟨hrp, hrd, hrb, hP, hAo, hAl, hr, h0⟩ := HQ.out
                   obtain ⟨hy, hy0, hgd, htl, hal, hp, hsome, hlt⟩ := HY.out
                   have hnx := hP.next h0 hlt HB.out.2 hAo (by omega) (by omega) HNB.out hy hy0 hval hS2 ho2 hown3 hg3 hat3
                   have r2 := ho2 _ _ _ _ hrb (by decide) (by decide) (by decide)
                   refine ⟨⟨k + 1, m, l ++ [((0 : Nat) == 1, y.toNat)], ts ++ [((0 : Nat) == 1, sv, gv)], r, a3, c3, by omega, by go_num, by rw [List.length_append]; rfl, rfl, by rw [List.length_append]; exact hnx, fun j hj e => ?_⟩, by simp [intOf]; omega⟩
                   rw [List.length_append] at e
                   rcases hat3 with e3 | e3
                   · exact hAo j hj (e3.symm.trans e)
                   · have h7 := hAl j hj
                     have h8 := Zap r2
                     have h9 := e3.symm.trans e
                     simp at h9
                     omega
                 · have hdummy := trivial
                   go_wp2_with (first
                     | (have hq := H1
                        go_at_call 60; refine (Zby hq.out.1 HB.out.1 HB.out.2).mono ?_; rintro e2 w2 ⟨rfl, hS2, ho2⟩
                        obtain ⟨b6, c6b, sv, gv, k6, q0, q1, hval⟩ := hS2.cells.2 m y HY.out.1
                        have hoo := hq.out.2
                        have hown2 := Zan (Zan HQ.out.2.2.2.1.own hoo) ho2
                        have hz2 := hS2.bl.size
                        have H2 := zh (zi hS2 (zi hval (zi hown2 (fun x c t fr hx h1 h2 h3 => ho2 x c t fr (hoo x c t fr hx h1 h2 h3) h1 h2 h3 : Others wr w2))))
                        clear hS2 ho2 hq hval hown2 hoo)
                     | (go_at_call 82; refine h1c.mono ?_; rintro e1 w1 ⟨rfl, hS1, ho1⟩
                        have H1 := zh (zi hS1 ho1)
                        clear hS1 ho1)
                     | (at_builtin; refine wpList_append_own_at _ rfl _ _ 59 rfl w.heap.size 62 i0 zT 3 24 Tryz.underlying59 HI.out.1 HI.out.2.1 HI.out.2.2.1 HI.out.2.2.2 rfl (by decide) _ _ _ rfl (H2.out.2.2.1.alloc _) ⟨w2.heap.size, 0, none⟩ 1 1 (cellsT (true, sv, gv)) rfl rfl (Zaj w2 _ _ _) (by simp [cellsT, Value.oneCell']) (by unfold maxLen; omega) (by omega) (by simp; omega) ?_; intro v3 w3 hown3 hg3 _ hat3
                        obtain ⟨a3, c3, rfl⟩ := (RowV.of_own hown3).shape
                        have H3 := zh (zi hown3 (zi hg3 hat3))
                        clear hown3 hg3 hat3))
                   obtain ⟨hS2, hval, hown2, ho2⟩ := H2.out
                   obtain ⟨hown3, hg3, hat3⟩ := H3.out
                   obtain ⟨hrp, hrd, hrb, hP, hAo, hAl, hr, h0⟩ := HQ.out
                   obtain ⟨hy, hy0, hgd, htl, hal, hp, hsome, hlt⟩ := HY.out
                   have hnx := hP.next h0 hlt HB.out.2 hAo (by omega) (by omega) HNB.out hy hy0 hval hS2 ho2 hown3 hg3 hat3
                   have r2 := ho2 _ _ _ _ hrb (by decide) (by decide) (by decide)
                   refine ⟨⟨k + 1, m, l ++ [((1 : Nat) == 1, y.toNat)], ts ++ [((1 : Nat) == 1, sv, gv)], r, a3, c3, by omega, by go_num, by rw [List.length_append]; rfl, rfl, by rw [List.length_append]; exact hnx, fun j hj e => ?_⟩, by simp [intOf]; omega⟩
                   rw [List.length_append] at e
                   rcases hat3 with e3 | e3
                   · exact hAo j hj (e3.symm.trans e)
                   · have h7 := hAl j hj
                     have h8 := Zap r2
                     have h9 := e3.symm.trans e
                     simp at h9
                     omega
       · have hkn : k = count := by omega
         subst hkn
         have hlt' : ¬ ((k : Int) < (k : Int)) := by omega
         have hrd := hP.rd
         rw [Nat.sub_self] at hrd
         simp only [readTerms, Option.map_some, List.append_nil] at hrd
         obtain ⟨_, _, hna, _, _⟩ := Zc6 hr.so hr.z k ps.length false r0 l bs' hbr0 (zl) (fun h => by cases h) hrd
         have htl := hP.tv.len
         have hll := hP.len
         have hkp := (hP.ld.less (A' := fun j => A j ∨ j = wq.heap.size) (fun j hj => .inl hj)).keep hn hP.own (fun j hj hh => by
           rcases hh with x | x
           · exact hAo j x hj
           · rw [x] at hj
             obtain ⟨c, hc⟩ := Zb9 hP.own _ hj
             rw [hP.rb] at hc; cases hc) (by omega) hP.tv hna
         have hrb := hP.rb
         have HQ := zh (zi hrp (zi hrd (zi hrb h0)))
         clear hrp a0 hAl hr hbr0 h0 hn hP hAo hrd hna htl hll hrb
         go_wp2_with (first
           | (go_at_call 68; refine hkp.mono ?_; rintro e7 w7 ⟨s7, g7, D7, rfl, hv7, hS7, hmo7, ho7⟩
              have r7 := ho7 _ _ _ _ HQ.out.2.2.1 (by decide) (by decide) (by decide)
              obtain ⟨y0, y1⟩ := Zab r7
              obtain ⟨y2, y3⟩ := Zae r7
              have H7 := zh (zi hv7 (zi hS7 hmo7))
              clear hv7 hS7 hmo7 ho7 r7))
         refine bodyPost_ret (v := .tuple #[.agg #[.int .i64 s7, .pointer g7], .bool true]) (by simp [results, Tryz.results61, go_sem, *]) rfl ?_
         obtain ⟨hrp, hrd, hrb, h0⟩ := HQ.out
         obtain ⟨hv7, hS7, hmo7⟩ := H7.out
         refine .inl ⟨val l, bs', s7, g7, D7, by rw [hrp, hrd]; rfl, rfl, hv7, ?_, hmo7⟩
         obtain hvo | hvo := hS7.var wq.heap.size (.inr rfl)
         rotate_left
         · omega
         exact ((hS7.set h0 (.inr rfl) hvo 0 (.int .i64 s7)).set h0 (.inr rfl) (Zmg hvo _ _ _) 1 (.pointer g7)).less (fun j hj => .inl hj)
end Go.Proofs.YtlkmgclbckojgaaGreatDoor

