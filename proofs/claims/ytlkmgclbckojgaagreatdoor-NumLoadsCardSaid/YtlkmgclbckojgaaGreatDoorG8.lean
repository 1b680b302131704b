import Derived.Test.YtlkmgclbckojgaaGreatDoorG7
import Derived.Test.YtlkmgclbckojgaaGreatDoorB3
import Derived.Test.YtlkmgclbckojgaaGreatDoorR3
set_option linter.unusedVariables false
set_option linter.unusedSimpArgs false
set_option maxHeartbeats 8000000
set_option maxRecDepth 100000
namespace Go.Proofs.YtlkmgclbckojgaaGreatDoor
open Go.RowKit
def PushR (w : World) (lb : Nat) (A : Nat → Prop) (D : Addr → Option Int) (ps : List Int) (bs : List Nat) (n : Nat) (z : Int) (e : Ending) (w' : World) : Prop :=
 (ps.getLast?.any (fun y => decide (z ≤ y)) = true ∧ e = .returned (.bool false) ∧ Below w.heap.size w w') ∨
 (ps.getLast?.any (fun y => decide (z ≤ y)) = false ∧ e = .returned (.bool true) ∧ ∃ D', LdS w lb A D' (ps ++ [z]) bs (n + 1) w')
theorem Zic {w : World} {lb : Nat} {A : Nat → Prop} {D : Addr → Option Int} {ps : List Int} {bs : List Nat} {n : Nat} {wq : World} (h : LdS w lb A D ps bs n wq) (h0 : 0 < w.heap.size) {s z : Int} {g : Option Addr} (hv : ValD D s g z) (hr : Rising ps) (hl9 : ps.length ≤ 2000) (hn : n + 1 ≤ big) :
   Calls Tryz.prog 62 #[.pointer (some ⟨lb, 0, none⟩), .agg #[.int .i64 s, .pointer g]] wq (PushR w lb A D ps bs n z) := by
 rcases Nat.eq_zero_or_pos ps.length with hz | hz
 · obtain rfl := List.length_eq_zero_iff.1 hz
   refine (Zp5 h h0 hv).mono ?_
   rintro e w' ⟨rfl, hS⟩
   exact .inr ⟨rfl, rfl, D, hS.more (by omega)⟩
 · obtain ⟨m, hm⟩ : ∃ m, ps.length = m + 1 := ⟨ps.length - 1, by omega⟩
   obtain ⟨y0, hy⟩ : ∃ y, ps[m]? = some y := ⟨_, List.getElem?_eq_getElem (by omega)⟩
   have hmem := List.mem_of_getElem? hy
   have hlast : ps.getLast? = some y0 := by rw [List.getLast?_eq_getElem?, hm, Nat.add_sub_cancel]; exact hy
   by_cases hge : z ≤ y0
   · refine (Zq5 h h0 hv hm hl9 hy (hr.z y0 hmem) (hr.w y0 hmem) hn hge).mono ?_
     rintro e w' ⟨rfl, hb⟩
     exact .inl ⟨by rw [hlast]; simp [hge], rfl, hb⟩
   · refine (Zq6 h h0 hv hm hl9 hy (hr.z y0 hmem) (hr.w y0 hmem) hn (by omega)).mono ?_
     rintro e w' ⟨rfl, D', hS, hmo⟩
     exact .inr ⟨by rw [hlast]; simp; omega, rfl, D', hS⟩
theorem Rising.snoc {ps : List Int} {bs r : List Nat} {z : Int} (hp : Rising ps) (hb : ByteL bs) (h1 : readPart ps bs = some (z, r)) (hl : ps.getLast?.any (fun y => decide (z ≤ y)) = false) : Rising (ps ++ [z]) ∧ ByteL r := by
 obtain ⟨e1, w1, m1⟩ := Zdp hp.so hp.z hb h1
 have hlt : ∀ p ∈ ps, p < z := by
   intro p hpm
   cases hL : ps.getLast? with
   | none => rw [List.getLast?_eq_none_iff.1 hL] at hpm; simp at hpm
   | some y =>
     obtain ⟨ys, hy⟩ := List.getLast?_eq_some_iff.1 hL
     rw [hL] at hl
     simp at hl
     have hso := hp.so
     rw [hy] at hso hpm
     rcases List.mem_append.1 hpm with x | x
     · have := (List.pairwise_append.1 hso).2.2 p x y (by simp); omega
     · rw [List.mem_singleton.1 x]; exact hl
 have hz : 0 ≤ z := by
   cases ps with
   | nil => rw [Zep h1]; exact Int.le_refl _
   | cons p ps => have := hlt p (by simp); have := hp.z p (by simp); omega
 refine ⟨⟨List.pairwise_append.2 ⟨hp.so, by simp, fun p hpm q hq => by rw [List.mem_singleton.1 hq]; exact hlt p hpm⟩, fun p hpm => ?_, fun p hpm t ht => ?_, fun p hpm => ?_⟩, by rw [e1] at hb; exact hb.right⟩
 · rcases List.mem_append.1 hpm with x | x
   · exact hp.z p x
   · rw [List.mem_singleton.1 x]; exact hz
 · rcases List.mem_append.1 hpm with x | x
   · exact List.mem_append_left _ (hp.cl p x t ht)
   · rw [List.mem_singleton.1 x] at ht; exact List.mem_append_left _ (m1 t ht)
 · rcases List.mem_append.1 hpm with x | x
   · exact hp.w p x
   · rw [List.mem_singleton.1 x]; exact w1
theorem LdS.start {w W : World} {A : Nat → Prop} (hW : Below w.heap.size w W) (tab : Tab w) (h0 : 0 < w.heap.size) (hA : ∀ k, A k → VarB w W k) {lv : Value} {bs : List Nat} (hl : RowV w 1 lv bs.length (byV bs)) :
   LdS w W.heap.size A (fun _ => none) [] bs 0 (W.alloc (.cells #[.map none, .map none, .map none, .map none, .map none, lv, .slice none 0 0, .slice none 0 0] 102)) := by
 have hb := hW.alloc hW.size (.cells #[.map none, .map none, .map none, .map none, .map none, lv, .slice none 0 0, .slice none 0 0] 102)
 have hs := hW.size
 refine ⟨fun k => k = W.heap.size, [], emptyG #[.map none, .map none, .map none, .map none, .map none, lv, .slice none 0 0, .slice none 0 0] 102, [], lv, .slice none 0 0, .slice none 0 0, ?_⟩
 exact {
   mem := StMem.empty (heap_alloc_new W _) (.inr rfl) rfl rfl rfl rfl rfl (Zbd tab (hb.block 0 h0)) (by omega)
   inv := StInv.empty _ _ _ _ _
   bl := hb
   fup := fun k hk => by rw [hk]; exact hs
   kl := zl
   var := fun k hk => (hA k hk).same (fun v => Below.heap_alloc _ _ _ v.2.lt)
   c5 := rfl
   c6 := rfl
   c7 := rfl
   left := hl
   own := World.ownsRow_nil _ _ _ _
   rk := rfl
   kn := fun p hp => by simp at hp
   bes := World.ownsRow_nil _ _ _ _
   av := fun k _ => ⟨by simp [Value.ownBlock], by simp [Value.ownBlock]⟩ }
theorem LdS.leftCell {w : World} {lb : Nat} {A : Nat → Prop} {D : Addr → Option Int} {ps : List Int} {bs : List Nat} {n : Nat} {wr : World} (h : LdS w lb A D ps bs n wr) : ∃ a c, wr.cell? ⟨lb, 5, none⟩ = some (.slice a bs.length c) := by
 obtain ⟨F, K, G, qs, lv, pv, bv, h⟩ := h
 obtain ⟨a, c, rfl⟩ := h.left.shape
 exact ⟨a, c, h.mem.cell 5 h.c5⟩
theorem Zop {bs r : List Nat} {c n : Nat} (h : readTwo bs = some (c, r)) (hc : ¬ (c = 0 ∨ 2000 < c)) (hn : c = n + 1) (h1 : readParts n [] r = none) : loadP bs = none := by
 unfold loadP
 rw [h]
 simp only
 rw [if_neg hc, show c - 1 = n by omega, h1]
theorem Zoq {bs r r2 : List Nat} {c n : Nat} {ps : List Int} (h : readTwo bs = some (c, r)) (hc : ¬ (c = 0 ∨ 2000 < c)) (hn : c = n + 1) (h1 : readParts n [] r = some (ps, r2)) (h2 : readPart ps r2 = none) : loadP bs = none := by
 unfold loadP
 rw [h]
 simp only
 rw [if_neg hc, show c - 1 = n by omega, h1]
 simp only
 rw [h2]
theorem Zor {bs r r2 r3 : List Nat} {c n : Nat} {ps : List Int} {z : Int} (h : readTwo bs = some (c, r)) (hc : ¬ (c = 0 ∨ 2000 < c)) (hn : c = n + 1) (h1 : readParts n [] r = some (ps, r2)) (h2 : readPart ps r2 = some (z, r3)) :
   ((r3 = [] ∧ allowedZ z ∧ weightZ z = c) → loadP bs = some z) ∧ (¬ (r3 = [] ∧ allowedZ z ∧ weightZ z = c) → loadP bs = none) := by
 unfold loadP
 rw [h]
 simp only
 rw [if_neg hc, show c - 1 = n by omega, h1]
 simp only
 rw [h2]
 simp only
 exact ⟨fun h3 => by rw [if_pos h3], fun h3 => by rw [if_neg h3]⟩
def LoadRB (B : Nat → Prop) (w : World) (bs : List Nat) (e : Ending) (w' : World) : Prop :=
 Below w.heap.size w w' ∧ ((∃ (z s : Int) (g : Option Addr), loadP bs = some z ∧ e = .returned (.tuple #[.agg #[.int .i64 s, .pointer g], .int .i64 0]) ∧ NumA B w' s g z) ∨
   (loadP bs = none ∧ e = .returned (.tuple #[.agg #[.int .i64 0, .pointer none], .int .i64 2])))
abbrev LoadR (w : World) (bs : List Nat) (e : Ending) (w' : World) : Prop := LoadRB cold w bs e w'
theorem Zgy {B : Nat → Prop} {w : World} {a : Option Addr} {c : Nat} {bs : List Nat} (hB : ∀ k, B k → k < w.heap.size) (hr : RowV w 1 (.slice a bs.length c) bs.length (byV bs)) (hb : ByteL bs) (tab : Tab w) (h0 : 0 < w.heap.size) :
   Calls Tryz.prog 21 #[.slice a bs.length c] w (LoadRB B w bs) := by
 have hb1 : Below w.heap.size w (w.alloc (.cells #[.int .i64 0, .pointer none] 28)) := (zb).alloc (zl) _
 have a0 := heap_alloc_new w (.cells #[.int .i64 0, .pointer none] 28)
 have hz1 : (w.alloc (.cells #[.int .i64 0, .pointer none] 28)).heap.size = w.heap.size + 1 := by simp
 have hS := LdS.start (A := B) (Below.refl (w.alloc (.cells #[.int .i64 0, .pointer none] 28)).heap.size (w.alloc (.cells #[.int .i64 0, .pointer none] 28))) (Zbd tab (hb1.block 0 h0)) (by omega) (fun k hk => .inr (by have := hB k hk; omega)) (hr.below hb1 (zl))
 rw [hz1] at hS
 generalize hw1 : w.alloc (.cells #[.int .i64 0, .pointer none] 28) = w1 at *
 have hrb : ∀ W, Below w1.heap.size w1 W → W.heap[w.heap.size]? = some (.cells #[.int .i64 0, .pointer none] 28 (0, 0)) := fun W hW => (hW.block _ (by omega)).trans a0
 have h01 : 0 < w1.heap.size := by omega
 have hlz : ∀ {P : Prop}, loadP bs = none → True := fun _ => trivial
 clear hlz
 cases h2 : readTwo bs with
 | none =>
   have ht := Ze8 hS hb h2
   have hno : loadP bs = none := by unfold loadP; rw [h2]
   have HX := zh (zi hrb hno)
   clear hr hb tab a0 hS hrb hno h2
   subst hw1
   go_enter Tryz.func21, Tryz.ntmps21
   go_wp2_with (first
     | (go_at_call 60; refine ht.mono ?_; rintro e2 w2 ⟨⟨m2, rfl⟩, hS2, ho2⟩
        have r2 := HX.out.1 _ hS2.bl
        obtain ⟨y0, y1⟩ := Zab r2
        obtain ⟨y2, y3⟩ := Zae r2
        have H2 := zh hS2.bl
        clear hS2 ho2 r2))
   refine bodyPost_ret (v := .tuple #[.agg #[.int .i64 0, .pointer none], .int .i64 2]) (by simp [results, Tryz.results21, go_sem, *]) rfl ⟨?_, .inr ⟨HX.out.2, rfl⟩⟩
   exact ((hb1.trans (H2.out.mono (by simp))).setCell (p := ⟨w.heap.size, 0, none⟩) (zl) _).setCell (p := ⟨w.heap.size, 1, none⟩) (zl) _
 | some cr =>
   obtain ⟨ct, r⟩ := cr
   have ht := Zby hS hb h2
   by_cases hc0 : ct = 0 ∨ 2000 < ct
   · have hno : loadP bs = none := by unfold loadP; rw [h2]; simp only; rw [if_pos hc0]
     have HX := zh (zi hrb hno)
     clear hr hb tab a0 hS hrb hno h2
     subst hw1
     by_cases hcz : ct = 0
     · have hcz' : (ct : Int) = 0 := by omega
       go_enter Tryz.func21, Tryz.ntmps21
       go_wp2_with (first
         | (go_at_call 60; refine ht.mono ?_; rintro e2 w2 ⟨rfl, hS2, ho2⟩
            have r2 := HX.out.1 _ hS2.bl
            obtain ⟨y0, y1⟩ := Zab r2
            obtain ⟨y2, y3⟩ := Zae r2
            have H2 := zh hS2.bl
            clear hS2 ho2 r2))
       refine bodyPost_ret (v := .tuple #[.agg #[.int .i64 0, .pointer none], .int .i64 2]) (by simp [results, Tryz.results21, go_sem, *]) rfl ⟨?_, .inr ⟨HX.out.2, rfl⟩⟩
       exact ((hb1.trans (H2.out.mono (by simp))).setCell (p := ⟨w.heap.size, 0, none⟩) (zl) _).setCell (p := ⟨w.heap.size, 1, none⟩) (zl) _
     · have hcz' : ¬ (ct : Int) = 0 ∧ (2000 : Int) < (ct : Int) := by omega
       go_enter Tryz.func21, Tryz.ntmps21
       go_wp2_with (first
         | (go_at_call 60; refine ht.mono ?_; rintro e2 w2 ⟨rfl, hS2, ho2⟩
            have r2 := HX.out.1 _ hS2.bl
            obtain ⟨y0, y1⟩ := Zab r2
            obtain ⟨y2, y3⟩ := Zae r2
            have H2 := zh hS2.bl
            clear hS2 ho2 r2))
       refine bodyPost_ret (v := .tuple #[.agg #[.int .i64 0, .pointer none], .int .i64 2]) (by simp [results, Tryz.results21, go_sem, *]) rfl ⟨?_, .inr ⟨HX.out.2, rfl⟩⟩
       exact ((hb1.trans (H2.out.mono (by simp))).setCell (p := ⟨w.heap.size, 0, none⟩) (zl) _).setCell (p := ⟨w.heap.size, 1, none⟩) (zl) _
   obtain ⟨n1, hn1⟩ : ∃ n1, ct = n1 + 1 := ⟨ct - 1, by omega⟩
   have v1 : (ct : Int) - 1 = (n1 : Int) := by omega
   have v2 : (n1 : Int) ≤ 1999 := by omega
   have v3 : ¬ (ct : Int) = 0 := by omega
   have v6 : ((ct : Int) == 0) = false := by simp; omega
   have v4 : ¬ (2000 : Int) < (ct : Int) := by omega
   have v5 : (ct : Int) ≤ 2000 := by omega
   obtain ⟨q1, q2, hbq, hctq⟩ := Zca h2
   have hbr : ByteL r := by rw [hbq] at hb; exact hb.tail.tail
   have hl1 := fun h1 => Zop h2 hc0 hn1 h1
   have hl2 := fun ps r2 h1 h3 => Zoq (ps := ps) (r2 := r2) h2 hc0 hn1 h1 h3
   have hl3 := fun ps r2 z r3 h1 h3 => Zor (ps := ps) (r2 := r2) (z := z) (r3 := r3) h2 hc0 hn1 h1 h3
   have HX := zh (zi hrb (zi (zi hl1 (zi hl2 hl3)) (zi hbr h01)))
   clear hr hb tab a0 hS hrb h2 hbq hbr hc0 hl1 hl2 hl3 h01 hn1 hctq
   subst hw1
   go_enter Tryz.func21, Tryz.ntmps21
   go_wp2_with (first
     | (go_at_call 60; refine ht.mono ?_; rintro e2 w2 ⟨rfl, hS2, ho2⟩
        have H2 := zh hS2
        clear hS2 ho2))
   clear ht
   go_loopw [29] (fun i wl => ∃ (k : Nat) (D : Addr → Option Int) (ps : List Int) (bs' : List Nat), k ≤ n1 ∧ i = .int .i64 k ∧ LdS (w.alloc (.cells #[.int .i64 0, .pointer none] 28)) (w.heap.size + 1) B D ps bs' (2 * k) wl ∧ ps.length = k ∧ Rising ps ∧ ByteL bs' ∧ readParts n1 [] r = readParts (n1 - k) ps bs') (fun i _ => n1 - (intOf i).toNat)
   case atStart => exact ⟨0, fun _ => none, [], r, by omega, by simp, H2.out, rfl, ⟨by simp, by simp, fun p hp => by simp at hp, by simp⟩, HX.out.2.2.1, rfl⟩
   case round =>
     obtain ⟨k, D, ps, bs', hkl, rfl, hS, hpl, hri, hby, hrp⟩ := hrel
     clear H2
     have hpt := Zm7 hS HX.out.2.2.2 hri hby (by omega) (by have := Zcj; omega)
     by_cases hlt : k < n1
     · have hlt' : (k : Int) < (n1 : Int) := by omega
       rw [show n1 - k = (n1 - (k + 1)) + 1 by omega, readParts] at hrp
       cases h3 : readPart ps bs' with
       | none =>
         rw [h3] at hrp
         have hno : loadP bs = none := HX.out.2.1.1 hrp
         have HQ := zh (zi hno h3)
         clear hS hpl hri hby hrp hno h3
         go_wp2_with (first
           | (go_at_call 61; refine hpt.mono ?_; rintro e4 w4 hPR
              obtain ⟨_, rfl, hbl4⟩ := hPR.resolve_left (by rintro ⟨z, r, s, g, D', e, _⟩; rw [HQ.out.2] at e; cases e)
              have hbA := hbl4.alloc hbl4.size (.cells #[.int .i64 0, .pointer none] 28)
              have r2 := HX.out.1 _ hbA
              obtain ⟨y0, y1⟩ := Zab r2
              obtain ⟨y2, y3⟩ := Zae r2
              have H4 := zh hbA
              clear hPR hbl4 hbA r2))
         refine bodyPost_ret (v := .tuple #[.agg #[.int .i64 0, .pointer none], .int .i64 2]) (by simp [results, Tryz.results21, go_sem, *]) rfl ⟨?_, .inr ⟨HQ.out.1, rfl⟩⟩
         exact ((hb1.trans (H4.out.mono (by simp))).setCell (p := ⟨w.heap.size, 0, none⟩) (zl) _).setCell (p := ⟨w.heap.size, 1, none⟩) (zl) _
       | some zr =>
         obtain ⟨z, r2⟩ := zr
         rw [h3] at hrp
         simp only at hrp
         cases h4 : ps.getLast?.any (fun y => decide (z ≤ y)) with
         | true =>
           rw [h4, if_pos rfl] at hrp
           have hno : loadP bs = none := HX.out.2.1.1 hrp
           have HQ := zh (zi hno (zi h3 (zi h4 (zi hri hpl))))
           clear hS hpl hri hby hrp hno h3 h4
           go_wp2_with (first
             | (have hq := H4
                go_at_call 62; refine (Zic (hq.out.2.below ((zb).alloc (zl) _)) HX.out.2.2.2 hq.out.1 HQ.out.2.2.2.1 (by have := HQ.out.2.2.2.2; omega) (by have := Zcj; omega)).mono ?_; rintro e5 w5 hPS
                obtain ⟨_, rfl, hbl5⟩ := hPS.resolve_right (by rintro ⟨e, _⟩; rw [HQ.out.2.2.1] at e; cases e)
                have r2 := HX.out.1 _ hbl5
                obtain ⟨y0, y1⟩ := Zab r2
                obtain ⟨y2, y3⟩ := Zae r2
                have H5 := zh hbl5
                clear hPS hbl5 r2 hq)
             | (go_at_call 61; refine hpt.mono ?_; rintro e4 w4 hPR
                obtain ⟨z4, r4, s4, g4, D4, e, rfl, hv4, hS4, _⟩ := hPR.resolve_right (by rintro ⟨e, _⟩; rw [HQ.out.2.1] at e; cases e)
                rw [HQ.out.2.1] at e
                cases e
                have H4 := zh (zi hv4 hS4)
                clear hPR hv4 hS4))
           refine bodyPost_ret (v := .tuple #[.agg #[.int .i64 0, .pointer none], .int .i64 2]) (by simp [results, Tryz.results21, go_sem, *]) rfl ⟨?_, .inr ⟨HQ.out.1, rfl⟩⟩
           exact ((hb1.trans (H5.out.mono (by simp))).setCell (p := ⟨w.heap.size, 0, none⟩) (zl) _).setCell (p := ⟨w.heap.size, 1, none⟩) (zl) _
         | false =>
           rw [h4, if_neg (by decide)] at hrp
           obtain ⟨hri2, hbr2⟩ := hri.snoc hby h3 h4
           have HQ := zh (zi hrp (zi h3 (zi h4 (zi hri (zi hpl (zi hri2 hbr2))))))
           clear hS hpl hri hby hrp h3 h4 hri2 hbr2
           go_wp2_with (first
             | (have hq := H4
                go_at_call 62; refine (Zic (hq.out.2.below ((zb).alloc (zl) _)) HX.out.2.2.2 hq.out.1 HQ.out.2.2.2.1 (by have := HQ.out.2.2.2.2.1; omega) (by have := Zcj; omega)).mono ?_; rintro e5 w5 hPS
                obtain ⟨_, rfl, D5, hS5⟩ := hPS.resolve_left (by rintro ⟨e, _⟩; rw [HQ.out.2.2.1] at e; cases e)
                have H5 := zh hS5
                clear hPS hS5 hq)
             | (go_at_call 61; refine hpt.mono ?_; rintro e4 w4 hPR
                obtain ⟨z4, r4, s4, g4, D4, e, rfl, hv4, hS4, _⟩ := hPR.resolve_right (by rintro ⟨e, _⟩; rw [HQ.out.2.1] at e; cases e)
                rw [HQ.out.2.1] at e
                cases e
                have H4 := zh (zi hv4 hS4)
                clear hPR hv4 hS4))
           obtain ⟨hrp, h3, h4, hri, hpl, hri2, hbr2⟩ := HQ.out
           exact ⟨⟨k + 1, D5, ps ++ [z], r2, by omega, by go_num, H5.out.more (by omega), by rw [List.length_append, hpl]; rfl, hri2, hbr2, hrp⟩, by simp [intOf]; omega⟩
     · have hkn : k = n1 := by omega
       subst hkn
       have hlt' : ¬ ((k : Int) < (k : Int)) := by omega
       rw [Nat.sub_self, readParts] at hrp
       cases h3 : readPart ps bs' with
       | none =>
         have hno : loadP bs = none := HX.out.2.1.2.1 _ _ hrp h3
         have HQ := zh (zi hno h3)
         clear hS hpl hri hby hrp hno h3
         go_wp2_with (first
           | (go_at_call 61; refine hpt.mono ?_; rintro e4 w4 hPR
              obtain ⟨_, rfl, hbl4⟩ := hPR.resolve_left (by rintro ⟨z, r, s, g, D', e, _⟩; rw [HQ.out.2] at e; cases e)
              have hbA := hbl4.alloc hbl4.size (.cells #[.int .i64 0, .pointer none] 28)
              have r2 := HX.out.1 _ hbA
              obtain ⟨y0, y1⟩ := Zab r2
              obtain ⟨y2, y3⟩ := Zae r2
              have H4 := zh hbA
              clear hPR hbl4 hbA r2))
         refine bodyPost_ret (v := .tuple #[.agg #[.int .i64 0, .pointer none], .int .i64 2]) (by simp [results, Tryz.results21, go_sem, *]) rfl ⟨?_, .inr ⟨HQ.out.1, rfl⟩⟩
         exact ((hb1.trans (H4.out.mono (by simp))).setCell (p := ⟨w.heap.size, 0, none⟩) (zl) _).setCell (p := ⟨w.heap.size, 1, none⟩) (zl) _
       | some zr =>
         obtain ⟨z, r3⟩ := zr
         obtain ⟨hyes, hnot⟩ := HX.out.2.1.2.2 _ _ _ _ hrp h3
         rcases Nat.eq_zero_or_pos r3.length with hz | hz
         · obtain rfl := List.length_eq_zero_iff.1 hz
           by_cases hall : allowedZ z
           · have hwz9 := hall.1
             have hwz9' : (weightZ z : Int) ≤ 2000 := by omega
             by_cases hwt : weightZ z = ct
             · have hld := hyes ⟨rfl, hall, hwt⟩
               have hwt' : (weightZ z : Int) = (ct : Int) := by omega
               have hwtb : ((weightZ z : Int) == (ct : Int)) = true := by simp; omega
               have HQ := zh (zi hld h3)
               have HA := zh hall
               clear hS hpl hri hby hrp h3 hyes hnot hld hall hwt
               go_wp2_with (first
                 | (have hq := H6
                    go_at_call 30; refine hq.out.2.2.2.1.mono ?_; rintro e7 w7 ⟨rfl, hbl7⟩
                    have hbA7 := hq.out.1.trans (hbl7.mono hq.out.1.size)
                    have r7 := HX.out.1 _ hbA7
                    obtain ⟨p0, p1⟩ := Zab r7
                    obtain ⟨p2, p3⟩ := Zae r7
                    have hx7 := (hbl7.block _ (Zap hq.out.2.2.1)).trans hq.out.2.2.1
                    obtain ⟨p4, p5⟩ := Zab hx7
                    have H7 := zh (zi hbA7 (zi (Num.below hq.out.2.2.2.2 hbl7) r7))
                    clear hbl7 hbA7 r7 hx7 hq)
                 | (have hq := H4
                    go_at_call 63; refine hq.out.2.2.1.mono ?_; rintro e6 w6 ⟨b6, rfl, hb6, hbl6⟩
                    obtain rfl : b6 = true := by exact hb6.2 HA.out
                    have hbA6 := hq.out.1.trans (hbl6.mono hq.out.1.size)
                    have r6 := HX.out.1 _ hbA6
                    obtain ⟨x0, x1⟩ := Zab r6
                    obtain ⟨x2, x3⟩ := Zae r6
                    have hx6 := (hbl6.block _ (Zap hq.out.2.2.2.1)).trans hq.out.2.2.2.1
                    obtain ⟨x4, x5⟩ := Zab hx6
                    have hN6 := Num.below hq.out.2.1 hbl6
                    have H6 := zh (zi hbA6 (zi hN6 (zi hx6 (zi (Zcf hN6) (Num.below hq.out.2.2.2.2 hbl6)))))
                    clear hb6 hbl6 hbA6 r6 hx6 hN6 hq)
                 | (go_at_call 61; refine hpt.mono ?_; rintro e4 w4 hPR
                    obtain ⟨z4, r4, s4, g4, D4, e, rfl, hv4, hS4, _⟩ := hPR.resolve_right (by rintro ⟨e, _⟩; rw [HQ.out.2] at e; cases e)
                    rw [HQ.out.2] at e
                    cases e
                    have hbA : Below w4.heap.size w4 (w4.alloc (.cells #[.int .i64 s4, .pointer g4] 28)) := (zb).alloc (zl) _
                    have hSA := hS4.below hbA
                    obtain ⟨a5, c5, k5⟩ := hSA.leftCell
                    have r2 := HX.out.1 _ hSA.bl
                    obtain ⟨y0, y1⟩ := Zab r2
                    obtain ⟨y2, y3⟩ := Zae r2
                    have hxA := heap_alloc_new w4 (.cells #[.int .i64 s4, .pointer g4] 28)
                    have hN : NumL (w4.alloc (.cells #[.int .i64 s4, .pointer g4] 28)) s4 g4 z := ((hSA.num hv4).shrink (fun i hi => hi.elim)).more (by omega)
                    have hal := Zb3 hN
                    have H4 := zh (zi hSA.bl (zi hN (zi hal (zi hxA (hSA.num hv4)))))
                    clear hN hal
                    clear hPR hv4 hS4 hbA hSA r2 hxA))
               refine bodyPost_ret (v := .tuple #[.agg #[.int .i64 s4, .pointer g4], .int .i64 0]) (by simp [results, Tryz.results21, go_sem, *]) rfl ⟨?_, .inl ⟨z, s4, g4, HQ.out.1, rfl, ?_⟩⟩
               · exact ((hb1.trans (H7.out.1.mono (by simp))).setCell (p := ⟨w.heap.size, 0, none⟩) (zl) _).setCell (p := ⟨w.heap.size, 1, none⟩) (zl) _
               · exact NumA.put (NumA.of H7.out.2.1 HA.out) H7.out.2.2 _ _
             · have hno := hnot (fun h => hwt h.2.2)
               have hwtb : ((weightZ z : Int) == (ct : Int)) = false := by simp; omega
               have hwt' : ¬ (weightZ z : Int) = (ct : Int) := by omega
               have HQ := zh (zi hno h3)
               have HA := zh hall
               clear hS hpl hri hby hrp h3 hyes hnot hno hall hwt
               go_wp2_with (first
                 | (have hq := H6
                    go_at_call 30; refine hq.out.2.2.2.mono ?_; rintro e7 w7 ⟨rfl, hbl7⟩
                    have hbA7 := hq.out.1.trans (hbl7.mono hq.out.1.size)
                    have r7 := HX.out.1 _ hbA7
                    obtain ⟨p0, p1⟩ := Zab r7
                    obtain ⟨p2, p3⟩ := Zae r7
                    have hx7 := (hbl7.block _ (Zap hq.out.2.2.1)).trans hq.out.2.2.1
                    obtain ⟨p4, p5⟩ := Zab hx7
                    have H7 := zh (zi hbA7 (zi (Num.below hq.out.2.1 hbl7) r7))
                    clear hbl7 hbA7 r7 hx7 hq)
                 | (have hq := H4
                    go_at_call 63; refine hq.out.2.2.1.mono ?_; rintro e6 w6 ⟨b6, rfl, hb6, hbl6⟩
                    obtain rfl : b6 = true := by exact hb6.2 HA.out
                    have hbA6 := hq.out.1.trans (hbl6.mono hq.out.1.size)
                    have r6 := HX.out.1 _ hbA6
                    obtain ⟨x0, x1⟩ := Zab r6
                    obtain ⟨x2, x3⟩ := Zae r6
                    have hx6 := (hbl6.block _ (Zap hq.out.2.2.2)).trans hq.out.2.2.2
                    obtain ⟨x4, x5⟩ := Zab hx6
                    have hN6 := Num.below hq.out.2.1 hbl6
                    have H6 := zh (zi hbA6 (zi hN6 (zi hx6 (Zcf hN6))))
                    clear hb6 hbl6 hbA6 r6 hx6 hN6 hq)
                 | (go_at_call 61; refine hpt.mono ?_; rintro e4 w4 hPR
                    obtain ⟨z4, r4, s4, g4, D4, e, rfl, hv4, hS4, _⟩ := hPR.resolve_right (by rintro ⟨e, _⟩; rw [HQ.out.2] at e; cases e)
                    rw [HQ.out.2] at e
                    cases e
                    have hbA : Below w4.heap.size w4 (w4.alloc (.cells #[.int .i64 s4, .pointer g4] 28)) := (zb).alloc (zl) _
                    have hSA := hS4.below hbA
                    obtain ⟨a5, c5, k5⟩ := hSA.leftCell
                    have r2 := HX.out.1 _ hSA.bl
                    obtain ⟨y0, y1⟩ := Zab r2
                    obtain ⟨y2, y3⟩ := Zae r2
                    have hxA := heap_alloc_new w4 (.cells #[.int .i64 s4, .pointer g4] 28)
                    have hN : NumL (w4.alloc (.cells #[.int .i64 s4, .pointer g4] 28)) s4 g4 z := ((hSA.num hv4).shrink (fun i hi => hi.elim)).more (by omega)
                    have hal := Zb3 hN
                    have H4 := zh (zi hSA.bl (zi hN (zi hal hxA)))
                    clear hN hal
                    clear hPR hv4 hS4 hbA hSA r2 hxA))
               refine bodyPost_ret (v := .tuple #[.agg #[.int .i64 0, .pointer none], .int .i64 2]) (by simp [results, Tryz.results21, go_sem, *]) rfl ⟨?_, .inr ⟨HQ.out.1, rfl⟩⟩
               exact ((hb1.trans (H7.out.1.mono (by simp))).setCell (p := ⟨w.heap.size, 0, none⟩) (zl) _).setCell (p := ⟨w.heap.size, 1, none⟩) (zl) _
           · have hno := hnot (fun h => hall h.2.1)
             have HQ := zh (zi hno h3)
             have HA := zh hall
             clear hS hpl hri hby hrp h3 hyes hnot hno hall
             go_wp2_with (first
               | (have hq := H4
                  go_at_call 63; refine hq.out.2.2.1.mono ?_; rintro e6 w6 ⟨b6, rfl, hb6, hbl6⟩
                  obtain rfl : b6 = false := by 
                    cases b6 with
                    | false => rfl
                    | true => exact absurd (hb6.1 rfl) HA.out
                  have hbA6 := hq.out.1.trans (hbl6.mono hq.out.1.size)
                  have r6 := HX.out.1 _ hbA6
                  obtain ⟨x0, x1⟩ := Zab r6
                  obtain ⟨x2, x3⟩ := Zae r6
                  have hx6 := (hbl6.block _ (Zap hq.out.2.2.2)).trans hq.out.2.2.2
                  obtain ⟨x4, x5⟩ := Zab hx6
                  have hN6 := Num.below hq.out.2.1 hbl6
                  have H6 := zh (zi hbA6 (zi hN6 (zi hx6 (Zcf hN6))))
                  clear hb6 hbl6 hbA6 r6 hx6 hN6 hq)
               | (go_at_call 61; refine hpt.mono ?_; rintro e4 w4 hPR
                  obtain ⟨z4, r4, s4, g4, D4, e, rfl, hv4, hS4, _⟩ := hPR.resolve_right (by rintro ⟨e, _⟩; rw [HQ.out.2] at e; cases e)
                  rw [HQ.out.2] at e
                  cases e
                  have hbA : Below w4.heap.size w4 (w4.alloc (.cells #[.int .i64 s4, .pointer g4] 28)) := (zb).alloc (zl) _
                  have hSA := hS4.below hbA
                  obtain ⟨a5, c5, k5⟩ := hSA.leftCell
                  have r2 := HX.out.1 _ hSA.bl
                  obtain ⟨y0, y1⟩ := Zab r2
                  obtain ⟨y2, y3⟩ := Zae r2
                  have hxA := heap_alloc_new w4 (.cells #[.int .i64 s4, .pointer g4] 28)
                  have hN : NumL (w4.alloc (.cells #[.int .i64 s4, .pointer g4] 28)) s4 g4 z := ((hSA.num hv4).shrink (fun i hi => hi.elim)).more (by omega)
                  have hal := Zb3 hN
                  have H4 := zh (zi hSA.bl (zi hN (zi hal hxA)))
                  clear hN hal
                  clear hPR hv4 hS4 hbA hSA r2 hxA))
             refine bodyPost_ret (v := .tuple #[.agg #[.int .i64 0, .pointer none], .int .i64 2]) (by simp [results, Tryz.results21, go_sem, *]) rfl ⟨?_, .inr ⟨HQ.out.1, rfl⟩⟩
             exact ((hb1.trans (H6.out.1.mono (by simp))).setCell (p := ⟨w.heap.size, 0, none⟩) (zl) _).setCell (p := ⟨w.heap.size, 1, none⟩) (zl) _
         · have hno := hnot (fun h => by rw [h.1] at hz; simp at hz)
           have hz' : (0 : Int) < (r3.length : Int) := by omega
           have HQ := zh (zi hno h3)
           clear hS hpl hri hby hrp h3 hyes hnot hno
           go_wp2_with (first
             | (go_at_call 61; refine hpt.mono ?_; rintro e4 w4 hPR
                obtain ⟨z4, r4, s4, g4, D4, e, rfl, hv4, hS4, _⟩ := hPR.resolve_right (by rintro ⟨e, _⟩; rw [HQ.out.2] at e; cases e)
                rw [HQ.out.2] at e
                cases e
                have hbA : Below w4.heap.size w4 (w4.alloc (.cells #[.int .i64 s4, .pointer g4] 28)) := (zb).alloc (zl) _
                have hSA := hS4.below hbA
                obtain ⟨a5, c5, k5⟩ := hSA.leftCell
                have r2 := HX.out.1 _ hSA.bl
                obtain ⟨y0, y1⟩ := Zab r2
                obtain ⟨y2, y3⟩ := Zae r2
                have hxA := heap_alloc_new w4 (.cells #[.int .i64 s4, .pointer g4] 28)
                have H4 := zh hSA.bl
                clear hPR hv4 hS4 hbA hSA r2 hxA))
           refine bodyPost_ret (v := .tuple #[.agg #[.int .i64 0, .pointer none], .int .i64 2]) (by simp [results, Tryz.results21, go_sem, *]) rfl ⟨?_, .inr ⟨HQ.out.1, rfl⟩⟩
           exact ((hb1.trans (H4.out.mono (by simp))).setCell (p := ⟨w.heap.size, 0, none⟩) (zl) _).setCell (p := ⟨w.heap.size, 1, none⟩) (zl) _
theorem Zm8 {w : World} {a : Option Addr} {c : Nat} {bs : List Nat} (hr : RowV w 1 (.slice a bs.length c) bs.length (byV bs)) (hb : ByteL bs) (tab : Tab w) (h0 : 0 < w.heap.size) :
   Calls Tryz.prog 21 #[.slice a bs.length c] w (LoadR w bs) := Zgy (B := cold) (fun _ h => h.elim) hr hb tab h0
end Go.Proofs.YtlkmgclbckojgaaGreatDoor

