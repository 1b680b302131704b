import Derived.Test.YtlkmgclbckojgaaGreatDoorZ4
import Derived.Test.YtlkmgclbckojgaaGreatDoorY2
set_option linter.unusedVariables false
set_option linter.unusedSimpArgs false
set_option maxHeartbeats 16000000
set_option maxRecDepth 100000
namespace Go.Proofs.YtlkmgclbckojgaaGreatDoor
section
open Go.RowKit
theorem TVals.perm {D : Addr → Option Int} {zs ts : List TV} (h : zs.Perm ts) : ∀ {l : List Tm}, TVals D ts l → ∃ m, TVals D zs m ∧ m.Perm l := by
 induction h with
 | nil => intro l ht; exact ⟨l, ht, List.Perm.refl _⟩
 | cons x _ ih =>
   intro l ht
   cases l with
   | nil => exact ht.elim
   | cons u l =>
     obtain ⟨m, h1, h2⟩ := ih ht.2
     exact ⟨u :: m, ⟨ht.1, h1⟩, h2.cons u⟩
 | swap x y r =>
   intro l ht
   match l, ht with
   | u :: v :: l, ht => exact ⟨v :: u :: l, ⟨ht.2.1, ht.1, ht.2.2⟩, List.Perm.swap u v l⟩
 | trans _ _ ih1 ih2 =>
   intro l ht
   obtain ⟨m, h1, h2⟩ := ih2 ht
   obtain ⟨k, h3, h4⟩ := ih1 h1
   exact ⟨k, h3, h4.trans h2⟩
theorem Srt.falls {D : Addr → Option Int} {zs : List TV} {m : List Tm} (h : Srt (keyT D) zs) (ht : TVals D zs m) : Falls m := by
 unfold Falls
 rw [List.pairwise_iff_getElem]
 intro i j hi hj hij
 have hl := ht.len
 have h1 := List.pairwise_iff_getElem.1 h i j (by omega) (by omega) hij
 have a := (ht.get i (by omega) hi).2.val
 have b := (ht.get j (by omega) hj).2.val
 unfold keyT at h1
 rw [a, b] at h1
 omega
theorem TVals.known {D : Addr → Option Int} {ts : List TV} {l : List Tm} (ht : TVals D ts l) : ∀ t ∈ ts, knownT D t := fun t h => by
 obtain ⟨u, _, _, h2⟩ := ht.mem t h
 exact ⟨_, h2⟩
theorem Zgf : ∀ (l : List Tm), ∃ B : Nat, ∀ u ∈ l, u.2 + 180000 < B
 | [] => ⟨0, by simp⟩
 | t :: l => by
   obtain ⟨B, h⟩ := Zgf l
   refine ⟨B + t.2 + 180001, fun u hu => ?_⟩
   rcases List.mem_cons.1 hu with rfl | hu
   · omega
   · have := h u hu; omega
theorem VarR.ordered {w : World} {sb : Nat} {F H A : Nat → Prop} {D : Addr → Option Int} {K : List Addr} {G : StG} {used : Nat} {wr : World} {Dr : Addr → Option Int} {v : Value} {ts : List TV} (h : VarR w sb F H A D K G used wr Dr v ts) (hH : ∀ k, H k → k < w.heap.size) {cs : Nat} (hbx : Box wr cs sb)
   {l : List Tm} (ht : TVals Dr ts l) (hlen : ts.length ≤ 60000) (hbig : K.length + used ≤ big) :
   Calls Tryz.prog 93 #[v, .func (.func 91) #[] #[.pointer (some ⟨cs, 0, none⟩)]] wr fun x w' => ∃ (v' : Value) (zs : List TV), x = .returned v' ∧ VarR w sb F H A D K G used w' Dr v' zs ∧ zs.Perm ts ∧ Srt (keyT Dr) zs ∧ Others wr w' := by
 have hlt := h.mem.lt hH
 have hle := h.mem.le
 obtain ⟨Fr, Kr, Gr, h2, h3, h4, h5, h7, h8, h9⟩ := h
 refine (Zh1 (show Kr.length ≤ big by omega) (ts.length + 1) wr Fr Gr h2 h3 hlt hbx h3.forest h3.kd ts v h9 ht.known hlen (Nat.lt_succ_self _)).mono ?_
 rintro x w' ⟨v', zs, F', G', rfl, o1, p1, s1, m1, i1, st1, gg1⟩
 have hV : VarM w sb F H A D K G used w' Dr := ⟨F', Kr, G', m1, i1, h4.trans st1, h5.trans gg1, h7, fun k hk => (h8 k hk).same (st1.keeps.block k (h8 k hk).lt (h2.notF (h8 k hk).own))⟩
 exact ⟨v', zs, rfl, hV.row hH o1 hle, p1, s1, fun x c t fr hx h1 h3 h4 => Own.kept h2 st1.keeps hx h1 h3 h4⟩
theorem VarM.rowF {w : World} {sb : Nat} {F H A : Nat → Prop} {D : Addr → Option Int} {K : List Addr} {G : StG} {v : Value} {ts : List TV} (hm : StMem w sb F G) (hi : StInv w (hot H F) D K G) (hr : RowF w (hot H F) 3 v ts.length (flatT ts)) {wr : World} (hb : Below w.heap.size w wr) (hA : ∀ k, A k → VarN w wr k) : VarR w sb F H A D K G 0 wr D v ts := by
 have s := Step.of_below F hb
 have hup := Zqr (w := w) (H := H) (F := F) (fun k hk => (hA k hk).1)
 exact ⟨F, K, G, hm.below hb, (hi.grow (W := w) (zl) hup).step (s.hot _), s, Grown2.refl _ _ _, by omega, hA, (hr.grow (W := w) (zl) hup).step (s.hot _)⟩
theorem Zkx {sb : Nat} {H : Nat → Prop} {w : World} {F : Nat → Prop} {D : Addr → Option Int} {K : List Addr} {G : StG} (hm : StMem w sb F G) (hi : StInv w (hot H F) D K G) (hH : ∀ k, H k → k < w.heap.size)
   {v : Value} {ts : List TV} {l : List Tm} (hr : RowF w (hot H F) 3 v ts.length (flatT ts)) (ht : TVals D ts l) (hlen : ts.length ≤ 30000) (hW : ∀ u ∈ l, wt (u.2 : Int) ≤ 29900) (hbig : K.length + 12 * ts.length + 1 ≤ big) :
   Calls Tryz.prog 69 #[.pointer (some ⟨sb, 0, none⟩), v] w fun x w' => ∃ (s' : Int) (g' : Option Addr) (F' : Nat → Prop) (D' : Addr → Option Int) (K' : List Addr) (G' : StG),
     x = .returned (.agg #[.int .i64 s', .pointer g']) ∧ ValD D' s' g' (val l) ∧ GrowMem w sb F H D K G (12 * ts.length + 1) w' F' D' K' G' := by
 have hmf : ∀ (fn : Fn) (first cap : Array Value) (w : World), (Instr.makeFunc fn first cap).run Tryz.prog w = .ok (.func fn first cap) w := fun _ _ _ _ => rfl
 obtain ⟨ax, cx, rfl⟩ := hr.1.shape
 obtain ⟨w2, hw2⟩ : ∃ w2, w2 = (w.alloc (.cells #[.pointer (some ⟨sb, 0, none⟩)] 80)).alloc (.cells #[.int .i64 0, .pointer none] 28) := ⟨_, rfl⟩
 have hb2 : Below w.heap.size w w2 := by rw [hw2]; exact ((zb).alloc (zl) _).alloc (by simp) _
 obtain ⟨a0, a1⟩ := Za0 w (.cells #[.pointer (some ⟨sb, 0, none⟩)] 80) (.cells #[.int .i64 0, .pointer none] 28)
 rw [← hw2] at a0 a1
 have hpos : 0 < w.heap.size := by have := hm.lt; have := hm.pos; omega
 have hR : VarR w sb F H (fun k => k = w.heap.size + 1) D K G 0 w2 D (.slice ax ts.length cx) ts := VarM.rowF hm hi hr hb2 (by rintro k rfl; exact ⟨by omega, _, _, a1⟩)
 have bcell : ∀ W : World, W.heap[w.heap.size]? = some (.cells #[.pointer (some ⟨sb, 0, none⟩)] 80 (0, 0)) → W.cell? ⟨w.heap.size, 0, none⟩ = some (.pointer (some ⟨sb, 0, none⟩)) := fun W h => by simp [World.cell?, h]
 have hOrd : ∀ W, Below w2.heap.size w2 W → Calls Tryz.prog 93 #[.slice ax ts.length cx, .func (.func 91) #[] #[.pointer (some ⟨w.heap.size, 0, none⟩)]] W fun x w' => ∃ (v' : Value) (zs : List TV), x = .returned v' ∧ VarR w sb F H (fun k => k = w.heap.size + 1) D K G 0 w' D v' zs ∧ zs.Perm ts ∧ Srt (keyT D) zs ∧
     w'.heap[w.heap.size]? = some (.cells #[.pointer (some ⟨sb, 0, none⟩)] 80 (0, 0)) ∧ w'.heap[w.heap.size + 1]? = some (.cells #[.int .i64 0, .pointer none] 28 (0, 0)) := by
   intro W hW
   have b0 := (hW.block _ (Zad a0)).trans a0
   have b1 := (hW.block _ (Zad a1)).trans a1
   refine ((hR.below hW).ordered hH (cs := w.heap.size) b0 ht (by omega) (by omega)).mono ?_
   rintro x w' ⟨v', zs, rfl, h1, h2, h3, h4⟩
   exact ⟨v', zs, rfl, h1, h2, h3, h4 _ _ _ _ b0 (by decide) (by decide) (by decide), h4 _ _ _ _ b1 (by decide) (by decide) (by decide)⟩
 have cb := bcell w2 a0
 have HX := zh (zi hH (zi ht (zi hW bcell)))
 clear hm hi hr hR hb2 a0 a1 hH ht hW bcell
 subst hw2
 go_enter Tryz.func69, Tryz.ntmps69
 go_wp2
 first
   | go_region_with (first
     | (go_at_call 93; refine (hOrd _ (by first | exact (zb).drew | exact zb)).mono ?_; rintro x3 w3 ⟨v3, zs, rfl, hR3, hp3, hs3, b3, r3⟩
        obtain ⟨a3, c3, rfl⟩ := hR3.rowV.shape
        obtain ⟨hH, ht, hW, bcell⟩ := HX.out
        obtain ⟨m, htm, hpm⟩ := ht.perm hp3
        have cb3 := bcell w3 b3
        have hlz := hp3.length_eq
        obtain ⟨B, hB⟩ := Zgf m
        have hS := hR3.settle (Zms sb B) hH htm (hs3.falls htm) (formed := 0) (by omega) (by simp [NA]) (by omega) (by simpa using hB) (fun u hu => hW u (hpm.mem_iff.1 (by simpa using hu))) (by omega)
        have hS2 : Calls Tryz.prog 92 #[.pointer (some ⟨sb, 0, none⟩), .slice a3 zs.length c3, .int .i64 0] w3 fun x w' => ∃ (v' : Value) (z4 : List TV) (m4 : List Tm) (D4 : Addr → Option Int), x = .returned v' ∧ TVals D4 z4 m4 ∧ NA m4 ∧ val m4 = val l ∧ VarR w sb F H (fun k => k = w.heap.size + 1) D K G (12 * ts.length) w' D4 v' z4 ∧ (z4.length ≤ 30000) ∧
            w'.heap[w.heap.size]? = some (.cells #[.pointer (some ⟨sb, 0, none⟩)] 80 (0, 0)) ∧ w'.heap[w.heap.size + 1]? = some (.cells #[.int .i64 0, .pointer none] 28 (0, 0)) := by
          refine hS.mono ?_
          rintro x w' ⟨v', z4, m4, D4, rfl, h1, h2, h3, h4, h5, h6⟩
          refine ⟨v', z4, m4, D4, rfl, h1, h2, by rw [h3, Zqf hpm], ?_, ?_, h6 _ _ _ _ b3 (by decide) (by decide) (by decide), h6 _ _ _ _ r3 (by decide) (by decide) (by decide)⟩
          · rw [show 12 * ts.length = 0 + 2 * 1 * (6 * zs.length) by omega]; exact h4
          · have h7 := Zox m
            have h8 := htm.len
            rw [← h3] at h7
            unfold wt at h7
            rw [Zbn h2] at h7
            rw [h1.len]; omega
        have HS := zh hS2
        clear hS hS2 hR3 hp3 hs3 b3 r3 hH ht hW bcell htm hpm hlz hB)
     | (go_at_call 92; refine HS.out.mono ?_; rintro x4 w4 ⟨v4, z4, m4, D4, rfl, ht4, hn4, hv4, hR4, hl4, b4, r4⟩
        obtain ⟨a4, c4, rfl⟩ := hR4.rowV.shape
        obtain ⟨hH, ht, hW, bcell⟩ := HX.out
        have cb4 := bcell w4 b4
        have hK := hR4.keep hH hl4 ht4 hn4 (by omega)
        rw [hv4] at hK
        have HK := zh (zi hK r4)
        clear hK hH ht hW bcell hR4 ht4 hn4 hv4 hl4 b4 r4)
     | (go_at_call 68; refine HK.out.1.mono ?_; rintro x5 w5 ⟨s5, g5, D5, rfl, hv5, hV5, hmo5, hoth5⟩
        have r5 := hoth5 _ _ _ _ HK.out.2 (by decide) (by decide) (by decide)
        obtain ⟨y0, y1⟩ := Zab r5
        obtain ⟨y2, y3⟩ := Zae r5
        have H5 := zh (zi hv5 hV5)
        clear hv5 hV5 hmo5 hoth5 r5))
   | fail
 all_goals
   (try go_wp2)
   refine bodyPost_ret (v := .agg #[.int .i64 s5, .pointer g5]) (by simp [results, Tryz.results69, go_sem, *]) rfl ?_
   obtain ⟨F', K', G', hG⟩ := ((H5.out.2.set hpos rfl 0 (.int .i64 s5)).set hpos rfl 1 (.pointer g5)).ends
   exact ⟨s5, g5, F', D5, K', G', rfl, H5.out.1, hG⟩
end
section
open Go.RowKit
theorem VarR.sum {w : World} {sb : Nat} {F H A : Nat → Prop} {D : Addr → Option Int} {K : List Addr} {G : StG} {used : Nat} {wr : World} {Dr : Addr → Option Int} {v : Value} {ts : List TV} (h : VarR w sb F H A D K G used wr Dr v ts) (hH : ∀ k, H k → k < w.heap.size) {l : List Tm} (ht : TVals Dr ts l)
   (hlen : ts.length ≤ 30000) (hW : ∀ u ∈ l, wt (u.2 : Int) ≤ 29900) (hbig : K.length + used + 12 * ts.length + 1 ≤ big) :
   Calls Tryz.prog 69 #[.pointer (some ⟨sb, 0, none⟩), v] wr fun x w' => ∃ (s : Int) (g : Option Addr) (Dn : Addr → Option Int), x = .returned (.agg #[.int .i64 s, .pointer g]) ∧ ValD Dn s g (val l) ∧
     VarM w sb F H A D K G (used + (12 * ts.length + 1)) w' Dn ∧ (∀ p z, Dr p = some z → Dn p = some z) ∧ Others wr w' := by
 have hlt := h.mem.lt hH
 obtain ⟨Fr, Kr, Gr, h2, h3, h4, h5, h7, h8, h9⟩ := h
 refine (Zkx h2 h3 hlt h9 ht hlen hW (by omega)).mono ?_
 rintro x w' ⟨s, g, F', D', K', G', rfl, a1, m2, i2, st2, gg2, hk2⟩
 exact ⟨s, g, D', rfl, a1, ⟨F', K', G', m2, i2, h4.trans st2, h5.trans gg2, by omega, fun k hk => (h8 k hk).same (st2.keeps.block k (h8 k hk).lt (h2.notF (h8 k hk).own))⟩, gg2.d, fun x c t fr hx h1 h3 h4 => Own.kept h2 st2.keeps hx h1 h3 h4⟩
theorem Zl3 {w : World} {F : Nat → Prop} {D : Addr → Option Int} (hf : Forest w F D) {s s' z z' : Int} {g g' : Option Addr} (hx : ValD D s g z) (hy : ValD D s' g' z') :
   (g == none && g' == none && (decide (wrap64 (s + s') < s) == decide (s' < 0))) = true → wrap64 (s + s') = z + z' ∧ i64 (z + z') := by
 intro h
 cases g with
 | some p => simp at h
 | none =>
   cases g' with
   | some p => simp at h
   | none =>
     obtain ⟨rfl, h1⟩ := hx
     obtain ⟨rfl, h2⟩ := hy
     have h3 : (decide (wrap64 (s + s') < s) == decide (s' < 0)) = true := by simpa using h
     have h4 := Zi9 s s' h1 h2
     rw [h3] at h4
     have h5 : i64 (s + s') := by
       by_cases h6 : i64 (s + s')
       · exact h6
       · have := h4.2 h6; simp at this
     exact ⟨Za4 h5, h5⟩
theorem Zpm {sb : Nat} {H : Nat → Prop} {w : World} {F : Nat → Prop} {D : Addr → Option Int} {K : List Addr} {G : StG} (hm : StMem w sb F G) (hi : StInv w (hot H F) D K G) (hH : ∀ k, H k → k < w.heap.size)
   {s s' z z' : Int} {g g' : Option Addr} (hx : ValD D s g z) (hy : ValD D s' g' z') (hlen : wt z + wt z' ≤ 30000) (hW : ∀ u ∈ naf z, wt (u.2 : Int) ≤ 29900) (hW' : ∀ u ∈ naf z', wt (u.2 : Int) ≤ 29900) (hbig : K.length + 12 * (wt z + wt z') + 1 ≤ big) :
   Calls Tryz.prog 66 #[.pointer (some ⟨sb, 0, none⟩), .agg #[.int .i64 s, .pointer g], .agg #[.int .i64 s', .pointer g']] w fun x w' => ∃ (r : Int) (q : Option Addr) (F' : Nat → Prop) (D' : Addr → Option Int) (K' : List Addr) (G' : StG),
     x = .returned (.agg #[.int .i64 r, .pointer q]) ∧ ValD D' r q (z + z') ∧ GrowMem w sb F H D K G (12 * (wt z + wt z') + 1) w' F' D' K' G' := by
 obtain ⟨w3, hw3⟩ : ∃ w3, w3 = ((w.alloc (.cells #[.int .i64 s, .pointer g] 28)).alloc (.cells #[.int .i64 s', .pointer g'] 28)).alloc (.cells #[.int .i64 0, .pointer none] 28) := ⟨_, rfl⟩
 have hb3 : Below w.heap.size w w3 := by rw [hw3]; repeat (first | exact zb | refine Below.alloc ?_ (by simp <;> omega) _)
 obtain ⟨a0, a1, a2, hz3⟩ := Zcq w (.cells #[.int .i64 s, .pointer g] 28) (.cells #[.int .i64 s', .pointer g'] 28) (.cells #[.int .i64 0, .pointer none] 28)
 rw [← hw3] at a0 a1 a2 hz3
 have hpos : 0 < w.heap.size := by have := hm.lt; have := hm.pos; omega
 have hV3 : VarM w sb F H (fun k => k = w.heap.size + 1 + 1) D K G 0 w3 D := VarM.start hm hi hb3 (by rintro k rfl; exact ⟨by omega, _, _, a2⟩)
 have hsm := Zl3 hi.forest hx hy
 have has := Zhw s s' g g' w3
 generalize (g == none && g' == none && (decide (wrap64 (s + s') < s) == decide (s' < 0))) = fl at has hsm
 generalize wrap64 (s + s') = r0 at has hsm
 have hall : ∀ W, Below w3.heap.size w3 W → W.heap[w.heap.size]? = some (.cells #[.int .i64 s, .pointer g] 28 (0, 0)) ∧ W.heap[w.heap.size + 1]? = some (.cells #[.int .i64 s', .pointer g'] 28 (0, 0)) ∧ W.heap[w.heap.size + 1 + 1]? = some (.cells #[.int .i64 0, .pointer none] 28 (0, 0)) :=
   fun W hW => ⟨(hW.block _ (by omega)).trans a0, (hW.block _ (by omega)).trans a1, (hW.block _ (by omega)).trans a2⟩
 obtain ⟨e0, e1⟩ := Zab a0
 obtain ⟨e2, e3⟩ := Zab a1
 have HX := zh (zi hH (zi hx (zi hy (zi hlen (zi hW (zi hW' (zi hbig (zi hV3 (zi hsm (zi hz3 hall))))))))))
 clear hm hi hH hx hy hlen hW hW' hbig hV3 hsm hz3 a0 a1 a2 hb3 hall
 subst hw3
 cases fl with
 | true =>
   go_enter Tryz.func66, Tryz.ntmps66
   go_wp2_with (first
     | (go_at_call 86; refine has.mono ?_; rintro x4 w4 ⟨rfl, hb4⟩
        obtain ⟨hH, hx, hy, hlen, hW, hW', hbig, hV3, hsm, hz3, hall⟩ := HX.out
        have hb5 : Below (((w.alloc (.cells #[.int .i64 s, .pointer g] 28)).alloc (.cells #[.int .i64 s', .pointer g'] 28)).alloc (.cells #[.int .i64 0, .pointer none] 28)).heap.size (((w.alloc (.cells #[.int .i64 s, .pointer g] 28)).alloc (.cells #[.int .i64 s', .pointer g'] 28)).alloc (.cells #[.int .i64 0, .pointer none] 28)) (w4.alloc (.cells #[.int .i64 r0, .pointer none] 28)) := hb4.alloc hb4.size _
        obtain ⟨r0a, r1a⟩ := Zab (hall _ hb5).2.2
        obtain ⟨r2a, r3a⟩ := Zae (hall _ hb5).2.2
        have H5 := zh (zi hV3 (zi hsm hb5))
        clear hH hx hy hlen hW hW' hbig hV3 hsm hz3 hall hb5))
   refine bodyPost_ret (v := .agg #[.int .i64 r0, .pointer none]) (by simp [results, Tryz.results66, go_sem, *]) rfl ?_
   obtain ⟨hV3, hsm, hb5⟩ := H5.out
   obtain ⟨h1, h2⟩ := hsm (by first | rfl | trivial)
   obtain ⟨F', K', G', hG⟩ := (((hV3.below hb5).set hpos rfl 0 (.int .i64 r0)).set hpos rfl 1 (.pointer none)).ends
   exact ⟨r0, none, F', D, K', G', rfl, ⟨h1, h2⟩, hG.more (by omega)⟩
 | false =>
   go_enter Tryz.func66, Tryz.ntmps66
   go_wp2_with (first
     | (go_at_call 86; refine has.mono ?_; rintro x4 w4 ⟨rfl, hb4⟩
        obtain ⟨hH, hx, hy, hlen, hW, hW', hbig, hV3, hsm, hz3, hall⟩ := HX.out
        have hb5 : Below (((w.alloc (.cells #[.int .i64 s, .pointer g] 28)).alloc (.cells #[.int .i64 s', .pointer g'] 28)).alloc (.cells #[.int .i64 0, .pointer none] 28)).heap.size (((w.alloc (.cells #[.int .i64 s, .pointer g] 28)).alloc (.cells #[.int .i64 s', .pointer g'] 28)).alloc (.cells #[.int .i64 0, .pointer none] 28)) (w4.alloc (.cells #[.int .i64 r0, .pointer none] 28)) := hb4.alloc hb4.size _
        have H5 := zh (zi hV3 (zi hb5 hall))
        clear hH hx hy hlen hW hW' hbig hV3 hsm hz3 hall hb5))
   obtain ⟨hV3, hb5, hall⟩ := H5.out
   obtain ⟨hH, hx, hy, hlen, hW, hW', hbig, _, _, hz3, _⟩ := HX.out
   have hV5 := hV3.below hb5
   have hal5 : ∀ W, Below (w4.alloc (.cells #[.int .i64 r0, .pointer none] 28)).heap.size (w4.alloc (.cells #[.int .i64 r0, .pointer none] 28)) W → W.heap[w.heap.size]? = some (.cells #[.int .i64 s, .pointer g] 28 (0, 0)) ∧ W.heap[w.heap.size + 1]? = some (.cells #[.int .i64 s', .pointer g'] 28 (0, 0)) ∧ W.heap[w.heap.size + 1 + 1]? = some (.cells #[.int .i64 0, .pointer none] 28 (0, 0)) := fun W hW => hall W (hb5.trans (hW.mono hb5.size))
   clear e0 e1 e2 e3 has
   obtain ⟨e0, e1⟩ := Zab (hal5 _ (zb)).1
   obtain ⟨e2, e3⟩ := Zab (hal5 _ (zb)).2.1
   clear H5 hb5 hb4 hV3 hall hz3
   generalize (w4.alloc (.cells #[.int .i64 r0, .pointer none] 28)) = w5 at *
   have hT1 : ∀ W, Below w5.heap.size w5 W → Calls Tryz.prog 55 #[.agg #[.int .i64 s, .pointer g]] W fun x w' => ∃ (v : Value) (ts : List TV), x = .returned v ∧ VarR w sb F H (fun k => k = w.heap.size + 1 + 1) D K G 0 w' D v ts ∧ TVals D ts (naf z) ∧ Below w5.heap.size w5 w' := by
     intro W hW5
     refine ((hV5.below hW5).terms hH hx).mono ?_
     rintro x w' ⟨v, ts, rfl, h1, h2, h3⟩
     exact ⟨v, ts, rfl, h1, h2, hW5.trans (h3.mono hW5.size)⟩
   have HY := zh (zi hH (zi hy (zi hlen (zi hW (zi hW' (zi hbig hal5))))))
   clear hH hx hy hlen hW hW' hbig hal5 hV5
   first
     | go_region_with (first
       | (have hq := HT1
          go_at_call 55; refine hq.out.2.2.2.mono ?_; rintro x7 w7 ⟨v7, us, rfl, hR7, htu, hb7⟩
          obtain ⟨a7, c7, rfl⟩ := hR7.rowV.shape
          obtain ⟨hH, hy, hlen, hW, hW', hbig, hal5⟩ := HY.out
          obtain ⟨hR6, htv, hb6, _⟩ := hq.out
          have hl1 := htv.len
          have hl2 := htu.len
          have hwz : ts.length + us.length ≤ 30000 := by unfold wt at hlen; omega
          have hcc := Zcz (w := w7) (n := ts.length) (m := us.length) (by have := Za8; omega) (hR6.below hb7).rowV hR7.rowV (Zaw _) (Zaw _)
          have HC := zh (zi hcc (zi hR7 (zi htu (zi hb7 hwz))))
          clear hcc hR7 htu hb7 hwz hl1 hl2 hR6 htv hb6 hH hy hlen hW hW' hbig hal5)
       | (go_at_call 55; refine (hT1 _ (by first | exact (zb).drew | exact zb)).mono ?_; rintro x6 w6 ⟨v6, ts, rfl, hR6, htv, hb6⟩
          obtain ⟨a6, c6, rfl⟩ := hR6.rowV.shape
          obtain ⟨hH, hy, hlen, hW, hW', hbig, hal5⟩ := HY.out
          obtain ⟨x0, x1⟩ := Zab (hal5 _ hb6).1
          obtain ⟨x2, x3⟩ := Zab (hal5 _ hb6).2.1
          have hT2 := hR6.mem.terms hH hy
          have HT1 := zh (zi hR6 (zi htv (zi hb6 hT2)))
          clear hR6 htv hb6 hT2 hH hy hlen hW hW' hbig hal5)
       | (go_at_call 87; refine HC.out.1.mono ?_; rintro x8 w8 ⟨v8, rfl, ho8, hb8⟩
          obtain ⟨a8, c8, rfl⟩ := (RowV.of_own ho8).shape
          obtain ⟨hH, hy, hlen, hW, hW', hbig, hal5⟩ := HY.out
          obtain ⟨hcc, hR7, htu, hb7, hwz⟩ := HC.out
          obtain ⟨hR6, htv, hb6, _⟩ := HT1.out
          have hR8 := (hR7.mem.below hb8).row hH (ts := ts ++ us) (v := .slice a8 (ts.length + us.length) c8) (by rw [List.length_append, Zas]; exact ho8) (by have := hR7.mem.le; omega)
          have hl1 := htv.len
          have hl2 := htu.len
          have hS := hR8.sum hH (TVals.append htv htu) (by rw [List.length_append]; omega) (fun u hu => by
            rcases List.mem_append.1 hu with q | q
            · exact hW u q
            · exact hW' u q) (by rw [List.length_append]; unfold wt at hbig; omega)
          have r8 := (hal5 _ (hb6.trans ((hb7.trans (hb8.mono hb7.size)).mono hb6.size))).2.2
          have hS2 : Calls Tryz.prog 69 #[.pointer (some ⟨sb, 0, none⟩), .slice a8 (ts.length + us.length) c8] w8 fun x w' => ∃ (q : Int) (p : Option Addr) (Dn : Addr → Option Int), x = .returned (.agg #[.int .i64 q, .pointer p]) ∧ ValD Dn q p (z + z') ∧
              VarM w sb F H (fun k => k = w.heap.size + 1 + 1) D K G (12 * (wt z + wt z') + 1) w' Dn ∧ w'.heap[w.heap.size + 1 + 1]? = some (.cells #[.int .i64 0, .pointer none] 28 (0, 0)) := by
            refine hS.mono ?_
            rintro x w' ⟨q, p, Dn, rfl, h1, h2, h3, h4⟩
            refine ⟨q, p, Dn, rfl, ?_, h2.more ?_, h4 _ _ _ _ r8 (by decide) (by decide) (by decide)⟩
            · rw [Za2, Zam, Zam] at h1; exact h1
            · rw [List.length_append]; unfold wt; omega
          have HS := zh hS2
          clear hS hS2 hR8 hl1 hl2 r8 hH hy hlen hW hW' hbig hal5 hcc hR7 htu hb7 hwz hR6 htv hb6 ho8 hb8)
       | (go_at_call 69; refine HS.out.mono ?_; rintro x9 w9 ⟨q9, p9, D9, rfl, hv9, hV9, r9⟩
          obtain ⟨y0, y1⟩ := Zab r9
          obtain ⟨y2, y3⟩ := Zae r9
          have H9 := zh (zi hv9 hV9)
          clear hv9 hV9 r9))
     | fail
   all_goals
     (try go_wp2)
     refine bodyPost_ret (v := .agg #[.int .i64 q9, .pointer p9]) (by simp [results, Tryz.results66, go_sem, *]) rfl ?_
     obtain ⟨F', K', G', hG⟩ := ((H9.out.2.set hpos rfl 0 (.int .i64 q9)).set hpos rfl 1 (.pointer p9)).ends
     exact ⟨q9, p9, F', D9, K', G', rfl, H9.out.1, hG⟩
end
end Go.Proofs.YtlkmgclbckojgaaGreatDoor

