import Derived.Test.YtlkmgclbckojgaaGreatDoorV2
import Derived.Test.YtlkmgclbckojgaaGreatDoorN2
import Derived.Test.YtlkmgclbckojgaaGreatDoorP8
import Derived.Test.YtlkmgclbckojgaaGreatDoorR1
set_option linter.unusedVariables false
set_option linter.unusedSimpArgs false
set_option maxHeartbeats 8000000
set_option maxRecDepth 100000
namespace Go.Proofs.YtlkmgclbckojgaaGreatDoor
section
open Go.RowKit
variable {B : Nat → Prop}
def flipV (t : TV) : TV := (!t.1, t.2)
theorem TVals.flip {D : Addr → Option Int} : ∀ {ts : List TV} {l : List Tm}, TVals D ts l → TVals D (ts.map flipV) (l.map flipT)
 | [], [], _ => trivial
 | t :: ts, u :: l, h => ⟨⟨by simp [flipV, flipT, h.1.1], h.1.2⟩, h.2.flip⟩
def flipTo (ts : List TV) (k : Nat) : List TV := (ts.take k).map flipV ++ ts.drop k
theorem Zim (ts : List TV) (k : Nat) : (flipTo ts k).length = ts.length := by simp [flipTo]; omega
theorem Zlr (ts : List TV) : flipTo ts 0 = ts := by simp [flipTo]
theorem Zno (ts : List TV) : flipTo ts ts.length = ts.map flipV := by simp [flipTo]
theorem Zin (ts : List TV) (k : Nat) (h : k < ts.length) : (flipTo ts k)[k]? = some ts[k] := by
 unfold flipTo
 rw [List.getElem?_append_right (by simp; omega)]
 simp [List.length_take, Nat.min_eq_left (Nat.le_of_lt h)]
theorem Zls (ts : List TV) (k : Nat) (h : k < ts.length) : (flatT (flipTo ts k)).set (k * 3) (.bool (!ts[k].1)) = flatT (flipTo ts (k + 1)) := by
 have hg := Zin ts k h
 have hl : k < (flipTo ts k).length := by rw [Zim]; exact h
 have hge : (flipTo ts k)[k] = ts[k] := by
   rw [List.getElem?_eq_getElem hl] at hg
   exact Option.some.inj hg
 obtain ⟨x0, x1, x2⟩ := Zbi (flipTo ts k) k hl
 rw [hge] at x0 x1 x2
 have hs := Zcu (flipTo ts k) k (!ts[k].1, ts[k].2)
 rw [Zfk (l := (flatT (flipTo ts k)).set (k * 3) (.bool (!ts[k].1))) (i := k * 3 + 1) (x := .int .i64 ts[k].2.1) (by rw [List.getElem?_set_ne (by omega)]; exact x1)] at hs
 rw [Zfk (l := (flatT (flipTo ts k)).set (k * 3) (.bool (!ts[k].1))) (i := k * 3 + 2) (x := .pointer ts[k].2.2) (by rw [List.getElem?_set_ne (by omega)]; exact x2)] at hs
 rw [hs]
 congr 1
 unfold flipTo
 rw [List.take_succ_eq_append_getElem h, List.map_append, List.append_assoc]
 rw [List.set_append_right _ _ (by simp; omega)]
 congr 1
 simp [List.length_take, Nat.min_eq_left (Nat.le_of_lt h), flipV]
 rw [List.drop_eq_getElem_cons h]; rfl
theorem Zo8 {w : World} {s z : Int} {g : Option Addr} (hx : NumA B w s g z) (tab : Tab w) (h0 : 0 < w.heap.size) (hB : ∀ k, B k → k < w.heap.size) :
   Calls Tryz.prog 33 #[.agg #[.int .i64 s, .pointer g]] w fun e w' => ∃ (r : Int) (q : Option Addr), e = .returned (.agg #[.int .i64 r, .pointer q]) ∧ NumA B w' r q (-z) ∧ Below w.heap.size w w' := by
 obtain ⟨ha, D, S, hf, hS, hL, hv⟩ := hx
 have hb2 : Below w.heap.size w ((w.alloc (.cells #[.int .i64 s, .pointer g] 28)).alloc (.cells #[.int .i64 0, .pointer none] 28)) := ((zb).alloc (zl) _).alloc (by simp) _
 obtain ⟨a0, a1⟩ := Za0 w (.cells #[.int .i64 s, .pointer g] 28) (.cells #[.int .i64 0, .pointer none] 28)
 have ht := Zbt (F := cold) s g z _ ((Zbg hf hb2).shrink (fun i hi => hi.elim)) hv (fun i hi => hi.elim)
 have hwz : wt z ≤ 300 := ha.2.2 z (Za5 z)
 have HX := zh (zi ha (zi hf (zi hS (zi hL (zi hv (zi hb2 (zi a1 (zi hwz (zi tab hB)))))))))
 clear ha hf hS hL hv hb2 a0 a1 hwz tab hB
 go_enter Tryz.func33, Tryz.ntmps33
 go_wp2_with (first
   | (go_at_call 55; refine ht.mono ?_; rintro x3 w3 ⟨v3, ts, rfl, hr3, htv, hb3⟩
      obtain ⟨a3, c3, rfl⟩ := hr3.1.shape
      have hlt : ts.length ≤ lim := by have h1 := htv.len; have h2 := HX.out.2.2.2.2.2.2.2.1; have := Za8; unfold wt at h2; omega
      have hcl := Zbv _ ts.length _ w3 hr3.1 (Zaw ts) hlt
      have H3 := zh (zi htv hb3)
      clear hr3 htv hb3)
   | (go_at_call 65; refine hcl.mono ?_; rintro x4 w4 ⟨v4, rfl, ho4, hb4⟩
      obtain ⟨a4, c4, rfl⟩ := (RowV.of_own ho4).shape
      have H4 := zh (zi ho4 hb4)
      clear ho4 hb4))
 have hl9 : (ts.length : Int) ≤ 300 := by have h1 := H3.out.1.len; have h2 := HX.out.2.2.2.2.2.2.2.1; unfold wt at h2; omega
 clear ht hcl
 go_loopw [10] (fun i wl => ∃ k : Nat, k ≤ ts.length ∧ i = .int .i64 k ∧ wl.ownsRow w3.heap.size 62 3 (.slice a4 ts.length c4) ts.length (flatT (flipTo ts k)) ∧ w4.grownBy wl (Value.slice a4 ts.length c4).ownBlock) (fun i _ => ts.length - (intOf i).toNat)
 case atStart => exact ⟨0, by omega, by simp, by rw [Zlr]; exact H4.out.1, ⟨rfl, rfl, rfl, zl, fun _ _ _ => rfl⟩⟩
 case round =>
   obtain ⟨k, hkl, rfl, hown, hgr⟩ := hrel
   by_cases hlt2 : k < ts.length
   · obtain ⟨b, rfl⟩ : ∃ b, a4 = some ⟨b, 0, none⟩ := by
       obtain ⟨_, h2⟩ := hown
       rcases h2 with ⟨e, _⟩ | ⟨g', cap, cur, ev, _⟩
       · simp only [Value.slice.injEq] at e; omega
       · cases ev; exact ⟨g', rfl⟩
     have hstep := Zls ts k hlt2
     have hg := Zin ts k hlt2
     have hlk : k < (flipTo ts k).length := by rw [Zim]; exact hlt2
     have hx0 := (Zbi (flipTo ts k) k hlk).1
     rw [List.getElem?_eq_getElem hlk] at hg
     rw [Option.some.inj hg] at hx0
     have hge := Option.some.inj hg
     have q0 := (hown.cellAt (k * 3) (by omega)).trans hx0
     have f0 := hown.frozenAt (k * 3)
     have hst := hown.stored (k * 3) (.bool (!ts[k].1))
     have hlt' : (k : Int) < (ts.length : Int) := by omega
     have HQ := zh (zi hown (zi hgr (zi hstep hst)))
     clear hown hgr hstep hst hg hx0 hge
     generalize ts[k].1 = bk at q0 HQ
     go_wp2
     obtain ⟨hown, hgr, hstep, hst⟩ := HQ.out
     refine ⟨⟨k + 1, by omega, by go_num, by rw [← hstep]; exact hst.1, ?_⟩, by simp [intOf]; omega⟩
     exact Zbh hgr ⟨rfl, rfl, rfl, by simp [World.setCell], fun i hi hne => Below.heap_setCell _ _ _ _ (fun e => hne (by rw [e]; rfl))⟩
   · have hkn : k = ts.length := by omega
     subst hkn
     rw [Zno] at hown
     obtain ⟨ha, hf, hS, hL, hv, hb2, a1, hwz, tab, hB⟩ := HX.out
     obtain ⟨htv, hb3⟩ := H3.out
     obtain ⟨ho4, hb4⟩ := H4.out
     have hs2 := hb2.size
     have hs3 := hb3.size
     have hs4 := hb4.size
     have hz2 : ((w.alloc (.cells #[.int .i64 s, .pointer g] 28)).alloc (.cells #[.int .i64 0, .pointer none] 28)).heap.size = w.heap.size + 1 + 1 := by simp
     have hrow := ho4.lt
     have hbw4 : Below w.heap.size w w4 := (hb2.trans (hb3.mono (by omega))).trans (hb4.mono (by omega))
     have hbr : Below w.heap.size w wr := hbw4.trans ⟨hgr.os, hgr.tape, hgr.output, hgr.size, fun i hi => hgr.block i (by omega) (fun e => by have := hrow i e.symm; omega)⟩
     have r1 : wr.heap[w.heap.size + 1]? = some (.cells #[.int .i64 0, .pointer none] 28 (0, 0)) := by
       rw [hgr.block _ (by omega) (fun e => by have := hrow _ e.symm; omega), hb4.block _ (by omega), hb3.block _ (by omega)]
       exact a1
     obtain ⟨m, hb, hF⟩ := Zfm (c := #[.map none, .map none, .map none, .map none, .map none]) hbr rfl tab h0
     have hgs := hgr.size
     have hup : ∀ i, hot (orA (fun k => k = w.heap.size + 1) B) (fun k => k = wr.heap.size) i → B i ∨ w.heap.size ≤ i := by
       rintro i ((x | x) | x)
       · exact .inr (by omega)
       · exact .inl x
       · exact .inr (by omega)
     have hfc := (hf.cut (P := fun y => 0 ≤ y ∧ y.natAbs < z.natAbs) (fun y hy t ht => ⟨by omega, by have := Zbf ht; omega⟩))
     have hf5 : Forest (wr.alloc (.cells #[.map none, .map none, .map none, .map none, .map none] 87)) (hot (orA (fun k => k = w.heap.size + 1) B) (fun k => k = wr.heap.size)) (cutD D (fun y => 0 ≤ y ∧ y.natAbs < z.natAbs)) :=
       (hfc.grow (W := w) (zl) hup).keeps ⟨hb.os, hb.tape, hb.output, hb.size, fun k hk _ => hb.block k hk⟩
     have hrf : RowF (wr.alloc (.cells #[.map none, .map none, .map none, .map none, .map none] 87)) (hot (orA (fun k => k = w.heap.size + 1) B) (fun k => k = wr.heap.size)) 3 (.slice a4 ts.length c4) (ts.map flipV).length (flatT (ts.map flipV)) := by
       rw [List.length_map]
       refine ⟨RowV.of_own (hown.alloc _), fun b hbb hh => ?_⟩
       have h1 := hown.lt b hbb
       rcases hh with (x | x) | x
       · omega
       · have := hB b x; omega
       · omega
     have hke := Zll (orA (fun k => k = w.heap.size + 1) B) m (StInv.empty _ _ S _ _) hf5 (fun p y hp => hS p y (Zcd.1 hp).1) (by
       rintro k (rfl | x)
       · simp <;> omega
       · have := hB k x; simp <;> omega) hrf (by rw [List.length_map]; omega) (l := naf (-z)) (by
       rw [Zd3]
       refine htv.flip.cut (fun t ht => ?_)
       obtain ⟨u, hu, rfl⟩ := List.mem_map.1 ht
       have := Zbf hu
       exact ⟨by simp [flipT] <;> omega, by simp [flipT] <;> omega⟩) (Za3 _) (fun p hp => by
       rw [Zam] at hp
       have := (Zcd.1 hp).2.2
       omega) (by have := Zcj; omega)
     rw [Zam] at hke
     have r2 : (wr.alloc (.cells #[.map none, .map none, .map none, .map none, .map none] 87)).heap[w.heap.size + 1]? = some (.cells #[.int .i64 0, .pointer none] 28 (0, 0)) := (Below.heap_alloc _ _ _ (Zad r1)).trans r1
     have HQ := zh (zi r2 (zi hb (zi ha (zi hL hgs))))
     have hl8 : w.heap.size + 1 < wr.heap.size := Zad r1
     clear hown hgr ha hf hS hL hv hb2 a1 hwz tab hB htv hb3 ho4 hb4 hs2 hs3 hs4 hz2 hrow hbw4 hbr r1 m hb hF hgs hup hfc hf5 hrf r2
     have hlt' : ¬ ((ts.length : Int) < (ts.length : Int)) := by omega
     go_wp2_with (first
       | (go_at_call 68; refine hke.mono ?_; rintro x6 w6 ⟨r6, q6, F6, D6, S6, rfl, hv6, hf6, st6, hS6, hL6⟩
          obtain ⟨r2, hb, ha, hL, hgs⟩ := HQ.out
          have r6b := (st6.keeps.block _ (Zad r2) (by omega)).trans r2
          obtain ⟨y0, y1⟩ := Zab r6b
          obtain ⟨y2, y3⟩ := Zae r6b
          have H6 := zh (zi hv6 (zi hf6 (zi st6 (zi hS6 hL6))))
          clear hv6 hf6 st6 hS6 hL6 r6b r2 hb ha hL hgs))
     refine bodyPost_ret (v := .agg #[.int .i64 r6, .pointer q6]) (by simp [results, Tryz.results33, go_sem, *]) rfl ?_
     obtain ⟨hv6, hf6, st6, hS6, hL6⟩ := H6.out
     obtain ⟨r2, hb, ha, hL, hgs⟩ := HQ.out
     have hN : Num w6 (orA (fun k => k = w.heap.size + 1) B) 2001 r6 q6 (-z) := ⟨D6, S6, hf6.shrink (fun i hi => .inl hi), hS6, by omega, hv6⟩
     refine ⟨r6, q6, rfl, hN.put (zb) _ _ (Zlp ha), ?_⟩
     exact ((hb.trans (st6.keeps.below (fun i hi => by rw [hi]; omega) hb.size)).setCell (p := ⟨w.heap.size + 1, 0, none⟩) (by show w.heap.size ≤ w.heap.size + 1; omega) _).setCell (p := ⟨w.heap.size + 1, 1, none⟩) (by show w.heap.size ≤ w.heap.size + 1; omega) _
end
section
open Go.RowKit
variable {B : Nat → Prop}
theorem Zfi {w w' : World} (h : Tab w) (h0 : 0 < w.heap.size) (hb : Below w.heap.size w w') : Tab w' := Zbd h (hb.block 0 h0)
theorem Forest.apart {w : World} {D : Addr → Option Int} (h : Forest w B D) {x : Nat} {i : Int} {p : Option Addr} (hx : w.heap[x]? = some (.cells #[.int .i64 i, .pointer p] 28 (0, 0))) : Forest w (orA (fun k => k = x) B) D := by
 refine ⟨h.great, fun q z hq => ?_, h.inj⟩
 obtain ⟨b, v, ts, e, h1, h2, h3, h4, h5⟩ := h.form q z hq
 refine ⟨b, v, ts, e, h1, ?_, h3, ⟨h4.1, fun c hc hcx => ?_⟩, h5⟩
 · rintro (rfl | hcx)
   · rw [hx] at h3; cases h3
   · exact h2 hcx
 · rcases hcx with hcx | hcx
   case inr => exact h4.2 c hc hcx
   have hcx : c = x := hcx
   subst hcx
   have hz : z ≠ 0 := by
     rintro rfl
     exact (h.great q 0 hq).1 (by unfold i64; omega)
   have hl : 0 < ts.length := by
     rw [h5.len]
     rcases Nat.eq_zero_or_pos (naf z).length with y | y
     · exact absurd (Zfp (List.length_eq_zero_iff.1 y)) hz
     · exact y
   obtain ⟨_, hr⟩ := h4.1
   rcases hr with ⟨rfl, _⟩ | ⟨c', off, cap, rfl, a1, a2, a3, a4⟩
   · simp [Value.ownBlock] at hc
   · simp only [Value.ownBlock, Option.some.injEq] at hc
     subst hc
     have := (RowC.term a4 0 hl).1
     simp only [Nat.zero_mul, Nat.add_zero, World.cell?, hx] at this
     match off, this with
     | 0, this => simp at this
     | 1, this => simp at this
     | n + 2, this => simp at this
theorem NumA.put {w : World} {x : Nat} {s : Int} {g : Option Addr} {z : Int} (h : NumA B w s g z) {i : Int} {p : Option Addr} (hx : w.heap[x]? = some (.cells #[.int .i64 i, .pointer p] 28 (0, 0))) (u v : Value) : NumA B ((w.setCell ⟨x, 0, none⟩ u).setCell ⟨x, 1, none⟩ v) s g z := by
 obtain ⟨ha, D, S, h1, h2, h3, h4⟩ := h
 have hN : Num w (orA (fun k => k = x) B) 2000 s g z := ⟨D, S, h1.apart hx, h2, h3, h4⟩
 exact hN.put (zb) u v ha
end
end Go.Proofs.YtlkmgclbckojgaaGreatDoor

