import Derived.Test.YtlkmgclbckojgaaGreatDoorV2
import Derived.Test.YtlkmgclbckojgaaGreatDoorP8
set_option linter.unusedVariables false
set_option linter.unusedSimpArgs false
set_option maxHeartbeats 16000000
set_option maxRecDepth 100000
namespace Go.Proofs.YtlkmgclbckojgaaGreatDoor
open Go.RowKit
variable {B : Nat → Prop}
theorem Zan {w w' : World} {base n : Nat} {v : Value} {xs : List Value} (h : w.ownsRow base 62 3 v n xs) (ho : Others w w') : w'.ownsRow base 62 3 v n xs := by
 obtain ⟨h1, h2⟩ := h
 refine ⟨h1, ?_⟩
 rcases h2 with h2 | ⟨g, cap, cur, ev, hg, hh, r⟩
 · exact .inl h2
 · exact .inr ⟨g, cap, cur, ev, hg, ho _ _ _ _ hh (by decide) (by decide) (by decide), r⟩
section
variable {w : World} {sb : Nat} {A : Nat → Prop} {n : Nat} {wr W : World} {Dr : Addr → Option Int}
theorem CallM.terms (h : CallM B w sb A n wr Dr) {s : Int} {g : Option Addr} {z : Int} (hv : ValD Dr s g z) :
   Calls Tryz.prog 55 #[.agg #[.int .i64 s, .pointer g]] wr fun x w' => ∃ (v : Value) (ts : List TV), x = .returned v ∧ RowV w' 3 v ts.length (flatT ts) ∧ TVals Dr ts (naf z) ∧ Below wr.heap.size wr w' := by
 obtain ⟨F, K, G, h1, h2, h3, h4, h5, h6, hB⟩ := h
 refine (Zbt (F := cold) s g z wr (h2.forest.shrink (fun i hi => hi.elim)) hv (fun i hi => hi.elim)).mono ?_
 rintro x w' ⟨v, ts, rfl, a1, a2, hb⟩
 exact ⟨v, ts, rfl, a1.1, a2, hb⟩
theorem CallM.vars (h : CallM B w sb A n wr Dr) (hb : Below wr.heap.size wr W) {A' : Nat → Prop} (hA : ∀ k, A' k → A k ∨ (wr.heap.size ≤ k ∧ Own W k)) : CallM B w sb A' n W Dr := by
 obtain ⟨F, K, G, h1, h2, h3, h4, h5, h6, hB⟩ := h
 have s := Step.of_below F hb
 refine ⟨F, K, G, h1.below hb, (h2.grow (W := wr) (zl) (fun i hi => ?_)).step (s.hot _), h3.trans (hb.mono h3.size), h4, h5, fun k hk => ?_, hB⟩
 · rcases hi with (x | x) | x
   · rcases hA i x with y | y
     · exact .inl (.inl (.inl y))
     · exact .inr y.1
   · exact .inl (.inl (.inr x))
   · exact .inl (.inr x)
 · rcases hA k hk with y | y
   · exact (h6 k y).same (hb.block k (h6 k y).2.lt)
   · exact ⟨by have := h3.size; omega, y.2⟩
theorem CallM.isN (h : CallM B w sb A n wr Dr) {s : Int} {g : Option Addr} {z : Int} (hv : ValD Dr s g z) : IsN wr cold s g z := by
 obtain ⟨F, K, G, h1, h2, h3, h4, h5, h6, hB⟩ := h
 exact ⟨Dr, h2.forest.shrink (fun i hi => hi.elim), hv⟩
end
def ShR (B : Nat → Prop) (w : World) (sb bb : Nat) (D : Addr → Option Int) (base : Nat) (v : Value) (ts : List TV) (z y : Int) (k : Nat) (wl : World) : Prop :=
 ∃ (Dr : Addr → Option Int) (cur : List TV) (s2 : Int) (g2 : Option Addr), CallM B w sb (fun k => k = w.heap.size + 1 + 1 ∨ v.ownBlock = some k) (4000 + k * 7201) wl Dr ∧ wl.ownsRow base 62 3 v ts.length (flatT cur) ∧ cur.length = ts.length ∧ TVals Dr (cur.take k) (((naf z).take k).map (shT y)) ∧ cur.drop k = ts.drop k ∧
   (∀ p u, D p = some u → Dr p = some u) ∧ ValD Dr s2 g2 y ∧ wl.heap[bb]? = some (.cells #[.int .i64 s2, .pointer g2] 28 (0, 0)) ∧ wl.heap[w.heap.size + 1 + 1]? = some (.cells #[.int .i64 0, .pointer none] 28 (0, 0)) ∧ (∀ t ∈ (naf z).take k, 0 ≤ (t.2 : Int) + y)
theorem ShR.below {w : World} {sb bb : Nat} {D : Addr → Option Int} {base : Nat} {v : Value} {ts : List TV} {z y : Int} {k : Nat} {wl W : World} (h : ShR B w sb bb D base v ts z y k wl) (hb : Below wl.heap.size wl W) : ShR B w sb bb D base v ts z y k W := by
 obtain ⟨Dr, cur, s2, g2, hC, hown, hcl, htk, hdk, hmo, hvy, hbb, hrb, hps⟩ := h
 exact ⟨Dr, cur, s2, g2, hC.below hb, Zac hown hb, hcl, htk, hdk, hmo, hvy, (hb.block _ (Zad hbb)).trans hbb, (hb.block _ (Zad hrb)).trans hrb, hps⟩
theorem Zo9 {w : World} {base c n cap x : Nat} {xs : List Value} {cs : Array Value} {fr : Nat × Nat} (h : w.ownsRow base 62 3 (.slice (some ⟨c, 0, none⟩) n cap) n xs) (hx : w.heap[x]? = some (.cells cs 28 fr)) : x ≠ c := by
 rintro rfl
 obtain ⟨_, h2⟩ := h
 rcases h2 with ⟨e, _⟩ | ⟨g', cap', cur, ev, _, hh, _⟩
 · cases e
 · cases ev
   rw [hx] at hh; cases hh
theorem Zpa {w : World} {base n x : Nat} {v : Value} {xs : List Value} {cs : Array Value} {fr : Nat × Nat} (h : w.ownsRow base 62 3 v n xs) (hx : w.heap[x]? = some (.cells cs 28 fr)) : ∀ k, v.ownBlock = some k → ¬ k = x := by
 rintro k hk rfl
 obtain ⟨_, h2⟩ := h
 rcases h2 with ⟨rfl, _⟩ | ⟨g', cap', cur, rfl, _, hh, _⟩
 · simp [Value.ownBlock] at hk
 · simp only [Value.ownBlock, Option.some.injEq] at hk
   subst hk
   rw [hx] at hh; cases hh
theorem ShR.next {w : World} {sb bb : Nat} {D : Addr → Option Int} {base : Nat} {c cap : Nat} {ts : List TV} {z y : Int} {k : Nat} {wa : World} (h0 : 0 < w.heap.size) {Dr Da : Addr → Option Int} {cur : List TV} {s2 r : Int} {g2 q : Option Addr} {uk : Tm} {mk : Bool}
   (hC : CallM B w sb (fun k => k = w.heap.size + 1 + 1 ∨ (Value.slice (some ⟨c, 0, none⟩) ts.length cap).ownBlock = some k) (4000 + (k + 1) * 7201) wa Da) (hown : wa.ownsRow base 62 3 (.slice (some ⟨c, 0, none⟩) ts.length cap) ts.length (flatT cur)) (hcl : cur.length = ts.length) (hk : k < ts.length)
   (htk : TVals Dr (cur.take k) (((naf z).take k).map (shT y))) (hdk : cur.drop k = ts.drop k) (hmo : ∀ p u, D p = some u → Dr p = some u) (hmo2 : ∀ p u, Dr p = some u → Da p = some u) (hvy : ValD Dr s2 g2 y) (hbb : wa.heap[bb]? = some (.cells #[.int .i64 s2, .pointer g2] 28 (0, 0)))
   (hrb : wa.heap[w.heap.size + 1 + 1]? = some (.cells #[.int .i64 0, .pointer none] 28 (0, 0))) (hps : ∀ t ∈ (naf z).take k, 0 ≤ (t.2 : Int) + y) (htk2 : (naf z).take (k + 1) = (naf z).take k ++ [uk]) (hv : ValD Da r q ((uk.2 : Int) + y)) (hbk : mk = uk.1)
   (x0 : (flatT cur)[k * 3]? = some (.bool mk)) :
   let wS := (wa.setCell ⟨c, k * 3 + 1, none⟩ (.int .i64 r)).setCell ⟨c, k * 3 + 1 + 1, none⟩ (.pointer q)
   CallM B w sb (fun k => k = w.heap.size + 1 + 1 ∨ (Value.slice (some ⟨c, 0, none⟩) ts.length cap).ownBlock = some k) (4000 + (k + 1) * 7201) wS Da ∧ wS.heap[w.heap.size + 1 + 1]? = some (.cells #[.int .i64 0, .pointer none] 28 (0, 0)) ∧ wS.cell? ⟨c, k * 3 + 1, none⟩ = some (.int .i64 r) ∧ wS.cell? ⟨c, k * 3 + 2, none⟩ = some (.pointer q) ∧
     (0 ≤ (uk.2 : Int) + y → ShR B w sb bb D base (.slice (some ⟨c, 0, none⟩) ts.length cap) ts z y (k + 1) wS) := by
 intro wS
 have n1 := Zo9 hown hbb
 have n2 := Zo9 hown hrb
 have hCS := (hC.set h0 (.inr rfl) (k * 3 + 1) (.int .i64 r)).set h0 (.inr rfl) (k * 3 + 1 + 1) (.pointer q)
 have t1 := hown.stored (k * 3 + 1) (.int .i64 r)
 have t2 := t1.1.stored (k * 3 + 1 + 1) (.pointer q)
 have hs := Zcu cur k (mk, r, q)
 rw [Zfk x0] at hs
 have howS : wS.ownsRow base 62 3 (.slice (some ⟨c, 0, none⟩) ts.length cap) ts.length (flatT (cur.set k (mk, r, q))) := by rw [← hs]; exact t2.1
 have hl : k < (cur.set k (mk, r, q)).length := by rw [List.length_set]; omega
 obtain ⟨_, y1, y2⟩ := Zbi (cur.set k (mk, r, q)) k hl
 simp only [List.getElem_set_self] at y1 y2
 have hb1 : wS.heap[bb]? = some (.cells #[.int .i64 s2, .pointer g2] 28 (0, 0)) := by
   show ((wa.setCell _ _).setCell _ _).heap[bb]? = _
   rw [Below.heap_setCell _ _ _ _ n1, Below.heap_setCell _ _ _ _ n1]; exact hbb
 have hr1 : wS.heap[w.heap.size + 1 + 1]? = some (.cells #[.int .i64 0, .pointer none] 28 (0, 0)) := by
   show ((wa.setCell _ _).setCell _ _).heap[w.heap.size + 1 + 1]? = _
   rw [Below.heap_setCell _ _ _ _ n2, Below.heap_setCell _ _ _ _ n2]; exact hrb
 refine ⟨hCS, hr1, (howS.cellAt (k * 3 + 1) (by omega)).trans y1, (howS.cellAt (k * 3 + 2) (by omega)).trans y2, fun hp => ?_⟩
 refine ⟨Da, cur.set k (mk, r, q), s2, g2, hCS, howS, by rw [List.length_set]; exact hcl, ?_, ?_, fun p u h => hmo2 _ _ (hmo _ _ h), hvy.mono hmo2, hb1, hr1, ?_⟩
 · rw [Zds (by omega), htk2, List.map_append]
   exact TVals.append (htk.mono hmo2) ⟨⟨hbk, by show ValD Da r q ((((uk.2 : Int) + y).toNat : Nat) : Int); rw [show ((((uk.2 : Int) + y).toNat : Nat) : Int) = (uk.2 : Int) + y by omega]; exact hv⟩, trivial⟩
 · rw [List.drop_set_of_lt (by omega)]
   have := congrArg (fun l : List TV => l.drop 1) hdk
   simpa using this
 · intro t ht
   rw [htk2] at ht
   rcases List.mem_append.1 ht with x | x
   · exact hps t x
   · rw [List.mem_singleton.1 x]; exact hp
def ResS (B : Nat → Prop) (w : World) (z y : Int) (e : Ending) (w' : World) : Prop :=
 Below w.heap.size w w' ∧ ((¬ reaches z y ∧ e = .returned (.tuple #[.agg #[.int .i64 0, .pointer none], .int .i64 4])) ∨
   (reaches z y ∧ allowedZ (shiftZ z y) ∧ ∃ (r : Int) (q : Option Addr), e = .returned (.tuple #[.agg #[.int .i64 r, .pointer q], .int .i64 0]) ∧ NumA B w' r q (shiftZ z y)) ∨
   (reaches z y ∧ ¬ allowedZ (shiftZ z y) ∧ e = .returned (.tuple #[.agg #[.int .i64 0, .pointer none], .int .i64 5])))
theorem Zlt {w : World} {s s' z y : Int} {g g' : Option Addr} (hx : NumA B w s g z) (hy : NumA B w s' g' y) (tab : Tab w) (h0 : 0 < w.heap.size) (hB : ∀ k, B k → k < w.heap.size) :
   Calls Tryz.prog 22 #[.agg #[.int .i64 s, .pointer g], .agg #[.int .i64 s', .pointer g']] w (ResS B w z y) := by
 obtain ⟨w4, hw4⟩ : ∃ w4, w4 = (((w.alloc (.cells #[.int .i64 s, .pointer g] 28)).alloc (.cells #[.int .i64 s', .pointer g'] 28)).alloc (.cells #[.int .i64 0, .pointer none] 28)).alloc (.cells #[.map none, .map none, .map none, .map none, .map none] 87) := ⟨_, rfl⟩
 have hb3 : Below w.heap.size w (((w.alloc (.cells #[.int .i64 s, .pointer g] 28)).alloc (.cells #[.int .i64 s', .pointer g'] 28)).alloc (.cells #[.int .i64 0, .pointer none] 28)) := by repeat (first | exact zb | refine Below.alloc ?_ (by simp <;> omega) _)
 obtain ⟨q0, q1, q2, qz⟩ := Zcq w (.cells #[.int .i64 s, .pointer g] 28) (.cells #[.int .i64 s', .pointer g'] 28) (.cells #[.int .i64 0, .pointer none] 28)
 have hC0 := CallM.start (A := fun k => k = w.heap.size + 1 + 1) hb3 tab h0 hB (by rintro k rfl; exact ⟨by omega, Own.of q2 (by decide) (by decide) (by decide)⟩)
 obtain ⟨a0, a1, a2, hz4⟩ := Zfw w (.cells #[.int .i64 s, .pointer g] 28) (.cells #[.int .i64 s', .pointer g'] 28) (.cells #[.int .i64 0, .pointer none] 28) (.cells #[.map none, .map none, .map none, .map none, .map none] 87)
 rw [qz, ← hw4] at hC0
 rw [← hw4] at a0 a1 a2 hz4
 clear q0 q1 q2 qz hb3
 have hbe := Zcj
 have hT1 := hC0.take hy.2 (by omega)
 obtain ⟨e0, e1⟩ := Zab a0
 obtain ⟨e2, e3⟩ := Zab a1
 have HX := zh (zi hx (zi hy (zi a0 (zi a2 hz4))))
 clear hx hy hC0 a0 a1 a2 hz4 tab hbe hB
 subst hw4
 go_enter Tryz.func22, Tryz.ntmps22
 go_wp2_with (first
   | (have hq := HT1
      go_at_call 64; refine hq.out.2.2.mono ?_; rintro x6 w6 ⟨s1, g1, D1, rfl, hv1, hC6, hmo6, hoth6⟩
      obtain ⟨hv5, hb5, hT2⟩ := hq.out
      have hT := hC6
      have HC6 := zh (zi hv1 (zi hC6 (zi hmo6 hoth6)))
      clear hv1 hC6 hmo6 hoth6 hv5 hb5 hT2 hT)
   | (go_at_call 64; refine hT1.mono ?_; rintro x5 w5 ⟨s5, g5, D5, rfl, hv5, hC5, hmo5, hoth5⟩
      obtain ⟨hx, hy, a0, a2, hz4⟩ := HX.out
      have hbA : Below w5.heap.size w5 (w5.alloc (.cells #[.int .i64 s5, .pointer g5] 28)) := (zb).alloc (zl) _
      have hT2 := (hC5.below hbA).take hx.2 (by have := Zcj; omega)
      have x5 := hoth5 _ _ _ _ a0 (by decide) (by decide) (by decide)
      have x5b := (hbA.block _ (Zad x5)).trans x5
      obtain ⟨x0, x1⟩ := Zab x5b
      have r5 := hoth5 _ _ _ _ a2 (by decide) (by decide) (by decide)
      have r5b := (hbA.block _ (Zad r5)).trans r5
      have HT1 := zh (zi hv5 (zi r5b hT2))
      clear hv5 hC5 hmo5 hoth5 hT2 x5 x5b r5 r5b hbA hx hy a0 a2 hz4)
   | (go_at_call 55; refine (HC6.out.2.1.terms HC6.out.1).mono ?_; rintro x7 w7 ⟨v7, ts, rfl, hr7, ht7, hb7⟩
      obtain ⟨a7, c7, rfl⟩ := hr7.shape
      obtain ⟨hx, hy, a0, a2, hz4⟩ := HX.out
      have hwz := hx.wt
      have hlt : ts.length ≤ lim := by have h1 := ht7.len; have := Za8; unfold wt at hwz; omega
      have hcl := Zbv _ ts.length _ w7 hr7 (Zaw ts) hlt
      have H7 := zh (zi ht7 hb7)
      clear hr7 ht7 hb7 hx hy a0 a2 hz4 hwz)
   | (go_at_call 65; refine hcl.mono ?_; rintro x8 w8 ⟨v8, rfl, ho8, hb8⟩
      obtain ⟨a8, c8, rfl⟩ := (RowV.of_own ho8).shape
      have H8 := zh (zi ho8 hb8)
      clear ho8 hb8))
 have hl9 : (ts.length : Int) ≤ 300 := by have h1 := H7.out.1.len; have h2 := HX.out.1.wt; unfold wt at h2; omega
 have hst : ShR B w (w.heap.size + 1 + 1 + 1) w5.heap.size D1 w7.heap.size (.slice a8 ts.length c8) ts z y 0 w8 := by
   obtain ⟨ho8, hb8⟩ := H8.out
   obtain ⟨ht7, hb7⟩ := H7.out
   obtain ⟨hv1, hC6, hmo6, hoth6⟩ := HC6.out
   obtain ⟨hv5, r5b, hT2⟩ := HT1.out
   have hC7 := hC6.below hb7
   have hC8 := hC7.vars hb8 (A' := fun k => k = w.heap.size + 1 + 1 ∨ (Value.slice a8 ts.length c8).ownBlock = some k) (by
     rintro k (x | x)
     · exact .inl x
     · obtain ⟨_, h2⟩ := ho8
       rcases h2 with ⟨e, _⟩ | ⟨g', cap, cur, ev, hg, hh, _⟩
       · rw [e] at x; simp [Value.ownBlock] at x
       · rw [ev] at x
         simp only [Value.ownBlock, Option.some.injEq] at x
         subst x
         exact .inr ⟨hg, Own.of hh (by decide) (by decide) (by decide)⟩)
   have hbb : (w5.alloc (.cells #[.int .i64 s5, .pointer g5] 28)).heap[w5.heap.size]? = some (.cells #[.int .i64 s5, .pointer g5] 28 (0, 0)) := heap_alloc_new w5 _
   have b6 := hoth6 _ _ _ _ hbb (by decide) (by decide) (by decide)
   have b8 := (hb8.block _ (by have := hb7.size; have := Zad b6; omega)).trans ((hb7.block _ (Zad b6)).trans b6)
   have r6 := hoth6 _ _ _ _ r5b (by decide) (by decide) (by decide)
   have r8 := (hb8.block _ (by have := hb7.size; have := Zad r6; omega)).trans ((hb7.block _ (Zad r6)).trans r6)
   exact ⟨D1, ts, s5, g5, hC8.more (by omega), ho8, rfl, by simp [TVals], rfl, fun _ _ h => h, hv5.mono hmo6, b8, r8, by simp⟩
 have ht7 := H7.out.1
 have HW7 : Hid (w.heap.size ≤ w7.heap.size) := show w.heap.size ≤ w7.heap.size by have h1 := HC6.out.2.1.all.size; have h2 := H7.out.2.size; omega
 have HY := zh (zi ht7 (zi HX.out.1 HX.out.2.1))
 have HST := zh hst
 clear hst ht7 hT1 hcl H8 H7 HC6 HT1 HX e0 e1 e2 e3 x0 x1
 go_loopw [18] (fun i wl => ∃ k : Nat, k ≤ ts.length ∧ i = .int .i64 k ∧ ShR B w (w.heap.size + 1 + 1 + 1) w5.heap.size D1 w7.heap.size (.slice a8 ts.length c8) ts z y k wl) (fun i _ => ts.length - (intOf i).toNat)
 case atStart => exact ⟨0, by omega, by simp, HST.out⟩
 case round =>
   obtain ⟨k, hkl, rfl, hS⟩ := hrel
   clear HST
   obtain ⟨Dr, cur, s2, g2, hC, hown, hcl, htk, hdk, hmo, hvy, hbb, hrb, hps⟩ := hS
   obtain ⟨ht7, hx, hy⟩ := HY.out
   have hwy := hy.wt
   by_cases hlt2 : k < ts.length
   · obtain ⟨c, rfl⟩ : ∃ b, a8 = some ⟨b, 0, none⟩ := by
       obtain ⟨_, h2⟩ := hown
       rcases h2 with ⟨e, _⟩ | ⟨g', cap, cur, ev, _⟩
       · simp only [Value.slice.injEq] at e; omega
       · cases ev; exact ⟨g', rfl⟩
     have hkz : k < (naf z).length := by rw [← ht7.len]; exact hlt2
     have hget : cur[k]? = ts[k]? := by have := congrArg (fun l : List TV => l[0]?) hdk; simpa using this
     have hvk := ((ht7.get k hlt2 hkz).2).mono hmo
     have hbk := (ht7.get k hlt2 hkz).1
     have hex := hx.exp _ (List.getElem_mem hkz)
     have hexx : ∀ u ∈ naf (((naf z)[k].2 : Nat) : Int), wt (u.2 : Int) ≤ 29900 := fun u hu => by
       have := hx.1.2.2 _ (Zaz z _ (Zaz z z (Za5 z) _ (List.getElem_mem hkz)) u hu)
       omega
     have hye : ∀ u ∈ naf y, wt (u.2 : Int) ≤ 29900 := fun u hu => Nat.le_trans (hy.exp u hu) (by omega)
     obtain ⟨x0, x1, x2⟩ := Zbi cur k (by omega)
     have hgk : cur[k]'(by omega) = ts[k] := by
       rw [List.getElem?_eq_getElem (by omega), List.getElem?_eq_getElem hlt2] at hget
       exact Option.some.inj hget
     rw [hgk] at x0 x1 x2
     have z0 := (hown.cellAt (k * 3) (by omega)).trans x0
     have z1 := (hown.cellAt (k * 3 + 1) (by omega)).trans x1
     have z2 := (hown.cellAt (k * 3 + 2) (by omega)).trans x2
     have htk2 : (naf z).take (k + 1) = (naf z).take k ++ [(naf z)[k]] := List.take_succ_eq_append_getElem hkz
     have hmemk := List.getElem_mem hkz
     generalize (naf z)[k] = uk at hvk hbk hex hexx htk2 hmemk
     have HZ := zh (zi x0 (zi x1 (zi x2 hbk)))
     clear hget hgk
     generalize ts[k] = tk at z0 z1 z2 hvk HZ
     obtain ⟨mk, s1', g1'⟩ := tk
     simp only at z0 z1 z2 hvk
     obtain ⟨e0, e1⟩ := Zab hbb
     have hA : ∀ W, Below wr.heap.size wr W → Calls Tryz.prog 66 #[.pointer (some ⟨w.heap.size + 1 + 1 + 1, 0, none⟩), .agg #[.int .i64 s1', .pointer g1'], .agg #[.int .i64 s2, .pointer g2]] W fun x w' => ∃ (r : Int) (q : Option Addr) (Dn : Addr → Option Int), x = .returned (.agg #[.int .i64 r, .pointer q]) ∧ ValD Dn r q ((uk.2 : Int) + y) ∧
         CallM B w (w.heap.size + 1 + 1 + 1) (fun k => k = w.heap.size + 1 + 1 ∨ (Value.slice (some ⟨c, 0, none⟩) ts.length c8).ownBlock = some k) (4000 + (k + 1) * 7201) w' Dn ∧ (∀ p z, Dr p = some z → Dn p = some z) ∧ w'.ownsRow w7.heap.size 62 3 (.slice (some ⟨c, 0, none⟩) ts.length c8) ts.length (flatT cur) ∧
         w'.heap[w5.heap.size]? = some (.cells #[.int .i64 s2, .pointer g2] 28 (0, 0)) ∧ w'.heap[w.heap.size + 1 + 1]? = some (.cells #[.int .i64 0, .pointer none] 28 (0, 0)) := by
       intro W hW
       refine ((hC.below hW).add hvk hvy (by omega) hexx hye (by have := Zcj; omega)).mono ?_
       rintro x w' ⟨r, q, Dn, rfl, h1, h2, h3, h4⟩
       exact ⟨r, q, Dn, rfl, h1, h2.more (by omega), h3, Zan (Zac hown hW) h4, h4 _ _ _ _ ((hW.block _ (Zad hbb)).trans hbb) (by decide) (by decide) (by decide), h4 _ _ _ _ ((hW.block _ (Zad hrb)).trans hrb) (by decide) (by decide) (by decide)⟩
     have HQ := zh (zi hcl (zi htk (zi hdk (zi hmo (zi hvy (zi hps (zi htk2 (zi hmemk hkz))))))))
     have hlt' : (k : Int) < (ts.length : Int) := by omega
     clear hC hown hcl htk hdk hmo hvy hbb hrb hps ht7 hx hy hwy hvk hbk hex hexx hye x0 x1 x2 htk2 hmemk hkz
     have hk3 : k * 3 + 2 < ts.length * 3 := by omega
     go_wp2
     first
       | go_region_with (first
         | (go_at_call 66; refine (hA _ (by first | exact (zb).drew | exact zb)).mono ?_; rintro xa wa ⟨ra, qa, Da, rfl, hva, hCa, hmoa, howna, hbba, hrba⟩
            have d0 := (howna.cellAt (k * 3) (by omega)).trans HZ.out.1
            have d1 := (howna.cellAt (k * 3 + 1) (by omega)).trans HZ.out.2.1
            have d2 := (howna.cellAt (k * 3 + 2) (by omega)).trans HZ.out.2.2.1
            have f1 := howna.frozenAt (k * 3 + 1)
            have f2 := howna.frozenAt (k * 3 + 2)
            have HA := zh (zi hva (zi hCa (zi hmoa (zi howna (zi hbba hrba)))))
            clear hva hCa hmoa howna hbba hrba))
       | fail
     all_goals
       obtain ⟨x0, x1, x2, hbk⟩ := HZ.out
       obtain ⟨hcl, htk, hdk, hmo, hvy, hps, htk2, hmemk, hkz⟩ := HQ.out
       obtain ⟨hva, hCa, hmoa, howna, hbba, hrba⟩ := HA.out
       obtain ⟨hCS, hrS, k1, k2, hSk⟩ := ShR.next h0 hCa howna hcl hlt2 htk hdk hmo hmoa hvy hbba hrba hps htk2 hva hbk x0
       have hIs := hCS.isN hva
       have hall := hCS.all
       clear hcl htk hdk hmo hvy hps htk2 hkz hva hCa hmoa howna hbba hrba hbk x0 x1 x2 HZ HQ HA d0 d1 d2 f1 f2 hCS z0 z1 z2 e0 e1 hA
       generalize ((wa.setCell ⟨c, k * 3 + 1, none⟩ (.int .i64 ra)).setCell ⟨c, k * 3 + 1 + 1, none⟩ (.pointer qa)) = wS at *
       have hsg := Zcn _ _ _ _ hIs
       have HB := zh (zi hSk (zi hrS (zi hall hmemk)))
       clear hSk hIs hall hmemk
       by_cases hng : 0 ≤ (uk.2 : Int) + y
       · have hsv : ¬ sgn ((uk.2 : Int) + y) < 0 := by
           unfold sgn
           split
           · omega
           · split <;> omega
         generalize sgn ((uk.2 : Int) + y) = sv at hsg hsv
         have HG := zh hng
         clear hng hrS
         go_wp2_with (first
           | (go_at_call 34; refine hsg.mono ?_; rintro xs ws ⟨rfl, hbs⟩
              have HBS := zh hbs
              clear hbs))
         obtain ⟨hSk, hrS, hall, hmemk⟩ := HB.out
         exact ⟨⟨k + 1, by omega, by go_num, (hSk HG.out).below HBS.out⟩, by simp [intOf]; omega⟩
       · have hsv : sgn ((uk.2 : Int) + y) < 0 := by rw [Zf4 (by omega)]; omega
         generalize sgn ((uk.2 : Int) + y) = sv at hsg hsv
         have HG := zh hng
         clear hng
         go_wp2_with (first
           | (go_at_call 34; refine hsg.mono ?_; rintro xs ws ⟨rfl, hbs⟩
              have rs := (hbs.block _ (Zad hrS)).trans hrS
              obtain ⟨y0, y1⟩ := Zab rs
              obtain ⟨y2, y3⟩ := Zae rs
              have HBS := zh hbs
              clear hbs rs))
         refine bodyPost_ret (v := .tuple #[.agg #[.int .i64 0, .pointer none], .int .i64 4]) (by simp [results, Tryz.results22, go_sem, *]) rfl ?_
         obtain ⟨hSk, hrS2, hall, hmemk⟩ := HB.out
         have hs7 := hall.size
         refine ⟨((hall.trans (HBS.out.mono hs7)).setCell (p := ⟨w.heap.size + 1 + 1, 0, none⟩) (by show w.heap.size ≤ w.heap.size + 1 + 1; omega) _).setCell (p := ⟨w.heap.size + 1 + 1, 1, none⟩) (by show w.heap.size ≤ w.heap.size + 1 + 1; omega) _, .inl ⟨fun hr => by have h1 := hr _ hmemk; have h2 := HG.out; omega, rfl⟩⟩
   · have hkn : k = ts.length := by omega
     subst hkn
     have hnl : (naf z).length = ts.length := ht7.len.symm
     have hct : cur.take ts.length = cur := by rw [← hcl]; exact List.take_length
     have hzt : (naf z).take ts.length = naf z := by rw [← hnl]; exact List.take_length
     rw [hzt] at hps
     rw [hct, hzt] at htk
     have hrz : reaches z y := hps
     have hwz := hx.wt
     have hkp := (hC.less (A' := fun k => k = w.heap.size + 1 + 1) (fun k hk => .inl hk)).keep (v := .slice a8 ts.length c8) (ts := cur) (by rw [hcl]; exact hown) HW7.out (Zpa hown hrb) (by omega) htk (NA_sh (Za3 z) hps) (by have := Zcj; omega)
     have HQ := zh (zi hrz hrb)
     have hlt' : ¬ ((ts.length : Int) < (ts.length : Int)) := by omega
     clear hC hown hcl htk hdk hmo hvy hbb hrb hps ht7 hx hy hwy hct hzt hrz hwz hnl
     have hkp2 : Calls Tryz.prog 68 #[.pointer (some ⟨w.heap.size + 1 + 1 + 1, 0, none⟩), .slice a8 ts.length c8] wr fun x w' => ∃ (r : Int) (q : Option Addr) (Dn : Addr → Option Int), x = .returned (.agg #[.int .i64 r, .pointer q]) ∧ ValD Dn r q (shiftZ z y) ∧ CallM B w (w.heap.size + 1 + 1 + 1) (fun k => k = w.heap.size + 1 + 1) 200000000 w' Dn ∧
         w'.heap[w.heap.size + 1 + 1]? = some (.cells #[.int .i64 0, .pointer none] 28 (0, 0)) := by
       refine hkp.mono ?_
       rintro x w' ⟨r, q, Dn, rfl, h1, h2, h3, h4⟩
       exact ⟨r, q, Dn, rfl, h1, h2.more (by omega), h4 _ _ _ _ HQ.out.2 (by decide) (by decide) (by decide)⟩
     clear hkp
     by_cases hall : allowedZ (shiftZ z y)
     · have HALL := zh hall
       clear hall
       go_wp2_with (first
         | (go_at_call 68; refine hkp2.mono ?_; rintro x7 w9 ⟨r7, q7, D7, rfl, hv7, hC7, hrb7⟩
            have hN := hC7.numA hv7
            have hlim := Zeu (hN.shrink (fun i hi => hi.elim)) HALL.out
            have HL := zh (zi hlim (zi hN (zi hrb7 hC7.all)))
            clear hv7 hC7 hN hlim hrb7)
         | (go_at_call 67; refine HL.out.1.mono ?_; rintro x8 w10 ⟨rfl, hb8⟩
            obtain ⟨hlim, hN, r7b, hbe7⟩ := HL.out
            have r8 := (hb8.block _ (Zad r7b)).trans r7b
            obtain ⟨y0, y1⟩ := Zab r8
            obtain ⟨y2, y3⟩ := Zae r8
            have H8 := zh (zi hb8 (zi hN hbe7))
            clear hb8 r8 hlim hN r7b hbe7))
       refine bodyPost_ret (v := .tuple #[.agg #[.int .i64 r7, .pointer q7], .int .i64 0]) (by simp [results, Tryz.results22, go_sem, *]) rfl ?_
       obtain ⟨hb8, hN, hbe7⟩ := H8.out
       have hs7 := hbe7.size
       exact ⟨((hbe7.trans (hb8.mono hs7)).setCell (p := ⟨w.heap.size + 1 + 1, 0, none⟩) (by show w.heap.size ≤ w.heap.size + 1 + 1; omega) (.int .i64 r7)).setCell (p := ⟨w.heap.size + 1 + 1, 1, none⟩) (by show w.heap.size ≤ w.heap.size + 1 + 1; omega) (.pointer q7), .inr (.inl ⟨HQ.out.1, HALL.out, r7, q7, rfl, hN.put hb8 _ _ HALL.out⟩)⟩
     · have HALL := zh hall
       clear hall
       go_wp2_with (first
         | (go_at_call 68; refine hkp2.mono ?_; rintro x7 w9 ⟨r7, q7, D7, rfl, hv7, hC7, hrb7⟩
            have hN := hC7.numA hv7
            have hlim := Zfu (hN.shrink (fun i hi => hi.elim)) HALL.out
            have HL := zh (zi hlim (zi hN (zi hrb7 hC7.all)))
            clear hv7 hC7 hN hlim hrb7)
         | (go_at_call 67; refine HL.out.1.mono ?_; rintro x8 w10 ⟨rfl, hb8⟩
            obtain ⟨hlim, hN, r7b, hbe7⟩ := HL.out
            have r8 := (hb8.block _ (Zad r7b)).trans r7b
            obtain ⟨y0, y1⟩ := Zab r8
            obtain ⟨y2, y3⟩ := Zae r8
            have H8 := zh (zi hb8 (zi hN hbe7))
            clear hb8 r8 hlim hN r7b hbe7))
       refine bodyPost_ret (v := .tuple #[.agg #[.int .i64 0, .pointer none], .int .i64 5]) (by simp [results, Tryz.results22, go_sem, *]) rfl ?_
       obtain ⟨hb8, hN, hbe7⟩ := H8.out
       have hs7 := hbe7.size
       exact ⟨((hbe7.trans (hb8.mono hs7)).setCell (p := ⟨w.heap.size + 1 + 1, 0, none⟩) (by show w.heap.size ≤ w.heap.size + 1 + 1; omega) (.int .i64 0)).setCell (p := ⟨w.heap.size + 1 + 1, 1, none⟩) (by show w.heap.size ≤ w.heap.size + 1 + 1; omega) (.pointer none), .inr (.inr ⟨HQ.out.1, HALL.out, rfl⟩)⟩
end Go.Proofs.YtlkmgclbckojgaaGreatDoor

