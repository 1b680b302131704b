import Derived.Test.YtlkmgclbckojgaaGreatDoorB3
import Derived.Test.YtlkmgclbckojgaaGreatDoorV2
import Derived.Deep.CutRange
import Derived.Maps.AppendAt
set_option linter.unusedVariables false
set_option linter.unusedSimpArgs false
set_option maxHeartbeats 4000000
set_option maxRecDepth 100000
namespace Go.Proofs.YtlkmgclbckojgaaGreatDoor
section
open Go.RowKit
theorem StMem.put5 {w : World} {sb : Nat} {F : Nat → Prop} {G : StG} (h : StMem w sb F G) {i : Nat} (hi : 5 ≤ i) (u : Value) : StMem (w.setCell ⟨sb, i, none⟩ u) sb F { G with c := G.c.setIfInBounds i u } := by
 have hm : ∀ (m : Option Nat), (∀ r, m = some r → ∃ es cl, w.heap[r]? = some (.map es cl)) → ∀ r, m = some r → (w.setCell ⟨sb, i, none⟩ u).heap[r]? = w.heap[r]? := by
   intro m hm r hr
   refine Below.heap_setCell _ _ _ _ (fun e => ?_)
   have e : r = sb := by first | exact e | exact e.symm
   subst e
   obtain ⟨es, cl, x⟩ := hm _ hr
   have := h.hs
   rw [x] at this; cases this
 have hnf : ∀ t c fr, w.heap[sb]? = some (.cells c t fr) → t ≠ 113 := by
   intro t c fr hh
   rw [h.hs] at hh
   cases hh
   exact h.nf
 have hp := h.pos
 exact { h with
   hs := Zbz u h.hs
   i0 := (Array.getElem?_setIfInBounds_ne (by omega)).trans h.i0
   i1 := (Array.getElem?_setIfInBounds_ne (by omega)).trans h.i1
   i2 := (Array.getElem?_setIfInBounds_ne (by omega)).trans h.i2
   i3 := (Array.getElem?_setIfInBounds_ne (by omega)).trans h.i3
   i4 := (Array.getElem?_setIfInBounds_ne (by omega)).trans h.i4
   mp := h.mp.keep (hm _ h.mp.map') (Zdl hnf)
   mt := h.mt.keep (hm _ h.mt.map') (Zdl hnf)
   ma := h.ma.keep (hm _ h.ma.map') (fun _ _ => trivial)
   mo := h.mo.keep (hm _ h.mo.map') (fun _ _ => trivial)
   mn := h.mn.keep (hm _ h.mn.map') (fun k hk => Zdl hnf k.2 hk)
   tab := Zbd h.tab (Below.heap_setCell _ _ _ _ (by show (0 : Nat) ≠ sb; omega)) }
theorem StInv.newc {w : World} {F : Nat → Prop} {D : Addr → Option Int} {K : List Addr} {G : StG} (h : StInv w F D K G) (c : Array Value) : StInv w F D K { G with c := c } :=
 ⟨h.forest, h.kd, h.plv, h.pli, h.pls, h.tk, h.al, h.la, h.od, h.af⟩
theorem Zm4 {D D' : Addr → Option Int} (hD : ∀ p z, D p = some z → D' p = some z) {t : NV} (h : knownN D t) : rankN D' t = rankN D t := by
 obtain ⟨z, hz⟩ := h
 unfold rankN
 rw [hz.val, (hz.mono hD).val]
theorem Zon {D D' : Addr → Option Int} (hD : ∀ p z, D p = some z → D' p = some z) {qs : List NV} (h : ∀ p ∈ qs, knownN D p) : qs.map (rankN D') = qs.map (rankN D) := List.map_congr_left fun p hp => Zm4 hD (h p hp)
theorem Zlc {D D' : Addr → Option Int} (hD : ∀ p z, D p = some z → D' p = some z) {t : NV} (h : knownN D t) : knownN D' t := by
 obtain ⟨z, hz⟩ := h
 exact ⟨z, hz.mono hD⟩
def besL (ps : List Int) : List Bool := (List.range ps.length).map (fun i => decide (0 < i ∧ ps.getD i 0 = ps.getD (i - 1) 0 + 1))
theorem Zmf (ps : List Int) : (besL ps).length = ps.length := by simp [besL]
theorem Zoo (ps : List Int) (z : Int) : besL (ps ++ [z]) = besL ps ++ [decide (0 < ps.length ∧ z = ps.getD (ps.length - 1) 0 + 1)] := by
 unfold besL
 rw [List.length_append, List.length_singleton, List.range_succ, List.map_append]
 congr 1
 · refine List.map_congr_left fun i hi => ?_
   have hi := List.mem_range.1 hi
   congr 1
   simp only [List.getD, List.getElem?_append_left hi, List.getElem?_append_left (show i - 1 < ps.length by omega)]
 · simp only [List.map_cons, List.map_nil]
   congr 2
   by_cases h : 0 < ps.length
   · simp only [List.getD, List.getElem?_append_left (show ps.length - 1 < ps.length by omega), List.getElem?_append_right (zl), Nat.sub_self, List.getElem?_cons_zero, Option.getD_some]
   · simp [h]
theorem Zp2 (ps : List Int) {i : Nat} (hi : i < ps.length) : (besL ps)[i]? = some (decide (0 < i ∧ ps.getD i 0 = ps.getD (i - 1) 0 + 1)) := by
 unfold besL
 rw [List.getElem?_map, List.getElem?_range hi]
 rfl
def besV (ps : List Int) : List Value := (besL ps).map Value.bool
theorem Zp3 (ps : List Int) {i : Nat} (hi : i < ps.length) : (besV ps)[i]? = some (.bool (decide (0 < i ∧ ps.getD i 0 = ps.getD (i - 1) 0 + 1))) := by
 unfold besV
 rw [List.getElem?_map, Zp2 ps hi]
 rfl
def ldA (A : Nat → Prop) (pv bv : Value) : Nat → Prop := fun k => A k ∨ pv.ownBlock = some k ∨ bv.ownBlock = some k
def VarB (w wr : World) (k : Nat) : Prop := VarO w wr k ∨ k < w.heap.size
theorem VarB.lt {w wr : World} {k : Nat} (h : VarB w wr k) (hs : w.heap.size ≤ wr.heap.size) : k < wr.heap.size := by
 rcases h with h | h
 · exact h.2.lt
 · omega
theorem VarB.same {w wr W : World} {k : Nat} (h : VarB w wr k) (e : VarO w wr k → W.heap[k]? = wr.heap[k]?) : VarB w W k := by
 rcases h with h | h
 · exact .inl (h.same (e h))
 · exact .inr h
theorem Zmg {w wr : World} {k : Nat} (h : VarO w wr k) (x i : Nat) (u : Value) : VarO w (wr.setCell ⟨x, i, none⟩ u) k := by
 obtain ⟨a1, c, t, fr, a2, a3⟩ := h
 refine ⟨a1, ?_⟩
 by_cases e : x = k
 · subst e
   exact ⟨c.setIfInBounds i u, t, fr, by simp [World.setCell, Array.getElem?_modify, a2], a3⟩
 · exact ⟨c, t, fr, by rw [Below.heap_setCell _ _ _ _ (fun e' => e e'.symm)]; exact a2, a3⟩
theorem Zp4 {w wr : World} {k : Nat} (h : VarB w wr k) (x i : Nat) (u : Value) : VarB w (wr.setCell ⟨x, i, none⟩ u) k := by
 rcases h with h | h
 · exact .inl (Zmg h x i u)
 · exact .inr h
structure Ld (w : World) (lb : Nat) (F A : Nat → Prop) (D : Addr → Option Int) (K : List Addr) (G : StG) (qs : List NV) (lv pv bv : Value) (ps : List Int) (fs : List Bool) (bs : List Nat) (n : Nat) (wr : World) : Prop where
 mem : StMem wr lb F G
 inv : StInv wr (hot (ldA A pv bv) F) D K G
 bl : Below w.heap.size w wr
 fup : ∀ k, F k → w.heap.size ≤ k
 kl : K.length ≤ n
 var : ∀ k, A k → VarB w wr k
 c5 : G.c[5]? = some lv
 c6 : G.c[6]? = some pv
 c7 : G.c[7]? = some bv
 left : RowV w 1 lv bs.length (byV bs)
 own : wr.ownsRow w.heap.size 28 2 pv ps.length (flatN qs)
 rk : qs.map (rankN D) = ps
 kn : ∀ p ∈ qs, knownN D p
 bes : wr.ownsRow w.heap.size 4 1 bv fs.length (fs.map Value.bool)
 av : ∀ k, A k → pv.ownBlock ≠ some k ∧ bv.ownBlock ≠ some k
section
variable {w : World} {lb : Nat} {F A : Nat → Prop} {D : Addr → Option Int} {K : List Addr} {G : StG} {qs : List NV} {lv pv bv : Value} {ps : List Int} {fs : List Bool} {bs : List Nat} {n : Nat} {wr W : World}
theorem Ld.up (h : Ld w lb F A D K G qs lv pv bv ps fs bs n wr) : w.heap.size ≤ lb := h.fup lb ((h.mem.hF lb).2 (.inl rfl))
theorem Ld.len (h : Ld w lb F A D K G qs lv pv bv ps fs bs n wr) : qs.length = ps.length := by rw [← h.rk, List.length_map]
theorem Ld.lt (h : Ld w lb F A D K G qs lv pv bv ps fs bs n wr) : ∀ k, ldA A pv bv k → k < wr.heap.size := by
 intro k hk
 rcases hk with x | x | x
 · exact (h.var k x).lt h.bl.size
 · exact (h.own.lt k x).2
 · exact (h.bes.lt k x).2
theorem Ld.below (h : Ld w lb F A D K G qs lv pv bv ps fs bs n wr) (hb : Below wr.heap.size wr W) : Ld w lb F A D K G qs lv pv bv ps fs bs n W := by
 have s := Step.of_below F hb
 exact { h with
   mem := h.mem.below hb
   inv := h.inv.step (s.hot _)
   bl := h.bl.trans (hb.mono h.bl.size)
   var := fun k hk => (h.var k hk).same (fun v => hb.block k v.2.lt)
   own := Zac h.own hb
   bes := Zac h.bes hb }
theorem Ld.grow {add : Nat} {F' : Nat → Prop} {D' : Addr → Option Int} {K' : List Addr} {G' : StG} (h : Ld w lb F A D K G qs lv pv bv ps fs bs n wr) (hg : GrowMem wr lb F (ldA A pv bv) D K G add W F' D' K' G') : Ld w lb F' A D' K' G' qs lv pv bv ps fs bs (n + add) W := by
 obtain ⟨m2, i2, st2, gg2, hk2⟩ := hg
 have hkl := h.kl
 exact {
   mem := m2
   inv := i2
   bl := h.bl.trans (st2.keeps.below (fun i hi => h.fup i hi) h.bl.size)
   fup := fun k hk => by
     rcases st2.grow k hk with y | y
     · exact h.fup k y
     · have := h.bl.size; omega
   kl := by omega
   var := fun k hk => (h.var k hk).same (fun v => st2.keeps.block k v.2.lt (h.mem.notF v.2))
   c5 := (gg2.c 5 (by omega)).trans h.c5
   c6 := (gg2.c 6 (by omega)).trans h.c6
   c7 := (gg2.c 7 (by omega)).trans h.c7
   left := h.left
   own := Zag h.own st2.keeps (h.mem.own h.own (by decide) (by decide))
   rk := (Zon gg2.d h.kn).trans h.rk
   kn := fun p hp => Zlc gg2.d (h.kn p hp)
   bes := Zag h.bes st2.keeps (h.mem.own h.bes (by decide) (by decide))
   av := h.av }
theorem Ld.vars (h : Ld w lb F A D K G qs lv pv bv ps fs bs n wr) (hb : Below wr.heap.size wr W) {A' : Nat → Prop} (hA : ∀ k, A' k → A k ∨ (wr.heap.size ≤ k ∧ Own W k)) : Ld w lb F A' D K G qs lv pv bv ps fs bs n W := by
 have s := Step.of_below F hb
 have h1 := h.below hb
 have hsz := h.bl.size
 refine { h1 with
   inv := (h.inv.grow (W := wr) (zl) (fun i hi => ?_)).step (s.hot _)
   var := fun k hk => ?_
   av := fun k hk => ?_ }
 · rcases hi with x | x
   · rcases x with x | x
     · rcases hA i x with y | y
       · exact .inl (.inl (.inl y))
       · exact .inr y.1
     · exact .inl (.inl (.inr x))
   · exact .inl (.inr x)
 · rcases hA k hk with y | y
   · exact h1.var k y
   · exact .inl ⟨by omega, y.2⟩
 · rcases hA k hk with y | y
   · exact h.av k y
   · exact ⟨fun e => by have := (h.own.lt k e).2; omega, fun e => by have := (h.bes.lt k e).2; omega⟩
theorem Ld.more (h : Ld w lb F A D K G qs lv pv bv ps fs bs n wr) {n' : Nat} (hn : n ≤ n') : Ld w lb F A D K G qs lv pv bv ps fs bs n' wr := { h with kl := Nat.le_trans h.kl hn }
theorem Ld.set (h : Ld w lb F A D K G qs lv pv bv ps fs bs n wr) (hw : 0 < w.heap.size) {x : Nat} (hx : A x) (hv : VarO w wr x) (i : Nat) (u : Value) : Ld w lb F A D K G qs lv pv bv ps fs bs n (wr.setCell ⟨x, i, none⟩ u) := by
 have hF := h.mem.notF hv.2
 have ha := h.av x hx
 have hnf : ∀ c t fr, wr.heap[x]? = some (.cells c t fr) → t ≠ 113 := by
   obtain ⟨_, c0, t0, fr0, h0, _, _, h7⟩ := hv
   intro c t fr hh
   rw [h0] at hh
   cases hh; exact h7
 have hk : Keeps (fun k => k = x) wr (wr.setCell ⟨x, i, none⟩ u) := Zal u rfl
 refine { h with
   mem := h.mem.set u hF (by have := hv.1; omega) hnf
   inv := h.inv.keeps (Zal u (.inl (.inl hx)))
   bl := h.bl.setCell hv.1 u
   var := fun k hk => ?_
   own := Zag h.own hk (fun b hb e => ha.1 (by rw [hb, e]))
   bes := Zag h.bes hk (fun b hb e => ha.2 (by rw [hb, e])) }
 exact Zp4 (h.var k hk) x i u
theorem Ld.setLeft (h : Ld w lb F A D K G qs lv pv bv ps fs bs n wr) {lv' : Value} {bs' : List Nat} (hl : RowV w 1 lv' bs'.length (byV bs')) : Ld w lb F A D K { G with c := G.c.setIfInBounds 5 lv' } qs lv' pv bv ps fs bs' n (wr.setCell ⟨lb, 5, none⟩ lv') := by
 have hF : F lb := (h.mem.hF lb).2 (.inl rfl)
 have h5 : 5 < G.c.size := (Array.getElem?_eq_some_iff.1 h.c5).1
 have hk : Keeps F wr (wr.setCell ⟨lb, 5, none⟩ lv') := Zal lv' hF
 exact { h with
   mem := h.mem.put5 (by omega) lv'
   inv := (h.inv.keeps (Zal lv' (.inr hF))).newc _
   bl := h.bl.setCell h.up lv'
   var := fun k hk' => (h.var k hk').same (fun v => hk.block k v.2.lt (h.mem.notF v.2))
   c5 := by simp [h5]
   c6 := (Array.getElem?_setIfInBounds_ne (by omega)).trans h.c6
   c7 := (Array.getElem?_setIfInBounds_ne (by omega)).trans h.c7
   left := hl
   own := Zag h.own hk (h.mem.own h.own (by decide) (by decide))
   bes := Zag h.bes hk (h.mem.own h.bes (by decide) (by decide)) }
theorem Zb9 {w : World} {base n size : Nat} {e : TypeId} {v : Value} {xs : List Value} (h : w.ownsRow base e size v n xs) : ∀ k, v.ownBlock = some k → ∃ c, w.heap[k]? = some (.cells c e (0, 0)) := by
 intro k hk
 obtain ⟨_, h2⟩ := h
 rcases h2 with ⟨rfl, _⟩ | ⟨g, cap, cur, rfl, _, hh, _⟩
 · simp [Value.ownBlock] at hk
 · simp only [Value.ownBlock, Option.some.injEq] at hk
   subst hk; exact ⟨cur, hh⟩
theorem Ld.pushP (h : Ld w lb F A D K G qs lv pv bv ps fs bs n wr) (hw : 0 < w.heap.size) {x : Value} {s : Int} {g : Option Addr} {z : Int} (hv : ValD D s g z) (ho : W.ownsRow w.heap.size 28 2 x (ps.length + 1) (flatN qs ++ cellsN (s, g))) (hg : wr.grownBy W pv.ownBlock) (hat : x.ownBlock = pv.ownBlock ∨ x.ownBlock = some wr.heap.size) :
   Ld w lb F A D K { G with c := G.c.setIfInBounds 6 x } (qs ++ [(s, g)]) lv x bv (ps ++ [z]) fs bs n (W.setCell ⟨lb, 6, none⟩ x) := by
 have hF : F lb := (h.mem.hF lb).2 (.inl rfl)
 have hge := Zak h.own
 have hsz := h.bl.size
 have h5 : 6 < G.c.size := (Array.getElem?_eq_some_iff.1 h.c6).1
 have hm := h.mem.grownT h.own (by decide) (by decide) (by decide) (by omega) hg
 have hk : Keeps F W (W.setCell ⟨lb, 6, none⟩ x) := Zal x hF
 have hXY : ∀ k, bv.ownBlock = some k → pv.ownBlock ≠ some k := by
   intro k h1 h2
   obtain ⟨c1, e1⟩ := Zb9 h.bes k h1
   obtain ⟨c2, e2⟩ := Zb9 h.own k h2
   rw [e1] at e2
   simp only [Option.some.injEq, Obj.cells.injEq] at e2
   exact absurd e2.2.1 (by decide)
 have hx : ∀ k, x.ownBlock = some k → pv.ownBlock = some k ∨ k = wr.heap.size := by
   intro k hk
   rcases hat with e | e
   · rw [e] at hk; exact .inl hk
   · rw [e] at hk; cases hk; exact .inr rfl
 have hYW : W.ownsRow w.heap.size _ _ bv _ _ := Zag (h.bes) (F := fun k => pv.ownBlock = some k) ⟨hg.os, hg.tape, hg.output, hg.size, fun k a b => hg.block k a (fun e => b e.symm)⟩ (fun b hb e => hXY b hb e)
 have i1 : StInv wr (hot (fun k => ldA A pv bv k ∨ x.ownBlock = some k) F) D K G := h.inv.grow (W := wr) (zl) (fun i hi => by
   rcases hi with (y | y) | y
   · exact .inl (.inl y)
   · rcases hx i y with e | e
     · exact .inl (.inl (by first | exact .inr (.inl e) | exact .inr (.inr e)))
     · exact .inr (by omega)
   · exact .inl (.inr y))
 have i2 : StInv W (hot (fun k => ldA A pv bv k ∨ x.ownBlock = some k) F) D K G := i1.keeps ⟨hg.os, hg.tape, hg.output, hg.size, fun k a b => hg.block k a (fun e => b (.inl (.inl (by first | exact .inr (.inl e.symm) | exact .inr (.inr e.symm)))))⟩
 have i3 : StInv W (hot (ldA A x bv) F) D K G := i2.shrink (fun i hi => by
   rcases hi with (y | y | y) | y
   · exact .inl (.inl (.inl y))
   · first | exact .inl (.inr y) | exact .inl (.inl (.inr (.inl y)))
   · first | exact .inl (.inl (.inr (.inr y))) | exact .inl (.inr y)
   · exact .inr y)
 have hbW : Below w.heap.size w W := ⟨hg.os.trans h.bl.os, hg.tape.trans h.bl.tape, hg.output.trans h.bl.output, Nat.le_trans h.bl.size hg.size, fun k a => (hg.block k (Nat.lt_of_lt_of_le a h.bl.size) (fun e => by have := hge k e.symm; omega)).trans (h.bl.block k a)⟩
 have hvW : ∀ k, A k → VarB w W k := fun k hk' => (h.var k hk').same (fun v => hg.block k v.2.lt (fun e => by have := h.av k hk'; first | exact this.1 e.symm | exact this.2 e.symm))
 exact {
   mem := hm.put5 (by omega) x
   inv := (i3.keeps (Zal x (.inr hF))).newc _
   bl := hbW.setCell h.up x
   fup := h.fup
   kl := h.kl
   var := fun k hk' => (hvW k hk').same (fun v => hk.block k v.2.lt (hm.notF v.2))
   c5 := by first | exact (Array.getElem?_setIfInBounds_ne (by omega)).trans h.c5
   c6 := by first | (simp [h5]; done) | exact (Array.getElem?_setIfInBounds_ne (by omega)).trans h.c6
   c7 := by first | (simp [h5]; done) | exact (Array.getElem?_setIfInBounds_ne (by omega)).trans h.c7
   left := h.left
   own := by
     first
       | exact Zag hYW hk (hm.own hYW (by decide) (by decide))
       | (rw [List.length_append, Za7]; exact Zag ho hk (hm.own ho (by decide) (by decide)))
   rk := by
     first
       | exact h.rk
       | (rw [List.map_append, h.rk, List.map_singleton, show rankN D (s, g) = z from hv.val])
   kn := by
     first
       | exact h.kn
       | (intro p hp
          rcases List.mem_append.1 hp with y | y
          · exact h.kn p y
          · rw [List.mem_singleton.1 y]; exact ⟨z, hv⟩)
   bes := by
     first
       | exact Zag hYW hk (hm.own hYW (by decide) (by decide))
       | (rw [List.length_append, List.map_append]; exact Zag ho hk (hm.own ho (by decide) (by decide)))
   av := fun k hk' => by
     have h1 := h.av k hk'
     have h2 : x.ownBlock ≠ some k := fun e => by
       rcases hx k e with y | y
       · first | exact h1.1 y | exact h1.2 y
       · have := (h.var k hk').lt h.bl.size; omega
     first | exact ⟨h2, h1.2⟩ | exact ⟨h1.1, h2⟩ }
theorem Ld.pushB (h : Ld w lb F A D K G qs lv pv bv ps fs bs n wr) (hw : 0 < w.heap.size) {x : Value} {b : Bool} (ho : W.ownsRow w.heap.size 4 1 x (fs.length + 1) (fs.map Value.bool ++ [.bool b])) (hg : wr.grownBy W bv.ownBlock) (hat : x.ownBlock = bv.ownBlock ∨ x.ownBlock = some wr.heap.size) :
   Ld w lb F A D K { G with c := G.c.setIfInBounds 7 x } qs lv pv x ps (fs ++ [b]) bs n (W.setCell ⟨lb, 7, none⟩ x) := by
 have hF : F lb := (h.mem.hF lb).2 (.inl rfl)
 have hge := Zak h.bes
 have hsz := h.bl.size
 have h5 : 7 < G.c.size := (Array.getElem?_eq_some_iff.1 h.c7).1
 have hm := h.mem.grownT h.bes (by decide) (by decide) (by decide) (by omega) hg
 have hk : Keeps F W (W.setCell ⟨lb, 7, none⟩ x) := Zal x hF
 have hXY : ∀ k, pv.ownBlock = some k → bv.ownBlock ≠ some k := by
   intro k h1 h2
   obtain ⟨c1, e1⟩ := Zb9 h.own k h1
   obtain ⟨c2, e2⟩ := Zb9 h.bes k h2
   rw [e1] at e2
   simp only [Option.some.injEq, Obj.cells.injEq] at e2
   exact absurd e2.2.1 (by decide)
 have hx : ∀ k, x.ownBlock = some k → bv.ownBlock = some k ∨ k = wr.heap.size := by
   intro k hk
   rcases hat with e | e
   · rw [e] at hk; exact .inl hk
   · rw [e] at hk; cases hk; exact .inr rfl
 have hYW : W.ownsRow w.heap.size _ _ pv _ _ := Zag (h.own) (F := fun k => bv.ownBlock = some k) ⟨hg.os, hg.tape, hg.output, hg.size, fun k a b => hg.block k a (fun e => b e.symm)⟩ (fun b hb e => hXY b hb e)
 have i1 : StInv wr (hot (fun k => ldA A pv bv k ∨ x.ownBlock = some k) F) D K G := h.inv.grow (W := wr) (zl) (fun i hi => by
   rcases hi with (y | y) | y
   · exact .inl (.inl y)
   · rcases hx i y with e | e
     · exact .inl (.inl (by first | exact .inr (.inl e) | exact .inr (.inr e)))
     · exact .inr (by omega)
   · exact .inl (.inr y))
 have i2 : StInv W (hot (fun k => ldA A pv bv k ∨ x.ownBlock = some k) F) D K G := i1.keeps ⟨hg.os, hg.tape, hg.output, hg.size, fun k a b => hg.block k a (fun e => b (.inl (.inl (by first | exact .inr (.inl e.symm) | exact .inr (.inr e.symm)))))⟩
 have i3 : StInv W (hot (ldA A pv x) F) D K G := i2.shrink (fun i hi => by
   rcases hi with (y | y | y) | y
   · exact .inl (.inl (.inl y))
   · first | exact .inl (.inr y) | exact .inl (.inl (.inr (.inl y)))
   · first | exact .inl (.inl (.inr (.inr y))) | exact .inl (.inr y)
   · exact .inr y)
 have hbW : Below w.heap.size w W := ⟨hg.os.trans h.bl.os, hg.tape.trans h.bl.tape, hg.output.trans h.bl.output, Nat.le_trans h.bl.size hg.size, fun k a => (hg.block k (Nat.lt_of_lt_of_le a h.bl.size) (fun e => by have := hge k e.symm; omega)).trans (h.bl.block k a)⟩
 have hvW : ∀ k, A k → VarB w W k := fun k hk' => (h.var k hk').same (fun v => hg.block k v.2.lt (fun e => by have := h.av k hk'; first | exact this.1 e.symm | exact this.2 e.symm))
 exact {
   mem := hm.put5 (by omega) x
   inv := (i3.keeps (Zal x (.inr hF))).newc _
   bl := hbW.setCell h.up x
   fup := h.fup
   kl := h.kl
   var := fun k hk' => (hvW k hk').same (fun v => hk.block k v.2.lt (hm.notF v.2))
   c5 := by first | exact (Array.getElem?_setIfInBounds_ne (by omega)).trans h.c5
   c6 := by first | (simp [h5]; done) | exact (Array.getElem?_setIfInBounds_ne (by omega)).trans h.c6
   c7 := by first | (simp [h5]; done) | exact (Array.getElem?_setIfInBounds_ne (by omega)).trans h.c7
   left := h.left
   own := by
     first
       | exact Zag hYW hk (hm.own hYW (by decide) (by decide))
       | (rw [List.length_append, Za7]; exact Zag ho hk (hm.own ho (by decide) (by decide)))
   rk := by
     first
       | exact h.rk
       | (rw [List.map_append, h.rk, List.map_singleton, show rankN D (s, g) = z from hv.val])
   kn := by
     first
       | exact h.kn
       | (intro p hp
          rcases List.mem_append.1 hp with y | y
          · exact h.kn p y
          · rw [List.mem_singleton.1 y]; exact ⟨z, hv⟩)
   bes := by
     first
       | exact Zag hYW hk (hm.own hYW (by decide) (by decide))
       | (rw [List.length_append, List.map_append]; exact Zag ho hk (hm.own ho (by decide) (by decide)))
   av := fun k hk' => by
     have h1 := h.av k hk'
     have h2 : x.ownBlock ≠ some k := fun e => by
       rcases hx k e with y | y
       · first | exact h1.1 y | exact h1.2 y
       · have := (h.var k hk').lt h.bl.size; omega
     first | exact ⟨h2, h1.2⟩ | exact ⟨h1.1, h2⟩ }
end
end
section
open Go.RowKit
def LdS (w : World) (lb : Nat) (A : Nat → Prop) (D : Addr → Option Int) (ps : List Int) (bs : List Nat) (n : Nat) (wr : World) : Prop :=
 ∃ (F : Nat → Prop) (K : List Addr) (G : StG) (qs : List NV) (lv pv bv : Value), Ld w lb F A D K G qs lv pv bv ps (besL ps) bs n wr
section
variable {w : World} {lb : Nat} {A : Nat → Prop} {D : Addr → Option Int} {ps : List Int} {bs r : List Nat} {n : Nat} {wr W : World}
theorem LdS.below (h : LdS w lb A D ps bs n wr) (hb : Below wr.heap.size wr W) : LdS w lb A D ps bs n W := by
 obtain ⟨F, K, G, qs, lv, pv, bv, h⟩ := h
 exact ⟨F, K, G, qs, lv, pv, bv, h.below hb⟩
theorem LdS.more (h : LdS w lb A D ps bs n wr) {n' : Nat} (hn : n ≤ n') : LdS w lb A D ps bs n' wr := by
 obtain ⟨F, K, G, qs, lv, pv, bv, h⟩ := h
 exact ⟨F, K, G, qs, lv, pv, bv, h.more hn⟩
theorem LdS.vars (h : LdS w lb A D ps bs n wr) (hb : Below wr.heap.size wr W) {A' : Nat → Prop} (hA : ∀ k, A' k → A k ∨ (wr.heap.size ≤ k ∧ Own W k)) : LdS w lb A' D ps bs n W := by
 obtain ⟨F, K, G, qs, lv, pv, bv, h⟩ := h
 exact ⟨F, K, G, qs, lv, pv, bv, h.vars hb hA⟩
theorem LdS.less (h : LdS w lb A D ps bs n wr) {A' : Nat → Prop} (hA : ∀ k, A' k → A k) : LdS w lb A' D ps bs n wr := h.vars (zb) (fun k hk => .inl (hA k hk))
theorem LdS.set (h : LdS w lb A D ps bs n wr) (hw : 0 < w.heap.size) {x : Nat} (hx : A x) (hv : VarO w wr x) (i : Nat) (u : Value) : LdS w lb A D ps bs n (wr.setCell ⟨x, i, none⟩ u) := by
 obtain ⟨F, K, G, qs, lv, pv, bv, h⟩ := h
 exact ⟨F, K, G, qs, lv, pv, bv, h.set hw hx hv i u⟩
theorem LdS.bl (h : LdS w lb A D ps bs n wr) : Below w.heap.size w wr := by
 obtain ⟨F, K, G, qs, lv, pv, bv, h⟩ := h
 exact h.bl
theorem LdS.var (h : LdS w lb A D ps bs n wr) : ∀ k, A k → VarB w wr k := by
 obtain ⟨F, K, G, qs, lv, pv, bv, h⟩ := h
 exact h.var
theorem LdS.num (h : LdS w lb A D ps bs n wr) {s : Int} {g : Option Addr} {z : Int} (hv : ValD D s g z) : Num wr A n s g z := by
 obtain ⟨F, K, G, qs, lv, pv, bv, h⟩ := h
 exact ⟨D, K, h.inv.forest.shrink (fun i hi => .inl (.inl hi)), h.inv.kd, h.kl, hv⟩
end
theorem Zi6 {w : World} {lb : Nat} {A : Nat → Prop} {D : Addr → Option Int} {ps : List Int} {n : Nat} {wr : World} (h : LdS w lb A D ps [] n wr) :
   Calls Tryz.prog 82 #[.pointer (some ⟨lb, 0, none⟩)] wr fun e w' => e = .returned (.tuple #[.int .i64 0, .bool false]) ∧ wr = w' := by
 obtain ⟨F, K, G, qs, lv, pv, bv, h⟩ := h
 obtain ⟨a, c, rfl⟩ := h.left.shape
 have c5 := h.mem.cell 5 h.c5
 simp only [List.length_nil] at c5
 clear h
 go_enter Tryz.func82, Tryz.ntmps82
 go_wp2
 refine bodyPost_ret (v := .tuple #[.int .i64 0, .bool false]) (by simp [results, Tryz.results82, go_sem, *]) rfl ⟨rfl, rfl⟩
theorem Zm5 {wr : World} {lb b1 off1 n1 b c : Nat} (hb : b < 256) (c5 : wr.cell? ⟨lb, 5, none⟩ = some (.slice (some ⟨b1, off1, none⟩) (n1 + 1) c)) (f5 : wr.frozen? ⟨lb, 5, none⟩ = false) (cb : wr.cell? ⟨b1, off1, none⟩ = some (.int .u8 (b : Int))) (hle : n1 + 1 ≤ c) (hmx : c ≤ maxLen) (hc : c = 1) :
   Calls Tryz.prog 82 #[.pointer (some ⟨lb, 0, none⟩)] wr fun e w' => e = .returned (.tuple #[.int .i64 (b : Int), .bool true]) ∧ w' = wr.setCell ⟨lb, 5, none⟩ (.slice (if c = 1 then some ⟨b1, off1, none⟩ else some ⟨b1, off1 + 1, none⟩) n1 (c - 1)) := by
 obtain ⟨m1, hm1⟩ : ∃ m1, m1 = n1 + 1 := ⟨_, rfl⟩
 rw [← hm1] at c5 hle
 have h1 : ¬ ((m1 : Int) < 1) := by omega
 have h2 : (1 : Int) ≤ (m1 : Int) := by omega
 have h3 : (m1 : Int) ≤ (c : Int) := by omega
 have h4 : (0 : Int) < (m1 : Int) := by omega
 have hm2 : m1 - 1 = n1 := by omega
 have hb' : (b : Int) < 256 := by omega
 rw [(if_pos hc)]
 go_enter Tryz.func82, Tryz.ntmps82
 go_wp2
 refine bodyPost_ret (v := .tuple #[.int .i64 (b : Int), .bool true]) (by simp [results, Tryz.results82, go_sem, *]) rfl ⟨rfl, ?_⟩
 first
   | rfl
   | simp [*]
theorem Zm6 {wr : World} {lb b1 off1 n1 b c : Nat} (hb : b < 256) (c5 : wr.cell? ⟨lb, 5, none⟩ = some (.slice (some ⟨b1, off1, none⟩) (n1 + 1) c)) (f5 : wr.frozen? ⟨lb, 5, none⟩ = false) (cb : wr.cell? ⟨b1, off1, none⟩ = some (.int .u8 (b : Int))) (hle : n1 + 1 ≤ c) (hmx : c ≤ maxLen) (hc : ¬ c = 1) :
   Calls Tryz.prog 82 #[.pointer (some ⟨lb, 0, none⟩)] wr fun e w' => e = .returned (.tuple #[.int .i64 (b : Int), .bool true]) ∧ w' = wr.setCell ⟨lb, 5, none⟩ (.slice (if c = 1 then some ⟨b1, off1, none⟩ else some ⟨b1, off1 + 1, none⟩) n1 (c - 1)) := by
 obtain ⟨m1, hm1⟩ : ∃ m1, m1 = n1 + 1 := ⟨_, rfl⟩
 rw [← hm1] at c5 hle
 have h1 : ¬ ((m1 : Int) < 1) := by omega
 have h2 : (1 : Int) ≤ (m1 : Int) := by omega
 have h3 : (m1 : Int) ≤ (c : Int) := by omega
 have h4 : (0 : Int) < (m1 : Int) := by omega
 have hm2 : m1 - 1 = n1 := by omega
 have hb' : (b : Int) < 256 := by omega
 rw [(if_neg hc)]
 go_enter Tryz.func82, Tryz.ntmps82
 go_wp2
 refine bodyPost_ret (v := .tuple #[.int .i64 (b : Int), .bool true]) (by simp [results, Tryz.results82, go_sem, *]) rfl ⟨rfl, ?_⟩
 first
   | rfl
   | simp [*]
theorem Zgn {w : World} {lb : Nat} {A : Nat → Prop} {D : Addr → Option Int} {ps : List Int} {n b : Nat} {r : List Nat} {wr : World} (h : LdS w lb A D ps (b :: r) n wr) (hb : b < 256) :
   Calls Tryz.prog 82 #[.pointer (some ⟨lb, 0, none⟩)] wr fun e w' => e = .returned (.tuple #[.int .i64 (b : Int), .bool true]) ∧ LdS w lb A D ps r n w' ∧ Others wr w' := by
 obtain ⟨F, K, G, qs, lv, pv, bv, h⟩ := h
 have hl := h.left
 obtain ⟨a, c, rfl⟩ := hl.shape
 simp only [List.length_cons] at hl
 rcases hl.2 with ⟨e, h0⟩ | ⟨b1, off1, cap1, e1, p1, p2, p3, p4⟩
 · omega
 cases e1
 have c5 := h.mem.cell 5 h.c5
 simp only [List.length_cons] at c5
 have f5 : wr.frozen? ⟨lb, 5, none⟩ = false := by simp [World.frozen?, h.mem.hs]
 have cb : wr.cell? ⟨b1, off1, none⟩ = some (.int .u8 (b : Int)) := (h.bl.cell (p := ⟨b1, off1, none⟩) p3).trans (p4 0 _ rfl)
 have ht := RowF.tail (F := fun _ => False) (x := [.int .u8 (b : Int)]) (ys := byV r) ⟨hl, fun _ _ h => h⟩ rfl
 have hfin : ∀ (e : Ending) (w' : World), (e = .returned (.tuple #[.int .i64 (b : Int), .bool true]) ∧ w' = wr.setCell ⟨lb, 5, none⟩ (.slice (if c = 1 then some ⟨b1, off1, none⟩ else some ⟨b1, off1 + 1, none⟩) r.length (c - 1))) → e = .returned (.tuple #[.int .i64 (b : Int), .bool true]) ∧ LdS w lb A D ps r n w' ∧ Others wr w' := by
   rintro e w' ⟨rfl, rfl⟩
   refine ⟨rfl, ⟨_, _, _, _, _, _, _, h.setLeft ht.1⟩, fun x c t fr hx h1 h2 h3 => (Below.heap_setCell _ _ _ _ (fun e => ?_)).trans hx⟩
   have e : x = lb := by first | exact e | exact e.symm
   have h7 := h.mem.hs
   rw [← e, hx] at h7
   simp only [Option.some.injEq, Obj.cells.injEq] at h7
   rcases h.mem.tt with y | y
   · exact h1 (h7.2.1.trans y)
   · exact h2 (h7.2.1.trans y)
 by_cases hc : c = 1
 · exact (Zm5 hb c5 f5 cb p1 p2 hc).mono hfin
 · exact (Zm6 hb c5 f5 cb p1 p2 hc).mono hfin
theorem Zi7 (a b : Nat) (ha : a < 256) (hb : b < 256) : bits .or .i64 ((a : Int) * 256) (b : Int) = ((a * 256 + b : Nat) : Int) := by
 have e : ((a : Int) * 256) = ((a * 256 : Nat) : Int) := by omega
 rw [e]
 have h1 : (BitVec.ofInt 64 ((a * 256 : Nat) : Int)).toNat = a * 256 := by
   rw [BitVec.ofInt_natCast, BitVec.toNat_ofNat]; omega
 have h2 : (BitVec.ofInt 64 ((b : Nat) : Int)).toNat = b := by
   rw [BitVec.ofInt_natCast, BitVec.toNat_ofNat]; omega
 have h3 : a * 256 ||| b = a * 256 + b := by
   rw [show a * 256 = a <<< 8 by rw [Nat.shiftLeft_eq], Nat.shiftLeft_add_eq_or_of_lt hb]
 have h4 : ((BitVec.ofInt 64 ((a * 256 : Nat) : Int) ||| BitVec.ofInt 64 ((b : Nat) : Int)).toNat) = a * 256 + b := by
   rw [BitVec.toNat_or, h1, h2, h3]
 unfold bits
 show IntKind.i64.wrap (((BitVec.ofInt 64 ((a * 256 : Nat) : Int) ||| BitVec.ofInt 64 ((b : Nat) : Int)).toNat : Nat) : Int) = _
 rw [h4]
 have : a * 256 + b < 65536 := by omega
 simp [IntKind.wrap, IntKind.bits, IntKind.signed]
 all_goals omega
theorem Zca {bs : List Nat} {m : Nat} {r : List Nat} (h : readTwo bs = some (m, r)) : ∃ a b, bs = a :: b :: r ∧ m = a * 256 + b := by
 match bs, h with
 | a :: b :: r', h => simp only [readTwo, Option.some.injEq, Prod.mk.injEq] at h; obtain ⟨rfl, rfl⟩ := h; exact ⟨a, b, rfl, rfl⟩
theorem Zby {w : World} {lb : Nat} {A : Nat → Prop} {D : Addr → Option Int} {ps : List Int} {n m : Nat} {bs r : List Nat} {wr : World} (h : LdS w lb A D ps bs n wr) (hb : ByteL bs) (hr : readTwo bs = some (m, r)) :
   Calls Tryz.prog 60 #[.pointer (some ⟨lb, 0, none⟩)] wr fun e w' => e = .returned (.tuple #[.int .i64 (m : Int), .bool true]) ∧ LdS w lb A D ps r n w' ∧ Others wr w' := by
 obtain ⟨a, b, rfl, rfl⟩ := Zca hr
 have ha : a < 256 := hb a (by simp)
 have hb2 : b < 256 := hb b (by simp)
 have h1 := Zgn h ha
 have hor := Zi7 a b ha hb2
 have ha' : (a : Int) < 256 := by omega
 have hb' : (b : Int) < 256 := by omega
 clear h hb hr
 go_enter Tryz.func60, Tryz.ntmps60
 go_wp2_with (first
   | (have hq := H1
      go_at_call 82; refine (Zgn hq.out.1 hb2).mono ?_; rintro e2 w2 ⟨rfl, hS2, ho2⟩
      have H2 := zh (zi hS2 ho2)
      clear hS2 hq ho2)
   | (go_at_call 82; refine h1.mono ?_; rintro e1 w1 ⟨rfl, hS1, ho1⟩
      have H1 := zh (zi hS1 ho1)
      clear hS1 ho1))
 refine bodyPost_ret (v := .tuple #[.int .i64 ((a * 256 + b : Nat) : Int), .bool true]) (by simp [results, Tryz.results60, go_sem, *]) rfl ⟨rfl, H2.out.1, fun x c t fr hx h1 h2 h3 => H2.out.2 x c t fr (H1.out.2 x c t fr hx h1 h2 h3) h1 h2 h3⟩
theorem Ze8 {w : World} {lb : Nat} {A : Nat → Prop} {D : Addr → Option Int} {ps : List Int} {n : Nat} {bs : List Nat} {wr : World} (h : LdS w lb A D ps bs n wr) (hb : ByteL bs) (hr : readTwo bs = none) :
   Calls Tryz.prog 60 #[.pointer (some ⟨lb, 0, none⟩)] wr fun e w' => (∃ m : Int, e = .returned (.tuple #[.int .i64 m, .bool false])) ∧ LdS w lb A D ps [] n w' ∧ Others wr w' := by
 match bs, hr with
 | [], _ =>
   have h1 := Zi6 h
   have HS := zh h
   clear h hb
   have hor : bits .or .i64 0 0 = 0 := by have := Zi7 0 0 (by omega) (by omega); simpa using this
   go_enter Tryz.func60, Tryz.ntmps60
   go_wp2_with (first
     | (go_at_call 82; refine (Zi6 HS.out).mono ?_; rintro e1 w1 ⟨rfl, rfl⟩))
   refine bodyPost_ret (v := .tuple #[.int .i64 0, .bool false]) (by simp [results, Tryz.results60, go_sem, *]) rfl ⟨⟨_, rfl⟩, HS.out, fun x c t fr hx _ _ _ => hx⟩
 | [a], _ =>
   have ha : a < 256 := hb a (by simp)
   have h1 := Zgn h ha
   have hor : bits .or .i64 ((a : Int) * 256) 0 = (a : Int) * 256 := by have := Zi7 a 0 ha (by omega); simpa using this
   have ha' : (a : Int) < 256 := by omega
   clear h hb
   go_enter Tryz.func60, Tryz.ntmps60
   go_wp2_with (first
     | (have hq := H1
        go_at_call 82; refine (Zi6 hq.out.1).mono ?_; rintro e2 w2 ⟨rfl, rfl⟩
        clear hq)
     | (go_at_call 82; refine h1.mono ?_; rintro e1 w1 ⟨rfl, hS1, ho1⟩
        have H1 := zh (zi hS1 ho1)
        clear hS1 ho1))
   refine bodyPost_ret (v := .tuple #[.int .i64 ((a : Int) * 256), .bool false]) (by simp [results, Tryz.results60, go_sem, *]) rfl ⟨⟨_, rfl⟩, H1.out⟩
end
section
open Go.RowKit
section
variable {w : World} {lb : Nat} {F A : Nat → Prop} {D : Addr → Option Int} {K : List Addr} {G : StG} {qs : List NV} {lv pv bv : Value} {ps : List Int} {fs : List Bool} {bs : List Nat} {n : Nat} {wr W : World}
theorem Ld.others {F' : Nat → Prop} (h : Ld w lb F A D K G qs lv pv bv ps fs bs n wr) (st : Step wr W F F') : Others wr W := fun x c t fr hx h1 h3 h4 => Own.kept h.mem st.keeps hx h1 h3 h4
theorem LdS.compare (h : LdS w lb A D ps bs n wr) (hn : n ≤ big) {s s' z z' : Int} {g g' : Option Addr} (hx : ValD D s g z) (hy : ValD D s' g' z') :
   Calls Tryz.prog 50 #[.pointer (some ⟨lb, 0, none⟩), .agg #[.int .i64 s, .pointer g], .agg #[.int .i64 s', .pointer g']] wr fun e w' => e = .returned (.int .i64 (sgn (z - z'))) ∧ LdS w lb A D ps bs n w' ∧ Others wr w' := by
 obtain ⟨F, K, G, qs, lv, pv, bv, h⟩ := h
 refine (Ze0 (K := K) (by have := h.kl; omega) (z.natAbs + 1) (ldA A pv bv) wr F G h.mem h.inv D D h.inv.forest h.inv.forest h.inv.kd h.inv.kd s g z s' g' z' hx hy (by omega)).mono ?_
 rintro e w' ⟨rfl, F', G', m2, i2, st2, gg2⟩
 exact ⟨rfl, ⟨F', K, G', qs, lv, pv, bv, h.grow (add := 0) ⟨m2, i2, st2, gg2, by omega⟩⟩, h.others st2⟩
theorem LdS.follows (h : LdS w lb A D ps bs n wr) (hn : n + 1 ≤ big) {e f : Nat} {s s' : Int} {g g' : Option Addr} (hx : ValD D s g (e : Int)) (hy : ValD D s' g' (f : Int)) (hw : wt (e : Int) ≤ 29999) :
   Calls Tryz.prog 83 #[.pointer (some ⟨lb, 0, none⟩), .agg #[.int .i64 s, .pointer g], .agg #[.int .i64 s', .pointer g']] wr fun x w' => ∃ D' : Addr → Option Int, x = .returned (.bool (decide (f = e + 1))) ∧ LdS w lb A D' ps bs (n + 1) w' ∧ (∀ p z, D p = some z → D' p = some z) ∧ Others wr w' := by
 obtain ⟨F, K, G, qs, lv, pv, bv, h⟩ := h
 refine (Zfl (Zms lb (e + 1)) h.mem h.inv h.lt hx hy (by omega) hw (by have := h.kl; omega)).mono ?_
 rintro x w' ⟨F', D', K', G', rfl, hg⟩
 exact ⟨D', rfl, ⟨F', K', G', qs, lv, pv, bv, h.grow hg⟩, hg.2.2.2.1.d, h.others hg.2.2.1⟩
theorem LdS.keep (h : LdS w lb A D ps bs n wr) (hn : n ≤ big) {v : Value} {ts : List TV} {base : Nat} (ho : wr.ownsRow base 62 3 v ts.length (flatT ts)) (hA : ∀ k, v.ownBlock = some k → ¬ A k) (hlen : ts.length ≤ 30000) {l : List Tm} (ht : TVals D ts l) (hna : NA l) :
   Calls Tryz.prog 68 #[.pointer (some ⟨lb, 0, none⟩), v] wr fun x w' => ∃ (s : Int) (g : Option Addr) (D' : Addr → Option Int), x = .returned (.agg #[.int .i64 s, .pointer g]) ∧ ValD D' s g (val l) ∧ LdS w lb A D' ps bs (n + 1) w' ∧ (∀ p z, D p = some z → D' p = some z) ∧ Others wr w' := by
 obtain ⟨F, K, G, qs, lv, pv, bv, h⟩ := h
 have hr : RowF wr (hot (ldA A pv bv) F) 3 v ts.length (flatT ts) := by
   refine ⟨RowV.of_own ho, fun b hb hh => ?_⟩
   obtain ⟨c, hc⟩ := Zb9 ho b hb
   rcases hh with (x | x | x) | x
   · exact hA b hb x
   · obtain ⟨c2, hc2⟩ := Zb9 h.own b x
     rw [hc] at hc2
     simp only [Option.some.injEq, Obj.cells.injEq] at hc2
     exact absurd hc2.2.1 (by decide)
   · obtain ⟨c2, hc2⟩ := Zb9 h.bes b x
     rw [hc] at hc2
     simp only [Option.some.injEq, Obj.cells.injEq] at hc2
     exact absurd hc2.2.1 (by decide)
   · exact h.mem.own ho (by decide) (by decide) b hb x
 refine (Zeh (ldA A pv bv) h.mem h.inv h.lt hr hlen ht hna (by have := h.kl; omega)).mono ?_
 rintro x w' ⟨s, g, F', D', K', G', rfl, a1, m2, i2, st2, gg2, hk2⟩
 exact ⟨s, g, D', rfl, a1, ⟨F', K', G', qs, lv, pv, bv, h.grow ⟨m2, i2, st2, gg2, hk2⟩⟩, gg2.d, h.others st2⟩
end
theorem infoeB : (Tryz.prog.info? 4).map (fun i => (i.zero, i.size, i.bytes)) = some (some (.bool false), 1, 1) := by kernel_rfl
theorem Ld.far {w : World} {lb : Nat} {F A : Nat → Prop} {D : Addr → Option Int} {K : List Addr} {G : StG} {qs : List NV} {lv pv bv : Value} {ps : List Int} {fs : List Bool} {bs : List Nat} {n : Nat} {W w1 : World} (h : Ld w lb F A D K G qs lv pv bv ps fs bs n W) {v : Value} {base m size : Nat} {e : TypeId} {xs : List Value} (ho : W.ownsRow base e size v m xs) (h1 : e ≠ 87) (h2 : e ≠ 102) (hg : W.grownBy w1 v.ownBlock) :
   w1.cell? ⟨lb, 6, none⟩ = some pv ∧ w1.cell? ⟨lb, 7, none⟩ = some bv ∧ w1.frozen? ⟨lb, 6, none⟩ = false ∧ w1.frozen? ⟨lb, 7, none⟩ = false := by
 have hF : F lb := (h.mem.hF lb).2 (.inl rfl)
 have hne : v.ownBlock ≠ some lb := fun e => h.mem.own ho h1 h2 lb e hF
 have hh : w1.heap[lb]? = some (.cells G.c G.t (0, 0)) := by
   rw [hg.block lb h.mem.lt (fun e => hne e.symm)]; exact h.mem.hs
 refine ⟨by simp [World.cell?, hh, h.c6], by simp [World.cell?, hh, h.c7], by simp [World.frozen?, hh], by simp [World.frozen?, hh]⟩
theorem Ld.stepP {w : World} {lb : Nat} {F A : Nat → Prop} {D : Addr → Option Int} {K : List Addr} {G : StG} {qs : List NV} {lv pv bv : Value} {ps : List Int} {fs : List Bool} {bs : List Nat} {n : Nat} {w1 : World} (h : Ld w lb F A D K G qs lv pv bv ps fs bs n w1) (hw : 0 < w.heap.size) {s z : Int} {g : Option Addr} (hv : ValD D s g z) {xb : Nat}
   (hx : w1.heap[xb]? = some (.cells #[.int .i64 s, .pointer g] 28 (0, 0))) (hxn : pv.ownBlock ≠ some xb) : ∀ W, Below w1.heap.size w1 W → ∀ g6 k6 w6, w6.ownsRow w.heap.size 28 2 (.slice (some ⟨g6, 0, none⟩) (ps.length + 1) k6) (ps.length + 1) (flatN qs ++ cellsN (s, g)) → W.grownBy w6 pv.ownBlock → (pv.ownBlock = some g6 ∨ g6 = W.heap.size) →
   (w6.cell? ⟨lb, 6, none⟩ = some pv ∧ w6.cell? ⟨xb, 0, none⟩ = some (.int .i64 s) ∧ w6.cell? ⟨xb, 1, none⟩ = some (.pointer g)) ∧ w6.frozen? ⟨lb, 6, none⟩ = false ∧ w6.cell? ⟨lb, 7, none⟩ = some bv ∧ w6.frozen? ⟨lb, 7, none⟩ = false ∧ w.heap.size ≤ w6.heap.size ∧ (∀ v : Value, (w6.setCell ⟨lb, 6, none⟩ v).cell? ⟨xb, 0, none⟩ = some (.int .i64 s) ∧ (w6.setCell ⟨lb, 6, none⟩ v).cell? ⟨xb, 1, none⟩ = some (.pointer g)) ∧
   Ld w lb F A D K { G with c := G.c.setIfInBounds 6 (.slice (some ⟨g6, 0, none⟩) (ps.length + 1) k6) } (qs ++ [(s, g)]) lv (.slice (some ⟨g6, 0, none⟩) (ps.length + 1) k6) bv (ps ++ [z]) fs bs n (w6.setCell ⟨lb, 6, none⟩ (.slice (some ⟨g6, 0, none⟩) (ps.length + 1) k6)) := by
 intro W hW g6 k6 w6 ho hg hat
 have hb := h.below hW
 obtain ⟨f1, f2, f3, f4⟩ := hb.far hb.own (by decide) (by decide) hg
 have hx6 := (hg.block xb (by have := Zap hx; have := hW.size; omega) (fun e => hxn e.symm)).trans ((hW.block _ (Zap hx)).trans hx)
 obtain ⟨x0, x1⟩ := Zab hx6
 have hp := hb.pushP hw (x := .slice (some ⟨g6, 0, none⟩) (ps.length + 1) k6) hv ho hg (by
   rcases hat with e | e
   · exact .inl e.symm
   · exact .inr (by simp [Value.ownBlock, e]))
 refine ⟨⟨f1, x0, x1⟩, f3, f2, f4, ?_, fun v => Zab ((Below.heap_setCell _ _ _ _ (fun e => ?_)).trans hx6), hp⟩
 case refine_2 =>
   have e : xb = lb := by first | exact e | exact e.symm
   have h7 := h.mem.hs
   rw [← e, hx] at h7
   simp only [Option.some.injEq, Obj.cells.injEq] at h7
   rcases h.mem.tt with y | y <;> rw [y] at h7 <;> exact absurd h7.2.1 (by decide)
 have := hb.bl.size
 have := hg.size
 omega
theorem Ld.stepB {w : World} {lb : Nat} {F A : Nat → Prop} {D : Addr → Option Int} {K : List Addr} {G : StG} {qs : List NV} {lv pv bv : Value} {ps : List Int} {z : Int} {bs : List Nat} {n : Nat} {w1 : World} (h : Ld w lb F A D K G qs lv pv bv (ps ++ [z]) (besL ps) bs n w1) (hw : 0 < w.heap.size) {b : Bool} (hb : b = decide (0 < ps.length ∧ z = ps.getD (ps.length - 1) 0 + 1)) :
   ∀ W, Below w1.heap.size w1 W → ∀ (y : Value) w8, w8.ownsRow w.heap.size 4 1 y ((besL ps).length + 1) ((besL ps).map Value.bool ++ [.bool b]) → W.grownBy w8 bv.ownBlock → (y.ownBlock = bv.ownBlock ∨ y.ownBlock = some W.heap.size) →
   w8.frozen? ⟨lb, 7, none⟩ = false ∧ w8.cell? ⟨lb, 7, none⟩ = some bv ∧ LdS w lb A D (ps ++ [z]) bs n (w8.setCell ⟨lb, 7, none⟩ y) := by
 intro W hW y w8 ho hg hat
 have hbl := h.below hW
 obtain ⟨f1, f2, f3, f4⟩ := hbl.far hbl.bes (by decide) (by decide) hg
 have h4 := hbl.pushB hw ho hg hat
 rw [hb, ← Zoo] at h4
 exact ⟨f4, f2, _, _, _, _, _, _, _, h4⟩
end
end Go.Proofs.YtlkmgclbckojgaaGreatDoor

