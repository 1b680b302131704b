import Derived.Test.YtlkmgclbckojgaaGreatDoorN2
import Derived.Test.YtlkmgclbckojgaaGreatDoorY5
import Derived.Test.YtlkmgclbckojgaaGreatDoorP5
import Derived.Maps.AppendAt
set_option linter.unusedVariables false
set_option linter.unusedSimpArgs false
set_option maxHeartbeats 8000000
set_option maxRecDepth 100000
namespace Go.Proofs.YtlkmgclbckojgaaGreatDoor
section
open Go.RowKit
def heightF (D : Addr → Option Int) (ps : List NV) : Int × Option Addr → Option Value := fun k => if k ∈ ps then some (.int .i64 (hgt (valD D k.1 k.2))) else none
def PF (hb cp : Nat) (v : Value) : Nat → Prop := fun k => k = hb ∨ k = cp ∨ v.ownBlock = some k
structure PartS (w0 : World) (D : Addr → Option Int) (ch cw cp hb : Nat) (wr : World) (ps : List NV) (v : Value) : Prop where
 bl : Below w0.heap.size w0 wr
 h1 : wr.heap[ch]? = some (.cells #[.map (some hb)] 94 (0, 0))
 h2 : wr.heap[cw]? = some (.cells #[.func (.func 78) #[] #[.pointer (some ⟨ch, 0, none⟩), .pointer (some ⟨cw, 0, none⟩), .pointer (some ⟨cp, 0, none⟩)]] 47 (0, 0))
 h3 : wr.heap[cp]? = some (.cells #[v] 30 (0, 0))
 own : wr.ownsRow w0.heap.size 28 2 v ps.length (flatN ps)
 map : MapFn encN okN wr hb (heightF D ps) ps.length
 c1 : w0.heap.size ≤ ch
 c2 : w0.heap.size ≤ cw
 c3 : w0.heap.size ≤ cp
 c4 : w0.heap.size ≤ hb
theorem Zap {w : World} {k : Nat} {o : Obj} (h : w.heap[k]? = some o) : k < w.heap.size := by
 rcases Nat.lt_or_ge k w.heap.size with x | x
 · exact x
 · simp [Array.getElem?_eq_none x] at h
section
variable {w0 : World} {D : Addr → Option Int} {ch cw cp hb : Nat} {wr W : World} {ps : List NV} {v : Value}
theorem PartS.pf (h : PartS w0 D ch cw cp hb wr ps v) : ∀ k, PF hb cp v k → w0.heap.size ≤ k ∧ k < wr.heap.size := by
 intro k hk
 rcases hk with rfl | rfl | x
 · obtain ⟨es, cl, l, e, _⟩ := h.map; exact ⟨h.c4, Zap e⟩
 · exact ⟨h.c3, Zap h.h3⟩
 · exact h.own.lt k x
theorem PartS.below (h : PartS w0 D ch cw cp hb wr ps v) (hb' : Below wr.heap.size wr W) : PartS w0 D ch cw cp hb W ps v :=
 ⟨h.bl.trans (hb'.mono h.bl.size), (hb'.block _ (Zap h.h1)).trans h.h1, (hb'.block _ (Zap h.h2)).trans h.h2, (hb'.block _ (Zap h.h3)).trans h.h3, Zac h.own hb',
   h.map.keep (hb'.block _ (h.pf hb (.inl rfl)).2) (Zcc hb'), h.c1, h.c2, h.c3, h.c4⟩
theorem PartS.forest (h : PartS w0 D ch cw cp hb wr ps v) (hf : Forest w0 cold D) : Forest wr (PF hb cp v) D :=
 (hf.grow (W := w0) (zl) (fun i hi => .inr (h.pf i hi).1)).keeps ⟨h.bl.os, h.bl.tape, h.bl.output, h.bl.size, fun k hk _ => h.bl.block k hk⟩
theorem PartS.apart (h : PartS w0 D ch cw cp hb wr ps v) : ¬ PF hb cp v ch ∧ ¬ PF hb cp v cw ∧ hb ≠ cp ∧ (∀ k, v.ownBlock = some k → k ≠ hb ∧ k ≠ cp) := by
 obtain ⟨es, cl, l, e, _⟩ := h.map
 have hrow : ∀ k, v.ownBlock = some k → ∃ c, wr.heap[k]? = some (.cells c 28 (0, 0)) := by
   intro k hk
   obtain ⟨_, h2⟩ := h.own
   rcases h2 with ⟨rfl, _⟩ | ⟨g, cap, cur, rfl, _, hh, _⟩
   · simp [Value.ownBlock] at hk
   · simp only [Value.ownBlock, Option.some.injEq] at hk
     subst hk; exact ⟨cur, hh⟩
 have h1 := h.h1
 have h2 := h.h2
 have h3 := h.h3
 refine ⟨?_, ?_, ?_, fun k hk => ⟨?_, ?_⟩⟩
 · rintro (rfl | rfl | x)
   · rw [h1] at e; cases e
   · rw [h1] at h3; cases h3
   · obtain ⟨c, hc⟩ := hrow _ x; rw [h1] at hc; cases hc
 · rintro (rfl | rfl | x)
   · rw [h2] at e; cases e
   · rw [h2] at h3; cases h3
   · obtain ⟨c, hc⟩ := hrow _ x; rw [h2] at hc; cases hc
 · rintro rfl; rw [h3] at e; cases e
 · rintro rfl; obtain ⟨c, hc⟩ := hrow _ hk; rw [e] at hc; cases hc
 · rintro rfl; obtain ⟨c, hc⟩ := hrow _ hk; rw [h3] at hc; cases hc
end
theorem Zil {w : World} {F : Nat → Prop} {D : Addr → Option Int} (hf : Forest w F D) {ps : List NV} (hk : ∀ p ∈ ps, knownN D p) {s : Int} {g : Option Addr} {z : Int} (hv : ValD D s g z) : (s, g) ∈ ps ↔ z ∈ ps.map (rankN D) := by
 constructor
 · intro h
   exact List.mem_map.2 ⟨(s, g), h, hv.val⟩
 · intro h
   obtain ⟨p, hp, e⟩ := List.mem_map.1 h
   obtain ⟨y, hy⟩ := hk p hp
   have : y = z := by rw [← e]; exact hy.val.symm
   subst this
   obtain ⟨h1, h2⟩ := ValD.inj hf hy hv
   rw [← h1, ← h2]; exact hp
end
section
open Go.RowKit
theorem Zlq {D : Addr → Option Int} {ps : List NV} {s : Int} {g : Option Addr} {z : Int} (hv : ValD D s g z) :
   (fun k' => if k' = (s, g) then some (Value.int .i64 (hgt z)) else heightF D ps k') = heightF D (ps ++ [(s, g)]) := by
 funext k
 unfold heightF
 by_cases hk : k = (s, g)
 · subst hk
   simp [hv.val]
 · rw [if_neg hk]
   have : (k ∈ ps ++ [(s, g)]) ↔ k ∈ ps := by simp [hk]
   simp only [this]
def mapW (w : World) (r : Nat) (es : Array MapEntry) (cl : Nat) : World := { w with heap := w.heap.setIfInBounds r (.map es cl) }
theorem Zb2 {w : World} {r : Nat} {es : Array MapEntry} {cl : Nat} {k : Nat} (h : k ≠ r) : (mapW w r es cl).heap[k]? = w.heap[k]? := by
 show (w.heap.setIfInBounds r _)[k]? = _
 rw [Array.getElem?_setIfInBounds_ne (fun e => h e.symm)]
theorem Zbs {w : World} {r : Nat} {es : Array MapEntry} {cl : Nat} : (mapW w r es cl).heap.size = w.heap.size := by
 show (w.heap.setIfInBounds r _).size = _
 simp
theorem PartS.add {w0 : World} {D : Addr → Option Int} {ch cw cp hb : Nat} {wl W : World} {ps : List NV} {v v' : Value} (h : PartS w0 D ch cw cp hb wl ps v) {s : Int} {g : Option Addr} {z : Int} (hv : ValD D s g z) (hn : (s, g) ∉ ps)
   {es : Array MapEntry} {cl : Nat} (hm : MapFn encN okN (mapW wl hb es cl) hb (fun k' => if k' = (s, g) then some (.int .i64 (hgt z)) else heightF D ps k') (if (heightF D ps (s, g)).isSome then ps.length else ps.length + 1))
   {X : Obj} (ho : W.ownsRow w0.heap.size 28 2 v' (ps.length + 1) (flatN ps ++ cellsN (s, g))) (hg : ((mapW wl hb es cl).alloc X).grownBy W v.ownBlock) (hat : v'.ownBlock = v.ownBlock ∨ v'.ownBlock = some ((mapW wl hb es cl).alloc X).heap.size) :
   PartS w0 D ch cw cp hb (W.setCell ⟨cp, 0, none⟩ v') (ps ++ [(s, g)]) v' ∧ Keeps (PF hb cp v) wl (W.setCell ⟨cp, 0, none⟩ v') ∧ (∀ k, v'.ownBlock = some k → v.ownBlock = some k ∨ wl.heap.size ≤ k) := by
 obtain ⟨a1, a2, a3, a4⟩ := h.apart
 have hsz : ((mapW wl hb es cl).alloc X).heap.size = wl.heap.size + 1 := by simp [Zbs]
 have hblk : ∀ k, k < wl.heap.size → k ≠ hb → v.ownBlock ≠ some k → W.heap[k]? = wl.heap[k]? := by
   intro k h1 h2 h3
   rw [hg.block k (by omega) (fun e => h3 e.symm), Below.heap_alloc _ _ _ (by rw [Zbs]; exact h1), Zb2 h2]
 have hkeep : Keeps (PF hb cp v) wl (W.setCell ⟨cp, 0, none⟩ v') := by
   refine ⟨hg.os, hg.tape, hg.output, ?_, fun k hk hF => ?_⟩
   · have := hg.size; simp [World.setCell]; omega
   · rw [Below.heap_setCell _ _ _ _ (fun e => hF (.inr (.inl (by first | exact e | exact e.symm))))]
     exact hblk k hk (fun e => hF (.inl e)) (fun e => hF (.inr (.inr e)))
 have hown : ∀ k, v'.ownBlock = some k → v.ownBlock = some k ∨ wl.heap.size ≤ k := by
   intro k hk
   rcases hat with e | e
   · rw [e] at hk; exact .inl hk
   · rw [e] at hk; cases hk; exact .inr (by omega)
 have l3 := Zap h.h3
 have hvcp : v.ownBlock ≠ some cp := fun e => (a4 cp e).2 rfl
 have hv'cp : v'.ownBlock ≠ some cp := fun e => by
   rcases hown cp e with x | x
   · exact hvcp x
   · omega
 have e3 : W.heap[cp]? = some (.cells #[v] 30 (0, 0)) := (hblk cp l3 (fun e => a3 e.symm) hvcp).trans h.h3
 refine ⟨⟨h.bl.trans (hkeep.below (fun i hi => (h.pf i hi).1) h.bl.size), ?_, ?_, ?_, ?_, ?_, h.c1, h.c2, h.c3, h.c4⟩, hkeep, hown⟩
 · exact (hkeep.block ch (Zap h.h1) a1).trans h.h1
 · exact (hkeep.block cw (Zap h.h2) a2).trans h.h2
 · simp [World.setCell, Array.getElem?_modify, e3]
 · rw [Za7, List.length_append]
   refine Zag (F := fun k => k = cp) (by simpa [flatN] using ho) (Zal _ rfl) (fun b hb' e => hv'cp (by rw [hb', e]))
 · have hnone : heightF D ps (s, g) = none := by simp [heightF, hn]
   rw [hnone] at hm
   simp only [Option.isSome_none, Bool.false_eq_true, if_false] at hm
   rw [Zlq hv] at hm
   rw [List.length_append, List.length_singleton]
   obtain ⟨es0, cl0, l0, e0, _⟩ := h.map
   have lb := Zap e0
   refine hm.keep ?_ ?_
   · rw [Below.heap_setCell _ _ _ _ a3, hg.block hb (by omega) (fun e => (a4 hb e.symm).1 rfl), Below.heap_alloc _ _ _ (by rw [Zbs]; exact lb)]
   · intro k hk
     rcases hk with hk | ⟨b, u, e, hbk⟩
     · exact .inl hk
     · refine .inr ⟨b, u, e, ?_⟩
       have hbn : b ≠ hb := by
         rintro rfl
         obtain ⟨es1, cl1, l1, e1, _⟩ := hm
         rw [e1] at hbk; cases hbk
       have hbl := Zap hbk
       rw [Zbs] at hbl
       rw [Zb2 hbn] at hbk
       have hbc : b ≠ cp := by rintro rfl; rw [h.h3] at hbk; cases hbk
       rw [Below.heap_setCell _ _ _ _ hbc, hblk b hbl hbn (fun e => by
         obtain ⟨_, h2⟩ := h.own
         rcases h2 with ⟨rfl, _⟩ | ⟨g', cap, cur, rfl, _, hh, _⟩
         · simp [Value.ownBlock] at e
         · simp only [Value.ownBlock, Option.some.injEq] at e
           subst e
           rw [hbk] at hh; cases hh)]
       exact hbk
end
section
open Go.RowKit
theorem Zre {l : List Tm} {n : Nat} (h : ∀ t ∈ l, hgt (t.2 : Int) + 1 ≤ n) : hgtL l ≤ n := Zd7 (fun t => hgt (t.2 : Int) + 1) l 0 n (by omega) h
theorem Zkn {w0 : World} {D : Addr → Option Int} (hf : Forest w0 cold D) {C : List Int} (hC : ClosedL C) (hCl : C.length ≤ 8000000000000) (ch cw cp hb : Nat) :
   ∀ (n : Nat) (wr : World) (ps : List NV) (v : Value), PartS w0 D ch cw cp hb wr ps v → (∀ p ∈ ps, knownN D p) → (∀ p ∈ ps, rankN D p ∈ C) → (ps.map (rankN D)).Nodup → ∀ (s : Int) (g : Option Addr) (z : Int), ValD D s g z → z ∈ C → z.natAbs < n →
     Calls Tryz.prog 78 #[.agg #[.int .i64 s, .pointer g], .pointer (some ⟨ch, 0, none⟩), .pointer (some ⟨cw, 0, none⟩), .pointer (some ⟨cp, 0, none⟩)] wr fun e w' => ∃ (ps' : List NV) (v' : Value), e = .returned (.int .i64 (hgt z)) ∧ PartS w0 D ch cw cp hb w' ps' v' ∧ (∀ p ∈ ps', knownN D p) ∧ (∀ p ∈ ps', rankN D p ∈ C) ∧
       ps'.map (rankN D) = vis z (ps.map (rankN D)) ∧ Keeps (PF hb cp v) wr w' ∧ (∀ k, v'.ownBlock = some k → v.ownBlock = some k ∨ wr.heap.size ≤ k) := by
 intro n
 induction n with
 | zero => intro wr ps v hP hk hkC hnd s g z hv hz hn; omega
 | succ n ih =>
   intro wq ps v hP hk hkC hnd s g z hv hz hn
   have hb1 : Below wq.heap.size wq (wq.alloc (.cells #[.int .i64 s, .pointer g] 28)) := (zb).alloc (zl) _
   have P1 := hP.below hb1
   have hin := Zil (hP.forest hf) hk hv
   have hxb := heap_alloc_new wq (.cells #[.int .i64 s, .pointer g] 28)
   have hz1 : (wq.alloc (.cells #[.int .i64 s, .pointer g] 28)).heap.size = wq.heap.size + 1 := by simp
   have lk := MapFn.lookup keyN Tryz.underlying94 (z := .int .i64 0) (fun W => by kernel_rfl) P1.map (s, g) (hv.ptr (P1.forest hf))
   unfold encN at lk
   have c1 := Zat P1.h1
   by_cases hmem : (s, g) ∈ ps
   · have hl : heightF D ps (s, g) = some (.int .i64 (hgt z)) := by simp [heightF, hmem, hv.val]
     rw [hl] at lk
     simp only [Option.getD_some, Option.isSome_some] at lk
     have HX := zh (zi P1 (zi hk (zi hkC (zi (Zig (hin.1 hmem)) hb1))))
     clear hP hk hkC hnd hv hz hn hb1 P1 hin hxb hz1 hl hmem
     go_enter Tryz.func78, Tryz.ntmps78
     go_wp2
     go_ret
     obtain ⟨P1, hk, hkC, hvi, hb1⟩ := HX.out
     exact ⟨ps, v, rfl, P1, hk, hkC, hvi.symm, .of_below hb1 (zl), fun k hk => .inl hk⟩
   · have hl : heightF D ps (s, g) = none := by simp [heightF, hmem]
     rw [hl] at lk
     simp only [Option.getD_none, Option.isSome_none] at lk
     have ht := Zbt s g z (wq.alloc (.cells #[.int .i64 s, .pointer g] 28)) (P1.forest hf) hv (fun i hi => (P1.pf i hi).2)
     have HX := zh (zi hP (zi hk (zi hkC (zi hnd (zi hv (zi hz (zi hn (zi hb1 (zi P1 (zi hin (zi hxb (zi hz1 (zi hmem hf)))))))))))))
     clear hP hk hkC hnd hv hz hn hb1 P1 hin hxb hz1 hl hmem
     go_enter Tryz.func78, Tryz.ntmps78
     go_wp2_with (first
       | (go_at_call 55; refine ht.mono ?_; rintro x2 w2 ⟨vt, ts, rfl, hrt, htv, hb2⟩
          obtain ⟨a, c, rfl⟩ := hrt.1.shape
          have HT := zh (zi hrt (zi htv hb2))
          clear hrt htv hb2))
     have hl9 : (ts.length : Int) ≤ 30000 := by
       obtain ⟨hrt, htv, hb2⟩ := HT.out
       obtain ⟨hP, hk, hkC, hnd, hv, hz, hn, hb1, P1, hin, hxb, hz1, hmem, hf⟩ := HX.out
       have := htv.len
       cases g with
       | none => have h1 := (Zb8 hv.2).2.2 z (Za5 z); unfold wt at h1; omega
       | some p => have h1 := (hf.great p z hv.2).2; unfold wide wt at h1; omega
     clear lk c1
     go_loopw [6, 21] (fun h i wl => ∃ (k : Nat) (ps' : List NV) (v' : Value), k ≤ ts.length ∧ i = .int .i64 k ∧ h = .int .i64 (hgtL ((naf z).take k) : Nat) ∧ PartS w0 D ch cw cp hb wl ps' v' ∧ (∀ p ∈ ps', knownN D p) ∧ (∀ p ∈ ps', rankN D p ∈ C) ∧ ps'.map (rankN D) = visL ((naf z).take k) (ps.map (rankN D)) ∧ Keeps (PF hb cp v) w2 wl ∧ (∀ j, v'.ownBlock = some j → v.ownBlock = some j ∨ w2.heap.size ≤ j)) (fun _ i _ => ts.length - (intOf i).toNat)
     case atStart =>
       obtain ⟨hrt, htv, hb2⟩ := HT.out
       obtain ⟨hP, hk, hkC, hnd, hv, hz, hn, hb1, P1, hin, hxb, hz1, hmem, hf⟩ := HX.out
       exact ⟨0, ps, v, by omega, by simp, by simp [hgtL], P1.below hb2, hk, hkC, by simp [visL], Keeps.refl _ _, fun j h => .inl h⟩
     case round =>
       obtain ⟨k, ps', v', hkl, rfl, rfl, hPl, hkl', hkC', hmap, hkp, hown⟩ := hrel
       obtain ⟨hrt, htv, hb2⟩ := HT.out
       obtain ⟨hP, hk, hkC, hnd, hv, hz, hn, hb1, P1, hin, hxb, hz1, hmem, hf⟩ := HX.out
       by_cases hlt : k < ts.length
       · obtain ⟨b, o, rfl⟩ : ∃ bx ox, a = some ⟨bx, ox, none⟩ := by
           rcases hrt.1.2 with ⟨e, h0⟩ | ⟨b1, off1, cap1, e1, p1, p2, p3, p4⟩
           · omega
           · cases e1; exact ⟨_, _, rfl⟩
         obtain ⟨q0, q1, q2⟩ := RowC.term (RowV.rowC (hrt.keeps hkp).1) k hlt
         have hkz : k < (naf z).length := by rw [← htv.len]; exact hlt
         have hvk := (htv.get k hlt hkz).2
         have hek := Zbf (List.getElem_mem hkz)
         have hCk := hC z hz _ (List.getElem_mem hkz)
         have htk : (naf z).take (k + 1) = (naf z).take k ++ [(naf z)[k]] := List.take_succ_eq_append_getElem hkz
         have hh1 : hgtL ((naf z).take k) ≤ 8000000000001 := Zre (fun t ht => by have := Zgb hC (hC z hz t (List.mem_of_mem_take ht)); omega)
         have hh2 := Zgb hC hCk
         generalize (naf z)[k] = uk at hvk hek hCk htk hh2
         generalize ts[k] = tk at q0 q1 q2 hvk
         obtain ⟨m1, s1, g1⟩ := tk
         simp only at q0 q1 q2 hvk
         have hbT : Below wr.heap.size wr (wr.alloc (.cells #[.bool m1, .int .i64 s1, .pointer g1] 62)) := (zb).alloc (zl) _
         have PT := hPl.below hbT
         have hnd' : (ps'.map (rankN D)).Nodup := by rw [hmap]; exact (Zkk (N := z.natAbs) _ _ (fun t ht => Zbf (List.mem_of_mem_take ht))).1.nd hnd
         have ihk := ih _ ps' v' PT hkl' hkC' hnd' s1 g1 _ hvk hCk (by omega)
         have cw2 := Zat PT.h2
         have hh3 : (hgtL ((naf z).take k) : Int) ≤ 8000000000001 := by omega
         have hh4 : (hgt (uk.2 : Int) : Int) ≤ 8000000000000 := by omega
         have HQ := zh (zi hmap (zi hkp (zi hown (zi htk (zi hbT (hkp.size))))))
         generalize hgA : hgtL ((naf z).take k) = hA at hh3
         generalize hgB : hgt (uk.2 : Int) = hB at hh4 ihk
         have HG := zh (zi hgA hgB)
         have hlt' : (k : Int) < (ts.length : Int) := by omega
         clear hP hk hkC hnd hv hz hn hb1 P1 hin hxb hz1 hmem hrt htv hb2 hPl hkl' hkC' hmap hkp hown hvk hek hCk htk hbT PT hnd' hh1 hh2 hkz hgB
         go_wp2_with (first
           | (go_at_call 78; refine ihk.mono ?_; rintro e w5 ⟨ps5, v5, rfl, hP5, hk5, hkC5, hmap5, hkp5, hown5⟩
              have H5 := zh (zi hP5 (zi hk5 (zi hkC5 (zi hmap5 (zi hkp5 hown5)))))
              clear hP5 hk5 hkC5 hmap5 hkp5 hown5))
         obtain ⟨hP5, hk5, hkC5, hmap5, hkp5, hown5⟩ := H5.out
         obtain ⟨hmap, hkp, hown, htk, hbT, hsz⟩ := HQ.out
         obtain ⟨hgA, hgB⟩ := HG.out
         refine ⟨⟨k + 1, ps5, v5, by omega, by go_num, ?_, hP5, hk5, hkC5, ?_, ?_, ?_⟩, by simp [intOf]; omega⟩
         · rw [htk, Zkm, hgA, hgB]; congr 1; omega
         · rw [htk, Zo0, hmap5, hmap]
         · refine (hkp.trans (Keeps.of_below (F := PF hb cp v) hbT (zl)) (fun i h => .inl h)).trans hkp5 (fun i hi => ?_)
           rcases hi with x | x | x
           · exact .inl (.inl x)
           · exact .inl (.inr (.inl x))
           · rcases hown i x with y | y
             · exact .inl (.inr (.inr y))
             · exact .inr y
         · intro j hj
           rcases hown5 j hj with x | x
           · exact hown j x
           · have := hbT.size; exact .inr (by omega)
       · have hkn : k = ts.length := by omega
         subst hkn
         have hzt : (naf z).take ts.length = naf z := by rw [htv.len]; exact List.take_length
         rw [hzt] at hmap
         rw [hzt, ← hgt_L]
         have hzn : z ∉ ps.map (rankN D) := fun h => hmem (hin.2 h)
         have hin' := Zil (hPl.forest hf) hkl' hv
         have hn' : (s, g) ∉ ps' := by
           intro h
           have h1 := hin'.1 h
           rw [hmap] at h1
           obtain ⟨x, hx, hx2⟩ := (Zkk (N := z.natAbs) (naf z) (ps.map (rankN D)) (fun t ht => Zbf ht)).1.pre
           rw [hx] at h1
           rcases List.mem_append.1 h1 with y | y
           · exact hzn y
           · have := hx2 z y; omega
         have hlp : ps'.length ≤ 8000000000000 := by
           have h1 := Zdg (ps'.map (rankN D)) C (by rw [hmap]; exact (Zkk (N := z.natAbs) _ _ (fun t ht => Zbf ht)).1.nd hnd) (fun p hp => by
             obtain ⟨q, hq, rfl⟩ := List.mem_map.1 hp
             exact hkC' q hq)
           rw [List.length_map] at h1
           omega
         obtain ⟨e1, e2, e3, e4⟩ := hPl.apart
         have hr1 : ∃ es c, wr.heap[hb]? = some (.map es c) := by obtain ⟨es, cl, l, e, _⟩ := hPl.map; exact ⟨es, cl, e⟩
         obtain ⟨es, cl, hst, hmf⟩ := MapFn.store keyN Tryz.underlying94 hPl.map (s, g) (hv.ptr (hPl.forest hf)) (.int .i64 (hgt z)) (fun o k' hk => Zje hr1 hk)
         unfold encN at hst
         have hxl := Zap hxb
         have hs2 := hb2.size
         have hxw : wr.heap[wq.heap.size]? = some (.cells #[.int .i64 s, .pointer g] 28 (0, 0)) := by
           refine (hkp.block _ (by omega) ?_).trans ((hb2.block _ hxl).trans hxb)
           intro h
           have := (hP.pf _ h).2
           omega
         have m0 : (mapW wr hb es cl).cell? ⟨cp, 0, none⟩ = some v' := Zat ((Zb2 (fun e => e3 e.symm)).trans hPl.h3)
         have hxhb : wq.heap.size ≠ hb := by
           intro e
           rw [e] at hxw
           obtain ⟨es, cl, e2⟩ := hr1
           rw [hxw] at e2; cases e2
         obtain ⟨m1, m2⟩ := Zab ((Zb2 (es := es) (cl := cl) hxhb).trans hxw)
         obtain ⟨y1, y2⟩ := Zab hxw
         have k1 := Zat hPl.h1
         have hownm : (mapW wr hb es cl).ownsRow w0.heap.size 28 2 v' ps'.length (flatN ps') := Zag hPl.own (F := fun k => k = hb) ⟨rfl, rfl, rfl, by rw [Zbs]; exact zl, fun k hk hF => Zb2 hF⟩ (fun b hb' e => (e4 b hb').1 e)
         obtain ⟨i0, hi0, hz0, hz1', hz2⟩ := info_parts infoeN
         have hle0 : w0.heap.size ≤ (mapW wr hb es cl).heap.size := by rw [Zbs]; exact hPl.bl.size
         have hcpl := Zap hPl.h3
         have HQ := zh (zi hPl (zi hkl' (zi hkC' (zi hmap (zi hkp (zi hown (zi hmf (zi hv (zi hn' (zi hzn (zi hz (zi hb1 (zi hb2 (zi e3 (zi e4 hP)))))))))))))))
         have hst' : (Instr.mapUpdate 94 (.map (some hb)) (.agg #[.int .i64 s, .pointer g]) (.int .i64 (hgt z))).run Tryz.prog wr = .ok () (mapW wr hb es cl) := hst
         have hcpf : ∀ w6, ((mapW wr hb es cl).alloc (.cells #[.int .i64 s, .pointer g] 28)).grownBy w6 v'.ownBlock → w6.heap[cp]? = some (.cells #[v'] 30 (0, 0)) := by
           intro w6 hg
           rw [hg.block cp (by simp [Zbs]; omega) (fun e => (e4 cp e.symm).2 rfl), Below.heap_alloc _ _ _ (by rw [Zbs]; exact hcpl), Zb2 (fun e => e3 e.symm)]
           exact hPl.h3
         have HCP := zh hcpf
         clear hst hcpf hPl hkl' hkC' hmap hkp hown hmf hv hn' hzn hz hb1 hb2 hP hk hkC hnd hn P1 hin hxb hmem hf hrt htv hr1 hxw e1 e2 e3 e4 hin' hzt hxhb hxl hkl
         have hlt' : ¬ ((ts.length : Int) < (ts.length : Int)) := by omega
         generalize hgz : hgt z = hz9 at *
         go_wp2_with (first
           | (at_builtin; refine wpList_append_own_at _ rfl _ _ 30 rfl w0.heap.size 28 i0 zN 2 16 Tryz.underlying30 hi0 hz0 hz1' hz2 rfl (by decide) _ _ _ rfl (hownm.alloc _) ⟨(mapW wr hb es cl).heap.size, 0, none⟩ 1 1 (cellsN (s, g)) rfl rfl (Zaj (mapW wr hb es cl) _ _ _) (by simp [cellsN, Value.oneCell']) (by unfold maxLen; omega) (by omega) (by simp; omega) ?_; intro v6 w6 hown6 hg6 _ hat6
              obtain ⟨a6, k6, rfl⟩ := (RowV.of_own hown6).shape
              have c6 := HCP.out w6 hg6
              have d6 := Zat c6
              have f6 : w6.frozen? ⟨cp, 0, none⟩ = false := by simp [World.frozen?, c6]
              have H6 := zh (zi hown6 (zi hg6 hat6))
              clear hown6 hg6 hat6 c6))
         go_ret
         obtain ⟨hPl, hkl', hkC', hmap, hkp, hown, hmf, hv, hn', hzn, hz, hb1, hb2, e3, e4, hP⟩ := HQ.out
         obtain ⟨hown6, hg6, hat6⟩ := H6.out
         subst hgz
         obtain ⟨r1, r2, r3⟩ := hPl.add hv hn' hmf hown6 hg6 hat6
         have hs1 := hb1.size
         have fin1 : ∀ p ∈ ps' ++ [(s, g)], knownN D p := fun p hp => by
           rcases List.mem_append.1 hp with x | x
           · exact hkl' p x
           · rw [List.mem_singleton.1 x]; exact ⟨z, hv⟩
         have fin2 : ∀ p ∈ ps' ++ [(s, g)], rankN D p ∈ C := fun p hp => by
           rcases List.mem_append.1 hp with x | x
           · exact hkC' p x
           · rw [List.mem_singleton.1 x, show rankN D (s, g) = z from hv.val]; exact hz
         refine ⟨rfl, ps' ++ [(s, g)], _, r1, fun x y hp => fin1 (x, y) hp, fun x y hp => fin2 (x, y) hp, ?_, ?_, ?_⟩
         · rw [List.map_append, hmap, Zc5 hzn, List.map_singleton, show rankN D (s, g) = z from hv.val]
         · have hbb : Below wq.heap.size wq w2 := hb1.trans (hb2.mono hs1)
           refine ((Keeps.of_below (F := PF hb cp v) hbb (zl)).trans hkp (fun i h => .inl h)).trans r2 (fun i hi => ?_)
           rcases hi with x | x | x
           · exact .inl (.inl x)
           · exact .inl (.inr (.inl x))
           · rcases hown i x with y | y
             · exact .inl (.inr (.inr y))
             · have := hbb.size; exact .inr (by omega)
         · intro j hj
           have := hb2.size
           rcases r3 j hj with x | x
           · rcases hown j x with y | y
             · exact .inl y
             · exact .inr (by omega)
           · have := hkp.size; exact .inr (by omega)
end
section
open Go.RowKit
theorem Znn (w : World) (A B C X Y : Obj) : (((((w.alloc A).alloc B).alloc C).alloc X).alloc Y).heap[w.heap.size + 1]? = some B ∧ (((((w.alloc A).alloc B).alloc C).alloc X).alloc Y).heap[w.heap.size + 1 + 1]? = some C ∧ (((((w.alloc A).alloc B).alloc C).alloc X).alloc Y).heap[w.heap.size + 1 + 1 + 1]? = some X ∧ (((((w.alloc A).alloc B).alloc C).alloc X).alloc Y).heap[w.heap.size + 1 + 1 + 1 + 1]? = some Y := by
 refine ⟨?_, ?_, ?_, ?_⟩
 · rw [Below.heap_alloc _ _ _ (by simp <;> omega), Below.heap_alloc _ _ _ (by simp <;> omega), Below.heap_alloc _ _ _ (by simp)]
   have := heap_alloc_new (w.alloc A) B
   simpa using this
 · rw [Below.heap_alloc _ _ _ (by simp <;> omega), Below.heap_alloc _ _ _ (by simp)]
   have := heap_alloc_new ((w.alloc A).alloc B) C
   simpa using this
 · rw [Below.heap_alloc _ _ _ (by simp)]
   have := heap_alloc_new (((w.alloc A).alloc B).alloc C) X
   simpa using this
 · have := heap_alloc_new ((((w.alloc A).alloc B).alloc C).alloc X) Y
   simpa using this
theorem Zdq {w : World} {D : Addr → Option Int} (hf : Forest w cold D) {S : List Addr} (hS : ∀ p y, D p = some y → p ∈ S) (hL : S.length ≤ 200000000) {s : Int} {g : Option Addr} {z : Int} (hv : ValD D s g z) :
   Calls Tryz.prog 52 #[.agg #[.int .i64 s, .pointer g]] w fun e w' => ∃ (v : Value) (ps : List NV), e = .returned (.tuple #[v, .int .i64 (hgt z)]) ∧ w'.ownsRow w.heap.size 28 2 v ps.length (flatN ps) ∧ (∀ p ∈ ps, knownN D p) ∧ ps.map (rankN D) = partsZ z ∧ Below w.heap.size w w' := by
 have hmf : ∀ (fn : Fn) (first cap : Array Value) (w : World), (Instr.makeFunc fn first cap).run Tryz.prog w = .ok (.func fn first cap) w := fun _ _ _ _ => rfl
 have hmk := @run_makeMap Tryz.prog
 obtain ⟨C, hC, hz, hCl⟩ := cover hf hS hv
 obtain ⟨w5, hw5⟩ : ∃ w5, w5 = ((((w.alloc (.cells #[.int .i64 s, .pointer g] 28)).alloc (.cells #[.slice none 0 0] 30)).alloc (.map #[] 0)).alloc (.cells #[.map (some (w.heap.size + 1 + 1))] 94)).alloc (.cells #[.func (.func 78) #[] #[.pointer (some ⟨w.heap.size + 1 + 1 + 1, 0, none⟩), .pointer (some ⟨w.heap.size + 1 + 1 + 1 + 1, 0, none⟩), .pointer (some ⟨w.heap.size + 1, 0, none⟩)]] 47) := ⟨_, rfl⟩
 have hb5 : Below w.heap.size w w5 := by rw [hw5]; repeat (first | exact zb | refine Below.alloc ?_ (by simp <;> omega) _)
 have hall := Znn w (.cells #[.int .i64 s, .pointer g] 28) (.cells #[.slice none 0 0] 30) (.map #[] 0) (.cells #[.map (some (w.heap.size + 1 + 1))] 94) (.cells #[.func (.func 78) #[] #[.pointer (some ⟨w.heap.size + 1 + 1 + 1, 0, none⟩), .pointer (some ⟨w.heap.size + 1 + 1 + 1 + 1, 0, none⟩), .pointer (some ⟨w.heap.size + 1, 0, none⟩)]] 47)
 rw [← hw5] at hall
 obtain ⟨a1, a2, a3, a4⟩ := hall
 have hP : PartS w D (w.heap.size + 1 + 1 + 1) (w.heap.size + 1 + 1 + 1 + 1) (w.heap.size + 1) (w.heap.size + 1 + 1) w5 [] (.slice none 0 0) := ⟨hb5, a3, a4, a1, World.ownsRow_nil _ _ _ _, MapFn.empty encN okN a2, by omega, by omega, by omega, by omega⟩
 have ht := Zkn hf hC (by omega) _ _ _ _ (z.natAbs + 1) w5 [] _ hP (by simp) (by simp) (by simp) s g z hv hz (Nat.lt_succ_self _)
 clear hf hS hL hv hC hz hCl hb5 a1 a2 a3 a4 hP
 go_enter Tryz.func52, Tryz.ntmps52
 go_wp2_with (first
   | (go_at_call 78; rw [← hw5]; refine ht.mono ?_; rintro x6 w6 ⟨ps, v6, rfl, hP6, hk6, hC6, hm6, hkp6, hown6⟩
      obtain ⟨a6, k6, rfl⟩ := (RowV.of_own hP6.own).shape
      have c6 := Zat hP6.h3
      have H6 := zh (zi hP6 (zi hk6 hm6))
      clear hP6 hk6 hC6 hm6 hkp6 hown6))
 refine bodyPost_ret (v := .tuple #[.slice a6 ps.length k6, .int .i64 (hgt z)]) (by simp [results, Tryz.results52, go_sem, *]) rfl ?_
 obtain ⟨hP6, hk6, hm6⟩ := H6.out
 exact ⟨_, ps, rfl, hP6.own, hk6, hm6, hP6.bl⟩
def NumL (w : World) (s : Int) (g : Option Addr) (z : Int) : Prop := Num w cold 200000000 s g z
theorem Zcf {w : World} {s : Int} {g : Option Addr} {z : Int} (h : NumL w s g z) :
   Calls Tryz.prog 30 #[.agg #[.int .i64 s, .pointer g]] w fun e w' => e = .returned (.int .i64 (weightZ z)) ∧ Below w.heap.size w w' := by
 obtain ⟨D, S, hf, hS, hL, hv⟩ := h
 have hb1 : Below w.heap.size w (w.alloc (.cells #[.int .i64 s, .pointer g] 28)) := (zb).alloc (zl) _
 have hp := Zdq (hf.keeps ⟨hb1.os, hb1.tape, hb1.output, hb1.size, fun k hk _ => hb1.block k hk⟩) hS hL hv
 clear hf hS hL hv
 go_enter Tryz.func30, Tryz.ntmps30
 go_wp2_with (first
   | (go_at_call 52; refine hp.mono ?_; rintro e w2 ⟨v2, ps, rfl, ho, hk, hm, hb2⟩
      obtain ⟨a2, k2, rfl⟩ := (RowV.of_own ho).shape
      have HH := zh (zi hm hb2)
      clear ho hk hm hb2))
 go_ret
 obtain ⟨hm, hb2⟩ := HH.out
 refine ⟨?_, hb1.trans (hb2.mono (by simp))⟩
 unfold weightZ
 rw [← hm, List.length_map]
 rfl
theorem Zgc {w : World} {s : Int} {g : Option Addr} {z : Int} (h : NumL w s g z) :
   Calls Tryz.prog 31 #[.agg #[.int .i64 s, .pointer g]] w fun e w' => e = .returned (.int .i64 (hgt z)) ∧ Below w.heap.size w w' := by
 obtain ⟨D, S, hf, hS, hL, hv⟩ := h
 have hb1 : Below w.heap.size w (w.alloc (.cells #[.int .i64 s, .pointer g] 28)) := (zb).alloc (zl) _
 have hp := Zdq (hf.keeps ⟨hb1.os, hb1.tape, hb1.output, hb1.size, fun k hk _ => hb1.block k hk⟩) hS hL hv
 clear hf hS hL hv
 go_enter Tryz.func31, Tryz.ntmps31
 go_wp2_with (first
   | (go_at_call 52; refine hp.mono ?_; rintro e w2 ⟨v2, ps, rfl, ho, hk, hm, hb2⟩
      obtain ⟨a2, k2, rfl⟩ := (RowV.of_own ho).shape
      have HH := zh (zi hm hb2)
      clear ho hk hm hb2))
 go_ret
 exact ⟨rfl, hb1.trans (HH.out.2.mono (by simp))⟩
theorem Num.below {w w' : World} {F : Nat → Prop} {L : Nat} {s : Int} {g : Option Addr} {z : Int} (h : Num w F L s g z) (hb : Below w.heap.size w w') : Num w' F L s g z := h.keeps ⟨hb.os, hb.tape, hb.output, hb.size, fun k hk _ => hb.block k hk⟩
theorem Zbg {w w' : World} {F : Nat → Prop} {D : Addr → Option Int} (h : Forest w F D) (hb : Below w.heap.size w w') : Forest w' F D := h.keeps ⟨hb.os, hb.tape, hb.output, hb.size, fun k hk _ => hb.block k hk⟩
def AllowedR (w : World) (z : Int) (e : Ending) (w' : World) : Prop := ∃ b : Bool, e = .returned (.bool b) ∧ (b = true ↔ allowedZ z) ∧ Below w.heap.size w w'
theorem AllowedR.yes {w : World} {z : Int} {w' : World} (h : allowedZ z) (hb : Below w.heap.size w w') : AllowedR w z (.returned (.bool true)) w' := ⟨true, rfl, by simp [h], hb⟩
theorem AllowedR.no {w : World} {z : Int} {w' : World} (h : ¬ allowedZ z) (hb : Below w.heap.size w w') : AllowedR w z (.returned (.bool false)) w' := ⟨false, rfl, by simp [h], hb⟩
theorem Zb3 {w : World} {s : Int} {g : Option Addr} {z : Int} (h : NumL w s g z) :
   Calls Tryz.prog 63 #[.agg #[.int .i64 s, .pointer g]] w (AllowedR w z) := by
 obtain ⟨D, S, hf, hS, hL, hv⟩ := h
 have hb1 : Below w.heap.size w (w.alloc (.cells #[.int .i64 s, .pointer g] 28)) := (zb).alloc (zl) _
 cases g with
 | none =>
   have ha := Zb8 hv.2
   clear hf hS hL hv
   go_enter Tryz.func63, Tryz.ntmps63
   go_wp2
   go_ret
   exact .yes ha hb1
 | some p =>
   have hf1 := Zbg hf hb1
   have hp := Zdq hf1 hS hL hv
   have HX := zh (zi hf1 (zi hv hb1))
   clear hf hS hL hv hf1 hb1
   go_enter Tryz.func63, Tryz.ntmps63
   go_wp2_with (first
     | (go_at_call 52; refine hp.mono ?_; rintro e w2 ⟨v2, ps, rfl, ho, hk, hm, hb2⟩
        obtain ⟨a2, k2, rfl⟩ := (RowV.of_own ho).shape
        have HH := zh (zi ho (zi hk (zi hm hb2)))
        clear ho hk hm hb2))
   · go_ret
     obtain ⟨hf1, hv, hb1⟩ := HX.out
     obtain ⟨ho, hk, hm, hb2⟩ := HH.out
     exact .no (fun ha => by have h1 := ha.1; have h2 := ha.2.1; unfold weightZ at h1; rw [← hm, List.length_map] at h1; omega) (hb1.trans (hb2.mono (by simp)))
   · have hl : ps.length ≤ 2000 := by omega
     have hh : hgt z ≤ 100 := by omega
     have hl9 : (ps.length : Int) ≤ 2000 := by omega
     go_loopw [24] (fun i wl => ∃ k : Nat, k ≤ ps.length ∧ i = .int .i64 k ∧ Below w2.heap.size w2 wl ∧ ∀ j y, j < k → (ps.map (rankN D))[j]? = some y → wt y ≤ 300) (fun i _ => ps.length - (intOf i).toNat)
     case atStart => exact ⟨0, by omega, by simp, zb, fun j y h => by omega⟩
     case round =>
       obtain ⟨k, hkl, rfl, hbl, hall⟩ := hrel
       obtain ⟨hf1, hv, hb1⟩ := HX.out
       obtain ⟨ho, hk, hm, hb2⟩ := HH.out
       have hb0 : Below w.heap.size w wr := (hb1.trans (hb2.mono (by simp))).trans (hbl.mono (by have := hb1.size; have := hb2.size; omega))
       by_cases hlt : k < ps.length
       · obtain ⟨b, rfl⟩ : ∃ b, a2 = some ⟨b, 0, none⟩ := by
           obtain ⟨_, h2⟩ := ho
           rcases h2 with ⟨e, _⟩ | ⟨g', cap, cur, ev, _⟩
           · simp only [Value.slice.injEq] at e; omega
           · cases ev; exact ⟨g', rfl⟩
         obtain ⟨q0, q1⟩ := RowC.num (RowV.rowC (RowV.of_own (Zac ho hbl))) k hlt
         obtain ⟨y, hy⟩ := hk ps[k] (List.getElem_mem hlt)
         have hyk : (ps.map (rankN D))[k]? = some y := by rw [List.getElem?_map, List.getElem?_eq_getElem hlt]; simp [rankN, hy.val]
         have hyp : y ∈ partsZ z := by rw [← hm]; exact List.mem_of_getElem? hyk
         generalize ps[k] = pk at q0 q1 hy
         obtain ⟨s1, g1⟩ := pk
         simp only [Nat.zero_add] at q0 q1 hy
         have hbT : Below wr.heap.size wr (wr.alloc (.cells #[.int .i64 s1, .pointer g1] 28)) := (zb).alloc (zl) _
         have ht := Zbt s1 g1 y (wr.alloc (.cells #[.int .i64 s1, .pointer g1] 28)) (Zbg (Zbg (Zbg hf1 hb2) hbl) hbT) hy (fun i hi => hi.elim)
         have HQ := zh (zi hbl (zi hall (zi hyk (zi hyp (zi hbT (zi hm hb0))))))
         have hlt' : (k : Int) < (ps.length : Int) := by omega
         clear hf1 hv hb1 ho hk hm hb2 hb0 hbl hall hyk hyp hbT hy hp
         by_cases hw : wt y ≤ 300
         · go_wp2_with (first
             | (go_at_call 55; refine ht.mono ?_; rintro x5 w5 ⟨v5, ts, rfl, hr5, ht5, hb5⟩
                obtain ⟨a5, c5, rfl⟩ := hr5.1.shape
                have hl5 : ¬ ((300 : Int) < (ts.length : Int)) := by have := ht5.len; unfold wt at hw; omega
                have H5 := zh hb5
                clear hr5 ht5 hb5))
           obtain ⟨hbl, hall, hyk, hyp, hbT, hm, hb0⟩ := HQ.out
           refine ⟨⟨k + 1, by omega, by go_num, hbl.trans ((hbT.trans (H5.out.mono hbT.size)).mono hbl.size), fun j u hj hu => ?_⟩, by simp [intOf]; omega⟩
           by_cases hjk : j < k
           · exact hall j u hjk hu
           · rw [show j = k by omega, hyk] at hu
             cases hu; exact hw
         · go_wp2_with (first
             | (go_at_call 55; refine ht.mono ?_; rintro x5 w5 ⟨v5, ts, rfl, hr5, ht5, hb5⟩
                obtain ⟨a5, c5, rfl⟩ := hr5.1.shape
                have hl5 : (300 : Int) < (ts.length : Int) := by have := ht5.len; unfold wt at hw; omega
                have H5 := zh hb5
                clear hr5 ht5 hb5))
           go_ret
           obtain ⟨hbl, hall, hyk, hyp, hbT, hm, hb0⟩ := HQ.out
           exact .no (fun ha => hw (ha.2.2 y hyp)) (hb0.trans ((hbT.trans (H5.out.mono hbT.size)).mono hb0.size))
       · have hkn : k = ps.length := by omega
         subst hkn
         have hal : allowedZ z := ⟨by unfold weightZ; rw [← hm, List.length_map]; exact hl, hh, fun y hy => by
           rw [← hm] at hy
           obtain ⟨j, hj⟩ := List.mem_iff_getElem?.1 hy
           have hjl : j < ps.length := by
             rcases Nat.lt_or_ge j ps.length with x | x
             · exact x
             · rw [List.getElem?_eq_none (by rw [List.length_map]; exact x)] at hj; cases hj
           exact hall j y hjl hj⟩
         have hlt' : ¬ ((ps.length : Int) < (ps.length : Int)) := by omega
         have HQ := zh (zi hal hb0)
         clear hf1 hv hb1 ho hk hm hb2 hbl hall hp hal hb0
         go_wp2
         go_ret
         exact .yes HQ.out.1 HQ.out.2
   · go_ret
     obtain ⟨hf1, hv, hb1⟩ := HX.out
     obtain ⟨ho, hk, hm, hb2⟩ := HH.out
     exact .no (fun ha => by have h1 := ha.1; unfold weightZ at h1; rw [← hm, List.length_map] at h1; omega) (hb1.trans (hb2.mono (by simp)))
theorem Zeu {w : World} {s : Int} {g : Option Addr} {z : Int} (h : NumL w s g z) (ha : allowedZ z) :
   Calls Tryz.prog 67 #[.agg #[.int .i64 s, .pointer g]] w fun e w' => e = .returned (.tuple #[.agg #[.int .i64 s, .pointer g], .int .i64 0]) ∧ Below w.heap.size w w' := by
 have hb2 : Below w.heap.size w ((w.alloc (.cells #[.int .i64 s, .pointer g] 28)).alloc (.cells #[.int .i64 0, .pointer none] 28)) := ((zb).alloc (zl) _).alloc (by simp) _
 have hal := Zb3 (h.below hb2)
 obtain ⟨a0, a1⟩ := Za0 w (.cells #[.int .i64 s, .pointer g] 28) (.cells #[.int .i64 0, .pointer none] 28)
 have HX := zh (zi ha (zi hb2 (zi a0 a1)))
 clear h ha a0 a1 hb2
 go_enter Tryz.func67, Tryz.ntmps67
 go_wp2_with (first
   | (go_at_call 63; refine hal.mono ?_; rintro e w3 ⟨b, rfl, hbb, hb3⟩
      obtain ⟨ha, hb2, a0, a1⟩ := HX.out
      obtain rfl := hbb.2 ha
      have x0 := (hb3.block w.heap.size (by simp <;> omega)).trans a0
      have x1 := (hb3.block (w.heap.size + 1) (by simp <;> omega)).trans a1
      have c0 : w3.cell? ⟨w.heap.size, 0, none⟩ = some (.int .i64 s) := by simp [World.cell?, x0]
      have c1 : w3.cell? ⟨w.heap.size, 1, none⟩ = some (.pointer g) := by simp [World.cell?, x0]
      have c2 : w3.cell? ⟨w.heap.size + 1, 0, none⟩ = some (.int .i64 0) := by simp [World.cell?, x1]
      have c3 : w3.cell? ⟨w.heap.size + 1, 1, none⟩ = some (.pointer none) := by simp [World.cell?, x1]
      have c4 : w3.frozen? ⟨w.heap.size + 1, 0, none⟩ = false := by simp [World.frozen?, x1]
      have c5 : w3.frozen? ⟨w.heap.size + 1, 1, none⟩ = false := by simp [World.frozen?, x1]
      have H3 := zh (zi hb2 hb3)
      clear ha hb2 a0 a1 hbb hb3 x0 x1))
 refine bodyPost_ret (v := .tuple #[.agg #[.int .i64 s, .pointer g], .int .i64 0]) (by simp [results, Tryz.results67, go_sem, *]) rfl ⟨rfl, ?_⟩
 obtain ⟨hb2, hb3⟩ := H3.out
 exact ((hb2.trans (hb3.mono hb2.size)).setCell (by simp) _).setCell (by simp) _
theorem Zfu {w : World} {s : Int} {g : Option Addr} {z : Int} (h : NumL w s g z) (ha : ¬ allowedZ z) :
   Calls Tryz.prog 67 #[.agg #[.int .i64 s, .pointer g]] w fun e w' => e = .returned (.tuple #[.agg #[.int .i64 0, .pointer none], .int .i64 5]) ∧ Below w.heap.size w w' := by
 have hb2 : Below w.heap.size w ((w.alloc (.cells #[.int .i64 s, .pointer g] 28)).alloc (.cells #[.int .i64 0, .pointer none] 28)) := ((zb).alloc (zl) _).alloc (by simp) _
 have hal := Zb3 (h.below hb2)
 obtain ⟨a0, a1⟩ := Za0 w (.cells #[.int .i64 s, .pointer g] 28) (.cells #[.int .i64 0, .pointer none] 28)
 have HX := zh (zi ha (zi hb2 (zi a0 a1)))
 clear h ha a0 a1 hb2
 go_enter Tryz.func67, Tryz.ntmps67
 go_wp2_with (first
   | (go_at_call 63; refine hal.mono ?_; rintro e w3 ⟨b, rfl, hbb, hb3⟩
      obtain ⟨ha, hb2, a0, a1⟩ := HX.out
      obtain rfl : b = false := by
        cases b with
        | false => rfl
        | true => exact absurd (hbb.1 rfl) ha
      have x1 := (hb3.block (w.heap.size + 1) (by simp <;> omega)).trans a1
      have c2 : w3.cell? ⟨w.heap.size + 1, 0, none⟩ = some (.int .i64 0) := by simp [World.cell?, x1]
      have c3 : w3.cell? ⟨w.heap.size + 1, 1, none⟩ = some (.pointer none) := by simp [World.cell?, x1]
      have c4 : w3.frozen? ⟨w.heap.size + 1, 0, none⟩ = false := by simp [World.frozen?, x1]
      have c5 : w3.frozen? ⟨w.heap.size + 1, 1, none⟩ = false := by simp [World.frozen?, x1]
      have H3 := zh (zi hb2 hb3)
      clear ha hb2 a0 a1 hbb hb3 x1))
 refine bodyPost_ret (v := .tuple #[.agg #[.int .i64 0, .pointer none], .int .i64 5]) (by simp [results, Tryz.results67, go_sem, *]) rfl ⟨rfl, ?_⟩
 obtain ⟨hb2, hb3⟩ := H3.out
 exact ((hb2.trans (hb3.mono hb2.size)).setCell (by simp) _).setCell (by simp) _
end
end Go.Proofs.YtlkmgclbckojgaaGreatDoor

