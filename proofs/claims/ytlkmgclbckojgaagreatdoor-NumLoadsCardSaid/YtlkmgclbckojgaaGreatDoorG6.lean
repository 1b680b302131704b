import Derived.Test.YtlkmgclbckojgaaGreatDoorG5
import Derived.Test.YtlkmgclbckojgaaGreatDoorR4
set_option linter.unusedVariables false
set_option linter.unusedSimpArgs false
namespace Go.Proofs.YtlkmgclbckojgaaGreatDoor
open Go.RowKit
theorem Ld.rowPush {w : World} {lb : Nat} {F C : Nat → Prop} {D : Addr → Option Int} {K : List Addr} {G : StG} {qs : List NV} {lv pv bv : Value} {ps : List Int} {fs : List Bool} {bs : List Nat} {n : Nat} {wr W : World} {o o' : Value} {base m m' : Nat} {cs cs' : List Value}
   (h : Ld w lb F (fun k => C k ∨ o.ownBlock = some k) D K G qs lv pv bv ps fs bs n wr) (hw : 0 < w.heap.size) (hown : wr.ownsRow base 62 3 o m cs) (hbase : w.heap.size ≤ base) (hC : ∀ k, C k → o.ownBlock ≠ some k) (ho : W.ownsRow base 62 3 o' m' cs') (hg : wr.grownBy W o.ownBlock) (hat : o'.ownBlock = o.ownBlock ∨ o'.ownBlock = some wr.heap.size) :
   Ld w lb F (fun k => C k ∨ o'.ownBlock = some k) D K G qs lv pv bv ps fs bs n W := by
 have hge := Zak hown
 have hx : ∀ k, o'.ownBlock = some k → o.ownBlock = some k ∨ k = wr.heap.size := by
   intro k hk
   rcases hat with e | e
   · rw [e] at hk; exact .inl hk
   · rw [e] at hk; cases hk; exact .inr rfl
 have hkp : Keeps (fun k => o.ownBlock = some k) wr W := ⟨hg.os, hg.tape, hg.output, hg.size, fun k a b => hg.block k a (fun e => b e.symm)⟩
 have i1 : StInv wr (hot (fun k => ldA (fun k => C k ∨ o.ownBlock = some k) pv bv k ∨ o'.ownBlock = some k) F) D K G := h.inv.grow (W := wr) (zl) (fun i hi => by
   rcases hi with (y | y) | y
   · exact .inl (.inl y)
   · rcases hx i y with e | e
     · exact .inl (.inl (.inl (.inr e)))
     · exact .inr (by omega)
   · exact .inl (.inr y))
 have i2 : StInv W (hot (fun k => ldA (fun k => C k ∨ o.ownBlock = some k) pv bv k ∨ o'.ownBlock = some k) F) D K G := i1.keeps ⟨hg.os, hg.tape, hg.output, hg.size, fun k a b => hg.block k a (fun e => b (.inl (.inl (.inl (.inr e.symm)))))⟩
 have hsz := h.bl.size
 exact {
   mem := h.mem.grownT hown (by decide) (by decide) (by decide) (by omega) hg
   inv := i2.shrink (fun i hi => by
     rcases hi with ((y | y) | y | y) | y
     · exact .inl (.inl (.inl (.inl y)))
     · exact .inl (.inr y)
     · exact .inl (.inl (.inr (.inl y)))
     · exact .inl (.inl (.inr (.inr y)))
     · exact .inr y)
   bl := ⟨hg.os.trans h.bl.os, hg.tape.trans h.bl.tape, hg.output.trans h.bl.output, Nat.le_trans h.bl.size hg.size, fun k a => (hg.block k (Nat.lt_of_lt_of_le a h.bl.size) (fun e => by have := hge k e.symm; omega)).trans (h.bl.block k a)⟩
   fup := h.fup
   kl := h.kl
   var := fun k hk => by
     rcases hk with y | y
     · exact (h.var k (.inl y)).same (fun v => hg.block k v.2.lt (fun e => hC k y e.symm))
     · obtain ⟨c, hc⟩ := Zb9 ho k y
       exact .inl ⟨by have := Zak ho k y; omega, Own.of hc (by decide) (by decide) (by decide)⟩
   c5 := h.c5
   c6 := h.c6
   c7 := h.c7
   left := h.left
   own := Zag h.own hkp (fun b hb e => (h.av b (.inr e)).1 hb)
   rk := h.rk
   kn := h.kn
   bes := Zag h.bes hkp (fun b hb e => (h.av b (.inr e)).2 hb)
   av := fun k hk => by
     rcases hk with y | y
     · exact h.av k (.inl y)
     · rcases hx k y with e | e
       · exact h.av k (.inr e)
       · exact ⟨fun e2 => by have := (h.own.lt k e2).2; omega, fun e2 => by have := (h.bes.lt k e2).2; omega⟩ }
theorem LdS.rowPush {w : World} {lb : Nat} {C : Nat → Prop} {D : Addr → Option Int} {ps : List Int} {bs : List Nat} {n : Nat} {wr W : World} {o o' : Value} {base m m' : Nat} {cs cs' : List Value}
   (h : LdS w lb (fun k => C k ∨ o.ownBlock = some k) D ps bs n wr) (hw : 0 < w.heap.size) (hown : wr.ownsRow base 62 3 o m cs) (hbase : w.heap.size ≤ base) (hC : ∀ k, C k → o.ownBlock ≠ some k) (ho : W.ownsRow base 62 3 o' m' cs') (hg : wr.grownBy W o.ownBlock) (hat : o'.ownBlock = o.ownBlock ∨ o'.ownBlock = some wr.heap.size) :
   LdS w lb (fun k => C k ∨ o'.ownBlock = some k) D ps bs n W := by
 obtain ⟨F, K, G, qs, lv, pv, bv, h⟩ := h
 exact ⟨F, K, G, qs, lv, pv, bv, h.rowPush hw hown hbase hC ho hg hat⟩
theorem LdS.cells {w : World} {lb : Nat} {A : Nat → Prop} {D : Addr → Option Int} {ps : List Int} {bs : List Nat} {n : Nat} {wr : World} (h : LdS w lb A D ps bs n wr) : (∃ a c, wr.cell? ⟨lb, 6, none⟩ = some (.slice a ps.length c)) ∧
   ∀ (m : Nat) (y : Int), ps[m]? = some y → ∃ b c s g, wr.cell? ⟨lb, 6, none⟩ = some (.slice (some ⟨b, 0, none⟩) ps.length c) ∧ wr.cell? ⟨b, m * 2, none⟩ = some (.int .i64 s) ∧ wr.cell? ⟨b, m * 2 + 1, none⟩ = some (.pointer g) ∧ ValD D s g y := by
 obtain ⟨F, K, G, qs, lv, pv, bv, h⟩ := h
 have hql := h.len
 obtain ⟨a, c, rfl⟩ := (RowV.of_own h.own).shape
 refine ⟨⟨a, c, h.mem.cell 6 h.c6⟩, fun m y hy => ?_⟩
 have hm : m < ps.length := (List.getElem?_eq_some_iff.1 hy).1
 have hmq : m < qs.length := by omega
 obtain ⟨b, rfl⟩ : ∃ b, a = some ⟨b, 0, none⟩ := by
   obtain ⟨_, h2⟩ := h.own
   rcases h2 with ⟨e, _⟩ | ⟨g', cap, cur, ev, _⟩
   · simp only [Value.slice.injEq] at e; omega
   · cases ev; exact ⟨g', rfl⟩
 obtain ⟨y1, hy1⟩ := h.kn qs[m] (List.getElem_mem hmq)
 have e1 : (qs.map (rankN D))[m]? = some y1 := by rw [List.getElem?_map, List.getElem?_eq_getElem hmq]; simp [rankN, hy1.val]
 rw [h.rk, hy] at e1
 cases e1
 obtain ⟨q0, q1⟩ := RowC.num (RowV.of_own h.own).rowC m hmq
 rw [Nat.zero_add] at q0 q1
 exact ⟨b, c, _, _, h.mem.cell 6 h.c6, q0, q1, hy1⟩
theorem LdS.besides {w : World} {lb : Nat} {A : Nat → Prop} {D : Addr → Option Int} {ps : List Int} {bs : List Nat} {n : Nat} {wr : World} (h : LdS w lb A D ps bs n wr) {i : Nat} (hi : i < ps.length) :
   ∃ b c, wr.cell? ⟨lb, 7, none⟩ = some (.slice (some ⟨b, 0, none⟩) ps.length c) ∧ wr.cell? ⟨b, i, none⟩ = some (.bool (decide (0 < i ∧ ps.getD i 0 = ps.getD (i - 1) 0 + 1))) := by
 obtain ⟨F, K, G, qs, lv, pv, bv, h⟩ := h
 have hl := Zmf ps
 have h0 := h.bes
 rw [hl] at h0
 obtain ⟨a, c, rfl⟩ := (RowV.of_own h0).shape
 obtain ⟨b, rfl⟩ : ∃ b, a = some ⟨b, 0, none⟩ := by
   obtain ⟨_, h2⟩ := h0
   rcases h2 with ⟨e, _⟩ | ⟨g', cap, cur, ev, _⟩
   · simp only [Value.slice.injEq] at e; omega
   · cases ev; exact ⟨g', rfl⟩
 refine ⟨b, c, h.mem.cell 7 h.c7, ?_⟩
 have := h0.cellAt i (by omega)
 rw [this]
 exact Zp3 ps hi
theorem Zem {ps : List Int} {c above : Nat} {later : Bool} {bs : List Nat} (h : bs = [] ∨ ∃ s r, bs = s :: r ∧ readTwo r = none) : readTerms ps (c + 1) above later bs = none := by
 rcases h with rfl | ⟨s, r, rfl, h⟩
 · rfl
 · match r, h with
   | [], _ => rfl
   | [_], _ => rfl
theorem Zen {ps : List Int} {c above : Nat} {later : Bool} {s m : Nat} {b r : List Nat} (h : readTwo b = some (m, r)) :
   readTerms ps (c + 1) above later (s :: b) = if 1 < s ∨ above ≤ m ∨ (later = true ∧ m + 1 = above ∧ ps[above]? = some (ps.getD m 0 + 1)) then none else (readTerms ps c m true r).map (fun p => ((s == 1, (ps.getD m 0).toNat) :: p.1, p.2)) := by
 obtain ⟨x, y, rfl, rfl⟩ := Zca h
 rw [readTerms]
 by_cases hc : 1 < s ∨ above ≤ x * 256 + y ∨ (later = true ∧ x * 256 + y + 1 = above ∧ ps[above]? = some (ps.getD (x * 256 + y) 0 + 1))
 · rw [if_pos hc, if_pos hc]
 · rw [if_neg hc, if_neg hc]
   cases readTerms ps c (x * 256 + y) true r with
   | none => rfl
   | some p => rfl
structure PtS (w : World) (lb rb : Nat) (A : Nat → Prop) (D : Addr → Option Int) (ps : List Int) (bs0 : List Nat) (count n k above : Nat) (l : List Tm) (ts : List TV) (bs : List Nat) (o : Value) (wl : World) : Prop where
 len : l.length = k
 tv : TVals D ts l
 ld : LdS w lb (fun j => (A j ∨ j = rb) ∨ o.ownBlock = some j) D ps bs n wl
 own : wl.ownsRow w.heap.size 62 3 o ts.length (flatT ts)
 le : above ≤ ps.length
 lt : 0 < k → above < ps.length
 rb : wl.heap[rb]? = some (.cells #[.int .i64 0, .pointer none] 28 (0, 0))
 by' : ByteL bs
 rd : readTerms ps count ps.length false bs0 = (readTerms ps (count - k) above (decide (0 < k)) bs).map (fun p => (l ++ p.1, p.2))
theorem PtS.next {w : World} {lb rb : Nat} {A : Nat → Prop} {D : Addr → Option Int} {ps : List Int} {bs0 : List Nat} {count n k above s m : Nat} {l : List Tm} {ts : List TV} {b r : List Nat} {o o' : Value} {wl w2 w3 : World} (h : PtS w lb rb A D ps bs0 count n k above l ts (s :: b) o wl) (hw : 0 < w.heap.size) (hk : k < count) (hrd : readTwo b = some (m, r))
   (hA : ∀ j, A j → o.ownBlock ≠ some j) (hs : s ≤ 1) (hma : m < above) (hbes : ¬ (0 < k ∧ m + 1 = above ∧ ps[above]? = some (ps.getD m 0 + 1))) {y : Int} (hy : ps[m]? = some y) (hy0 : 0 ≤ y) {sv : Int} {gv : Option Addr} (hv : ValD D sv gv y)
   (hl2 : LdS w lb (fun j => (A j ∨ j = rb) ∨ o.ownBlock = some j) D ps r n w2) (ho2 : Others wl w2) {X : Obj} (ho : w3.ownsRow w.heap.size 62 3 o' (ts.length + 1) (flatT ts ++ cellsT (s == 1, sv, gv))) (hg : (w2.alloc X).grownBy w3 o.ownBlock) (hat : o'.ownBlock = o.ownBlock ∨ o'.ownBlock = some (w2.alloc X).heap.size) :
   PtS w lb rb A D ps bs0 count n (k + 1) m (l ++ [(s == 1, y.toNat)]) (ts ++ [(s == 1, sv, gv)]) r o' w3 := by
 have hgd : ps.getD m 0 = y := by simp [List.getD, hy]
 have hr2 := ho2 _ _ _ _ h.rb (by decide) (by decide) (by decide)
 have hown2 := Zan h.own ho2
 have hbX : Below w2.heap.size w2 (w2.alloc X) := (zb).alloc (zl) _
 have hrne : o.ownBlock ≠ some rb := fun e => by
   obtain ⟨c, hc⟩ := Zb9 h.own rb e
   rw [h.rb] at hc; cases hc
 have hm : m < ps.length := (List.getElem?_eq_some_iff.1 hy).1
 have hbr : ByteL r := by
   obtain ⟨x1, x2, rfl, _⟩ := Zca hrd
   exact h.by'.tail.tail.tail
 refine ⟨by rw [List.length_append, h.len]; rfl, TVals.append h.tv ⟨⟨rfl, ?_⟩, trivial⟩, ?_, ?_, by omega, fun _ => hm, ?_, hbr, ?_⟩
 · show ValD D sv gv ((y.toNat : Nat) : Int)
   rw [show ((y.toNat : Nat) : Int) = y by omega]; exact hv
 · refine (hl2.below hbX).rowPush (C := fun j => A j ∨ j = rb) hw (Zac hown2 hbX) (zl) (fun j hj => ?_) ho hg hat
   rcases hj with e | e
   · exact hA j e
   · rw [e]; exact hrne
 · rw [List.length_append, List.length_singleton, Zas]; exact ho
 · rw [hg.block rb (by have := Zap hr2; simp; omega) (fun e => hrne e.symm), Below.heap_alloc _ _ _ (Zap hr2)]; exact hr2
 · rw [h.rd, show count - k = (count - (k + 1)) + 1 by omega, Zen hrd, if_neg (by
     rintro (e | e | ⟨e1, e2, e3⟩)
     · omega
     · omega
     · exact hbes ⟨by simpa using e1, e2, e3⟩), hgd, show decide (0 < k + 1) = true by simp]
   cases readTerms ps (count - (k + 1)) m true r with
   | none => rfl
   | some p => simp
end Go.Proofs.YtlkmgclbckojgaaGreatDoor

