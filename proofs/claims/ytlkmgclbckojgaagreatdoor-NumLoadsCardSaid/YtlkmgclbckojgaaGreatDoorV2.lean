import Derived.Test.YtlkmgclbckojgaaGreatDoorZ6
import Derived.Test.YtlkmgclbckojgaaGreatDoorQ4
import Derived.Test.YtlkmgclbckojgaaGreatDoorW3
set_option linter.unusedVariables false
set_option linter.unusedSimpArgs false
namespace Go.Proofs.YtlkmgclbckojgaaGreatDoor
open Go.RowKit
variable {B : Nat → Prop}
def VarO (w wr : World) (k : Nat) : Prop := w.heap.size ≤ k ∧ Own wr k
def CallM (B : Nat → Prop) (w : World) (sb : Nat) (A : Nat → Prop) (n : Nat) (wr : World) (Dr : Addr → Option Int) : Prop :=
 ∃ (F : Nat → Prop) (K : List Addr) (G : StG), StMem wr sb F G ∧ StInv wr (hot (orA A B) F) Dr K G ∧ Below w.heap.size w wr ∧ (∀ k, F k → w.heap.size ≤ k) ∧ K.length ≤ n ∧ (∀ k, A k → VarO w wr k) ∧ ∀ k, B k → k < w.heap.size
theorem VarO.same {w wr W : World} {k : Nat} (h : VarO w wr k) (e : W.heap[k]? = wr.heap[k]?) : VarO w W k := by
 obtain ⟨h1, c, t, fr, h2, h3⟩ := h
 exact ⟨h1, c, t, fr, e.trans h2, h3⟩
section
variable {w : World} {sb : Nat} {A : Nat → Prop} {n : Nat} {wr W : World} {Dr : Addr → Option Int}
theorem CallM.below (h : CallM B w sb A n wr Dr) (hb : Below wr.heap.size wr W) : CallM B w sb A n W Dr := by
 obtain ⟨F, K, G, h1, h2, h3, h4, h5, h6, hB⟩ := h
 have s := Step.of_below F hb
 exact ⟨F, K, G, h1.below hb, h2.step (s.hot _), h3.trans (hb.mono h3.size), h4, h5, fun k hk => (h6 k hk).same (hb.block k (h6 k hk).2.lt), hB⟩
theorem CallM.more (h : CallM B w sb A n wr Dr) {n' : Nat} (hn : n ≤ n') : CallM B w sb A n' wr Dr := by
 obtain ⟨F, K, G, h1, h2, h3, h4, h5, h6, hB⟩ := h
 exact ⟨F, K, G, h1, h2, h3, h4, by omega, h6, hB⟩
theorem CallM.less (h : CallM B w sb A n wr Dr) {A' : Nat → Prop} (hA : ∀ k, A' k → A k) : CallM B w sb A' n wr Dr := by
 obtain ⟨F, K, G, h1, h2, h3, h4, h5, h6, hB⟩ := h
 exact ⟨F, K, G, h1, h2.shrink (fun i hi => by
   rcases hi with (x | x) | x
   · exact .inl (.inl (hA i x))
   · exact .inl (.inr x)
   · exact .inr x), h3, h4, h5, fun k hk => h6 k (hA k hk), hB⟩
theorem CallM.all (h : CallM B w sb A n wr Dr) : Below w.heap.size w wr := by
 obtain ⟨F, K, G, h1, h2, h3, h4, h5, h6, hB⟩ := h
 exact h3
theorem CallM.var (h : CallM B w sb A n wr Dr) : ∀ k, A k → VarO w wr k := by
 obtain ⟨F, K, G, h1, h2, h3, h4, h5, h6, hB⟩ := h
 exact h6
theorem CallM.lt (h : CallM B w sb A n wr Dr) : ∀ k, orA A B k → k < wr.heap.size := by
 intro k hk
 obtain ⟨F, K, G, h1, h2, h3, h4, h5, h6, hB⟩ := h
 rcases hk with x | x
 · exact (h6 k x).2.lt
 · exact Nat.lt_of_lt_of_le (hB k x) h3.size
theorem CallM.set (h : CallM B w sb A n wr Dr) (hw : 0 < w.heap.size) {x : Nat} (hx : A x) (i : Nat) (u : Value) : CallM B w sb A n (wr.setCell ⟨x, i, none⟩ u) Dr := by
 obtain ⟨F, K, G, h1, h2, h3, h4, h5, h6, hB⟩ := h
 have hv := h6 x hx
 have hF := h1.notF hv.2
 have hnf : ∀ c t fr, wr.heap[x]? = some (.cells c t fr) → t ≠ 113 := by
   obtain ⟨_, c0, t0, fr0, h0, _, _, h7⟩ := hv
   intro c t fr hh
   rw [h0] at hh
   cases hh; exact h7
 refine ⟨F, K, G, h1.set u hF (by have := hv.1; omega) hnf, h2.keeps (Zal u (.inl (.inl hx))), h3.setCell hv.1 u, h4, h5, fun k hk => ?_, hB⟩
 obtain ⟨a1, c, t, fr, a2, a3⟩ := h6 k hk
 refine ⟨a1, ?_⟩
 by_cases e : x = k
 · subst e
   exact ⟨c.setIfInBounds i u, t, fr, by simp [World.setCell, Array.getElem?_modify, a2], a3⟩
 · exact ⟨c, t, fr, by rw [Below.heap_setCell _ _ _ _ (fun e' => e e'.symm)]; exact a2, a3⟩
theorem CallM.hup (h : CallM B w sb A n wr Dr) {F : Nat → Prop} (hF : ∀ k, F k → w.heap.size ≤ k) : ∀ i, hot (orA A B) F i → B i ∨ w.heap.size ≤ i := by
 intro i hi
 rcases hi with (x | x) | x
 · exact .inr (h.var i x).1
 · exact .inl x
 · exact .inr (hF i x)
theorem CallM.take (h : CallM B w sb A n wr Dr) {L : Nat} {s : Int} {g : Option Addr} {z : Int} (hx : Num w B L s g z) (hbig : n + L ≤ big) :
   Calls Tryz.prog 64 #[.pointer (some ⟨sb, 0, none⟩), .agg #[.int .i64 s, .pointer g]] wr fun x w' => ∃ (s' : Int) (g' : Option Addr) (Dn : Addr → Option Int), x = .returned (.agg #[.int .i64 s', .pointer g']) ∧ ValD Dn s' g' z ∧ CallM B w sb A (n + L) w' Dn ∧ (∀ p z, Dr p = some z → Dn p = some z) ∧ Others wr w' := by
 have hup := fun (F : Nat → Prop) (hF : ∀ k, F k → w.heap.size ≤ k) => h.hup hF
 have hlt := h.lt
 obtain ⟨F, K, G, h1, h2, h3, h4, h5, h6, hB⟩ := h
 obtain ⟨Dx, S, f1, f2, f3, f4⟩ := hx.new h3 (hup F h4)
 refine (Zns (orA A B) h1 h2 hlt f1 f2 f4 (by omega)).mono ?_
 rintro x w' ⟨s', g', F', D', K', G', rfl, a1, m2, i2, st2, gg2, hk2⟩
 exact ⟨s', g', D', rfl, a1, ⟨F', K', G', m2, i2, h3.trans (st2.keeps.below (fun i hi => h4 i hi) h3.size), fun k hk => by
   rcases st2.grow k hk with y | y
   · exact h4 k y
   · have := h3.size; omega, by omega, fun k hk => (h6 k hk).same (st2.keeps.block k (h6 k hk).2.lt (h1.notF (h6 k hk).2)), hB⟩, gg2.d, fun x c t fr hx q1 q2 q3 => Own.kept h1 st2.keeps hx q1 q2 q3⟩
theorem CallM.grow {F : Nat → Prop} {K : List Addr} {G : StG} (h1 : StMem wr sb F G) (h3 : Below w.heap.size w wr) (h4 : ∀ k, F k → w.heap.size ≤ k) (h5 : K.length ≤ n) (h6 : ∀ k, A k → VarO w wr k) (hB : ∀ k, B k → k < w.heap.size) {add : Nat} {w' : World} {F' : Nat → Prop} {D' : Addr → Option Int} {K' : List Addr} {G' : StG} (hg : GrowMem wr sb F (orA A B) Dr K G add w' F' D' K' G') :
   CallM B w sb A (n + add) w' D' ∧ (∀ p z, Dr p = some z → D' p = some z) ∧ Others wr w' := by
 obtain ⟨m2, i2, st2, gg2, hk2⟩ := hg
 exact ⟨⟨F', K', G', m2, i2, h3.trans (st2.keeps.below (fun i hi => h4 i hi) h3.size), fun k hk => by
   rcases st2.grow k hk with y | y
   · exact h4 k y
   · have := h3.size; omega, by omega, fun k hk => (h6 k hk).same (st2.keeps.block k (h6 k hk).2.lt (h1.notF (h6 k hk).2)), hB⟩, gg2.d, fun x c t fr hx q1 q2 q3 => Own.kept h1 st2.keeps hx q1 q2 q3⟩
theorem CallM.add (h : CallM B w sb A n wr Dr) {s s' z z' : Int} {g g' : Option Addr} (hx : ValD Dr s g z) (hy : ValD Dr s' g' z') (hlen : wt z + wt z' ≤ 30000) (hW : ∀ u ∈ naf z, wt (u.2 : Int) ≤ 29900) (hW' : ∀ u ∈ naf z', wt (u.2 : Int) ≤ 29900) (hbig : n + 12 * (wt z + wt z') + 1 ≤ big) :
   Calls Tryz.prog 66 #[.pointer (some ⟨sb, 0, none⟩), .agg #[.int .i64 s, .pointer g], .agg #[.int .i64 s', .pointer g']] wr fun x w' => ∃ (r : Int) (q : Option Addr) (Dn : Addr → Option Int), x = .returned (.agg #[.int .i64 r, .pointer q]) ∧ ValD Dn r q (z + z') ∧ CallM B w sb A (n + (12 * (wt z + wt z') + 1)) w' Dn ∧ (∀ p z, Dr p = some z → Dn p = some z) ∧ Others wr w' := by
 have hlt := h.lt
 obtain ⟨F, K, G, h1, h2, h3, h4, h5, h6, hB⟩ := h
 refine (Zpm h1 h2 hlt hx hy hlen hW hW' (by omega)).mono ?_
 rintro x w' ⟨r, q, F', D', K', G', rfl, a1, hg⟩
 exact ⟨r, q, D', rfl, a1, CallM.grow h1 h3 h4 h5 h6 hB hg⟩
theorem CallM.row {F : Nat → Prop} {G : StG} (h1 : StMem wr sb F G) {v : Value} {ts : List TV} {base : Nat} (hB : ∀ k, B k → k < w.heap.size) (ho : wr.ownsRow base 62 3 v ts.length (flatT ts)) (hbs : w.heap.size ≤ base) (hA : ∀ k, v.ownBlock = some k → ¬ A k) : RowF wr (hot (orA A B) F) 3 v ts.length (flatT ts) :=
 ⟨RowV.of_own ho, fun b hb hh => by
   rcases hh with (x | x) | x
   · exact hA b hb x
   · have := hB b x; have := (ho.lt b hb).1; omega
   · exact h1.own ho (by decide) (by decide) b hb x⟩
theorem CallM.keep (h : CallM B w sb A n wr Dr) {v : Value} {ts : List TV} {base : Nat} (ho : wr.ownsRow base 62 3 v ts.length (flatT ts)) (hbs : w.heap.size ≤ base) (hA : ∀ k, v.ownBlock = some k → ¬ A k) (hlen : ts.length ≤ 30000) {l : List Tm} (ht : TVals Dr ts l) (hn : NA l) (hbig : n ≤ big) :
   Calls Tryz.prog 68 #[.pointer (some ⟨sb, 0, none⟩), v] wr fun x w' => ∃ (s : Int) (g : Option Addr) (Dn : Addr → Option Int), x = .returned (.agg #[.int .i64 s, .pointer g]) ∧ ValD Dn s g (val l) ∧ CallM B w sb A (n + 1) w' Dn ∧ (∀ p z, Dr p = some z → Dn p = some z) ∧ Others wr w' := by
 have hlt := h.lt
 obtain ⟨F, K, G, h1, h2, h3, h4, h5, h6, hB⟩ := h
 refine (Zeh (orA A B) h1 h2 hlt (CallM.row h1 hB ho hbs hA) hlen ht hn (by omega)).mono ?_
 rintro x w' ⟨s, g, F', D', K', G', rfl, a1, m2, i2, st2, gg2, hk2⟩
 exact ⟨s, g, D', rfl, a1, CallM.grow h1 h3 h4 h5 h6 hB ⟨m2, i2, st2, gg2, hk2⟩⟩
theorem CallM.sum (h : CallM B w sb A n wr Dr) {v : Value} {ts : List TV} {base : Nat} (ho : wr.ownsRow base 62 3 v ts.length (flatT ts)) (hbs : w.heap.size ≤ base) (hA : ∀ k, v.ownBlock = some k → ¬ A k) (hlen : ts.length ≤ 30000) {l : List Tm} (ht : TVals Dr ts l) (hW : ∀ u ∈ l, wt (u.2 : Int) ≤ 29900) (hbig : n + 12 * ts.length + 1 ≤ big) :
   Calls Tryz.prog 69 #[.pointer (some ⟨sb, 0, none⟩), v] wr fun x w' => ∃ (s : Int) (g : Option Addr) (Dn : Addr → Option Int), x = .returned (.agg #[.int .i64 s, .pointer g]) ∧ ValD Dn s g (val l) ∧ CallM B w sb A (n + (12 * ts.length + 1)) w' Dn ∧ (∀ p z, Dr p = some z → Dn p = some z) ∧ Others wr w' := by
 have hlt := h.lt
 obtain ⟨F, K, G, h1, h2, h3, h4, h5, h6, hB⟩ := h
 refine (Zkx h1 h2 hlt (CallM.row h1 hB ho hbs hA) ht hlen hW (by omega)).mono ?_
 rintro x w' ⟨s, g, F', D', K', G', rfl, a1, hg⟩
 exact ⟨s, g, D', rfl, a1, CallM.grow h1 h3 h4 h5 h6 hB hg⟩
end
theorem CallM.start {w W : World} {A : Nat → Prop} (hW : Below w.heap.size w W) (tab : Tab w) (h0 : 0 < w.heap.size) (hB : ∀ k, B k → k < w.heap.size) (hA : ∀ k, A k → VarO w W k) :
   CallM B w W.heap.size A 0 (W.alloc (.cells #[.map none, .map none, .map none, .map none, .map none] 87)) (fun _ => none) := by
 obtain ⟨m, hb, hF⟩ := Zfm (c := #[.map none, .map none, .map none, .map none, .map none]) hW rfl tab h0
 refine ⟨_, [], _, m, StInv.empty _ _ _ _ _, hb, fun k hk => by rw [hk]; exact hW.size, zl, fun k hk => ?_, hB⟩
 exact (hA k hk).same (Below.heap_alloc _ _ _ (hA k hk).2.lt)
def NumA (B : Nat → Prop) (w : World) (s : Int) (g : Option Addr) (z : Int) : Prop := allowedZ z ∧ Num w B 2000 s g z
theorem NumA.below {w w' : World} {s : Int} {g : Option Addr} {z : Int} (h : NumA B w s g z) (hb : Below w.heap.size w w') : NumA B w' s g z := ⟨h.1, h.2.below hb⟩
theorem NumA.of {w : World} {n : Nat} {s : Int} {g : Option Addr} {z : Int} (h : Num w B n s g z) (ha : allowedZ z) : NumA B w s g z := ⟨ha, h.parts.more ha.1⟩
theorem NumA.wt {w : World} {s : Int} {g : Option Addr} {z : Int} (h : NumA B w s g z) : wt z ≤ 300 := h.1.2.2 z (Za5 z)
theorem NumA.exp {w : World} {s : Int} {g : Option Addr} {z : Int} (h : NumA B w s g z) : ∀ u ∈ naf z, Go.Proofs.YtlkmgclbckojgaaGreatDoor.wt (u.2 : Int) ≤ 300 := fun u hu => h.1.2.2 _ (Zaz z z (Za5 z) u hu)
theorem NumA.small (w : World) {z : Int} (h : i64 z) : NumA B w z none z := ⟨Zb8 h, (Num.small w B h).more (by omega)⟩
theorem Num.shrink {w : World} {F F' : Nat → Prop} {L : Nat} {s : Int} {g : Option Addr} {z : Int} (h : Num w F L s g z) (hF : ∀ i, F' i → F i) : Num w F' L s g z := by
 obtain ⟨D, S, h1, h2, h3, h4⟩ := h
 exact ⟨D, S, h1.shrink hF, h2, h3, h4⟩
theorem CallM.numA {w : World} {sb : Nat} {A : Nat → Prop} {n : Nat} {wr : World} {Dr : Addr → Option Int} (h : CallM B w sb A n wr Dr) {s : Int} {g : Option Addr} {z : Int} (hv : ValD Dr s g z) : Num wr (orA A B) n s g z := by
 obtain ⟨F, K, G, h1, h2, h3, h4, h5, h6, hB⟩ := h
 exact ⟨Dr, K, h2.forest.shrink (fun i hi => .inl hi), h2.kd, h5, hv⟩
theorem Num.put {w w' : World} {L x : Nat} {s : Int} {g : Option Addr} {z : Int} (h : Num w (orA (fun k => k = x) B) L s g z) (hb : Below w.heap.size w w') (u v : Value) (ha : allowedZ z) : NumA B ((w'.setCell ⟨x, 0, none⟩ u).setCell ⟨x, 1, none⟩ v) s g z := by
 have h1 := h.keeps (w' := w') ⟨hb.os, hb.tape, hb.output, hb.size, fun k hk _ => hb.block k hk⟩
 have h2 := h1.keeps (Zal (F := orA (fun k => k = x) B) (w := w') (i := 0) u (.inl rfl))
 have h3 := h2.keeps (Zal (F := orA (fun k => k = x) B) (w := w'.setCell ⟨x, 0, none⟩ u) (i := 1) v (.inl rfl))
 exact NumA.of (h3.shrink (fun i hi => .inr hi)) ha
theorem Zfw (w : World) (A B C X : Obj) : (((((w.alloc A).alloc B).alloc C).alloc X)).heap[w.heap.size]? = some A ∧ ((((w.alloc A).alloc B).alloc C).alloc X).heap[w.heap.size + 1]? = some B ∧ ((((w.alloc A).alloc B).alloc C).alloc X).heap[w.heap.size + 1 + 1]? = some C ∧ ((((w.alloc A).alloc B).alloc C).alloc X).heap.size = w.heap.size + 1 + 1 + 1 + 1 := by
 refine ⟨?_, ?_, ?_, by simp⟩
 · rw [Below.heap_alloc _ _ _ (by simp <;> omega), Below.heap_alloc _ _ _ (by simp <;> omega), Below.heap_alloc _ _ _ (by simp), heap_alloc_new]
 · rw [Below.heap_alloc _ _ _ (by simp <;> omega), Below.heap_alloc _ _ _ (by simp)]
   have := heap_alloc_new (w.alloc A) B
   simpa using this
 · rw [Below.heap_alloc _ _ _ (by simp)]
   have := heap_alloc_new ((w.alloc A).alloc B) C
   simpa using this
end Go.Proofs.YtlkmgclbckojgaaGreatDoor

