import Derived.Test.YtlkmgclbckojgaaGreatDoorM5
import Derived.Test.YtlkmgclbckojgaaGreatDoorX6
import Derived.Test.YtlkmgclbckojgaaGreatDoorD4
import Derived.Maps.AppendAt
set_option linter.unusedVariables false
set_option linter.unusedSimpArgs false
namespace Go.Proofs.YtlkmgclbckojgaaGreatDoor
section
def pendS (l : List Tm) (L a : Nat) : Prop := ∃ t, 0 < L ∧ l[L - 1]? = some t ∧ t.2 = a
open Classical in
noncomputable def muP (l : List Tm) (L : Nat) (c : Int) (a : Nat) : Nat := 6 * L + 4 * c.natAbs + (if pendS l L a then 0 else 1)
def Orig (l : List Tm) (formed M a n : Nat) : Prop := ∃ e ∈ l.drop formed, ∃ k, a = e.2 + k ∧ k + n ≤ M
structure SetO (l : List Tm) (formed M n L : Nat) (c : Int) (a : Nat) (out : List Tm) : Prop where
 o : OutS l L c a out
 z : c = 0 → 6 * L ≤ n
 mu : c ≠ 0 → muP l L c a ≤ n
 nM : n ≤ M
 og : c ≠ 0 → Orig l formed M a n
structure SetM (l : List Tm) (formed M n L0 : Nat) (c0 : Int) (L : Nat) (c : Int) (a : Nat) (out : List Tm) : Prop where
 m : MidS l L c a out
 le : L ≤ L0
 hc : c.natAbs ≤ c0.natAbs + (L0 - L)
 eq : L = L0 → c = c0
 z : c0 = 0 → pendS l L0 a
 mu : muP l L0 c0 a ≤ n
 nM : n ≤ M
 og : Orig l formed M a n
theorem SetO.start (l : List Tm) (formed : Nat) : SetO l formed (6 * l.length) (6 * l.length) l.length 0 0 [] :=
 ⟨OutS.start l, fun _ => zl, fun h => absurd rfl h, zl, fun h => absurd rfl h⟩
theorem SetO.go {l : List Tm} {formed M n L : Nat} {c : Int} {a : Nat} {out : List Tm} (h : SetO l formed M n L c a out) (hc : c ≠ 0) : SetM l formed M n L c L c a out :=
 ⟨h.o.go hc, zl, by omega, fun _ => rfl, fun x => absurd x hc, h.mu hc, h.nM, h.og hc⟩
theorem SetO.begin {l : List Tm} (hf : Falls l) {formed M n L : Nat} {a : Nat} {out : List Tm} (h : SetO l formed M n L 0 a out) (h0 : formed < L) {t : Tm} (ht : l[L - 1]? = some t) : SetM l formed M n L 0 L 0 t.2 out := by
 have hl := h.o.hl
 have hp : pendS l L t.2 := ⟨t, by omega, ht, rfl⟩
 obtain ⟨hlt, e⟩ := List.getElem?_eq_some_iff.1 ht
 have hb := h.o.begin hf (by omega)
 rw [e] at hb
 refine ⟨hb, zl, by omega, fun _ => rfl, fun _ => hp, ?_, h.nM, t, ?_, 0, by omega, by have := h.nM; omega⟩
 · unfold muP
   rw [if_pos hp]
   have := h.z rfl
   simp; omega
 · rw [List.mem_iff_getElem?]
   exact ⟨L - 1 - formed, by rw [List.getElem?_drop, show formed + (L - 1 - formed) = L - 1 by omega]; exact ht⟩
theorem SetM.eat {l : List Tm} {formed M n L0 : Nat} {c0 : Int} {L : Nat} {c : Int} {a : Nat} {out : List Tm} (h : SetM l formed M n L0 c0 L c a out) (h0 : 0 < L) {t : Tm} (ht : l[L - 1]? = some t) (he : t.2 = a) :
   SetM l formed M n L0 c0 (L - 1) (c + sg t.1) a out := by
 obtain ⟨hlt, e⟩ := List.getElem?_eq_some_iff.1 ht
 have hm := h.m.eat h0 (by rw [e]; exact he)
 rw [e] at hm
 have hle := h.le
 have hcc := h.hc
 have hsg := Zay t.1
 refine ⟨hm, by omega, ?_, fun x => by omega, h.z, h.mu, h.nM, h.og⟩
 rcases hsg with ⟨_, e⟩ | ⟨_, e⟩ <;> rw [e] <;> omega
theorem SetM.done {l : List Tm} (hf : Falls l) {formed M n L0 : Nat} {c0 : Int} {L : Nat} {c : Int} {a : Nat} {out : List Tm} (h : SetM l formed M n L0 c0 L c a out) (he : ∀ t, 0 < L → l[L - 1]? = some t → t.2 ≠ a) : Done l L a := by
 have hl := h.m.hl
 exact h.m.done hf (fun h0 => he _ h0 (List.getElem?_eq_getElem (by omega)))
theorem Zqp {l : List Tm} {n L0 L a : Nat} {c0 c c2 : Int} (hd : Done l L a) (hL : L ≤ l.length) (le : L ≤ L0) (hc : c.natAbs ≤ c0.natAbs + (L0 - L)) (heq : L = L0 → c = c0) (z : c0 = 0 → pendS l L0 a) (mu : muP l L0 c0 a ≤ n)
   (h2 : 2 * c2.natAbs ≤ c.natAbs + 1) (h3 : c.natAbs = 1 → c2 ≠ 0 → pendS l L (a + 1)) (he : c % 2 = 0 → 2 * c2.natAbs = c.natAbs) :
   (c2 = 0 → 6 * L < n) ∧ (c2 ≠ 0 → muP l L c2 (a + 1) < n) := by
 have hnp : L = L0 → ¬ pendS l L0 a := by
   rintro rfl ⟨t, h0, ht, e⟩
   have hm : t ∈ l.take L := by
     rw [List.mem_iff_getElem?]
     exact ⟨L - 1, by rw [List.getElem?_take, if_pos (by omega)]; exact ht⟩
   have := hd t hm
   omega
 unfold muP at *
 by_cases hj : L = L0
 · have hn := hnp hj
   rw [if_neg hn] at mu
   have hcc := heq hj
   subst hj
   subst hcc
   have hc0 : c ≠ 0 := fun x => hn (z x)
   refine ⟨fun _ => by omega, fun hc2 => ?_⟩
   by_cases h1 : c.natAbs = 1
   · rw [if_pos (h3 h1 hc2)]; omega
   · split <;> omega
 · refine ⟨fun _ => by omega, fun hc2 => ?_⟩
   split <;> split at mu <;> omega
theorem Orig.next {l : List Tm} {formed M a n n' : Nat} (h : Orig l formed M a n) (hn : n' < n) : Orig l formed M (a + 1) n' := by
 obtain ⟨e, he, k, rfl, hk⟩ := h
 exact ⟨e, he, k + 1, by omega, by omega⟩
theorem SetM.even {l : List Tm} {formed M n L0 : Nat} {c0 : Int} {L : Nat} {c : Int} {a : Nat} {out : List Tm} (h : SetM l formed M n L0 c0 L c a out) (hd : Done l L a) (he : c % 2 = 0) : ∃ n', n' < n ∧ SetO l formed M n' L (c / 2) (a + 1) out := by
 have hm := Zqp (c2 := c / 2) hd h.m.hl h.le h.hc h.eq h.z h.mu (by omega) (fun h1 => by omega) (fun _ => by omega)
 have ho := h.m.even hd he
 by_cases hz : c / 2 = 0
 · have := hm.1 hz
   refine ⟨6 * L, this, ho, fun _ => zl, fun x => absurd hz x, by have := h.nM; omega, fun x => absurd hz x⟩
 · have := hm.2 hz
   exact ⟨muP l L (c / 2) (a + 1), this, ho, fun x => absurd x hz, fun _ => zl, by have := h.nM; omega, fun _ => h.og.next this⟩
theorem Zl1 {l : List Tm} (hf : Falls l) {L a : Nat} (hL : L ≤ l.length) (hd : Done l L a) (hcnt : cntE (l.take L) (a + 1) ≠ 0) : pendS l L (a + 1) := by
 have h0 : 0 < L := by
   rcases Nat.eq_zero_or_pos L with h | h
   · subst h; simp [cntE] at hcnt
   · exact h
 have hsp := Zfd h0 hL
 refine ⟨l[L - 1]'(by omega), h0, List.getElem?_eq_getElem (by omega), ?_⟩
 have hmem : l[L - 1]'(by omega) ∈ l.take L := by rw [hsp]; exact List.mem_append_right _ (List.mem_singleton_self _)
 have hgt := hd _ hmem
 have hex : ∃ u ∈ l.take L, u.2 = a + 1 := by
   by_cases h : ∃ u ∈ l.take L, u.2 = a + 1
   · exact h
   · exact absurd (Zdc fun t ht e => h ⟨t, ht, e⟩) hcnt
 obtain ⟨u, hu, hu2⟩ := hex
 have hft := hf.take L
 rw [hsp] at hu hft
 rcases List.mem_append.1 hu with x | x
 · have := hft.snoc u x; omega
 · rw [List.mem_singleton.1 x] at hu2; exact hu2
theorem SetM.odd {l : List Tm} (hf : Falls l) {formed M n L0 : Nat} {c0 : Int} {L : Nat} {c : Int} {a : Nat} {out : List Tm} (h : SetM l formed M n L0 c0 L c a out) (hd : Done l L a) (ho : c % 2 ≠ 0) {m : Bool} (hp : (c + 2 * cntE (l.take L) (a + 1) - sg m) % 4 = 0) :
   ∃ n', n' < n ∧ SetO l formed M n' L ((c - sg m) / 2) (a + 1) (out ++ [(m, a)]) := by
 have hsg := Zay m
 have hm := Zqp (c2 := (c - sg m) / 2) hd h.m.hl h.le h.hc h.eq h.z h.mu (by rcases hsg with ⟨_, e⟩ | ⟨_, e⟩ <;> rw [e] <;> omega) (fun h1 h2 => by
   refine Zl1 hf h.m.hl hd (fun hz => ?_)
   rw [hz] at hp
   rcases hsg with ⟨_, e⟩ | ⟨_, e⟩ <;> rw [e] at hp h2 <;> omega) (fun x => absurd x ho)
 have ho := h.m.odd hd ho hp
 by_cases hz : (c - sg m) / 2 = 0
 · have := hm.1 hz
   refine ⟨6 * L, this, ho, fun _ => zl, fun x => absurd hz x, by have := h.nM; omega, fun x => absurd hz x⟩
 · have := hm.2 hz
   exact ⟨muP l L ((c - sg m) / 2) (a + 1), this, ho, fun x => absurd x hz, fun _ => zl, by have := h.nM; omega, fun _ => h.og.next this⟩
theorem Zqf {l m : List Tm} (h : l.Perm m) : val l = val m := by
 induction h with
 | nil => rfl
 | cons t _ ih => simp only [val, ih]
 | swap t u l => simp only [val]; omega
 | trans _ _ a b => exact a.trans b
theorem Zgi {l : List Tm} (h : NA l) : Falls l := List.Pairwise.imp (fun hx => by omega) h
end
section
open Go.RowKit
def rowH (H A : Nat → Prop) (v : Value) : Nat → Prop := fun k => H k ∨ A k ∨ v.ownBlock = some k
def VarN (w wr : World) (k : Nat) : Prop := w.heap.size ≤ k ∧ ∃ c fr, wr.heap[k]? = some (.cells c 28 fr)
def OutG (w : World) (sb : Nat) (F H A : Nat → Prop) (D : Addr → Option Int) (K : List Addr) (G : StG) (used : Nat) (wr : World) (o : Value) (n : Nat) (cs : List Value) (Dr : Addr → Option Int) : Prop :=
 ∃ (Fr : Nat → Prop) (Kr : List Addr) (Gr : StG), wr.ownsRow w.heap.size 62 3 o n cs ∧ StMem wr sb Fr Gr ∧ StInv wr (hot (rowH H A o) Fr) Dr Kr Gr ∧ Step w wr F Fr ∧ Grown2 D Dr K Kr G Gr ∧ Kr.length ≤ K.length + used ∧ ∀ k, A k → VarN w wr k
theorem Zad {w : World} {k : Nat} {o : Obj} (h : w.heap[k]? = some o) : k < w.heap.size := by
 rcases Nat.lt_or_ge k w.heap.size with x | x
 · exact x
 · simp [Array.getElem?_eq_none x] at h
theorem VarN.lt {w wr : World} {k : Nat} (h : VarN w wr k) : k < wr.heap.size := by
 obtain ⟨_, c, fr, h⟩ := h
 exact Zad h
theorem VarN.own {w wr : World} {k : Nat} (h : VarN w wr k) : Own wr k := by
 obtain ⟨_, c, fr, h⟩ := h
 exact Own.of h (by decide) (by decide) (by decide)
theorem VarN.same {w wr W : World} {k : Nat} (h : VarN w wr k) (e : W.heap[k]? = wr.heap[k]?) : VarN w W k := by
 obtain ⟨h1, c, fr, h⟩ := h
 exact ⟨h1, c, fr, e.trans h⟩
theorem VarN.row {w wr : World} {k base : Nat} {o : Value} {n : Nat} {cs : List Value} (h : VarN w wr k) (ho : wr.ownsRow base 62 3 o n cs) : o.ownBlock ≠ some k := by
 obtain ⟨h1, c, fr, h⟩ := h
 intro e
 obtain ⟨_, h2⟩ := ho
 rcases h2 with ⟨rfl, _⟩ | ⟨g, cap, cur, rfl, _, hh, _⟩
 · simp [Value.ownBlock] at e
 · simp only [Value.ownBlock, Option.some.injEq] at e
   subst e
   rw [h] at hh
   cases hh
section
variable {w : World} {sb : Nat} {F H A : Nat → Prop} {D : Addr → Option Int} {K : List Addr} {G : StG} {used : Nat} {wr W : World} {o : Value} {n : Nat} {cs : List Value} {Dr : Addr → Option Int}
theorem Zpj {w wr : World} {F : Nat → Prop} (ha : ∀ k, A k → w.heap.size ≤ k) (ho : ∀ k, o.ownBlock = some k → w.heap.size ≤ k) : ∀ i, hot (rowH H A o) F i → hot H F i ∨ w.heap.size ≤ i := by
 intro i hx
 rcases hx with x | x
 · rcases x with x | x | x
   · exact .inl (.inl x)
   · exact .inr (ha i x)
   · exact .inr (ho i x)
 · exact .inl (.inr x)
theorem OutG.start (hm : StMem w sb F G) (hi : StInv w (hot H F) D K G) (hb : Below w.heap.size w wr) (hA : ∀ k, A k → VarN w wr k) : OutG w sb F H A D K G 0 wr (.slice none 0 0) 0 [] D := by
 have s := Step.of_below F hb
 refine ⟨F, K, G, World.ownsRow_nil wr _ _ _, hm.below hb, (hi.grow (W := w) (zl) (Zpj (wr := wr) (fun k hk => (hA k hk).1) ?_)).step (s.hot _), s, Grown2.refl _ _ _, by omega, hA⟩
 intro k hk
 simp [Value.ownBlock] at hk
theorem OutG.below (h : OutG w sb F H A D K G used wr o n cs Dr) (hb : Below wr.heap.size wr W) : OutG w sb F H A D K G used W o n cs Dr := by
 obtain ⟨Fr, Kr, Gr, h1, h2, h3, h4, h5, h6, h7⟩ := h
 have s := Step.of_below Fr hb
 exact ⟨Fr, Kr, Gr, Zac h1 hb, h2.below hb, h3.step (s.hot _), h4.trans s, h5, h6, fun k hk => (h7 k hk).same (hb.block k (h7 k hk).lt)⟩
theorem OutG.more (h : OutG w sb F H A D K G used wr o n cs Dr) {used' : Nat} (hu : used ≤ used') : OutG w sb F H A D K G used' wr o n cs Dr := by
 obtain ⟨Fr, Kr, Gr, h1, h2, h3, h4, h5, h6, h7⟩ := h
 exact ⟨Fr, Kr, Gr, h1, h2, h3, h4, h5, by omega, h7⟩
theorem OutG.le (h : OutG w sb F H A D K G used wr o n cs Dr) : w.heap.size ≤ wr.heap.size := by
 obtain ⟨Fr, Kr, Gr, h1, h2, h3, h4, h5, h6, h7⟩ := h
 exact h4.keeps.size
theorem OutG.own (h : OutG w sb F H A D K G used wr o n cs Dr) : wr.ownsRow w.heap.size 62 3 o n cs := by
 obtain ⟨Fr, Kr, Gr, h1, h2, h3, h4, h5, h6, h7⟩ := h
 exact h1
theorem OutG.d (h : OutG w sb F H A D K G used wr o n cs Dr) : ∀ p z, D p = some z → Dr p = some z := by
 obtain ⟨Fr, Kr, Gr, h1, h2, h3, h4, h5, h6, h7⟩ := h
 exact h5.d
theorem OutG.var (h : OutG w sb F H A D K G used wr o n cs Dr) : ∀ k, A k → VarN w wr k := by
 obtain ⟨Fr, Kr, Gr, h1, h2, h3, h4, h5, h6, h7⟩ := h
 exact h7
theorem OutG.append (h : OutG w sb F H A D K G used wr o n cs Dr) (hw : 0 < w.heap.size) {o' : Value} {n' : Nat} {cs' : List Value} (ho : W.ownsRow w.heap.size 62 3 o' n' cs') (hg : wr.grownBy W o.ownBlock)
   (hat : o'.ownBlock = o.ownBlock ∨ o'.ownBlock = some wr.heap.size) : OutG w sb F H A D K G used W o' n' cs' Dr := by
 obtain ⟨Fr, Kr, Gr, h1, h2, h3, h4, h5, h6, h7⟩ := h
 have hge := Zak h1
 have i1 : StInv wr (hot (fun k => rowH H A o k ∨ o'.ownBlock = some k) Fr) Dr Kr Gr := h3.grow (W := wr) (zl) (fun i hx => by
   rcases hx with x | x
   · rcases x with x | x
     · exact .inl (.inl x)
     · rcases hat with e | e
       · rw [e] at x; exact .inl (.inl (.inr (.inr x)))
       · rw [e] at x; cases x; exact .inr (zl)
   · exact .inl (.inr x))
 have i2 : StInv W (hot (fun k => rowH H A o k ∨ o'.ownBlock = some k) Fr) Dr Kr Gr := i1.keeps ⟨hg.os, hg.tape, hg.output, hg.size, fun k a b => hg.block k a (fun e => b (.inl (.inl (.inr (.inr e.symm)))))⟩
 refine ⟨Fr, Kr, Gr, ho, h2.grownT h1 (by decide) (by decide) (by decide) hw hg, i2.shrink (fun i hx => by
   rcases hx with x | x
   · rcases x with x | x | x
     · exact .inl (.inl (.inl x))
     · exact .inl (.inl (.inr (.inl x)))
     · exact .inl (.inr x)
   · exact .inr x), ⟨⟨hg.os.trans h4.keeps.os, hg.tape.trans h4.keeps.tape, hg.output.trans h4.keeps.output, Nat.le_trans h4.keeps.size hg.size, fun k a b => ?_⟩, h4.grow, h4.mono⟩, h5, h6, fun k hk => (h7 k hk).same (hg.block k (h7 k hk).lt (fun e => (h7 k hk).row h1 e.symm))⟩
 exact (hg.block k (Nat.lt_of_lt_of_le a h4.keeps.size) (fun e => by have := hge k e.symm; omega)).trans (h4.keeps.block k a b)
theorem OutG.set (h : OutG w sb F H A D K G used wr o n cs Dr) (hw : 0 < w.heap.size) {x : Nat} (hx : A x) (i : Nat) (v : Value) : OutG w sb F H A D K G used (wr.setCell ⟨x, i, none⟩ v) o n cs Dr := by
 obtain ⟨Fr, Kr, Gr, h1, h2, h3, h4, h5, h6, h7⟩ := h
 have hv := h7 x hx
 have hF := h2.notF hv.own
 have hne := hv.row h1
 have hk : Keeps (fun k => k = x) wr (wr.setCell ⟨x, i, none⟩ v) := Zal v rfl
 have hnf : ∀ c t fr, wr.heap[x]? = some (.cells c t fr) → t ≠ 113 := by
   obtain ⟨_, c0, fr0, h0⟩ := hv
   intro c t fr hh
   rw [h0] at hh
   cases hh; decide
 refine ⟨Fr, Kr, Gr, Zag h1 hk (fun b hb e => hne (by rw [hb, e])), h2.set v hF (by have := hv.1; omega) hnf, h3.keeps (Zal v (.inl (.inr (.inl hx)))), ⟨Zav h4.keeps v hv.1, h4.grow, h4.mono⟩, h5, h6, fun k hk => ?_⟩
 obtain ⟨a1, c, fr, a2⟩ := h7 k hk
 refine ⟨a1, ?_⟩
 simp only [World.setCell, Array.getElem?_modify]
 by_cases e : x = k
 · subst e; rw [if_pos rfl, a2]; exact ⟨_, _, rfl⟩
 · rw [if_neg e]; exact ⟨c, fr, a2⟩
theorem Zpk (h : OutG w sb F H A D K G used wr o n cs Dr) (hH : ∀ k, H k → k < w.heap.size) : ∀ k, rowH H A o k → k < wr.heap.size := by
 intro k hk
 rcases hk with x | x | x
 · exact Nat.lt_of_lt_of_le (hH k x) h.le
 · exact (h.var k x).lt
 · exact (h.own.lt k x).2
theorem Zkv (h : OutG w sb F H A D K G used wr o n cs Dr) : ∀ i, hot (rowH H A o) F i → hot H F i ∨ w.heap.size ≤ i := Zpj (wr := wr) (fun k hk => (h.var k hk).1) (fun k hk => (h.own.lt k hk).1)
theorem OutG.pick {γ B : Nat} (hN : NextC γ sb B) (h : OutG w sb F H A D K G used wr o n cs Dr) (hH : ∀ k, H k → k < w.heap.size) {a : Nat} {s : Int} {g : Option Addr} (hv : ValD Dr s g (a : Int)) (hB : a < B) (hw : wt (a : Int) ≤ 29999)
   (hbig : K.length + used + 1 ≤ big) {vA : Value} {ts : List TV} {l : List Tm} (hr : RowF w (hot H F) 3 vA ts.length (flatT ts)) (ht : TVals D ts l) (hf : Falls l) (hd : ∀ u ∈ l, a < u.2) (hlen : ts.length ≤ 60000) {c : Int} (hc : -100000 ≤ c ∧ c ≤ 100000) :
   Calls Tryz.prog 103 #[.pointer (some ⟨sb, 0, none⟩), .int .i64 c, .agg #[.int .i64 s, .pointer g], vA] wr fun x w' => ∃ Dn, x = .returned (.int .i64 (sg (pickM (c + 2 * cntE l (a + 1))))) ∧ OutG w sb F H A D K G (used + γ) w' o n cs Dn ∧ (∀ p z, Dr p = some z → Dn p = some z) ∧ Others wr w' := by
 have hlt := Zpk h hH
 have hgr := Zkv h
 obtain ⟨Fr, Kr, Gr, h1, h2, h3, h4, h5, h6, h7⟩ := h
 refine (Znx hN h2 h3 hlt hv hB hw (by omega) ((hr.grow (zl) hgr).step (h4.hot (rowH H A o))) (ht.mono h5.d) hf hd hlen hc).mono ?_
 rintro x w' ⟨rfl, F', D', K', G', m2, i2, st2, gg2, hk2⟩
 exact ⟨D', rfl, ⟨F', K', G', Zag h1 st2.keeps (h2.own h1 (by decide) (by decide)), m2, i2, h4.trans st2, h5.trans gg2, by omega, fun k hk => (h7 k hk).same (st2.keeps.block k (h7 k hk).lt (h2.notF (h7 k hk).own))⟩, gg2.d, fun x c t fr hx h1 h3 h4 => Own.kept h2 st2.keeps hx h1 h3 h4⟩
theorem OutG.next {γ B : Nat} (hN : NextC γ sb B) (h : OutG w sb F H A D K G used wr o n cs Dr) (hH : ∀ k, H k → k < w.heap.size) {a : Nat} {s : Int} {g : Option Addr} (hv : ValD Dr s g (a : Int)) (hB : a < B) (hw : wt (a : Int) ≤ 29999)
   (hbig : K.length + used + 1 ≤ big) :
   Calls Tryz.prog 100 #[.pointer (some ⟨sb, 0, none⟩), .agg #[.int .i64 s, .pointer g]] wr fun x w' => ∃ (s' : Int) (g' : Option Addr) (Dn : Addr → Option Int), x = .returned (.agg #[.int .i64 s', .pointer g']) ∧ ValD Dn s' g' ((a + 1 : Nat) : Int) ∧
     OutG w sb F H A D K G (used + γ) w' o n cs Dn ∧ (∀ p z, Dr p = some z → Dn p = some z) ∧ Others wr w' := by
 have hlt := Zpk h hH
 obtain ⟨Fr, Kr, Gr, h1, h2, h3, h4, h5, h6, h7⟩ := h
 refine (hN _ _ _ _ _ _ h2 h3 hlt a s g hv hB hw (by omega)).mono ?_
 rintro x w' ⟨s', g', F', D', K', G', rfl, hv', m2, i2, st2, gg2, hk2⟩
 exact ⟨s', g', D', rfl, by exact_mod_cast hv', ⟨F', K', G', Zag h1 st2.keeps (h2.own h1 (by decide) (by decide)), m2, i2, h4.trans st2, h5.trans gg2, by omega, fun k hk => (h7 k hk).same (st2.keeps.block k (h7 k hk).lt (h2.notF (h7 k hk).own))⟩, gg2.d, fun x c t fr hx h1 h3 h4 => Own.kept h2 st2.keeps hx h1 h3 h4⟩
theorem OutG.row (h : OutG w sb F H A D K G used wr o n cs Dr) {sz : Nat} {v : Value} {m : Nat} {xs : List Value} (hr : RowF w (hot H F) sz v m xs) : RowV wr sz v m xs := by
 have hgr := Zkv h
 obtain ⟨Fr, Kr, Gr, h1, h2, h3, h4, h5, h6, h7⟩ := h
 exact ((hr.grow (zl) hgr).step (h4.hot (rowH H A o))).1
theorem OutG.ptr (h : OutG w sb F H A D K G used wr o n cs Dr) {s : Int} {g : Option Addr} {z : Int} (hv : ValD Dr s g z) : PtrOk wr g := by
 obtain ⟨Fr, Kr, Gr, h1, h2, h3, h4, h5, h6, h7⟩ := h
 exact hv.ptr h3.forest
theorem OutG.same (h : OutG w sb F H A D K G used wr o n cs Dr) {s s' : Int} {g g' : Option Addr} {z z' : Int} (hv : ValD Dr s g z) (hv' : ValD Dr s' g' z') : (s == s' && g == g') = decide (z' = z) := by
 obtain ⟨Fr, Kr, Gr, h1, h2, h3, h4, h5, h6, h7⟩ := h
 exact ValD.same h3.forest hv hv'
theorem OutG.ends (h : OutG w sb F H A D K G used wr o n cs Dr) (hH : ∀ k, H k → k < w.heap.size) {v : Value} {m : Nat} {xs : List Value} (ho : wr.ownsRow w.heap.size 62 3 v m xs) : ∃ (F' : Nat → Prop) (K' : List Addr) (G' : StG), GrowMem w sb F H D K G used wr F' Dr K' G' ∧ RowF wr (hot H F') 3 v m xs := by
 obtain ⟨Fr, Kr, Gr, h1, h2, h3, h4, h5, h6, h7⟩ := h
 refine ⟨Fr, Kr, Gr, ⟨h2, h3.shrink (fun i hx => by
   rcases hx with x | x
   · exact .inl (.inl x)
   · exact .inr x), h4, h5, h6⟩, RowV.of_own ho, fun b hb hh => ?_⟩
 rcases hh with x | x
 · have := hH b x; have := (ho.lt b hb).1; omega
 · exact h2.own ho (by decide) (by decide) b hb x
end
theorem RowF.takeT {w : World} {F : Nat → Prop} {a : Option Addr} {n c m : Nat} {ts : List TV} (h : RowF w F 3 (.slice a n c) n (flatT ts)) (hn : n = ts.length) (hm : m ≤ n) : RowF w F 3 (.slice a m c) (ts.take m).length (flatT (ts.take m)) := by
 have hl : (ts.take m).length = m := by rw [List.length_take]; omega
 rw [hl]
 obtain ⟨⟨h1, h2⟩, h3⟩ := h
 rcases h2 with ⟨e, h0⟩ | ⟨b1, off1, cap1, e1, p1, p2, p3, p4⟩
 · subst h0
   have hm0 : m = 0 := by omega
   subst hm0
   cases e
   exact ⟨⟨by simp [Zcb], .inl ⟨rfl, rfl⟩⟩, fun k hk => h3 k hk⟩
 · cases e1
   refine ⟨⟨by rw [Zd2, hl], .inr ⟨b1, off1, c, rfl, by omega, p2, p3, fun j u hj => p4 j u ?_⟩⟩, fun k hk => h3 k hk⟩
   have hsp : flatT ts = flatT (ts.take m) ++ flatT (ts.drop m) := by rw [← Zas, List.take_append_drop]
   rw [hsp, List.getElem?_append_left]
   · exact hj
   · rcases Nat.lt_or_ge j (flatT (ts.take m)).length with y | y
     · exact y
     · simp [List.getElem?_eq_none y] at hj
end
end Go.Proofs.YtlkmgclbckojgaaGreatDoor

