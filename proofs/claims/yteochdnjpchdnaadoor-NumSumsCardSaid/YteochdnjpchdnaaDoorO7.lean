import Derived.Test.YteochdnjpchdnaaDoorK4
import Derived.Deep.CutRange
import Derived.Deep.LoopGhost
import Derived.Deep.AppendLies
import Derived.Lib.SmallJoins
set_option linter.unusedVariables false
set_option linter.unusedSimpArgs false
namespace Go.Proofs.YteochdnjpchdnaaDoor
open Go.RowKit
set_option linter.unusedVariables false
variable {B B' : Nat → Prop}

/-! Two rows that grow side by side, and a number that is added up meanwhile (for NumSums). -/
def ownAB (va vb : Value) : Nat → Prop := fun j => va.ownBlock = some j ∨ vb.ownBlock = some j
theorem NumA.grownAB {W w7 : World} {o : Option Nat} {s z : Int} {g : Option Addr} (h : NumA B W s g z) (hg : W.grownBy w7 o) (ho : ∀ k, o = some k → B k) (hB : ∀ k, B' k → B k ∨ W.heap.size ≤ k) : NumA B' w7 s g z := by
  have h1 : NumA (orA B (fun k => W.heap.size ≤ k)) W s g z := h.grow (fun i hi => hi)
  have h2 := h1.2.keeps (w' := w7) ⟨hg.os, hg.tape, hg.output, hg.size, fun k a b => hg.block k a (fun e => b (.inl (ho k e.symm)))⟩
  exact ⟨h.1, h2.shrink (fun i hi => hB i hi)⟩

def SuS (wq : World) (va vb : Value) (ra rb : List TV) (bx : Nat) (X : Int) (wl : World) : Prop :=
  Below wq.heap.size wq wl ∧ wl.ownsRow wq.heap.size 50 3 va ra.length (flatT ra) ∧ wl.ownsRow wq.heap.size 50 3 vb rb.length (flatT rb) ∧ (∀ j, va.ownBlock = some j → vb.ownBlock ≠ some j) ∧ wq.heap.size ≤ bx ∧ NumAt (ownAB va vb) wl bx X
section
variable {wq wl W w7 : World} {va vb va' : Value} {ra rb : List TV} {bx : Nat} {X : Int}
theorem SuS.below (h : SuS wq va vb ra rb bx X wl) (hb : Below wl.heap.size wl W) : SuS wq va vb ra rb bx X W :=
  ⟨h.1.trans (hb.mono h.1.size), ownsRow_belowAll h.2.1 hb, ownsRow_belowAll h.2.2.1 hb, h.2.2.2.1, h.2.2.2.2.1, h.2.2.2.2.2.below hb⟩
theorem SuS.swap (h : SuS wq va vb ra rb bx X wl) : SuS wq vb va rb ra bx X wl := by
  obtain ⟨h1, h2, h3, h4, h5, s, g, h6, h7⟩ := h
  exact ⟨h1, h3, h2, fun j hj hj2 => h4 j hj2 hj, h5, s, g, h6, h7.grow (fun i hi => .inl hi.symm)⟩
theorem SuS.pushA {t : TV} (h : SuS wq va vb ra rb bx X wl) (hW : Below wl.heap.size wl W) (ho : w7.ownsRow wq.heap.size 50 3 va' (ra.length + 1) (flatT ra ++ cellsT t)) (hg : W.grownBy w7 va.ownBlock) (hat : ∀ k, va'.ownBlock = some k → va.ownBlock = some k ∨ W.heap.size ≤ k) : SuS wq va' vb (ra ++ [t]) rb bx X w7 := by
  obtain ⟨h1, h2, h3, h4, h5, s, g, h6, h7⟩ := h
  have hs := hW.size
  have hsq := h1.size
  have b2 := ownsRow_belowAll h2 hW
  have b3 := ownsRow_belowAll h3 hW
  have b6 := (hW.block _ (lt_of_some h6)).trans h6
  refine ⟨(h1.trans (hW.mono h1.size)).grown hg (by omega) (fun j hj => (h2.lt j hj).1), ?_, b3.kept hg ?_, fun j hj => ?_, h5, s, g, ?_, ?_⟩
  · rw [flatT_append, List.length_append]; exact ho
  · rcases hvb : vb.ownBlock with _ | j
    · exact .inl rfl
    · exact .inr (fun e => h4 j e.symm hvb)
  · rcases hat j hj with e | e
    · exact h4 j e
    · intro hb
      have := (h3.lt j hb).2
      omega
  · exact (hg.block _ (Nat.lt_of_lt_of_le (lt_of_some h6) hs) (fun e => own_ne' b2 b6 _ e.symm rfl)).trans b6
  · refine (h7.below hW).grownAB hg (fun k hk => .inl hk) (fun k hk => ?_)
    rcases hk with e | e
    · rcases hat k e with x | x
      · exact .inl (.inl x)
      · exact .inr x
    · exact .inl (.inr e)
theorem SuS.put {s z : Int} {g : Option Addr} (h : SuS wq va vb ra rb bx X wl) (hn : NumA (ownAB va vb) wl s g z) : SuS wq va vb ra rb bx z ((wl.setCell ⟨bx, 0, none⟩ (.int .i64 s)).setCell ⟨bx, 1, none⟩ (.pointer g)) := by
  obtain ⟨h1, h2, h3, h4, h5, s', g', h6, h7⟩ := h
  have n2 : va.ownBlock ≠ some bx := fun e => own_ne' h2 h6 _ e rfl
  have n3 : vb.ownBlock ≠ some bx := fun e => own_ne' h3 h6 _ e rfl
  exact ⟨(h1.setCell (p := ⟨bx, 0, none⟩) h5 _).setCell (p := ⟨bx, 1, none⟩) h5 _, ownsRow_setCell_other (ownsRow_setCell_other h2 (a := ⟨bx, 0, none⟩) n2 _) (a := ⟨bx, 1, none⟩) n2 _, ownsRow_setCell_other (ownsRow_setCell_other h3 (a := ⟨bx, 0, none⟩) n3 _) (a := ⟨bx, 1, none⟩) n3 _, h4, h5, NumAt.put h6 hn⟩
end

/-! The terms that the law asks the sum of. -/
def tvC (ns : List NV) (c : Int) : TV := (decide (c < 0), (ns.getD (c % (ns.length : Int)).toNat (0, none)).1, (ns.getD (c % (ns.length : Int)).toNat (0, none)).2)
def vC (zs : List Int) (c : Int) : Bool × Int := (decide (c < 0), zs.getD (c % (zs.length : Int)).toNat 0)
def seqC (ns : List NV) (f : Nat → Int) (k : Nat) : List TV := (List.range k).map (fun i => tvC ns (f i))
def seqV (zs : List Int) (f : Nat → Int) (k : Nat) : List (Bool × Int) := (List.range k).map (fun i => vC zs (f i))
theorem seqC_len (ns : List NV) (f : Nat → Int) (k : Nat) : (seqC ns f k).length = k := by simp [seqC]
theorem seqV_len (zs : List Int) (f : Nat → Int) (k : Nat) : (seqV zs f k).length = k := by simp [seqV]
theorem seqC_succ (ns : List NV) (f : Nat → Int) (k : Nat) : seqC ns f (k + 1) = seqC ns f k ++ [tvC ns (f k)] := by simp [seqC, List.range_succ]
theorem seqV_succ (zs : List Int) (f : Nat → Int) (k : Nat) : seqV zs f (k + 1) = seqV zs f k ++ [vC zs (f k)] := by simp [seqV, List.range_succ]
theorem idx_lt (c : Int) {L : Nat} (hL : 0 < L) : (c % (L : Int)).toNat < L := by
  have h1 := Int.emod_nonneg c (show (L : Int) ≠ 0 by omega)
  have h2 := Int.emod_lt_of_pos c (show (0 : Int) < (L : Int) by omega)
  omega
theorem numC {w : World} {ns : List NV} {zs : List Int} (h : NumsV B w ns zs) (hL : 0 < ns.length) (c : Int) : NumA B w (tvC ns c).2.1 (tvC ns c).2.2 (vC zs c).2 := by
  have hl := h.len
  have h1 := idx_lt c hL
  have h2 : (c % (zs.length : Int)).toNat = (c % (ns.length : Int)).toNat := by rw [hl]
  have h3 := h.get _ h1 (by omega)
  unfold tvC vC
  simp only [h2]
  have h4 : (c % (ns.length : Int)).toNat < zs.length := by omega
  simp only [List.getD_eq_getElem?_getD, List.getElem?_eq_getElem h1, List.getElem?_eq_getElem h4, Option.getD_some]
  exact h3
theorem fitsC {w : World} {ns : List NV} {zs : List Int} (h : NumsV B w ns zs) (hL : 0 < ns.length) (f : Nat → Int) (k : Nat) : FitsV B w (seqC ns f k) (seqV zs f k) := fits_map _ (fun i _ => ⟨rfl, numC h hL (f i)⟩)

open Classical in
noncomputable def errU (vs : List (Bool × Int)) : Int := if ∃ p ∈ vs, p.2 < 0 then 1 else if allowedZ (sumZ vs) then 0 else 5
open Classical in
noncomputable def valU (vs : List (Bool × Int)) : Int := if (∀ p ∈ vs, 0 ≤ p.2) ∧ allowedZ (sumZ vs) then sumZ vs else 0
theorem sumZ_perm {vs us : List (Bool × Int)} (h : vs.Perm us) : sumZ vs = sumZ us := val_perm (h.map _)
theorem errU_perm {vs us : List (Bool × Int)} (h : vs.Perm us) : errU vs = errU us ∧ valU vs = valU us := by
  unfold errU valU
  rw [sumZ_perm h]
  have h1 : (∃ p ∈ vs, p.2 < 0) ↔ ∃ p ∈ us, p.2 < 0 := ⟨fun ⟨p, a, b⟩ => ⟨p, h.mem_iff.1 a, b⟩, fun ⟨p, a, b⟩ => ⟨p, h.mem_iff.2 a, b⟩⟩
  have h2 : (∀ p ∈ vs, 0 ≤ p.2) ↔ ∀ p ∈ us, 0 ≤ p.2 := ⟨fun k p a => k p (h.mem_iff.2 a), fun k p a => k p (h.mem_iff.1 a)⟩
  refine ⟨?_, ?_⟩
  · by_cases e : ∃ p ∈ us, p.2 < 0
    · rw [if_pos (h1.2 e), if_pos e]
    · rw [if_neg (fun x => e (h1.1 x)), if_neg e]
  · by_cases e : (∀ p ∈ us, 0 ≤ p.2) ∧ allowedZ (sumZ us)
    · rw [if_pos ⟨h2.2 e.1, e.2⟩, if_pos e]
    · rw [if_neg (fun x => e ⟨h2.1 x.1, x.2⟩), if_neg e]
theorem rot_perm (n t : Nat) (hn : 0 < n) : ((List.range n).map (fun i => (i + t) % n)).Perm (List.range n) := by
  have hr : t % n < n := Nat.mod_lt _ hn
  have e : (List.range n).map (fun i => (i + t) % n) = (List.range n).drop (t % n) ++ (List.range n).take (t % n) := by
    refine List.ext_getElem (by simp; omega) fun i h1 h2 => ?_
    have hi : i < n := by simpa using h1
    have hm : (i + t) % n = (i + t % n) % n := by rw [Nat.add_mod_mod]
    simp only [List.getElem_map, List.getElem_range]
    rw [hm]
    by_cases hlt : i + t % n < n
    · rw [Nat.mod_eq_of_lt hlt, List.getElem_append_left (by simp; omega)]
      simp; omega
    · rw [show (i + t % n) % n = i + t % n - n by rw [Nat.mod_eq_sub_mod (by omega), Nat.mod_eq_of_lt (by omega)], List.getElem_append_right (by simp; omega)]
      simp; omega
  rw [e]
  exact (List.perm_append_comm).trans (by rw [List.take_append_drop])
theorem seq_perm (zs : List Int) (f : Nat → Int) (n t : Nat) : (seqV zs (fun i => f ((i + t) % n)) n).Perm (seqV zs f n) := by
  by_cases hn : 0 < n
  · have h := (rot_perm n t hn).map (fun i => vC zs (f i))
    rw [List.map_map] at h
    exact h
  · obtain rfl : n = 0 := by omega
    simp [seqV]
/-- whether one of the exponents is negative -/
def negC (zs : List Int) (f : Nat → Int) (k : Nat) : Bool := (List.range k).any (fun i => decide ((vC zs (f i)).2 < 0))
theorem negC_succ (zs : List Int) (f : Nat → Int) (k : Nat) : negC zs f (k + 1) = (negC zs f k || decide ((vC zs (f k)).2 < 0)) := by simp [negC, List.range_succ]
theorem negC_iff (zs : List Int) (f : Nat → Int) (k : Nat) : negC zs f k = true ↔ ∃ p ∈ seqV zs f k, p.2 < 0 := by
  unfold negC seqV
  rw [List.any_eq_true]
  refine ⟨fun ⟨i, h1, h2⟩ => ⟨_, List.mem_map_of_mem h1, of_decide_eq_true h2⟩, fun ⟨p, h1, h2⟩ => ?_⟩
  obtain ⟨i, hi, rfl⟩ := List.mem_map.1 h1
  exact ⟨i, hi, decide_eq_true h2⟩
theorem sumZ_snoc (vs : List (Bool × Int)) (p : Bool × Int) : sumZ (vs ++ [p]) = sumZ vs + tv (tmOf p) := by
  unfold sumZ
  rw [List.map_append, val_append]
  simp [val]
/-- what is known of the number that is added up, as long as all was fine -/
def FineC (zs : List Int) (f : Nat → Int) (k : Nat) (X : Int) : Prop := negC zs f k = false ∧ X = sumZ (seqV zs f k)
/-- the power with its sign -/
noncomputable def powC (p : Bool × Int) : Int := if p.1 = true then -valS 1 p.2 else valS 1 p.2
theorem FineC.next {zs : List Int} {f : Nat → Int} {k : Nat} {X : Int} (h : FineC zs f k X) (he : errS 1 (vC zs (f k)).2 = 0) (hf : errA (X + powC (vC zs (f k))) = 0) : FineC zs f (k + 1) (valA (X + powC (vC zs (f k)))) := by
  obtain ⟨h1, h2⟩ := h
  obtain ⟨e1, e2, e3⟩ := errS_0 he
  have h0 : 0 ≤ (vC zs (f k)).2 := by
    have := e1 (false, 0) (by rw [naf1]; simp)
    simpa using this
  have hp := pow_val h0 he
  refine ⟨?_, ?_⟩
  · rw [negC_succ, h1]
    simp; omega
  · rw [(errA_0 hf).2, seqV_succ, sumZ_snoc, h2]
    congr 1
    unfold powC tmOf tv
    rw [hp]
    generalize vC zs (f k) = p
    obtain ⟨m, y⟩ := p
    cases m <;> simp [sg]
/-- Sum of some terms -/
theorem LawW.sumU {wc : World} (h : LawW wc) {v : Value} {ts : List TV} {vs : List (Bool × Int)} (hr : RowV wc 3 v ts.length (flatT ts)) (hv : FitsV cold wc ts vs) (hm : ts.length ≤ 1000) : Calls Tryd.prog 31 #[v] wc fun e w' => ∃ (r : Int) (q : Option Addr), e = .returned (.tuple #[.agg #[.int .i64 r, .pointer q], .int .i64 (errU vs)]) ∧ NumA cold w' r q (valU vs) ∧ Below wc.heap.size wc w' := by
  have hl := hv.len
  refine (Sum_calls hr hv (by omega) (h wc (Below.refl _ _)).1 (h wc (Below.refl _ _)).2 (fun k hk => hk.elim)).mono ?_
  rintro e w' ⟨hb, ⟨hx, rfl⟩ | ⟨hx, _, ha, r, q, rfl, hn⟩ | ⟨hx, hno, rfl⟩⟩
  · refine ⟨0, none, by unfold errU; rw [if_pos hx], ?_, hb⟩
    unfold valU
    rw [if_neg (fun k => by obtain ⟨p, a, b⟩ := hx; have := k.1 p a; omega)]
    exact NumA.small _ i64_0
  · have hno : ¬ ∃ p ∈ vs, p.2 < 0 := fun ⟨p, a, b⟩ => by have := hx p a; omega
    exact ⟨r, q, by unfold errU; rw [if_neg hno, if_pos ha], by unfold valU; rw [if_pos ⟨hx, ha⟩]; exact hn, hb⟩
  · have hno1 : ¬ ∃ p ∈ vs, p.2 < 0 := fun ⟨p, a, b⟩ => by have := hx p a; omega
    have hno2 : ¬ allowedZ (sumZ vs) := by
      rcases hno with x | x
      · omega
      · exact x
    exact ⟨0, none, by unfold errU; rw [if_neg hno1, if_neg hno2], by unfold valU; rw [if_neg (fun k => hno2 k.2)]; exact NumA.small _ i64_0, hb⟩
section
variable {wc : World} {s s' z y : Int} {g g' : Option Addr}
theorem LawW.addB (h : LawW wc) (hx : NumA B wc s g z) (hy : NumA B wc s' g' y) (hB : ∀ k, B k → k < wc.heap.size) : Calls Tryd.prog 16 #[.agg #[.int .i64 s, .pointer g], .agg #[.int .i64 s', .pointer g']] wc fun e w' => ∃ (r : Int) (q : Option Addr), e = .returned (.tuple #[.agg #[.int .i64 r, .pointer q], .int .i64 (errA (z + y))]) ∧ NumA B w' r q (valA (z + y)) ∧ Below wc.heap.size wc w' := by
  refine (Add_calls hx hy (h wc (Below.refl _ _)).1 (h wc (Below.refl _ _)).2 hB).mono ?_
  rintro e w' ⟨hb, ⟨h1, r, q, he, hn⟩ | ⟨h1, he⟩⟩
  · exact ⟨r, q, by unfold errA; rw [if_pos h1]; exact he, by unfold valA; rw [if_pos h1]; exact hn, hb⟩
  · exact ⟨0, none, by unfold errA; rw [if_neg h1]; exact he, by unfold valA; rw [if_neg h1]; exact NumA.small _ i64_0, hb⟩
theorem LawW.shiftB (h : LawW wc) (hx : NumA B wc s g z) (hy : NumA B wc s' g' y) (hB : ∀ k, B k → k < wc.heap.size) : Calls Tryd.prog 20 #[.agg #[.int .i64 s, .pointer g], .agg #[.int .i64 s', .pointer g']] wc fun e w' => ∃ (r : Int) (q : Option Addr), e = .returned (.tuple #[.agg #[.int .i64 r, .pointer q], .int .i64 (errS z y)]) ∧ NumA B w' r q (valS z y) ∧ Below wc.heap.size wc w' := by
  refine (Shift_calls hx hy (h wc (Below.refl _ _)).1 (h wc (Below.refl _ _)).2 hB).mono ?_
  rintro e w' ⟨hb, ⟨h1, he⟩ | ⟨h1, h2, r, q, he, hn⟩ | ⟨h1, h2, he⟩⟩
  · exact ⟨0, none, by unfold errS; rw [if_neg h1]; exact he, by unfold valS; rw [if_neg (fun h => h1 h.1)]; exact NumA.small _ i64_0, hb⟩
  · exact ⟨r, q, by rw [(errS_yes h1 h2).1]; exact he, by rw [(errS_yes h1 h2).2]; exact hn, hb⟩
  · exact ⟨0, none, by unfold errS; rw [if_pos h1, if_neg h2]; exact he, by unfold valS; rw [if_neg (fun h => h2 h.2)]; exact NumA.small _ i64_0, hb⟩
end
theorem SuS.lt {wq wl : World} {va vb : Value} {ra rb : List TV} {bx : Nat} {X : Int} (h : SuS wq va vb ra rb bx X wl) : ∀ k, ownAB va vb k → k < wl.heap.size := fun k hk => by
  rcases hk with e | e
  · exact (h.2.1.lt k e).2
  · exact (h.2.2.1.lt k e).2
theorem SuS.ge {wq wl : World} {va vb : Value} {ra rb : List TV} {bx : Nat} {X : Int} (h : SuS wq va vb ra rb bx X wl) : ∀ k, ownAB va vb k → wq.heap.size ≤ k := fun k hk => by
  rcases hk with e | e
  · exact (h.2.1.lt k e).1
  · exact (h.2.2.1.lt k e).1
/-- at the end -/
theorem sums_end {zs : List Int} {f : Nat → Int} {n : Nat} {X : Int} (hX : allowedZ X) : (negC zs f n = true → errU (seqV zs f n) = 1) ∧ (FineC zs f n X → errU (seqV zs f n) = 0 ∧ valU (seqV zs f n) = X) := by
  refine ⟨fun h => ?_, fun h => ?_⟩
  · unfold errU; rw [if_pos ((negC_iff zs f n).1 h)]
  · obtain ⟨h1, h2⟩ := h
    have hno : ¬ ∃ p ∈ seqV zs f n, p.2 < 0 := fun x => by
      have := (negC_iff zs f n).2 x
      rw [h1] at this; cases this
    have hall : ∀ p ∈ seqV zs f n, 0 ≤ p.2 := fun p hp => by
      rcases Int.lt_or_le p.2 0 with x | x
      · exact absurd ⟨p, hp, x⟩ hno
      · exact x
    rw [h2] at hX
    unfold errU valU
    rw [if_neg hno, if_pos hX, if_pos ⟨hall, hX⟩]
    exact ⟨rfl, h2.symm⟩
theorem SuS.start {wq w3 : World} (h : Below ((wq.alloc (.cells #[] 50)).alloc (.cells #[] 50)).heap.size ((wq.alloc (.cells #[] 50)).alloc (.cells #[] 50)) w3) :
    SuS wq (.slice (some ⟨wq.heap.size, 0, none⟩) 0 0) (.slice (some ⟨wq.heap.size + 1, 0, none⟩) 0 0) [] [] w3.heap.size 0 (w3.alloc (.cells #[.int .i64 0, .pointer none] 29)) := by
  have hb1 : Below wq.heap.size wq (wq.alloc (.cells #[] 50)) := (Below.refl _ _).alloc (Nat.le_refl _) _
  have hb2 : Below wq.heap.size wq ((wq.alloc (.cells #[] 50)).alloc (.cells #[] 50)) := hb1.alloc hb1.size _
  have o1 : (wq.alloc (.cells #[] 50)).ownsRow wq.heap.size 50 3 (.slice (some ⟨wq.heap.size, 0, none⟩) 0 0) 0 [] := World.ownsRow_lit wq #[] 0 (Nat.le_refl _) (by decide) rfl
  have o2 : ((wq.alloc (.cells #[] 50)).alloc (.cells #[] 50)).ownsRow wq.heap.size 50 3 (.slice (some ⟨(wq.alloc (.cells #[] 50)).heap.size, 0, none⟩) 0 0) 0 [] := World.ownsRow_lit (wq.alloc (.cells #[] 50)) #[] 0 hb1.size (by decide) rfl
  rw [show (wq.alloc (.cells #[] 50)).heap.size = wq.heap.size + 1 by simp] at o2
  have hb3 := hb2.trans (h.mono hb2.size)
  have hA : Below w3.heap.size w3 (w3.alloc (.cells #[.int .i64 0, .pointer none] 29)) := (Below.refl _ _).alloc (Nat.le_refl _) _
  refine ⟨hb3.trans (hA.mono hb3.size), ownsRow_belowAll (ownsRow_belowAll (o1.alloc _) h) hA, ownsRow_belowAll (ownsRow_belowAll o2 h) hA, fun j hj hj2 => ?_, hb3.size, NumAt.new (NumA.small _ i64_0)⟩
  simp only [Value.ownBlock, Option.some.injEq] at hj hj2
  omega
end Go.Proofs.YteochdnjpchdnaaDoor

namespace Go.Proofs.YteochdnjpchdnaaDoor
open Go.RowKit
set_option linter.unusedVariables false

set_option maxRecDepth 100000 in
set_option maxHeartbeats 8000000 in
/-- ████ NumSums -/
theorem NumSums_calls {w : World} {v vw : Value} {os : List OV} {ws : List Int} (hr : RowV w 4 v os.length (flatO os)) (hi : ∀ o ∈ os, i64 o.2.1 ∧ i64 o.2.2.1 ∧ i64 o.2.2.2) (hw : RowV w 1 vw ws.length (ws.map (fun c : Int => Value.int .i8 c))) (hi8 : ∀ c ∈ ws, -128 ≤ c ∧ c ≤ 127) (tab : Tab w) (h0 : 0 < w.heap.size) (a0 : Int) (ia0 : i64 a0) :
    Calls Tryd.prog 9 #[v, vw, .int .i64 a0] w fun e w' => e = .returned (.bool true) ∧ Below w.heap.size w w' := by
  obtain ⟨ax, cx, rfl⟩ := hr.shape
  obtain ⟨aw, cw, rfl⟩ := hw.shape
  have hL := LawW.of tab h0 (Below.refl w.heap.size w)
  have hMade := made_calls (w := w) hr hi tab h0
  have HX := Lib.hid (And.intro hL (And.intro hw (And.intro hi8 ia0)))
  clear hr hi tab h0 hL hw hi8 ia0
  go_enter Tryd.func9, Tryd.ntmps9
  go_upto_region 2 with (first
    | (go_at_call 27; refine hMade.mono ?_; rintro e1 w1 ⟨a, m, c, rfl, hn3, hn27, hM⟩
       have H1 := Lib.hid hM
       clear hM))
  obtain ⟨ns, zs, hl, hown, hv, hb1, hm⟩ := H1.out
  obtain ⟨hL, hw, hi8, ia0⟩ := HX.out
  obtain ⟨b, rfl⟩ : ∃ b, a = some ⟨b, 0, none⟩ := by
    obtain ⟨_, h2⟩ := hown
    rcases h2 with ⟨e, _⟩ | ⟨g', cap, cur, ev, _⟩
    · simp only [Value.slice.injEq] at e; omega
    · cases ev; exact ⟨g', rfl⟩
  have hbl := (hown.lt b rfl).2
  subst hl
  have hnv : NumsV cold w1 ns zs := hv.imp (fun s g z h => h.cold)
  have hpos : 0 < ns.length := by omega
  have hlc := (RowV.of_own hown).rowC
  have hLC : ∀ W, Below w1.heap.size w1 W → ∀ (c : Int), W.cell? ⟨b, (c % (ns.length : Int)).toNat * 2, none⟩ = some (.int .i64 (tvC ns c).2.1) ∧ W.cell? ⟨b, (c % (ns.length : Int)).toNat * 2 + 1, none⟩ = some (.pointer (tvC ns c).2.2) := fun W hW c => by
    have h1 := idx_lt c hpos
    obtain ⟨q0, q1⟩ := RowC.num hlc _ h1
    simp only [Nat.zero_add] at q0 q1
    have e : ns[(c % (ns.length : Int)).toNat] = ((tvC ns c).2.1, (tvC ns c).2.2) := by
      unfold tvC
      simp only [List.getD_eq_getElem?_getD, List.getElem?_eq_getElem h1, Option.getD_some]
    rw [e] at q0 q1
    exact ⟨(hW.cell (p := ⟨b, (c % (ns.length : Int)).toNat * 2, none⟩) hbl).trans q0, (hW.cell (p := ⟨b, (c % (ns.length : Int)).toNat * 2 + 1, none⟩) hbl).trans q1⟩
  have hw1 := hw.below hb1 (Nat.le_refl _)
  have hLw := hL.on hb1
  obtain ⟨wq, hwq⟩ : ∃ wq, wq = w1 := ⟨_, rfl⟩
  subst hwq
  have HLL := Lib.hid (And.intro hLw (And.intro hb1 True.intro))
  have HB := Lib.hid (Below.refl wq.heap.size wq)
  have hL27 : (ns.length : Int) ≤ 27 := by omega
  have hL0 : (0 : Int) < (ns.length : Int) := by omega
  have HNC := Lib.hid (And.intro hnv (And.intro hpos hm))
  have HLC := Lib.hid hLC
  obtain ⟨L, hLL⟩ : ∃ L, L = ns.length := ⟨_, rfl⟩
  rw [← hLL] at hL27 hL0
  rw [← hLL] at HLC ⊢
  clear H1 HX hMade hown hv hm hlc hLC hL hw hLw hnv hpos hn3 hn27 hb1
  have HLL2 := Lib.hid hLL
  clear hLL
  by_cases hlen : ws.length ≤ 40
  rotate_left
  · have hgt : (40 : Int) < (ws.length : Int) := by omega
    obtain ⟨wn, hwn⟩ : ∃ wn, wn = wq := ⟨_, rfl⟩
    have hb : Below wq.heap.size wq wn := by rw [hwn]; exact Below.refl _ _
    rw [← hwn]
    have HB := Lib.hid hb
    clear hb hwn
    have HAW := Lib.hid ((HLL.out.1.on HB.out).awake)
    go_wp2_with (first
      | (go_at_call 13; with_reducible refine (HAW.out _ (by repeat (first | exact Below.refl _ _ | refine Below.drew ?_))).mono ?_; rintro e5 w5 ⟨rfl, hb5⟩
         have HN := Lib.hid hb5
         clear hb5))
    refine bodyPost_ret (v := .bool true) (by simp [results, Tryd.results9, go_sem, *]) rfl ⟨rfl, HLL.out.2.1.trans ((HB.out.trans (HN.out.mono HB.out.size)).mono HLL.out.2.1.size)⟩
  have hgt : ¬ (40 : Int) < (ws.length : Int) := by omega
  obtain ⟨n, hn⟩ : ∃ n, n = ws.length := ⟨_, rfl⟩
  obtain ⟨fa, hfa⟩ : ∃ fa : Nat → Int, fa = fun i => ws.getD i 0 := ⟨_, rfl⟩
  have hWC : ∀ i, i < n → (-128 ≤ fa i ∧ fa i ≤ 127) ∧ ∃ bw ow, aw = some ⟨bw, ow, none⟩ ∧ ∀ W, Below wq.heap.size wq W → W.cell? ⟨bw, ow + i, none⟩ = some (.int .i8 (fa i)) := fun i hi => by
    have hi2 : i < ws.length := by omega
    have e : fa i = ws[i] := by rw [hfa]; simp [List.getD_eq_getElem?_getD, hi2]
    refine ⟨by rw [e]; exact hi8 _ (List.getElem_mem hi2), ?_⟩
    rcases hw1.2 with ⟨e1, h0⟩ | ⟨bw, ow, cap, e1, p1, p2, p3, p4⟩
    · omega
    · cases e1
      refine ⟨bw, ow, rfl, fun W hW => ?_⟩
      have h4 := p4 i (.int .i8 (fa i)) (by rw [e]; simp [hi2])
      exact (hW.cell (p := ⟨bw, ow + i, none⟩) p3).trans h4
  have HWC := Lib.hid hWC
  rw [← hn] at hgt hlen ⊢
  obtain ⟨t, ht⟩ := Int.eq_ofNat_of_zero_le (Int.emod_nonneg a0 (show (1000 : Int) ≠ 0 by omega))
  have ht9 : (t : Int) < 1000 := by have := Int.emod_lt_of_pos a0 (show (0 : Int) < 1000 by omega); omega
  have hra : ∀ W, Calls Tryd.prog 34 #[.int .i64 a0, .int .i64 1000] W fun e w' => e = .returned (.int .i64 (t : Int)) ∧ W = w' := fun W => by rw [← ht]; exact rest_calls a0 _ ia0 (by omega) (by omega) W
  have HRA := Lib.hid hra
  clear hra ht ia0 hWC hi8 hw1 hfa hn hbl
  obtain ⟨fb, hfb⟩ : ∃ fb : Nat → Int, fb = fun i => fa ((i + t) % n) := ⟨_, rfl⟩
  have HFB := Lib.hid hfb
  clear hfb
  go_wp2_with (first
    | (go_at_call 18; refine (of_calls _ _).mono ?_; rintro e3 w3 ⟨rfl, hb3⟩
       have H3 := Lib.hid hb3
       clear hb3))
  have hst := SuS.start (wq := wq) (w3 := w3) H3.out
  obtain ⟨bx, hbx⟩ : ∃ bx, bx = w3.heap.size := ⟨_, rfl⟩
  rw [← hbx] at hst ⊢
  have HST := Lib.hid hst
  clear hst hbx H3 HB
  go_loopg [8, 9, 10, 12, 13] n (fun rem va vb ng fn i wl => ∃ (k : Nat) (X : Int) (aa ab : Option Addr) (ca cb : Nat) (fine : Bool), k + rem = n ∧ i = .int .i64 k ∧ va = .slice aa k ca ∧ vb = .slice ab k cb ∧ ng = .bool (negC zs fa k) ∧ fn = .bool fine ∧ (fine = true → FineC zs fa k X) ∧ SuS wq (.slice aa k ca) (.slice ab k cb) (seqC ns fa k) (seqC ns fb k) bx X wl)
  case atStart => exact ⟨0, 0, _, _, _, _, true, by omega, by simp, rfl, rfl, by simp [negC], rfl, fun _ => ⟨by simp [negC], by simp [seqV, sumZ, val]⟩, HST.out⟩
  case round =>
    obtain ⟨k, X, aa, ab, ca, cb, fine, hkr, rfl, rfl, rfl, rfl, rfl, hfine, hS⟩ := hrel
    clear HST
    by_cases hlt : k < n
    · have hlt' : (k : Int) < (n : Int) := by omega
      obtain ⟨wn, hwn⟩ : ∃ wn, wn = wr := ⟨_, rfl⟩
      subst hwn
      have HS := Lib.hid hS
      have HF := Lib.hid hfine
      have hnn : (n : Int) ≤ 40 := by omega
      have hn0 : (0 : Int) < (n : Int) := by omega
      have hwt : IntKind.i64.wrap ((k : Int) + (t : Int)) = (k : Int) + (t : Int) := IntWalk.i64_in _ (by omega)
      obtain ⟨j, hj⟩ : ∃ j, j = (k + t) % n := ⟨_, rfl⟩
      have hjn : j < n := by rw [hj]; exact Nat.mod_lt _ (by omega)
      have hrb : ∀ W, Calls Tryd.prog 34 #[.int .i64 ((k : Int) + (t : Int)), .int .i64 (n : Int)] W fun e w' => e = .returned (.int .i64 (j : Int)) ∧ W = w' := fun W => by
        have h := rest_calls ((k : Int) + (t : Int)) (n : Int) (by unfold i64; omega) hn0 (by omega) W
        rw [show ((k : Int) + (t : Int)) % (n : Int) = (j : Int) by rw [hj, Int.natCast_emod, Int.natCast_add]] at h
        exact h
      have hdj : fb k = fa j := by rw [HFB.out, hj]
      have HRB := Lib.hid hrb
      obtain ⟨⟨hc1, hc2⟩, bw, ow, rfl, hcw⟩ := HWC.out k hlt
      obtain ⟨⟨hd1, hd2⟩, bw2, ow2, he2, hdw⟩ := HWC.out j hjn
      cases he2
      have hCW := fun W (hW : Below wq.heap.size wq W) => And.intro (hcw W hW) (hdw W hW)
      have HCW := Lib.hid hCW
      obtain ⟨x0, x1⟩ := hCW _ hS.1
      rw [← hdj] at hd1 hd2 x1
      have hj0 : (0 : Int) ≤ (j : Int) := by omega
      have hj1 : (j : Int) < (n : Int) := by omega
      have hk0 : (0 : Int) ≤ (k : Int) := by omega
      have HDJ := Lib.hid hdj
      obtain ⟨cc, hcc⟩ : ∃ cc, cc = fa k := ⟨_, rfl⟩
      obtain ⟨dd, hdd⟩ : ∃ dd, dd = fb k := ⟨_, rfl⟩
      rw [← hcc] at hc1 hc2 x0
      rw [← hdd] at hd1 hd2 x1
      have HCD := Lib.hid (And.intro hcc hdd)
      clear hj hrb hcw hdw hCW hdj hfine hcc hdd hS
      go_upto_region 12 with (first
        | (go_at_call 34; with_reducible refine (HRB.out _).mono ?_; rintro e6 w6 ⟨rfl, rfl⟩)
        | (go_at_call 34; with_reducible refine (HRA.out _).mono ?_; rintro e6 w6 ⟨rfl, rfl⟩))
      obtain ⟨p, hp⟩ := Int.eq_ofNat_of_zero_le (Int.emod_nonneg cc (show (L : Int) ≠ 0 by omega))
      obtain ⟨r, hr⟩ := Int.eq_ofNat_of_zero_le (Int.emod_nonneg dd (show (L : Int) ≠ 0 by omega))
      have hpL : (p : Int) < (L : Int) := by have := Int.emod_lt_of_pos cc hL0; omega
      have hrL : (r : Int) < (L : Int) := by have := Int.emod_lt_of_pos dd hL0; omega
      have hp0 : (0 : Int) ≤ (p : Int) := by omega
      have hr0 : (0 : Int) ≤ (r : Int) := by omega
      have hrc : ∀ W, Calls Tryd.prog 34 #[.int .i64 cc, .int .i64 (L : Int)] W fun e w' => e = .returned (.int .i64 (p : Int)) ∧ Below W.heap.size W w' := fun W => by
        refine (rest_calls cc (L : Int) (by unfold i64; omega) hL0 (by omega) W).mono ?_
        rintro e w' ⟨rfl, rfl⟩
        exact ⟨by rw [hp], Below.refl _ _⟩
      have hrd : ∀ W, Calls Tryd.prog 34 #[.int .i64 dd, .int .i64 (L : Int)] W fun e w' => e = .returned (.int .i64 (r : Int)) ∧ Below W.heap.size W w' := fun W => by
        refine (rest_calls dd (L : Int) (by unfold i64; omega) hL0 (by omega) W).mono ?_
        rintro e w' ⟨rfl, rfl⟩
        exact ⟨by rw [hr], Below.refl _ _⟩
      have hcwr : IntKind.i64.wrap cc = cc := IntWalk.i64_in _ (by omega)
      have hdwr : IntKind.i64.wrap dd = dd := IntWalk.i64_in _ (by omega)
      have hlp := fun W hW => HLC.out W hW cc
      have hlr := fun W hW => HLC.out W hW dd
      rw [show (cc % (L : Int)).toNat = p by omega] at hlp
      rw [show (dd % (L : Int)).toNat = r by omega] at hlr
      obtain ⟨sP, gP, hTV⟩ : ∃ s g, tvC ns cc = (decide (cc < 0), s, g) := ⟨_, _, rfl⟩
      obtain ⟨sD, gD, hTD⟩ : ∃ s g, tvC ns dd = (decide (dd < 0), s, g) := ⟨_, _, rfl⟩
      obtain ⟨y, hVV⟩ : ∃ y, vC zs cc = (decide (cc < 0), y) := ⟨_, rfl⟩
      have hNP := numC HNC.out.1 HNC.out.2.1 cc
      rw [hTV, hVV] at hNP
      rw [hTV] at hlp
      rw [hTD] at hlr
      have HRC := Lib.hid hrc
      have HRD := Lib.hid hrd
      have HNP := Lib.hid hNP
      have HTV := Lib.hid (And.intro hTV (And.intro hTD hVV))
      have HLP := Lib.hid (And.intro hlp hlr)
      obtain ⟨i1, hi1, hz1, hz2, hz3⟩ := info_parts infoeT
      have HH := Lib.hid (And.intro hi1 (And.intro hz1 (And.intro hz2 hz3)))
      clear hrc hrd hNP hTV hTD hVV hlp hlr hp hr hi1 hz1 hz2 hz3
      have hown := HS.out.2.1
      rw [seqC_len] at hown
      have HO := Lib.hid hown
      have hC : ∀ W, Below wq.heap.size wq W → W.cell? ⟨bw, ow + k, none⟩ = some (.int .i8 cc) ∧ W.cell? ⟨b, p * 2, none⟩ = some (.int .i64 sP) ∧ W.cell? ⟨b, p * 2 + 1, none⟩ = some (.pointer gP) := fun W hW =>
        ⟨by rw [HCD.out.1]; exact (HCW.out W hW).1, (HLP.out.1 W hW).1, (HLP.out.1 W hW).2⟩
      have HC := Lib.hid hC
      have hwq : wq.heap.size ≤ wn.heap.size := HS.out.1.size
      clear hown hC
      go_upto_region 12 with fail
      go_cut [8] from 48 to 67 (fun va wx => ∃ (a7 : Option Addr) (c7 : Nat), va = .slice a7 (k + 1) c7 ∧ SuS wq (.slice a7 (k + 1) c7) (.slice ab k cb) (seqC ns fa (k + 1)) (seqC ns fb k) bx X wx)
      case first =>
        as_aux_lemma =>
          obtain ⟨x0, x2, x3⟩ := HC.out _ HS.out.1
          first
            | go_region_held3 (fun W => W.cell? ⟨bw, ow + k, none⟩ = some (.int .i8 cc) ∧ W.cell? ⟨b, p * 2, none⟩ = some (.int .i64 sP) ∧ W.cell? ⟨b, p * 2 + 1, none⟩ = some (.pointer gP)) (first | exact HC.out _ HS7.out.1 | exact HC.out _ (HS.out.below (H6.out.alloc (Nat.le_refl _) _)).1 | exact HC.out _ (HS.out.below (H6.out.alloc H6.out.size _)).1 | exact HC.out _ (HS.out.below H6.out).1 | exact HC.out _ (HS.out.below ((Below.refl _ _).drew)).1 | (go_keep; done))
                (first
                | ((refine step_append_lies _ (by rfl) _ _ _ (by rfl) wq.heap.size 50 i1 zT 3 24 Tryd.underlying47 HH.out.1 HH.out.2.1 HH.out.2.2.1 HH.out.2.2.2 (by rfl) (by decide) _ _ _ (by rfl) ((ownsRow_belowAll HO.out H6.out).alloc _) ⟨w6.heap.size, 0, none⟩ 1 1 (cellsT (decide (cc < 0), sP, gP)) (by rfl) (by rfl) (news_alloc w6 _ _ _) (by simp [cellsT, Value.oneCell']) (by decide) (by unfold maxLen; omega) (by omega) (by have := H6.out.size; first | omega | (simp; omega)) _ rfl ?_; intro g7 c7 w7 hown7 hg7 hat7 hlt7
                    have hs7 := HS.out.pushA (t := tvC ns cc) (H6.out.alloc H6.out.size _) (by rw [HTV.out.1, seqC_len]; exact hown7) hg7 (fun q hq => by
                      simp only [Value.ownBlock, Option.some.injEq] at hq
                      subst hq
                      rcases hat7 with e | e
                      · exact .inl e
                      · exact .inr (by rw [e]; exact Nat.le_refl _))
                    rw [HCD.out.1, ← seqC_succ] at hs7
                    have HS7 := Lib.hid hs7
                    clear hown7 hg7 hat7 hlt7 hs7))
                | (go_at_call 34; with_reducible refine (HRC.out _).mono ?_; rintro e6 w6 ⟨rfl, hb6⟩
                   have hw6 : Below wn.heap.size wn w6 := Below.trans (by repeat (first | exact Below.refl _ _ | refine Below.drew ?_)) (hb6.mono (by first | exact Nat.le_refl _ | simp))
                   have H6 := Lib.hid hw6
                   clear hb6 hw6))
            | fail
          all_goals
            (try go_wp2)
            go_meet
            exact ⟨_, _, rfl, HS7.out⟩
      obtain ⟨a7, c7, rfl, hS⟩ := hcut
      obtain ⟨wn, hwn⟩ : ∃ wn, wn = wc := ⟨_, rfl⟩
      subst hwn
      have HS := Lib.hid hS
      clear hS HO HC x0 x1
      have hown := HS.out.2.2.1
      rw [seqC_len] at hown
      have HO := Lib.hid hown
      have hC : ∀ W, Below wq.heap.size wq W → W.cell? ⟨b, r * 2, none⟩ = some (.int .i64 sD) ∧ W.cell? ⟨b, r * 2 + 1, none⟩ = some (.pointer gD) := fun W hW => ⟨(HLP.out.2 W hW).1, (HLP.out.2 W hW).2⟩
      have HC := Lib.hid hC
      have hwq2 : wq.heap.size ≤ wn.heap.size := HS.out.1.size
      clear hown hC
      go_upto_region 13 with fail
      go_cut [9] from 68 to 81 (fun vb wx => ∃ (a8 : Option Addr) (c8 : Nat), vb = .slice a8 (k + 1) c8 ∧ SuS wq (.slice a7 (k + 1) c7) (.slice a8 (k + 1) c8) (seqC ns fa (k + 1)) (seqC ns fb (k + 1)) bx X wx)
      case first =>
        as_aux_lemma =>
          go_wp2_with (first
            | (at_builtin; refine wpList_append_own_at _ rfl _ _ 47 rfl wq.heap.size 50 i1 zT 3 24 Tryd.underlying47 HH.out.1 HH.out.2.1 HH.out.2.2.1 HH.out.2.2.2 rfl (by decide) _ _ _ rfl ((ownsRow_belowAll HO.out H6.out).alloc _) ⟨w6.heap.size, 0, none⟩ 1 1 (cellsT (decide (dd < 0), sD, gD)) rfl rfl (news_alloc w6 _ _ _) (by simp [cellsT, Value.oneCell']) (by unfold maxLen; omega) (by omega) (by have := H6.out.size; simp; omega) ?_; intro v8 w8 hown8 hg8 _ hat8
               obtain ⟨a8, c8, rfl⟩ := (RowV.of_own hown8).shape
               have hs8 := (HS.out.swap.pushA (t := tvC ns dd) (H6.out.alloc H6.out.size _) (by rw [HTV.out.2.1, seqC_len]; exact hown8) hg8 (fun q hq => by
                 rcases hat8 with e | e
                 · exact .inl (e.symm.trans hq)
                 · rw [e] at hq
                   simp only [Option.some.injEq] at hq
                   exact .inr (by rw [← hq]; first | exact Nat.le_refl _ | simp))).swap
               rw [HCD.out.2, ← seqC_succ] at hs8
               have HS8 := Lib.hid hs8
               clear hown8 hg8 hat8 hs8)
            | (go_at_call 34; with_reducible refine (HRD.out _).mono ?_; rintro e6 w6 ⟨rfl, hb6⟩
               obtain ⟨x2, x3⟩ := HC.out _ (HS.out.below hb6).1
               have H6 := Lib.hid hb6
               clear hb6))
          go_meet
          exact ⟨_, _, rfl, HS8.out⟩
      obtain ⟨a8, c8, rfl, hS⟩ := hcut
      obtain ⟨wn, hwn⟩ : ∃ wn, wn = wc := ⟨_, rfl⟩
      subst hwn
      have HS := Lib.hid hS
      clear hS HO HC HLP HRC HRD hwq hwq2
      have hown := HS.out.2.1
      rw [seqC_len] at hown
      obtain ⟨ba, rfl⟩ : ∃ ba, a7 = some ⟨ba, 0, none⟩ := by
        obtain ⟨g', cap, e⟩ := Go.Joins.ownsRow_form hown (by omega)
        cases e; exact ⟨g', rfl⟩
      obtain ⟨y0, y1, y2⟩ := flatT_get (seqC ns fa (k + 1)) k (by rw [seqC_len]; omega)
      have hge : (seqC ns fa (k + 1))[k]'(by rw [seqC_len]; omega) = (decide (cc < 0), sP, gP) := by
        rw [← HTV.out.1]
        simp only [seqC, List.getElem_map, List.getElem_range]
        rw [HCD.out.1]
      rw [hge] at y0 y1 y2
      have z0 := (hown.cellAt (k * 3) (by omega)).trans y0
      have z1 := (hown.cellAt (k * 3 + 1) (by omega)).trans y1
      have z2 := (hown.cellAt (k * 3 + 2) (by omega)).trans y2
      have hla := (hown.lt ba rfl).2
      have hC : ∀ W, Below wn.heap.size wn W → W.cell? ⟨ba, k * 3, none⟩ = some (.bool (decide (cc < 0))) ∧ W.cell? ⟨ba, k * 3 + 1, none⟩ = some (.int .i64 sP) ∧ W.cell? ⟨ba, k * 3 + 2, none⟩ = some (.pointer gP) := fun W hW =>
        ⟨(hW.cell (p := ⟨ba, k * 3, none⟩) hla).trans z0, (hW.cell (p := ⟨ba, k * 3 + 1, none⟩) hla).trans z1, (hW.cell (p := ⟨ba, k * 3 + 2, none⟩) hla).trans z2⟩
      have HC := Lib.hid hC
      have hk1 : (k : Int) < (k : Int) + 1 := by omega
      clear hown hge y0 y1 y2 z0 z1 z2 hla hC
      have hng : negC zs fa (k + 1) = (negC zs fa k || decide (y < 0)) := by rw [negC_succ, ← HCD.out.1, HTV.out.2.2]
      have HNG := Lib.hid hng
      clear hng
      go_upto_region 14 with fail
      go_cut [10] from 82 to 91 (fun ng wx => ng = .bool (negC zs fa (k + 1)) ∧ Below wn.heap.size wn wx)
      case first =>
        as_aux_lemma =>
          obtain ⟨x0, x1, x2⟩ := HC.out _ (Below.refl _ _)
          have hs := ((HLL.out.1.on HS.out.1).sign (HNP.out.below HS.out.1)) _ (Below.refl _ _)
          have hsy : decide (sgn y < 0) = decide (y < 0) := by
            rw [Bool.eq_iff_iff, decide_eq_true_eq, decide_eq_true_eq]
            unfold sgn
            repeat (split <;> try omega)
          have HSY := Lib.hid hsy
          have HSG := Lib.hid hs
          clear hs hsy
          generalize negC zs fa k = nk at *
          cases nk
          · go_wp2_with (first
              | (go_at_call 29; with_reducible refine HSG.out.mono ?_; rintro e5 w5 ⟨rfl, hb5⟩
                 have HN := Lib.hid hb5
                 clear hb5))
            go_meet
            exact ⟨by rw [HNG.out, Bool.false_or, ← HSY.out], HN.out⟩
          · go_wp2_with fail
            go_meet
            exact ⟨by rw [HNG.out]; simp, Below.refl _ _⟩
      obtain ⟨rfl, hbw⟩ := hcut
      have hC := fun W (hW : Below wc.heap.size wc W) => HC.out W (hbw.trans (hW.mono hbw.size))
      have hS := HS.out.below hbw
      obtain ⟨wn, hwn⟩ : ∃ wn, wn = wc := ⟨_, rfl⟩
      subst hwn
      have HC := Lib.hid hC
      have HS := Lib.hid hS
      clear hbw hC hS HNG
      have hBlt := HS.out.lt
      have hnb : NumA (ownAB (.slice (some ⟨ba, 0, none⟩) (k + 1) c7) (.slice a8 (k + 1) c8)) wn sP gP y := (HNP.out.grow (B' := ownAB (.slice (some ⟨ba, 0, none⟩) (k + 1) c7) (.slice a8 (k + 1) c8)) (fun i hi => .inr (HS.out.ge i hi))).below HS.out.1
      obtain ⟨Bq, hBq⟩ : ∃ Bq, Bq = ownAB (.slice (some ⟨ba, 0, none⟩) (k + 1) c7) (.slice a8 (k + 1) c8) := ⟨_, rfl⟩
      have hX := HS.out.2.2.2.2.2
      rw [← hBq] at hBlt hnb hX
      have hM : ∀ W, Below wn.heap.size wn W → Calls Tryd.prog 20 #[.agg #[.int .i64 1, .pointer none], .agg #[.int .i64 sP, .pointer gP]] W fun e w' => ∃ (r : Int) (q : Option Addr), e = .returned (.tuple #[.agg #[.int .i64 r, .pointer q], .int .i64 (errS 1 y)]) ∧ NumA Bq w' r q (valS 1 y) ∧ Below W.heap.size W w' := fun W hW =>
        ((HLL.out.1.on HS.out.1).on hW).shiftB (NumA.small (B := Bq) W (show i64 1 by unfold i64; omega)) (hnb.below hW) (fun q hq => Nat.lt_of_lt_of_le (hBlt q hq) hW.size)
      have HM := Lib.hid hM
      have HBQ := Lib.hid hBq
      have HBL := Lib.hid hBlt
      have HXX := Lib.hid hX
      clear hM hBq hBlt hnb hX
      go_upto_region 15 with fail
      go_cut [15, 16] from 92 to 101 (fun vp ve wx => Below wn.heap.size wn wx ∧ ∃ bp, vp = .pointer (some ⟨bp, 0, none⟩) ∧ ve = .int .i64 (errS 1 y) ∧ wn.heap.size ≤ bp ∧ NumAt Bq wx bp (valS 1 y))
      case first =>
        as_aux_lemma =>
          obtain ⟨_, x1, x2⟩ := HC.out _ (Below.refl _ _)
          first
            | go_region_held3 (fun w' => w'.cell? ⟨ba, k * 3 + 1, none⟩ = some (.int .i64 sP) ∧ w'.cell? ⟨ba, k * 3 + 2, none⟩ = some (.pointer gP)) (first | exact (HC.out _ HW4.out).2 | exact (HC.out _ ((HW4.out.setCell (by first | exact Nat.le_refl _ | exact HW3.out.size) _).setCell (by first | exact Nat.le_refl _ | exact HW3.out.size) _)).2 | exact (HC.out _ (HW4.out.alloc HW4.out.size _)).2 | exact (HC.out _ HW3.out).2 | exact (HC.out _ (HW3.out.alloc HW3.out.size _)).2 | exact (HC.out _ (by repeat (first | exact Below.refl _ _ | refine Below.drew ?_ | refine Below.alloc ?_ (by simp) _))).2 | (go_keep; done))
                (first
                | (go_at_call 20; refine (HM.out _ (by first | exact HW3.out | exact HW3.out.alloc HW3.out.size _)).mono ?_; rintro e4 w4 ⟨r4, q4, rfl, hn4, hb4⟩
                   have hw4 : Below wn.heap.size wn w4 := Below.trans (by first | exact HW3.out | exact HW3.out.alloc HW3.out.size _) (hb4.mono (by have := HW3.out.size; first | exact this | (simp; omega)))
                   (first
                     | (have z4 := (hb4.block w3.heap.size (by simp)).trans (heap_alloc_new w3 (.cells #[.int .i64 0, .pointer none] 29))
                        obtain ⟨z40, z41⟩ := num_cells z4
                        obtain ⟨z42, z43⟩ := num_frozen z4
                        have HZ4 := Lib.hid z4
                        clear z4)
                     | (have z4 := (hb4.block wn.heap.size (lt_ofO HZ3.out)).trans HZ3.out
                        obtain ⟨z40, z41⟩ := num_cells z4
                        obtain ⟨z42, z43⟩ := num_frozen z4
                        have HZ4 := Lib.hid z4
                        clear z4)
                     | skip)
                   have HW4 := Lib.hid hw4
                   have H4 := Lib.hid hn4
                   clear hn4 hb4 hw4)
                | (go_at_call 18; refine (of_calls _ _).mono ?_; rintro e3 w3 ⟨rfl, hb3⟩
                   have hw3 : Below wn.heap.size wn w3 := Below.trans (by repeat (first | exact Below.refl _ _ | refine Below.drew ?_ | refine Below.alloc ?_ (by simp) _)) (hb3.mono (by first | exact Nat.le_refl _ | simp))
                   (first
                     | (have z3 := (hb3.block wn.heap.size (by simp)).trans (heap_alloc_new wn (.cells #[.int .i64 0, .pointer none] 29))
                        have HZ3 := Lib.hid z3
                        clear z3)
                     | skip)
                   have HW3 := Lib.hid hw3
                   clear hb3 hw3))
            | fail
          all_goals
            (try go_wp2)
            go_meet
            first
              | exact ⟨HW4.out.alloc HW4.out.size _, _, rfl, rfl, HW4.out.size, NumAt.new H4.out⟩
              | exact ⟨(HW4.out.setCell (by first | exact Nat.le_refl _ | exact HW3.out.size) _).setCell (by first | exact Nat.le_refl _ | exact HW3.out.size) _, _, rfl, rfl, (by first | exact Nat.le_refl _ | exact HW3.out.size), NumAt.put HZ4.out H4.out⟩
      obtain ⟨hbw, bp, rfl, rfl, hgp, hP⟩ := hcut
      have HBM := Lib.hid (Below.refl wn.heap.size wn)
      obtain ⟨wm, hwm⟩ : ∃ wm, wm = wn := ⟨_, rfl⟩
      subst hwm
      obtain ⟨wn, hwn⟩ : ∃ wn, wn = wc := ⟨_, rfl⟩
      subst hwn
      have HBM := Lib.hid hbw
      have HP := Lib.hid hP
      have HGP := Lib.hid hgp
      clear hbw hP hgp HM
      go_upto_region 16 with fail
      obtain ⟨x0, x1, x2⟩ := HC.out _ HBM.out
      generalize hcm : decide (cc < 0) = mc at *
      go_upto_if 106 with fail
      go_cut [] from 102 to 108 (fun wx => Below wm.heap.size wm wx ∧ NumAt Bq wx bp (powC (mc, y)))
      case first =>
        as_aux_lemma =>
          cases mc
          · go_wp2_with fail
            go_meet
            exact ⟨HBM.out, HP.out⟩
          · obtain ⟨s0, g0, p0, n0⟩ := HP.out
            have hng := Neg_calls n0 ((HLL.out.1.on HS.out.1) _ HBM.out).1 ((HLL.out.1.on HS.out.1) _ HBM.out).2 (fun q hq => Nat.lt_of_lt_of_le (HBL.out q hq) HBM.out.size)
            obtain ⟨c0, c1⟩ := num_cells p0
            have HNG := Lib.hid hng
            have HP0 := Lib.hid p0
            clear hng p0 n0
            go_wp2_with (first
              | (go_at_call 26; refine HNG.out.mono ?_; rintro e3 w3 ⟨r3, q3, rfl, hn3, hb3⟩
                 have z3 := (hb3.block _ (lt_of_some HP0.out)).trans HP0.out
                 obtain ⟨z30, z31⟩ := num_cells z3
                 obtain ⟨z32, z33⟩ := num_frozen z3
                 have H3 := Lib.hid (And.intro hn3 (And.intro hb3 z3))
                 clear hn3 hb3 z3))
            go_meet
            obtain ⟨hn3, hb3, z3⟩ := H3.out
            exact ⟨((HBM.out.trans (hb3.mono HBM.out.size)).setCell (p := ⟨bp, 0, none⟩) HGP.out _).setCell (p := ⟨bp, 1, none⟩) HGP.out _, NumAt.put z3 hn3⟩
      obtain ⟨hbw, hP⟩ := hcut
      obtain ⟨wn, hwn⟩ : ∃ wn, wn = wc := ⟨_, rfl⟩
      subst hwn
      have HBM := Lib.hid hbw
      have HP := Lib.hid hP
      clear hbw hP x0 x1 x2
      go_upto_region 18 with fail
      go_cut [17, 18] from 109 to 114 (fun vp ve wx => Below wm.heap.size wm wx ∧ ∃ b9, vp = .pointer (some ⟨b9, 0, none⟩) ∧ ve = .int .i64 (errA (X + powC (mc, y))) ∧ NumAt Bq wx b9 (valA (X + powC (mc, y))))
      case first =>
        as_aux_lemma =>
          obtain ⟨s0, g0, p0, n0⟩ := HP.out
          obtain ⟨s1, g1, p1, n1⟩ := HXX.out.below HBM.out
          have hc := (HLL.out.1.on HS.out.1).on HBM.out |>.addB n1 n0 (fun q hq => Nat.lt_of_lt_of_le (HBL.out q hq) HBM.out.size)
          obtain ⟨c0, c1⟩ := num_cells p0
          obtain ⟨c2, c3⟩ := num_cells p1
          have HCC := Lib.hid hc
          clear hc p0 p1 n0 n1
          go_wp2_with (first
            | (go_at_call 16; refine HCC.out.mono ?_; rintro e9 w9 ⟨r9, q9, rfl, hn9, hb9⟩
               have hbA := hb9.alloc hb9.size (.cells #[.int .i64 r9, .pointer q9] 29)
               have HD := Lib.hid (And.intro (HBM.out.trans (hbA.mono HBM.out.size)) (NumAt.new hn9))
               clear hn9 hb9 hbA))
          go_meet
          exact ⟨HD.out.1, _, rfl, rfl, HD.out.2⟩
      obtain ⟨hbw, b9, rfl, rfl, hY⟩ := hcut
      obtain ⟨wn, hwn⟩ : ∃ wn, wn = wc := ⟨_, rfl⟩
      subst hwn
      have HBM := Lib.hid hbw
      have HY := Lib.hid hY
      clear hbw hY HP
      go_upto_region 19 with fail
      go_cut [12] from 115 to 123 (fun vf wx => vf = .bool (fine && (errS 1 y == 0) && (errA (X + powC (mc, y)) == 0)) ∧ wx = wn)
      case first =>
        as_aux_lemma =>
          clear HF
          generalize errS 1 y = ee0 at *
          generalize errA (X + powC (mc, y)) = ee1 at *
          cases fine
          · go_wp2_with fail
            go_meet
            exact ⟨by simp, rfl⟩
          · by_cases he0 : ee0 = 0
            · subst he0
              by_cases he1 : ee1 = 0
              · subst he1
                go_wp2_with fail
                go_meet
                exact ⟨by simp, rfl⟩
              · have hf1 : (ee1 == 0) = false := by rw [beq_eq_false_iff_ne]; exact he1
                go_wp2_with fail
                go_meet
                exact ⟨by simp [hf1], rfl⟩
            · have hf0 : (ee0 == 0) = false := by rw [beq_eq_false_iff_ne]; exact he0
              go_wp2_with fail
              go_meet
              exact ⟨by simp [hf0], rfl⟩
      obtain ⟨rfl, hwx⟩ := hcut
      have hwx2 := hwx.symm
      clear hwx
      subst hwx2
      obtain ⟨s0, g0, p0, n0⟩ := HY.out
      obtain ⟨s1, g1, p1, n1⟩ := HXX.out.below HBM.out
      obtain ⟨c0, c1⟩ := num_cells p0
      obtain ⟨c2, c3⟩ := num_cells p1
      obtain ⟨c4, c5⟩ := num_frozen p1
      have HNY := Lib.hid n0
      clear p0 p1 n0 n1
      go_wp2
      go_roundg (gk - 1)
      case measure => omega
      case rel =>
        refine ⟨k + 1, valA (X + powC (mc, y)), _, _, c7, c8, fine && (errS 1 y == 0) && (errA (X + powC (mc, y)) == 0), by omega, by go_num, rfl, rfl, rfl, rfl, fun hf => ?_, ?_⟩
        · rw [Bool.and_eq_true, Bool.and_eq_true] at hf
          have h := (HF.out hf.1.1).next
          rw [← HCD.out.1, HTV.out.2.2] at h
          exact h (by simpa using hf.1.2) (by simpa using hf.2)
        · have h := HNY.out
          rw [HBQ.out] at h
          exact (HS.out.below HBM.out).put h
    · have hlt' : ¬ (k : Int) < (n : Int) := by omega
      have hkn : k = n := by omega
      subst hkn
      have hX := hS.2.2.2.2.2
      obtain ⟨sX, gX, pX, nX⟩ := hX
      have HLL := Lib.hid (And.intro (HLL.out.1.on hS.1) (And.intro (HLL.out.2.1.trans (hS.1.mono HLL.out.2.1.size)) True.intro))
      have hfa := (fitsC HNC.out.1 HNC.out.2.1 fa k).below hS.1
      have hfb := (fitsC HNC.out.1 HNC.out.2.1 fb k).below hS.1
      have HR := Lib.hid (And.intro (RowV.of_own hS.2.1) (And.intro (RowV.of_own hS.2.2.1) (And.intro hfa hfb)))
      have hse := sums_end (zs := zs) (f := fa) (n := k) nX.1
      have hpe := errU_perm (seq_perm zs fa k t)
      have hfbe : seqV zs fb k = seqV zs (fun i => fa ((i + t) % k)) k := by rw [HFB.out]
      have HE := Lib.hid (And.intro hse.1 (And.intro (fun h => hse.2 (hfine h)) (And.intro hpe.1 (And.intro hpe.2 hfbe))))
      have hV : Vars wr [(bx, X)] := ⟨⟨sX, gX, pX, nX.cold⟩, trivial⟩
      obtain ⟨wq, hwq⟩ : ∃ wq, wq = wr := ⟨_, rfl⟩
      subst hwq
      obtain ⟨wc, hwc⟩ : ∃ wc, wc = wq := ⟨_, rfl⟩
      have hbx : Below wq.heap.size wq wc := by rw [hwc]; exact Below.refl _ _
      rw [← hwc] at hV ⊢
      clear hwc hS pX nX hfa hfb hse hpe hfbe hfine hlt hkr
      obtain ⟨wn, hwn2⟩ : ∃ wn, wn = wc := ⟨_, rfl⟩
      subst hwn2
      have HB := Lib.hid hbx
      have HV := Lib.hid hV
      clear hbx hV
      go_upto_region 21 with fail
      go_cut [19, 20] from 125 to 129 (fun vd ve wx => Below wq.heap.size wq wx ∧ ∃ b, vd = .pointer (some ⟨b, 0, none⟩) ∧ ve = .int .i64 (errU (seqV zs fa k)) ∧ Vars wx ((b, valU (seqV zs fa k)) :: [(bx, X)]))
      case first =>
        as_aux_lemma =>
          have hc := (HLL.out.1.on HB.out).sumU (HR.out.1.below HB.out (Nat.le_refl _)) (HR.out.2.2.1.below HB.out) (by rw [seqC_len]; omega)
          skip
          have HCC := Lib.hid hc
          clear hc
          have HN := Lib.hid (Below.refl wn.heap.size wn)
          go_wp2_with (first
            | (go_at_call 31; refine (HCC.out).mono ?_; rintro e9 w9 ⟨r9, q9, rfl, hn9, hb9⟩
               have hb9 := HN.out.trans (hb9.mono HN.out.size)
               have hbA := hb9.alloc hb9.size (.cells #[.int .i64 r9, .pointer q9] 29)
               have HD := Lib.hid (And.intro (HB.out.trans (hbA.mono HB.out.size)) (And.intro (NumAt.new hn9) (HV.out.below hbA)))
               clear hn9 hb9 hbA))
          go_meet
          exact ⟨HD.out.1, _, rfl, rfl, HD.out.2⟩
      obtain ⟨hbx, b19, rfl, rfl, hV⟩ := hcut
      obtain ⟨wn, hwn⟩ : ∃ wn, wn = wc := ⟨_, rfl⟩
      subst hwn
      have HB := Lib.hid hbx
      have HV := Lib.hid hV
      clear hbx hV
      go_upto_region 22 with fail
      go_cut [21, 22] from 130 to 134 (fun vd ve wx => Below wq.heap.size wq wx ∧ ∃ b, vd = .pointer (some ⟨b, 0, none⟩) ∧ ve = .int .i64 (errU (seqV zs fa k)) ∧ Vars wx ((b, valU (seqV zs fa k)) :: [(b19, valU (seqV zs fa k)), (bx, X)]))
      case first =>
        as_aux_lemma =>
          have hc := (HLL.out.1.on HB.out).sumU (HR.out.2.1.below HB.out (Nat.le_refl _)) (HR.out.2.2.2.below HB.out) (by rw [seqC_len]; omega)
          rw [HE.out.2.2.2.2, HE.out.2.2.1, HE.out.2.2.2.1] at hc
          have HCC := Lib.hid hc
          clear hc
          have HN := Lib.hid (Below.refl wn.heap.size wn)
          go_wp2_with (first
            | (go_at_call 31; refine (HCC.out).mono ?_; rintro e9 w9 ⟨r9, q9, rfl, hn9, hb9⟩
               have hb9 := HN.out.trans (hb9.mono HN.out.size)
               have hbA := hb9.alloc hb9.size (.cells #[.int .i64 r9, .pointer q9] 29)
               have HD := Lib.hid (And.intro (HB.out.trans (hbA.mono HB.out.size)) (And.intro (NumAt.new hn9) (HV.out.below hbA)))
               clear hn9 hb9 hbA))
          go_meet
          exact ⟨HD.out.1, _, rfl, rfl, HD.out.2⟩
      obtain ⟨hbx, b21, rfl, rfl, hV⟩ := hcut
      obtain ⟨wn, hwn⟩ : ∃ wn, wn = wc := ⟨_, rfl⟩
      subst hwn
      have HB := Lib.hid hbx
      have HV := Lib.hid hV
      clear hbx hV
      go_upto_region 23 with fail
      cases hneg : negC zs fa k
      rotate_left
      · rw [HE.out.1 hneg]
        clear hneg
        have HAW := Lib.hid ((HLL.out.1.on HB.out).awake)
        have HN := Lib.hid (Below.refl wn.heap.size wn)
        go_wp2_with (first
          | (go_at_call 13; with_reducible refine (HAW.out _ HN.out).mono ?_; rintro e5 w5 ⟨rfl, hb5⟩
             have HN := Lib.hid hb5
             clear hb5))
        refine bodyPost_ret (v := .bool true) (by simp [results, Tryd.results9, go_sem, *]) rfl ⟨rfl, HLL.out.2.1.trans ((HB.out.trans (HN.out.mono HB.out.size)).mono HLL.out.2.1.size)⟩
      clear hneg
      cases fine
      · skip
        obtain ⟨sv0, gv0, pv0, nv0⟩ := HV.out.get (b := b19) (z := valU (seqV zs fa k)) (by simp)
        obtain ⟨sv1, gv1, pv1, nv1⟩ := HV.out.get (b := b21) (z := valU (seqV zs fa k)) (by simp)
        have hC : ∀ W, Below wn.heap.size wn W → W.cell? ⟨b19, 0, none⟩ = some (.int .i64 sv0) ∧ W.cell? ⟨b19, 1, none⟩ = some (.pointer gv0) ∧ W.cell? ⟨b21, 0, none⟩ = some (.int .i64 sv1) ∧ W.cell? ⟨b21, 1, none⟩ = some (.pointer gv1) := by
          intro W hW
          obtain ⟨a0, c0⟩ := num_cells ((hW.block _ (lt_of_some pv0)).trans pv0)
          obtain ⟨a1, c1⟩ := num_cells ((hW.block _ (lt_of_some pv1)).trans pv1)
          exact ⟨a0, c0, a1, c1⟩
        have HC := Lib.hid hC
        have hLn := HLL.out.1.on HB.out
        have hs := hLn.same nv0 nv1
        rw [show decide (valU (seqV zs fa k) = valU (seqV zs fa k)) = true by simp] at hs
        have HS1 := Lib.hid hs
        have HAW := Lib.hid hLn.awake
        have HN := Lib.hid (Below.refl wn.heap.size wn)
        obtain ⟨yv0, yw0, yv1, yw1⟩ := hC _ (Below.refl _ _)
        generalize errU (seqV zs fa k) = ee at *
        have hee : (ee == ee) = true := by simp
        clear pv0 nv0 pv1 nv1 hC hLn hs
        go_wp2_with (first
          | (go_at_call 25; with_reducible refine (HS1.out _ HN.out).mono ?_; rintro e5 w5 ⟨rfl, hb5⟩
             obtain ⟨yv0, yw0, yv1, yw1⟩ := HC.out _ hb5
             have HN := Lib.hid hb5
             clear hb5)
          | (go_at_call 13; with_reducible refine (HAW.out _ HN.out).mono ?_; rintro e5 w5 ⟨rfl, hb5⟩
             obtain ⟨yv0, yw0, yv1, yw1⟩ := HC.out _ hb5
             have HN := Lib.hid hb5
             clear hb5))
        refine bodyPost_ret (v := .bool true) (by simp [results, Tryd.results9, go_sem, *]) rfl ⟨rfl, HLL.out.2.1.trans ((HB.out.trans (HN.out.mono HB.out.size)).mono HLL.out.2.1.size)⟩
      · skip
        obtain ⟨e1, e2⟩ := HE.out.2.1 rfl
        have hV := HV.out
        rw [e2] at hV
        have HV := Lib.hid hV
        rw [e1]
        clear e1 e2 hV
        obtain ⟨sv0, gv0, pv0, nv0⟩ := HV.out.get (b := b19) (z := X) (by simp)
        obtain ⟨sv1, gv1, pv1, nv1⟩ := HV.out.get (b := b21) (z := X) (by simp)
        obtain ⟨sv2, gv2, pv2, nv2⟩ := HV.out.get (b := bx) (z := X) (by simp)
        have hC : ∀ W, Below wn.heap.size wn W → W.cell? ⟨b19, 0, none⟩ = some (.int .i64 sv0) ∧ W.cell? ⟨b19, 1, none⟩ = some (.pointer gv0) ∧ W.cell? ⟨b21, 0, none⟩ = some (.int .i64 sv1) ∧ W.cell? ⟨b21, 1, none⟩ = some (.pointer gv1) ∧ W.cell? ⟨bx, 0, none⟩ = some (.int .i64 sv2) ∧ W.cell? ⟨bx, 1, none⟩ = some (.pointer gv2) := by
          intro W hW
          obtain ⟨a0, c0⟩ := num_cells ((hW.block _ (lt_of_some pv0)).trans pv0)
          obtain ⟨a1, c1⟩ := num_cells ((hW.block _ (lt_of_some pv1)).trans pv1)
          obtain ⟨a2, c2⟩ := num_cells ((hW.block _ (lt_of_some pv2)).trans pv2)
          exact ⟨a0, c0, a1, c1, a2, c2⟩
        have HC := Lib.hid hC
        have hLn := HLL.out.1.on HB.out
        have hs := hLn.same nv0 nv1
        rw [show decide (X = X) = true by simp] at hs
        have HS1 := Lib.hid hs
        have hs2 := hLn.same nv0 nv2
        rw [show decide (X = X) = true by simp] at hs2
        have HS2 := Lib.hid hs2
        have HAW := Lib.hid hLn.awake
        have HN := Lib.hid (Below.refl wn.heap.size wn)
        obtain ⟨yv0, yw0, yv1, yw1, yv2, yw2⟩ := hC _ (Below.refl _ _)
        clear pv0 nv0 pv1 nv1 pv2 nv2 hC hLn hs hs2
        go_wp2_with (first
          | (go_at_call 25; with_reducible refine (HS1.out _ HN.out).mono ?_; rintro e5 w5 ⟨rfl, hb5⟩
             obtain ⟨yv0, yw0, yv1, yw1, yv2, yw2⟩ := HC.out _ hb5
             have HN := Lib.hid hb5
             clear hb5)
          | (go_at_call 25; with_reducible refine (HS2.out _ HN.out).mono ?_; rintro e5 w5 ⟨rfl, hb5⟩
             obtain ⟨yv0, yw0, yv1, yw1, yv2, yw2⟩ := HC.out _ hb5
             have HN := Lib.hid hb5
             clear hb5)
          | (go_at_call 13; with_reducible refine (HAW.out _ HN.out).mono ?_; rintro e5 w5 ⟨rfl, hb5⟩
             obtain ⟨yv0, yw0, yv1, yw1, yv2, yw2⟩ := HC.out _ hb5
             have HN := Lib.hid hb5
             clear hb5))
        refine bodyPost_ret (v := .bool true) (by simp [results, Tryd.results9, go_sem, *]) rfl ⟨rfl, HLL.out.2.1.trans ((HB.out.trans (HN.out.mono HB.out.size)).mono HLL.out.2.1.size)⟩
end Go.Proofs.YteochdnjpchdnaaDoor
