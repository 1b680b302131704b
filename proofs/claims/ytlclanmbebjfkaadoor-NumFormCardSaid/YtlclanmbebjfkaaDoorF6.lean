import Derived.Test.YtlclanmbebjfkaaDoorP5
import Derived.Test.YtlclanmbebjfkaaDoorK7
import Derived.Deep.LoopGhost
import Derived.Lib.SmallJoins
set_option linter.unusedVariables false
set_option linter.unusedSimpArgs false
namespace Go.Proofs.YtlclanmbebjfkaaDoor
set_option linter.unusedVariables false

/-! What 'distinct' gathers: each number ahead of its exponents (for NumForm). -/
def disF : Nat → Int → List Int → List Int
  | 0, _, s => s
  | n + 1, z, s => if z ∈ s then s else (naf z).foldl (fun r t => disF n (t.2 : Int) r) (s ++ [z])
def dis (z : Int) (s : List Int) : List Int := disF (z.natAbs + 1) z s
theorem disF_any : ∀ (n m : Nat) (z : Int) (s : List Int), z.natAbs < n → z.natAbs < m → disF n z s = disF m z s
  | 0, _, z, s, h, _ => by omega
  | _, 0, z, s, _, h => by omega
  | n + 1, m + 1, z, s, h, k => by
    simp only [disF]
    by_cases hz : z ∈ s
    · rw [if_pos hz, if_pos hz]
    · rw [if_neg hz, if_neg hz]
      exact foldl_mem _ _ (fun t ht r => disF_any n m _ r (by have := exp_lt ht; omega) (by have := exp_lt ht; omega))
theorem dis_eq (z : Int) (s : List Int) : dis z s = if z ∈ s then s else (naf z).foldl (fun r t => dis (t.2 : Int) r) (s ++ [z]) := by
  unfold dis
  rw [disF]
  by_cases hz : z ∈ s
  · rw [if_pos hz, if_pos hz]
  · rw [if_neg hz, if_neg hz]
    exact foldl_mem _ _ (fun t ht r => disF_any _ _ _ r (by have := exp_lt ht; omega) (by omega))
/-- what a visit leaves -/
structure DisP (s r : List Int) : Prop where
  pre : ∃ x, r = s ++ x
  nd : s.Nodup → r.Nodup
  cl : ∀ p ∈ r, p ∈ s ∨ ∀ t ∈ naf p, (t.2 : Int) ∈ r
theorem DisP.mem {s r : List Int} (h : DisP s r) {p : Int} (hp : p ∈ s) : p ∈ r := by
  obtain ⟨x, e⟩ := h.pre
  rw [e]; exact List.mem_append_left _ hp
theorem DisP.trans {s r u : List Int} (h : DisP s r) (k : DisP r u) : DisP s u := by
  obtain ⟨x, e⟩ := h.pre
  obtain ⟨y, e2⟩ := k.pre
  refine ⟨⟨x ++ y, by rw [e2, e, List.append_assoc]⟩, fun n => k.nd (h.nd n), fun p hp => ?_⟩
  rcases k.cl p hp with a | a
  · rcases h.cl p a with b | b
    · exact .inl b
    · exact .inr (fun t ht => k.mem (b t ht))
  · exact .inr a
theorem DisP.refl (s : List Int) : DisP s s := ⟨⟨[], by simp⟩, id, fun p hp => .inl hp⟩
theorem dis_fold (N : Nat) (ih : ∀ y : Int, y.natAbs < N → ∀ s, DisP s (dis y s) ∧ y ∈ dis y s) : ∀ (l : List Tm) (s : List Int), (∀ t ∈ l, t.2 < N) → DisP s (l.foldl (fun r t => dis (t.2 : Int) r) s) ∧ ∀ t ∈ l, (t.2 : Int) ∈ l.foldl (fun r t => dis (t.2 : Int) r) s
  | [], s, _ => ⟨DisP.refl s, fun t ht => by simp at ht⟩
  | t :: l, s, h => by
    obtain ⟨h1, h2⟩ := ih (t.2 : Int) (by have := h t (List.mem_cons_self ..); omega) s
    obtain ⟨h3, h4⟩ := dis_fold N ih l (dis (t.2 : Int) s) (fun u hu => h u (List.mem_cons_of_mem _ hu))
    simp only [List.foldl_cons]
    refine ⟨h1.trans h3, fun u hu => ?_⟩
    rcases List.mem_cons.1 hu with e | e
    · rw [e]; exact h3.mem h2
    · exact h4 u e
theorem dis_spec : ∀ (n : Nat) (z : Int), z.natAbs < n → ∀ s, DisP s (dis z s) ∧ z ∈ dis z s
  | 0, z, h => by omega
  | n + 1, z, h => fun s => by
    rw [dis_eq]
    by_cases hz : z ∈ s
    · rw [if_pos hz]; exact ⟨DisP.refl s, hz⟩
    · rw [if_neg hz]
      obtain ⟨h1, h2⟩ := dis_fold z.natAbs (fun y hy => dis_spec n y (by omega)) (naf z) (s ++ [z]) (fun t ht => exp_lt ht)
      have hzr := h1.mem (p := z) (by simp)
      refine ⟨⟨?_, fun nd => h1.nd ?_, fun p hp => ?_⟩, hzr⟩
      · obtain ⟨x, e⟩ := h1.pre
        exact ⟨[z] ++ x, by rw [e, List.append_assoc]⟩
      · exact List.nodup_append.2 ⟨nd, by simp, fun a ha b hb => by rw [List.mem_singleton.1 hb]; rintro rfl; exact hz ha⟩
      · rcases h1.cl p hp with a | a
        · rcases List.mem_append.1 a with b | b
          · exact .inl b
          · rw [List.mem_singleton.1 b]; exact .inr h2
        · exact .inr a
theorem dis_sub : ∀ (n : Nat) (z : Int) (s C : List Int), z.natAbs < n → ClosedL C → z ∈ C → (∀ p ∈ s, p ∈ C) → ∀ p ∈ dis z s, p ∈ C
  | 0, z, s, C, h, _, _, _ => by omega
  | n + 1, z, s, C, h, hC, hz, hs => by
    rw [dis_eq]
    by_cases hzs : z ∈ s
    · rw [if_pos hzs]; exact hs
    · rw [if_neg hzs]
      have hf : ∀ (l : List Tm) (r : List Int), (∀ t ∈ l, t ∈ naf z) → (∀ p ∈ r, p ∈ C) → ∀ p ∈ l.foldl (fun r t => dis (t.2 : Int) r) r, p ∈ C := by
        intro l
        induction l with
        | nil => intro r _ hr; exact hr
        | cons t l ih =>
          intro r hl hr
          have ht := hl t (List.mem_cons_self ..)
          exact ih _ (fun u hu => hl u (List.mem_cons_of_mem _ hu)) (dis_sub n (t.2 : Int) r C (by have := exp_lt ht; omega) hC (hC z hz t ht) hr)
      refine hf (naf z) _ (fun t ht => ht) (fun p hp => ?_)
      rcases List.mem_append.1 hp with a | a
      · exact hs p a
      · rw [List.mem_singleton.1 a]; exact hz
/-- as many as there are parts -/
theorem dis_len (z : Int) : (dis z []).length = weightZ z := by
  obtain ⟨h1, h2⟩ := dis_spec _ z (Nat.lt_succ_self _) []
  have hn := h1.nd List.nodup_nil
  have hc : ClosedL (dis z []) := fun p hp t ht => by
    rcases h1.cl p hp with a | a
    · simp at a
    · exact a t ht
  have ha := nodupZ_le _ _ hn (dis_sub _ z [] (partsZ z) (Nat.lt_succ_self _) (partsZ_closed z) (partsZ_mem z) (by simp))
  have hb := partsZ_le hc h2
  unfold weightZ
  omega
end Go.Proofs.YtlclanmbebjfkaaDoor

namespace Go.Proofs.YtlclanmbebjfkaaDoor
open Go.RowKit
set_option linter.unusedVariables false
variable {B : Nat → Prop}

/-! distinct: the bytes of a number's parts, each once (for NumForm). -/
theorem infoeBB : (Tryd.prog.info? 66).map (fun i => (i.zero, i.size, i.bytes)) = some (some (.slice none 0 0), 1, 24) := by kernel_rfl
def SeenR (base : Nat) (w : World) (v : Value) (s : List Int) : Prop :=
  ∃ vals : List Value, vals.length = s.length ∧ w.ownsRow base 66 1 v s.length vals ∧ ∀ (i : Nat) (p : Int), s[i]? = some p → allowedZ p ∧ ∃ (a : Option Addr) (c : Nat), vals[i]? = some (.slice a (bytesZ p).length c) ∧ w.ownsRow base 5 1 (.slice a (bytesZ p).length c) (bytesZ p).length (byV (bytesZ p))
theorem SeenR.below {base : Nat} {w W : World} {v : Value} {s : List Int} (h : SeenR base w v s) (hb : Below w.heap.size w W) : SeenR base W v s := by
  obtain ⟨vals, h1, h2, h3⟩ := h
  refine ⟨vals, h1, ownsRow_belowAll h2 hb, fun i p hp => ?_⟩
  obtain ⟨ha, a, c, k1, k2⟩ := h3 i p hp
  exact ⟨ha, a, c, k1, ownsRow_belowAll k2 hb⟩
theorem type_apart {w : World} {base base' n n' s s' : Nat} {e e' : TypeId} {v v' : Value} {xs xs' : List Value} (h : w.ownsRow base e s v n xs) (h' : w.ownsRow base' e' s' v' n' xs') (hne : e ≠ e') : v.ownBlock = none ∨ v.ownBlock ≠ v'.ownBlock := by
  rcases hv : v.ownBlock with _ | k
  · exact .inl rfl
  · refine .inr fun hk => ?_
    obtain ⟨c, h1⟩ := own_type h k hv
    obtain ⟨c', h2⟩ := own_type h' k hk.symm
    rw [h1] at h2
    cases h2
    exact hne rfl
theorem SeenR.push {base : Nat} {w W w7 : World} {v v' : Value} {s : List Int} {z : Int} {a : Option Addr} {c : Nat} (h : SeenR base w v s) (hW : Below w.heap.size w W) (hz : allowedZ z) (hn : W.ownsRow base 5 1 (.slice a (bytesZ z).length c) (bytesZ z).length (byV (bytesZ z)))
    (ho : ∀ vals : List Value, W.ownsRow base 66 1 v s.length vals → w7.ownsRow base 66 1 v' (s.length + 1) (vals ++ [.slice a (bytesZ z).length c])) (hg : W.grownBy w7 v.ownBlock) : SeenR base w7 v' (s ++ [z]) := by
  obtain ⟨vals, h1, h2, h3⟩ := h.below hW
  refine ⟨vals ++ [.slice a (bytesZ z).length c], by simp [h1], by rw [List.length_append]; exact ho vals h2, fun i p hp => ?_⟩
  by_cases hi : i < s.length
  · rw [List.getElem?_append_left hi] at hp
    obtain ⟨ha, a', c', k1, k2⟩ := h3 i p hp
    exact ⟨ha, a', c', by rw [List.getElem?_append_left (by omega)]; exact k1, k2.kept hg (type_apart k2 h2 (by decide))⟩
  · have hi2 : i = s.length := by
      have := (List.getElem?_eq_some_iff.1 hp).1
      simp at this
      omega
    subst hi2
    simp at hp
    subst hp
    exact ⟨hz, a, c, by rw [← h1]; simp, hn.kept hg (type_apart hn h2 (by decide))⟩
/-- what distinct answers -/
def DisR (base : Nat) (w : World) (v : Value) (z : Int) (s : List Int) (e : Ending) (w' : World) : Prop :=
  ∃ v' : Value, e = .returned v' ∧ SeenR base w' v' (dis z s) ∧ w.grownBy w' v.ownBlock ∧ ∀ k, v'.ownBlock = some k → v.ownBlock = some k ∨ w.heap.size ≤ k
theorem below_grown {w W : World} (h : Below w.heap.size w W) (row : Option Nat) : w.grownBy W row := ⟨h.os, h.tape, h.output, h.size, fun k hk _ => h.block k hk⟩
theorem SeenR.shape {base : Nat} {w : World} {v : Value} {s : List Int} (h : SeenR base w v s) : ∃ a c, v = .slice a s.length c := by
  obtain ⟨vals, h1, h2, h3⟩ := h
  exact (RowV.of_own h2).shape

theorem box_apart {w : World} {base n s x : Nat} {e t : TypeId} {v : Value} {xs : List Value} {cs : Array Value} (h : w.ownsRow base e s v n xs) (hx : w.heap[x]? = some (.cells cs t (0, 0))) (hne : e ≠ t) : some x ≠ v.ownBlock := fun hk => by
  obtain ⟨c, h1⟩ := own_type h x hk.symm
  rw [h1] at hx
  cases hx
  exact hne rfl
theorem grown_chain {w w1 w2 : World} {o o1 : Option Nat} (h : w.grownBy w1 o) (k : w1.grownBy w2 o1) (hat : ∀ j, o1 = some j → o = some j ∨ w.heap.size ≤ j) : w.grownBy w2 o :=
  ⟨k.os.trans h.os, k.tape.trans h.tape, k.output.trans h.output, Nat.le_trans h.size k.size, fun i hi hr => (k.block i (Nat.lt_of_lt_of_le hi h.size) (fun e => by
    rcases hat i e.symm with a | a
    · exact hr a.symm
    · omega)).trans (h.block i hi hr)⟩
/-- in the midst of the terms -/
def DiM (w0 w w7 : World) (vo : Option Nat) (z : Int) (s : List Int) (N : Nat) (at_ : Value) (ts : List TV) (k : Nat) (v : Value) (wl : World) : Prop :=
  SeenR w0.heap.size wl v (((naf z).take k).foldl (fun r t => dis (t.2 : Int) r) (s ++ [z])) ∧ Below w0.heap.size w0 wl ∧ w.grownBy wl vo ∧ (∀ j, v.ownBlock = some j → vo = some j ∨ w.heap.size ≤ j) ∧ wl.ownsRow w7.heap.size 31 3 at_ N (flatT ts)

set_option maxRecDepth 100000 in
set_option maxHeartbeats 8000000 in
/-- distinct -/
theorem distinct_calls {w0 : World} (hL : LawW w0) (C : List Int) (hC : ClosedL C) (hC9 : C.length ≤ 2000) : ∀ (n : Nat) (z : Int), z.natAbs < n → z ∈ C → ∀ (x : Int) (g : Option Addr), NumA cold w0 x g z → ∀ (w : World) (v : Value) (s : List Int), Below w0.heap.size w0 w → SeenR w0.heap.size w v s → s.Nodup → (∀ p ∈ s, p ∈ C) →
    Calls Tryd.prog 14 #[.agg #[.int .i64 x, .pointer g], v] w (DisR w0.heap.size w v z s)
  | 0, z, h, _, _, _, _, _, _, _, _, _, _, _ => by omega
  | n + 1, z, hzn, hzC, x, g, hx, w, v, s, hb, hS, hnd, hsC => by
    have hsl : s.length ≤ 2000 := Nat.le_trans (nodupZ_le s C hnd hsC) hC9
    obtain ⟨av, cv, rfl⟩ := hS.shape
    have hb1 : Below w.heap.size w (w.alloc (.cells #[.int .i64 x, .pointer g] 28)) := (Below.refl _ _).alloc (Nat.le_refl _) _
    have p0 := heap_alloc_new w (.cells #[.int .i64 x, .pointer g] 28)
    have hby := hL.bytes hx _ (hb.trans (hb1.mono hb.size))
    obtain ⟨e0, e1⟩ := num_cells p0
    have HX := Lib.hid (And.intro hx (And.intro hb (And.intro hS (And.intro hnd (And.intro hsC (And.intro hb1 (And.intro p0 hzC)))))))
    have HBY := Lib.hid hby
    have IH := Lib.hid (fun (y : Int) (hy : y.natAbs < n) => distinct_calls hL C hC hC9 n y hy)
    have HLC := Lib.hid (And.intro hL hC)
    clear hx hb hS hnd hsC hb1 p0 hby hzC hL hC
    go_enter Tryd.func14, Tryd.ntmps14
    go_wp2_with (first
      | (go_at_call 29; refine HBY.out.mono ?_; rintro e5 w5 ⟨a5, c5, rfl, ho5, hb5⟩
         have H5 := Lib.hid (And.intro ho5 hb5)
         clear ho5 hb5))
    obtain ⟨ho5, hb5⟩ := H5.out
    obtain ⟨hx, hb, hS, hnd, hsC, hb1, p0, hzC⟩ := HX.out
    have hbw : Below w.heap.size w w5 := hb1.trans (hb5.mono hb1.size)
    have hS5 := hS.below hbw
    have ho5' := ownsRow_base ho5 (Nat.le_trans hb.size hb1.size)
    have p5 := (hb5.block _ (lt_of_some p0)).trans p0
    obtain ⟨M, hM⟩ : ∃ M, M = s.length := ⟨_, rfl⟩
    have HQ := Lib.hid (And.intro hbw (And.intro hS5 (And.intro ho5' (And.intro p5 hM))))
    rw [← hM] at hsl ⊢
    have hM9 : (M : Int) ≤ 2000 := by omega
    clear ho5 hb5 hx hb hS hnd hsC hb1 p0 hzC hbw hS5 ho5' p5 hM H5
    go_loopw [6] (fun i wl => ∃ k : Nat, k ≤ M ∧ i = .int .i64 k ∧ (∀ j, j < k → s[j]? ≠ some z) ∧ wl = w5) (fun i _ => M - (intOf i).toNat)
    case atStart => exact ⟨0, by omega, by simp, fun j h => by omega, rfl⟩
    case round =>
      obtain ⟨k, hkl, rfl, hall, rfl⟩ := hrel
      obtain ⟨hbw, ⟨vals, hvl, hown, hel⟩, ho5, p5, hM⟩ := HQ.out
      by_cases hlt : k < M
      · have hks : k < s.length := by omega
        have hgk : s[k]? = some s[k] := List.getElem?_eq_getElem hks
        obtain ⟨hap, a, c, hvk, hok⟩ := hel k _ hgk
        obtain ⟨b, rfl⟩ : ∃ b, av = some ⟨b, 0, none⟩ := by
          obtain ⟨g', cap, e⟩ := Go.Joins.ownsRow_form hown (by omega)
          cases e; exact ⟨g', rfl⟩
        have x0 := (hown.cellAt k (by omega)).trans hvk
        have hsm := Same_calls (RowV.of_own hok) (RowV.of_own ho5) (byteL_bytesZ _) (byteL_bytesZ _)
        have hdd : decide (bytesZ s[k] = bytesZ z) = decide (s[k] = z) := by
          rw [Bool.eq_iff_iff]; simp only [decide_eq_true_eq]; exact bytesZ_inj hap HX.out.1.1
        rw [hdd] at hsm
        generalize s[k] = p at *
        have hlt' : (k : Int) < (M : Int) := by omega
        have HS := Lib.hid hsm
        by_cases hpz : p = z
        · have hd1 : decide (p = z) = true := decide_eq_true hpz
          rw [hd1] at hsm
          have HS := Lib.hid hsm
          have hmem : z ∈ s := by rw [← hpz]; exact List.mem_of_getElem? hgk
          have HM := Lib.hid (And.intro hmem (And.intro hbw hM))
          clear hbw hvl hown hel ho5 p5 hM hgk hap hvk hok hsm hdd hall hpz hd1 hmem hks
          go_wp2_with (first
            | (go_at_call 28; refine HS.out.mono ?_; rintro e6 w6 ⟨rfl, rfl⟩))
          refine bodyPost_ret (v := .slice (some ⟨b, 0, none⟩) M cv) (by simp [results, Tryd.results14, go_sem, *]) rfl ⟨_, rfl, ?_, below_grown HM.out.2.1 _, fun j hj => .inl hj⟩
          rw [dis_eq, if_pos HM.out.1]
          have h9 := HQ.out.2.1
          rw [← HM.out.2.2] at h9
          exact h9
        · have hd1 : decide (p = z) = false := decide_eq_false hpz
          rw [hd1] at hsm
          have HS := Lib.hid hsm
          have HA := Lib.hid (And.intro hall (And.intro hgk hpz))
          clear hbw hvl hown hel ho5 p5 hM hgk hap hvk hok hsm hdd hall hpz hd1 hks
          go_wp2_with (first
            | (go_at_call 28; refine HS.out.mono ?_; rintro e6 w6 ⟨rfl, rfl⟩))
          refine ⟨⟨k + 1, by omega, by go_num, fun j hj => ?_, by first | rfl | trivial⟩, by simp [intOf]; omega⟩
          by_cases e : j = k
          · subst e; rw [HA.out.2.1]; exact fun h => HA.out.2.2 (Option.some.inj h)
          · exact HA.out.1 j (by omega)
      · have hkn : k = M := by omega
        subst hkn
        have hlt' : ¬ ((k : Int) < (k : Int)) := by omega
        have hnz : z ∉ s := fun hm => by
          obtain ⟨j, hj⟩ := List.mem_iff_getElem?.1 hm
          have := (List.getElem?_eq_some_iff.1 hj).1
          exact hall j (by omega) hj
        rw [← hM] at hown
        obtain ⟨hx, hb, hS, hnd, hsC, hb1, p0, hzC⟩ := HX.out
        obtain ⟨i1, hi1, hz1, hz2, hz3⟩ := info_parts infoeBB
        have HH := Lib.hid (And.intro hi1 (And.intro hz1 (And.intro hz2 hz3)))
        have hbase : w0.heap.size ≤ wr.heap.size := Nat.le_trans hb.size hbw.size
        have HV := Lib.hid (And.intro hown (And.intro hnz (And.intro hvl hel)))
        clear hi1 hz1 hz2 hz3 hbw hvl hown hel ho5 p5 hM hx hb hS hnd hsC hb1 p0 hzC hall hnz
        go_upto_region 8 with (first
          | (at_builtin; refine wpList_append_own_at _ rfl _ _ 40 rfl w0.heap.size 66 i1 (.slice none 0 0) 1 24 Tryd.underlying40 HH.out.1 HH.out.2.1 HH.out.2.2.1 HH.out.2.2.2 rfl (by decide) _ _ _ rfl (HV.out.1.alloc _) ⟨wr.heap.size, 0, none⟩ 1 1 [.slice a5 (bytesZ z).length c5] rfl rfl (news_alloc wr _ _ _) (by simp [Value.oneCell']) (by unfold maxLen; omega) (by omega) (by simp; omega) ?_; intro v7 w7 hown7 hg7 _ hat7
             obtain ⟨a7, c7, rfl⟩ := (RowV.of_own hown7).shape
             have H7 := Lib.hid (And.intro hown7 (And.intro hg7 hat7))
             clear hown7 hg7 hat7))
        obtain ⟨hown7, hg7, hat7⟩ := H7.out
        obtain ⟨hbw, hS5, ho5, p5, hM⟩ := HQ.out
        obtain ⟨hx, hb, hS, hnd, hsC, hb1, p0, hzC⟩ := HX.out
        obtain ⟨hown, hnz, hvl, hel⟩ := HV.out
        have hA : ∀ o, Below wr.heap.size wr (wr.alloc o) := fun o => (Below.refl _ _).alloc (Nat.le_refl _) _
        have hap : w.grownBy w7 (Value.slice av k cv).ownBlock := grown_trans (below_grown (hbw.trans ((hA _).mono hbw.size)) _) hg7
        have hb7 : Below w0.heap.size w0 w7 := ((hb.trans (hbw.mono hb.size)).trans ((hA _).mono hbase)).grown hg7 (by simp; omega) (fun j hj => (hown.lt j hj).1)
        have hS7 : SeenR w0.heap.size w7 (.slice a7 (k + 1) c7) (s ++ [z]) := by
          refine ⟨vals ++ [.slice a5 (bytesZ z).length c5], by simp [hvl], by rw [List.length_append, ← hM]; exact hown7, ?_⟩
          intro i p hp
          by_cases hi : i < s.length
          · rw [List.getElem?_append_left hi] at hp
            obtain ⟨ha, a', c', k1, k2⟩ := hel i p hp
            have k3 := ownsRow_belowAll k2 (hA (.cells #[.slice a5 (bytesZ z).length c5] 66))
            exact ⟨ha, a', c', by rw [List.getElem?_append_left (by omega)]; exact k1, k3.kept hg7 (type_apart k3 (hown.alloc _) (by decide))⟩
          · have hi2 : i = s.length := by
              have := (List.getElem?_eq_some_iff.1 hp).1
              simp at this
              omega
            subst hi2
            simp at hp
            subst hp
            have k3 := ownsRow_belowAll ho5 (hA (.cells #[.slice a5 (bytesZ z).length c5] 66))
            exact ⟨hx.1, a5, c5, by rw [← hvl]; simp, k3.kept hg7 (type_apart k3 (hown.alloc _) (by decide))⟩
        have hat : ∀ j, (Value.slice a7 (k + 1) c7).ownBlock = some j → (Value.slice av k cv).ownBlock = some j ∨ w.heap.size ≤ j := fun j hj => by
          rcases hat7 with e | e
          · exact .inl (e.symm.trans hj)
          · rw [e] at hj
            simp only [Option.some.injEq] at hj
            have := hbw.size
            exact .inr (by rw [← hj]; simp; omega)
        have p7 : w7.heap[w.heap.size]? = some (.cells #[.int .i64 x, .pointer g] 28 (0, 0)) := (hg7.block _ (by have := lt_of_some p5; simp; omega) (box_apart hown p5 (by decide))).trans (((hA _).block _ (lt_of_some p5)).trans p5)
        have hT := HLC.out.1.terms0 hx _ hb7
        obtain ⟨y0, y1⟩ := num_cells p7
        have HT := Lib.hid hT
        have HS7 := Lib.hid (And.intro hS7 (And.intro hb7 (And.intro hap hat)))
        have hw300 := hx.wt
        clear hown7 hg7 hat7 hbw hS5 ho5 p5 hM hx hb hS hnd hsC hb1 p0 hzC hown hvl hel hA hap hb7 hS7 hat p7 hT H7 HH
        go_wp2_with (first
          | (go_at_call 5; refine HT.out.mono ?_; rintro e8 w8 ⟨a8, c8, ts, rfl, hl8, ho8, hf8, hb8⟩
             have H8 := Lib.hid (And.intro hl8 (And.intro ho8 (And.intro hf8 hb8)))
             clear hl8 ho8 hf8 hb8))
        obtain ⟨hl8, ho8, hf8, hb8⟩ := H8.out
        obtain ⟨hS7, hb7, hap, hat⟩ := HS7.out
        have hst : DiM w0 w w7 (Value.slice av k cv).ownBlock z s ts.length (.slice a8 ts.length c8) ts 0 (.slice a7 (k + 1) c7) w8 :=
          ⟨hS7.below hb8, hb7.trans (hb8.mono hb7.size), grown_trans hap (below_grown hb8 _), hat, ho8⟩
        obtain ⟨N, hN⟩ : ∃ N, N = ts.length := ⟨_, rfl⟩
        rw [← hN] at hst ⊢
        have hN9 : (N : Int) ≤ 300 := by omega
        have HST := Lib.hid hst
        have HF := Lib.hid (And.intro hf8 (And.intro hl8 hN))
        clear hl8 ho8 hf8 hb8 hS7 hb7 hap hat hst H8 HT HS7 hN hw300
        go_loopg [1, 8] N (fun rem v i wl => ∃ j : Nat, j + rem = N ∧ i = .int .i64 j ∧ DiM w0 w w7 (Value.slice av k cv).ownBlock z s N (.slice a8 N c8) ts j v wl)
        case atStart => exact ⟨0, by omega, by simp, HST.out⟩
        case round =>
          obtain ⟨j, hjr, rfl, hD⟩ := hrel
          clear HST
          obtain ⟨hf8, hl8, hN⟩ := HF.out
          obtain ⟨hSk, hbk, hgk, hatk, hok⟩ := hD
          by_cases hlt : j < N
          · have hlt' : (j : Int) < (N : Int) := by omega
            have hjt : j < ts.length := by omega
            have hjn : j < (naf z).length := by have h : ts.length = (naf z).length := hl8; omega
            obtain ⟨b8, rfl⟩ : ∃ b, a8 = some ⟨b, 0, none⟩ := by
              obtain ⟨g', cap, e⟩ := Go.Joins.ownsRow_form hok (by omega)
              cases e; exact ⟨g', rfl⟩
            obtain ⟨q0, q1, q2⟩ := flatT_get ts j hjt
            have x1 := (hok.cellAt (j * 3 + 1) (by omega)).trans q1
            have x2 := (hok.cellAt (j * 3 + 2) (by omega)).trans q2
            obtain ⟨hm0, hnu⟩ := hf8.get j hjt (by simp; omega)
            clear hm0
            have hgu : ((naf z).map ofT)[j]'(by simp; omega) = ofT (naf z)[j] := by simp
            rw [hgu] at hnu
            have hmem := List.getElem_mem hjn
            have htk := List.take_succ_eq_append_getElem hjn
            generalize ts[j] = tt at x1 x2 hnu
            generalize (naf z)[j] = u at hnu hmem htk
            obtain ⟨tm, tsg, tg⟩ := tt
            simp only [ofT] at x1 x2 hnu
            have hzC := HX.out.2.2.2.2.2.2.2
            have hlu := exp_lt hmem
            have hfold := dis_fold z.natAbs (fun y hy s => dis_spec _ y (Nat.lt_succ_self _) s) ((naf z).take j) (s ++ [z]) (fun t ht => exp_lt (List.mem_of_mem_take ht))
            have hnd1 : (((naf z).take j).foldl (fun r t => dis (t.2 : Int) r) (s ++ [z])).Nodup := hfold.1.nd (List.nodup_append.2 ⟨HX.out.2.2.2.1, by simp, fun a ha b hb => by rw [List.mem_singleton.1 hb]; rintro rfl; exact hnz ha⟩)
            have hsC1 : ∀ p ∈ ((naf z).take j).foldl (fun r t => dis (t.2 : Int) r) (s ++ [z]), p ∈ C := by
              have hf : ∀ (l : List Tm) (r : List Int), (∀ t ∈ l, t ∈ naf z) → (∀ p ∈ r, p ∈ C) → ∀ p ∈ l.foldl (fun r t => dis (t.2 : Int) r) r, p ∈ C := by
                intro l
                induction l with
                | nil => intro r _ hr; exact hr
                | cons t l ih =>
                  intro r hl hr
                  exact ih _ (fun u hu => hl u (List.mem_cons_of_mem _ hu)) (dis_sub _ (t.2 : Int) r C (Nat.lt_succ_self _) HLC.out.2 (HLC.out.2 z hzC t (hl t (List.mem_cons_self ..))) hr)
              refine hf _ _ (fun t ht => List.mem_of_mem_take ht) (fun p hp => ?_)
              rcases List.mem_append.1 hp with a | a
              · exact HX.out.2.2.2.2.1 p a
              · rw [List.mem_singleton.1 a]; exact hzC
            have hcall := IH.out (u.2 : Int) (by omega) (HLC.out.2 z hzC u hmem) tsg tg hnu wr _ _ hbk hSk hnd1 hsC1
            have HC := Lib.hid hcall
            have HD := Lib.hid (And.intro hSk (And.intro hbk (And.intro hgk (And.intro hatk (And.intro hok htk)))))
            clear hf8 hl8 hN hSk hbk hgk hatk hok hjt hjn q0 q1 q2 hnu hgu hmem htk hzC hlu hfold hnd1 hsC1 hcall
            go_wp2_with (first
              | (go_at_call 14; refine HC.out.mono ?_; rintro e9 w9 ⟨v9, rfl, hs9, hg9, hat9⟩
                 have H9 := Lib.hid (And.intro hs9 (And.intro hg9 hat9))
                 clear hs9 hg9 hat9))
            obtain ⟨hSk, hbk, hgk, hatk, hok, htk⟩ := HD.out
            obtain ⟨hs9, hg9, hat9⟩ := H9.out
            obtain ⟨valsk, l1, l2, l3⟩ := hSk
            go_roundg (gk - 1)
            case measure => omega
            case rel =>
              refine ⟨j + 1, by omega, by go_num, ?_, hbk.grown hg9 hbk.size (fun q hq => (l2.lt q hq).1), grown_chain hgk hg9 hatk, fun q hq => ?_, hok.kept hg9 (type_apart hok l2 (by decide))⟩
              · rw [htk, List.foldl_append]
                exact hs9
              · rcases hat9 q hq with a | a
                · exact hatk q a
                · exact .inr (Nat.le_trans hgk.size a)
          · have hjn : j = N := by omega
            subst hjn
            have hlt' : ¬ ((j : Int) < (j : Int)) := by omega
            have hall : (naf z).take j = naf z := by
              have h : ts.length = (naf z).length := hl8
              rw [hN, h, List.take_length]
            rw [hall] at hSk
            have hde : dis z s = (naf z).foldl (fun r t => dis (t.2 : Int) r) (s ++ [z]) := by rw [dis_eq, if_neg hnz]
            rw [← hde] at hSk
            obtain ⟨af, cf, hsh⟩ := hSk.shape
            subst hsh
            have HD := Lib.hid (And.intro hSk (And.intro hgk hatk))
            clear hf8 hl8 hN hSk hbk hgk hatk hok hall hde
            go_wp2
            refine bodyPost_ret (v := .slice af (dis z s).length cf) (by simp [results, Tryd.results14, go_sem, *]) rfl ⟨_, rfl, HD.out.1, by have h := HD.out.2.1; rw [HQ.out.2.2.2.2] at h; exact h, by have h := HD.out.2.2; rw [HQ.out.2.2.2.2] at h; exact h⟩
end Go.Proofs.YtlclanmbebjfkaaDoor
