import Derived.Test.YtlkmgclbckojgaaGreatDoorP5
import Derived.Test.YtlkmgclbckojgaaGreatDoorL4
import Derived.Test.YtlkmgclbckojgaaGreatDoorL6
import Derived.Lib.SmallJoins
import Derived.BigQuiet
import Derived.Deep.AppendLies
import Derived.Deep.RegionLaw
import Derived.Deep.CutRange
import Derived.Deep.DrawnRows
import Derived.Deep.CutBlock
import Derived.Deep.RegionHeld3
set_option linter.unusedVariables false
set_option linter.unusedSimpArgs false
set_option maxHeartbeats 8000000
set_option maxRecDepth 100000
namespace Go.Proofs.YtlkmgclbckojgaaGreatDoor
section
abbrev Wt := Bool × Nat
def TMs (vs : List Int) : List Wt → List Tm → Prop
 | [], [] => True
 | t :: ts, u :: l => (t.1 = u.1 ∧ vs[t.2]? = some (u.2 : Int)) ∧ TMs vs ts l
 | _, _ => False
variable {vs vs' : List Int}
theorem TMs.len : ∀ {ts : List Wt} {l : List Tm}, TMs vs ts l → ts.length = l.length
 | [], [], _ => rfl
 | t :: ts, u :: l, h => by simp only [List.length_cons]; rw [TMs.len h.2]
 | [], u :: l, h => h.elim
 | t :: ts, [], h => h.elim
theorem TMs.get : ∀ {ts : List Wt} {l : List Tm}, TMs vs ts l → ∀ (i : Nat) (h1 : i < ts.length) (h2 : i < l.length), ts[i].1 = l[i].1 ∧ vs[ts[i].2]? = some (l[i].2 : Int)
 | t :: ts, u :: l, h, 0, _, _ => h.1
 | t :: ts, u :: l, h, i + 1, h1, h2 => TMs.get h.2 i (by simpa using h1) (by simpa using h2)
theorem TMs.append : ∀ {ts us : List Wt} {l m : List Tm}, TMs vs ts l → TMs vs us m → TMs vs (ts ++ us) (l ++ m)
 | [], _, [], _, _, k => k
 | t :: ts, _, u :: l, _, h, k => ⟨h.1, TMs.append h.2 k⟩
 | [], _, u :: l, _, h, _ => h.elim
 | t :: ts, _, [], _, h, _ => h.elim
theorem TMs.take : ∀ {ts : List Wt} {l : List Tm} (n : Nat), TMs vs ts l → TMs vs (ts.take n) (l.take n)
 | [], [], n, _ => by simp [TMs]
 | t :: ts, u :: l, 0, _ => by simp [TMs]
 | t :: ts, u :: l, n + 1, h => ⟨h.1, TMs.take n h.2⟩
 | [], u :: l, _, h => h.elim
 | t :: ts, [], _, h => h.elim
theorem TMs.drop : ∀ {ts : List Wt} {l : List Tm} (n : Nat), TMs vs ts l → TMs vs (ts.drop n) (l.drop n)
 | [], [], n, _ => by simp [TMs]
 | t :: ts, u :: l, 0, h => h
 | t :: ts, u :: l, n + 1, h => by simp only [List.drop_succ_cons]; exact TMs.drop n h.2
 | [], u :: l, _, h => h.elim
 | t :: ts, [], _, h => h.elim
theorem Zci {i : Nat} {z : Int} (hp : vs <+: vs') (h : vs[i]? = some z) : vs'[i]? = some z := by
 obtain ⟨x, rfl⟩ := hp
 have hi := (List.getElem?_eq_some_iff.1 h).1
 rw [List.getElem?_append_left hi]; exact h
theorem TMs.mono (hp : vs <+: vs') : ∀ {ts : List Wt} {l : List Tm}, TMs vs ts l → TMs vs' ts l
 | [], [], _ => trivial
 | t :: ts, u :: l, h => ⟨⟨h.1.1, Zci hp h.1.2⟩, TMs.mono hp h.2⟩
 | [], u :: l, h => h.elim
 | t :: ts, [], h => h.elim
theorem TMs.lt : ∀ {ts : List Wt} {l : List Tm}, TMs vs ts l → ∀ t ∈ ts, t.2 < vs.length
 | [], [], _, t, ht => by simp at ht
 | t :: ts, u :: l, h, x, hx => by
   rcases List.mem_cons.1 hx with rfl | hx
   · exact (List.getElem?_eq_some_iff.1 h.1.2).1
   · exact TMs.lt h.2 x hx
 | [], u :: l, h, _, _ => h.elim
 | t :: ts, [], h, _, _ => h.elim
theorem Zbj (hn : vs.Nodup) {i j : Nat} {z : Int} (h : vs[i]? = some z) (k : vs[j]? = some z) : i = j := by
 obtain ⟨hi, e1⟩ := List.getElem?_eq_some_iff.1 h
 obtain ⟨hj, e2⟩ := List.getElem?_eq_some_iff.1 k
 have hp := List.pairwise_iff_getElem.1 hn
 rcases Nat.lt_trichotomy i j with a | a | a
 · exact absurd (e1.trans e2.symm) (hp i j hi hj a)
 · exact a
 · exact absurd (e2.trans e1.symm) (hp j i hj hi a)
theorem TMs.same (hn : vs.Nodup) : ∀ {ts us : List Wt} {l : List Tm}, TMs vs ts l → TMs vs us l → ts = us
 | [], [], [], _, _ => rfl
 | t :: ts, u :: us, x :: l, h, k => by
   rw [TMs.same hn h.2 k.2]
   obtain ⟨a, b⟩ := t
   obtain ⟨c, d⟩ := u
   have h1 := h.1; have k1 := k.1
   simp only at h1 k1
   rw [h1.1, k1.1, Zbj hn h1.2 k1.2]
 | [], _ :: _, [], _, k => k.elim
 | _ :: _, _, [], h, _ => h.elim
 | [], _, _ :: _, h, _ => h.elim
 | _ :: _, [], _ :: _, _, k => k.elim
theorem TMs.inj : ∀ {ts : List Wt} {l m : List Tm}, TMs vs ts l → TMs vs ts m → l = m
 | [], [], [], _, _ => rfl
 | t :: ts, u :: l, x :: m, h, k => by
   rw [TMs.inj h.2 k.2]
   obtain ⟨a, b⟩ := u
   obtain ⟨c, d⟩ := x
   have h1 := h.1; have k1 := k.1
   simp only at h1 k1
   have e : (b : Int) = (d : Int) := by
     have := h1.2.symm.trans k1.2
     simpa using this
   rw [← h1.1, ← k1.1, show b = d by omega]
 | [], [], _ :: _, _, k => k.elim
 | [], _ :: _, _, h, _ => h.elim
 | _ :: _, [], _, h, _ => h.elim
 | _ :: _, _ :: _, [], _, k => k.elim
def wo {α : Type} (l : List α) (k : Nat) : List α := l.take k ++ l.drop (k + 1)
theorem TMs.wo {ts : List Wt} {l : List Tm} (h : TMs vs ts l) (k : Nat) : TMs vs (wo ts k) (wo l k) := (h.take k).append (h.drop (k + 1))
theorem Zdu (m : Bool) (e : Nat) : tv (m, e) + tv (m, e) = tv (m, e + 1) := by
 unfold tv; simp only; rw [Zai]; rcases Zay m with ⟨_, h⟩ | ⟨_, h⟩ <;> rw [h] <;> omega
theorem Zh5 (m : Bool) (e : Nat) : tv (!m, e) = - tv (m, e) := by cases m <;> simp [tv, sg]
theorem Zdi (A R : List Tm) (t : Tm) : val (A ++ t :: R) = val (A ++ R) + tv t := by
 rw [Za2, Za2, val]; omega
theorem NA_sub {l m : List Tm} (h : m.Sublist l) (k : NA l) : NA m := List.Pairwise.sublist h k
theorem NA_wo {A R : List Tm} {x : Tm} (h : NA (A ++ x :: R)) : NA (A ++ R) := NA_sub (List.Sublist.append_left (List.sublist_cons_self _ _) _) h
theorem Zdt {A R : List Tm} : NA (A ++ R) ↔ NA A ∧ NA R ∧ ∀ a ∈ A, ∀ r ∈ R, r.2 + 2 ≤ a.2 := List.pairwise_append
theorem NA_ins {A R : List Tm} {t : Tm} (h : NA (A ++ R)) (ha : ∀ a ∈ A, t.2 + 2 ≤ a.2) (hr : ∀ r ∈ R, r.2 + 2 ≤ t.2) : NA (A ++ t :: R) := by
 obtain ⟨h1, h2, h3⟩ := Zdt.1 h
 refine Zdt.2 ⟨h1, List.pairwise_cons.2 ⟨hr, h2⟩, fun a hx r hr' => ?_⟩
 rcases List.mem_cons.1 hr' with rfl | hm
 · exact ha a hx
 · exact h3 a hx r hm
theorem Zk2 {A R : List Tm} {m m' : Bool} {e : Nat} (h : NA (A ++ (m, e) :: R)) : NA (A ++ (m', e) :: R) := by
 obtain ⟨h1, h2, h3⟩ := Zdt.1 h
 refine Zdt.2 ⟨h1, List.pairwise_cons.2 ⟨fun r hr => (List.pairwise_cons.1 h2).1 r hr, (List.pairwise_cons.1 h2).2⟩, fun a ha r hr => ?_⟩
 rcases List.mem_cons.1 hr with rfl | hm
 · exact h3 a ha (m, e) (List.mem_cons_self ..)
 · exact h3 a ha r (List.mem_cons_of_mem _ hm)
def Bd (l : List Tm) (t : Tm) (N : Nat) : Prop := (∀ x ∈ l, x.2 < N) ∧ (t.2 < N ∨ (∀ x ∈ l, x.2 + 2 ≤ t.2) ∨ ∃ x l', l = x :: l' ∧ x.1 ≠ t.1 ∧ x.2 + 1 = t.2)
def mu (l : List Tm) (t : Tm) : Nat := l.countP (fun x => decide (t.2 ≤ x.2 + 1))
theorem Zej (A R : List Tm) (t : Tm) : mu (A ++ R) t = mu A t + mu R t := by unfold mu; rw [List.countP_append]
theorem Zer (x : Tm) (R : List Tm) (t : Tm) : mu (x :: R) t = mu R t + (if t.2 ≤ x.2 + 1 then 1 else 0) := by
 unfold mu; rw [List.countP_cons]; simp
theorem mu_le (l : List Tm) {t t' : Tm} (h : t.2 ≤ t'.2) : mu l t' ≤ mu l t := by
 unfold mu
 refine List.countP_mono_left fun x _ hx => ?_
 simp only [decide_eq_true_eq] at *
 omega
theorem Zn1 (l : List Tm) (t : Tm) : mu l t ≤ l.length := List.countP_le_length
theorem Zk3 {l : List Tm} {t : Tm} (h : ∀ x ∈ l, x.2 + 1 < t.2) : mu l t = 0 := by
 unfold mu
 rw [List.countP_eq_zero]
 intro x hx
 have := h x hx
 simp; omega
theorem Zqh {A R : List Tm} {m : Bool} {e N : Nat} (h : NA (A ++ (m, e) :: R)) (hb : Bd (A ++ (m, e) :: R) (m, e) N) :
   val (A ++ (m, e) :: R) + tv (m, e) = val (A ++ R) + tv (m, e + 1) ∧ Bd (A ++ R) (m, e + 1) N ∧ mu (A ++ R) (m, e + 1) < mu (A ++ (m, e) :: R) (m, e) ∧ e < N := by
 obtain ⟨h1, h2, h3⟩ := Zdt.1 h
 have h4 := (List.pairwise_cons.1 h2).1
 refine ⟨by rw [Zdi, ← Zdu]; omega, ⟨fun x hx => hb.1 x ?_, ?_⟩, ?_, hb.1 (m, e) (by simp)⟩
 · rcases List.mem_append.1 hx with a | a
   · exact List.mem_append_left _ a
   · exact List.mem_append_right _ (List.mem_cons_of_mem _ a)
 · rcases A with _ | ⟨a, A⟩
   · right; left
     intro x hx
     have := h4 x hx
     simp only at this ⊢; omega
   · left
     have := h3 a (by simp) (m, e) (by simp)
     have := hb.1 a (by simp)
     simp only at *; omega
 · rw [Zej, Zej, Zer]
   have e1 := mu_le A (t := (m, e)) (t' := (m, e + 1)) (by simp)
   have e2 := mu_le R (t := (m, e)) (t' := (m, e + 1)) (by simp)
   simp; omega
theorem Zqt {A R : List Tm} {m : Bool} {e N : Nat} (h : NA (A ++ (!m, e + 1) :: R)) (hb : Bd (A ++ (!m, e + 1) :: R) (m, e) N) :
   val (A ++ (!m, e + 1) :: R) + tv (m, e) = val (A ++ R) + tv (!m, e) ∧ Bd (A ++ R) (!m, e) N ∧ mu (A ++ R) (!m, e) < mu (A ++ (!m, e + 1) :: R) (m, e) ∧ e < N := by
 have hN : e < N := by have := hb.1 (!m, e + 1) (by simp); simp only at this; omega
 refine ⟨?_, ⟨fun x hx => hb.1 x ?_, .inl hN⟩, ?_, hN⟩
 · rw [Zdi, ← Zdu, Zh5]; omega
 · rcases List.mem_append.1 hx with a | a
   · exact List.mem_append_left _ a
   · exact List.mem_append_right _ (List.mem_cons_of_mem _ a)
 · rw [Zej, Zej, Zer]
   have e1 := mu_le A (t := (m, e)) (t' := (!m, e)) (by simp)
   have e2 := mu_le R (t := (m, e)) (t' := (!m, e)) (by simp)
   rw [if_pos (by show e ≤ e + 1 + 1; omega)]; omega
theorem Zqu {A R : List Tm} {m : Bool} {e N : Nat} (h : NA (A ++ (m, e + 1) :: R)) (hb : Bd (A ++ (m, e + 1) :: R) (m, e) N) :
   val (A ++ (m, e + 1) :: R) + tv (m, e) = (val (A ++ R) + tv (!m, e)) + tv (m, e + 2) ∧ Bd (A ++ R) (!m, e) N ∧ mu (A ++ R) (!m, e) < mu (A ++ (m, e + 1) :: R) (m, e) ∧ e + 1 < N := by
 have hN : e + 1 < N := hb.1 (m, e + 1) (by simp)
 refine ⟨?_, ⟨fun x hx => hb.1 x ?_, .inl (by show e < N; omega)⟩, ?_, hN⟩
 · rw [Zdi, ← Zdu, ← Zdu, Zh5]
   have := Zdu m e
   omega
 · rcases List.mem_append.1 hx with a | a
   · exact List.mem_append_left _ a
   · exact List.mem_append_right _ (List.mem_cons_of_mem _ a)
 · rw [Zej, Zej, Zer]
   have e1 := mu_le A (t := (m, e)) (t' := (!m, e)) (by simp)
   have e2 := mu_le R (t := (m, e)) (t' := (!m, e)) (by simp)
   rw [if_pos (by show e ≤ e + 1 + 1; omega)]; omega
theorem Zn2 {R : List Tm} {m : Bool} {e : Nat} (h : NA R) (hr : ∀ r ∈ R, r.2 + 1 ≤ e) : ∀ x ∈ naf (val R + tv (!m, e)), x.2 ≤ e + 1 ∧ ((∀ r ∈ R, r.2 + 2 ≤ e) → x.2 ≤ e) := by
 have hv := Zd4 R e h (fun t ht => by have := hr t ht; omega)
 rw [Zai] at hv
 have hp := pow_pos e
 intro x hx
 rcases hl : naf (val R + tv (!m, e)) with _ | ⟨y, l⟩
 · rw [hl] at hx; simp at hx
 have hy := Zbm (t := y) (l := l) (by rw [← hl]; exact Za3 _)
 rw [← hl, Zam] at hy
 have hxy : x.2 ≤ y.2 := by
   rw [hl] at hx
   rcases List.mem_cons.1 hx with rfl | hm
   · exact zl
   · have := (NA.head (t := y) (l := l) (by rw [← hl]; exact Za3 _)) x hm
     omega
 have hb : 3 * (sg y.1 * (val R + tv (!m, e))) < 5 * 2 ^ e := by
   unfold tv
   rcases Zay y.1 with ⟨_, e1⟩ | ⟨_, e1⟩ <;> rcases Zay (!m) with ⟨_, e2⟩ | ⟨_, e2⟩ <;> simp only [e1, e2] <;> omega
 constructor
 · by_cases hc : y.2 ≤ e + 1
   · omega
   · have := Zc2 (a := e + 2) (b := y.2) (by omega)
     rw [Zai, Zai] at this
     omega
 · intro hr2
   by_cases hc : y.2 ≤ e
   · omega
   · rcases e with _ | e
     · have : R = [] := by
         rcases R with _ | ⟨r, R⟩
         · rfl
         · have := hr r (by simp); omega
       subst this
       simp only [val] at hb hy
       have := Zc2 (a := 1) (b := y.2) (by omega)
       unfold tv at hy
       rcases Zay y.1 with ⟨_, e1⟩ | ⟨_, e1⟩ <;> rcases Zay (!m) with ⟨_, e2⟩ | ⟨_, e2⟩ <;> simp only [e1, e2] at hy <;> omega
     · have hv2 := Zd4 R e h (fun t ht => by have := hr2 t ht; omega)
       have := Zc2 (a := e + 2) (b := y.2) (by omega)
       rw [Zai] at this
       have e3 := Zai e
       unfold tv at hy
       rcases Zay y.1 with ⟨_, e1⟩ | ⟨_, e1⟩ <;> rcases Zay (!m) with ⟨_, e2⟩ | ⟨_, e2⟩ <;> simp only [e1, e2] at hy <;> omega
theorem Zk4 {A R : List Tm} {m : Bool} {e N : Nat} (h : NA (A ++ (m, e + 1) :: R)) (hb : Bd (A ++ (m, e + 1) :: R) (m, e) N) :
   Bd (naf (val (A ++ R) + tv (!m, e))) (m, e + 2) N ∧ mu (naf (val (A ++ R) + tv (!m, e))) (m, e + 2) < mu (A ++ (m, e + 1) :: R) (m, e) ∧ (∀ x ∈ naf (val (A ++ R) + tv (!m, e)), x ∈ A ∨ x.2 ≤ e + 1) := by
 obtain ⟨h1, h2, h3⟩ := Zdt.1 h
 have h4 := (List.pairwise_cons.1 h2).1
 have h5 := (List.pairwise_cons.1 h2).2
 have hr : ∀ r ∈ R, r.2 + 1 ≤ e := fun r hr => by have := h4 r hr; simp only at this; omega
 have hlow := Zn2 (m := m) h5 hr
 have hA : ∀ a ∈ A, e + 3 ≤ a.2 := fun a ha => by have := h3 a ha (m, e + 1) (by simp); simp only at this; omega
 have hform : naf (val (A ++ R) + tv (!m, e)) = A ++ naf (val R + tv (!m, e)) := by
   refine Zdb (Zdt.2 ⟨h1, Za3 _, fun a ha r hr => ?_⟩) ?_
   · have := hA a ha; have := (hlow r hr).1; omega
   · rw [Za2, Zam, Za2]; omega
 rw [hform]
 refine ⟨⟨fun x hx => ?_, ?_⟩, ?_, fun x hx => ?_⟩
 · rcases List.mem_append.1 hx with a | a
   · exact hb.1 x (List.mem_append_left _ a)
   · have := (hlow x a).1
     have := hb.1 (m, e + 1) (by simp)
     simp only at this; omega
 · rcases A with _ | ⟨a, A⟩
   · rcases hl : naf (val R + tv (!m, e)) with _ | ⟨y, l⟩
     · right; left; simp
     · by_cases hy : y.2 ≤ e
       · right; left
         intro x hx
         have hxy : x.2 ≤ y.2 := by
           rcases List.mem_cons.1 hx with rfl | hm
           · exact zl
           · have := (NA.head (t := y) (l := l) (by rw [← hl]; exact Za3 _)) x hm
             omega
         simp only; omega
       · right; right
         have hy1 : y.2 = e + 1 := by have := (hlow y (by rw [hl]; simp)).1; omega
         refine ⟨y, l, rfl, ?_, by simp only; omega⟩
         have hyv := Zbm (t := y) (l := l) (by rw [← hl]; exact Za3 _)
         rw [← hl, Zam] at hyv
         have hv := Zd4 R e h5 (fun t ht => by have := hr t ht; omega)
         rw [Zai] at hv
         have hp := pow_pos e
         have hp2 := pow_pos y.2
         intro hm
         simp only at hm
         rw [hm] at hyv
         unfold tv at hyv
         cases m <;> simp [sg] at hyv <;> omega
   · left
     have := hA a (by simp)
     have := hb.1 a (by simp)
     simp only; omega
 · rw [Zej, Zej, Zer]
   have e1 := mu_le A (t := (m, e)) (t' := (m, e + 2)) (by simp)
   have hmu : mu (naf (val R + tv (!m, e))) (m, e + 2) ≤ mu R (m, e) := by
     by_cases hR : ∀ r ∈ R, r.2 + 2 ≤ e
     · rw [Zk3 (fun x hx => by have := (hlow x hx).2 hR; simp only; omega)]
       omega
     · have hR1 : 1 ≤ mu R (m, e) := by
         unfold mu
         rw [Nat.one_le_iff_ne_zero, Ne, List.countP_eq_zero]
         intro hc
         apply hR
         intro r hr
         have := hc r hr
         simp at this; omega
       rcases hl : naf (val R + tv (!m, e)) with _ | ⟨y, l⟩
       · simp [mu]
       · rw [Zer, Zk3 (l := l) (fun x hx => by
           have := (NA.head (t := y) (l := l) (by rw [← hl]; exact Za3 _)) x hx
           have := (hlow y (by rw [hl]; simp)).1
           simp only; omega)]
         split <;> omega
   rw [if_pos (by show e ≤ e + 1 + 1; omega)]; omega
 · rcases List.mem_append.1 hx with a | a
   · exact .inl a
   · exact .inr (hlow x a).1
theorem Zqi {A R : List Tm} {m : Bool} {e N : Nat} (h : NA (A ++ (m, e) :: R)) (ha : ∀ a ∈ A, e + 3 ≤ a.2) (hb : Bd (A ++ (m, e) :: R) (m, e + 1) N) :
   val (A ++ (m, e) :: R) + tv (m, e + 1) = val (A ++ (!m, e) :: R) + tv (m, e + 2) ∧ NA (A ++ (!m, e) :: R) ∧ Bd (A ++ (!m, e) :: R) (m, e + 2) N ∧ mu (A ++ (!m, e) :: R) (m, e + 2) < mu (A ++ (m, e) :: R) (m, e + 1) ∧ e + 1 < N := by
 obtain ⟨h1, h2, h3⟩ := Zdt.1 h
 have h4 := (List.pairwise_cons.1 h2).1
 have hN : e + 1 < N := by
   rcases hb.2 with k | k | ⟨x, l', e1, e2, e3⟩
   · exact k
   · have := k (m, e) (by simp)
     simp only at this; omega
   · exfalso
     rcases A with _ | ⟨a, A⟩
     · simp only [List.nil_append, List.cons.injEq] at e1
       rw [← e1.1] at e2
       exact e2 rfl
     · simp only [List.cons_append, List.cons.injEq] at e1
       have := ha a (by simp)
       rw [← e1.1] at e3
       simp only at e3; omega
 refine ⟨?_, Zk2 h, ⟨fun x hx => ?_, ?_⟩, ?_, hN⟩
 · rw [Zdi, Zdi, Zh5, ← Zdu m (e + 1), ← Zdu m e]; omega
 · rcases List.mem_append.1 hx with a | a
   · exact hb.1 x (List.mem_append_left _ a)
   · rcases List.mem_cons.1 a with rfl | a
     · show e < N; omega
     · exact hb.1 x (List.mem_append_right _ (List.mem_cons_of_mem _ a))
 · rcases A with _ | ⟨a, A⟩
   · right; left
     intro x hx
     rcases List.mem_cons.1 hx with rfl | hm
     · exact zl
     · have := h4 x hm
       simp only at this ⊢; omega
   · left
     have := ha a (by simp)
     have := hb.1 a (by simp)
     simp only; omega
 · rw [Zej, Zej, Zer, Zer]
   have e1 := mu_le A (t := (m, e + 1)) (t' := (m, e + 2)) (by simp)
   have e2 : mu R (m, e + 2) = 0 := Zk3 (fun x hx => by have := h4 x hx; simp only at this ⊢; omega)
   simp only
   rw [e2, if_neg (by omega), if_pos (by omega)]
   omega
theorem Zn3 {A R : List Tm} {m : Bool} {e : Nat} (h : NA (A ++ (!m, e) :: R)) : naf (val (A ++ (!m, e) :: R) + tv (m, e + 1)) = A ++ (m, e) :: R := by
 refine Zdb ?_ ?_
 · have := Zk2 (m' := m) h; exact this
 · rw [Zdi, Zdi, Zh5, ← Zdu]; omega
theorem Zqv {A R : List Tm} {m : Bool} {e : Nat} (h : NA (A ++ (!m, e) :: R)) : naf (val (A ++ (!m, e) :: R) + tv (m, e)) = A ++ R :=
 Zdb (NA_wo h) (by rw [Zdi, Zh5]; omega)
theorem Zn4 {A R : List Tm} {t : Tm} (h : NA (A ++ R)) (ha : ∀ a ∈ A, t.2 + 2 ≤ a.2) (hr : ∀ r ∈ R, r.2 + 2 ≤ t.2) : naf (val (A ++ R) + tv t) = A ++ t :: R :=
 Zdb (NA_ins h ha hr) (by rw [Zdi])
end
section
open Go.RowKit
def cellsW (t : Wt) : List Value := [.bool t.1, .int .i64 (t.2 : Int)]
def flatW (f : List Wt) : List Value := f.flatMap cellsW
theorem Zgv (f : List Wt) : (flatW f).length = f.length * 2 := by
 induction f with
 | nil => rfl
 | cons t f ih => simp only [flatW, List.flatMap_cons, List.length_append, List.length_cons] at *; rw [ih]; simp [cellsW]; omega
theorem Zcs (f g : List Wt) : flatW (f ++ g) = flatW f ++ flatW g := by simp [flatW]
theorem Ze1 : ∀ (f : List Wt) (i : Nat) (h : i < f.length), (flatW f)[i * 2]? = some (.bool f[i].1) ∧ (flatW f)[i * 2 + 1]? = some (.int .i64 (f[i].2 : Int))
 | t :: f, 0, _ => by simp [flatW, cellsW]
 | t :: f, i + 1, h => by
   have := Ze1 f i (by simpa using h)
   rw [show flatW (t :: f) = cellsW t ++ flatW f by simp [flatW]]
   rw [List.getElem?_append_right (by simp [cellsW]; omega), List.getElem?_append_right (by simp [cellsW]; omega)]
   simp only [cellsW, List.length_cons, List.length_nil, List.getElem_cons_succ]
   rw [show (i + 1) * 2 - 2 = i * 2 by omega, show (i + 1) * 2 + 1 - 2 = i * 2 + 1 by omega]
   exact this
theorem Zba (f : List Wt) : ∀ u ∈ flatW f, u.oneCell' = true := by
 intro u hu
 obtain ⟨t, _, ht⟩ := List.mem_flatMap.1 hu
 simp [cellsW] at ht
 rcases ht with rfl | rfl <;> simp [Value.oneCell']
abbrev zW : Value := .agg #[.bool false, .int .i64 0]
theorem infoeW : (Tryz.prog.info? 64).map (fun i => (i.zero, i.size, i.bytes)) = some (some zW, 2, 16) := by kernel_rfl
theorem infoeWW : (Tryz.prog.info? 41).map (fun i => (i.zero, i.size, i.bytes)) = some (some (.slice none 0 0), 1, 24) := by kernel_rfl
def RowW (W : World) (v : Value) (f : List Wt) : Prop := W.ownsRow 0 64 2 v f.length (flatW f)
def wB (p : Nat) (fv : Value) : Nat → Prop := fun k => k = p ∨ fv.ownBlock = some k
structure WS (W : World) (p : Nat) (fv : Value) (rows : List Value) (fs : List (List Wt)) : Prop where
 box : W.heap[p]? = some (.cells #[fv] 44 (0, 0))
 forms : W.ownsRow 0 41 1 fv fs.length rows
 len : rows.length = fs.length
 row : ∀ (i : Nat) (f : List Wt), fs[i]? = some f → ∃ v, rows[i]? = some v ∧ RowW W v f
structure WG (vs : List Int) (fs : List (List Wt)) (G : List Int) : Prop where
 len : vs.length = fs.length
 nd : vs.Nodup
 zero : vs[0]? = some 0
 form : ∀ (i : Nat) (f : List Wt), fs[i]? = some f → ∃ z, vs[i]? = some z ∧ TMs vs f (naf z) ∧ ∀ t ∈ f, t.2 < i
 sub : ∀ z ∈ vs, z ∈ G
def gMax : Nat := 1000000000000
structure GOK (G : List Int) : Prop where
 len : G.length ≤ gMax
 wts : ∀ g ∈ G, wt g ≤ 30000
 low : ∀ i : Nat, i ≤ 60010 → (i : Int) ∈ G
 big : (2 : Int) ^ 63 ∈ G ∧ -(2 : Int) ^ 63 ∈ G
def WM (W : World) (p : Nat) (fv : Value) (vs G : List Int) : Prop := ∃ rows fs, WS W p fv rows fs ∧ WG vs fs G ∧ GOK G
theorem WM.nd {W : World} {p : Nat} {fv : Value} {vs G : List Int} (h : WM W p fv vs G) : vs.Nodup := by
 obtain ⟨_, _, _, h, _⟩ := h; exact h.nd
theorem WM.ok {W : World} {p : Nat} {fv : Value} {vs G : List Int} (h : WM W p fv vs G) : GOK G := by
 obtain ⟨_, _, _, _, h⟩ := h; exact h
theorem WM.count {W : World} {p : Nat} {fv : Value} {vs G : List Int} (h : WM W p fv vs G) : vs.length ≤ gMax := by
 obtain ⟨_, _, _, h, k⟩ := h
 exact Nat.le_trans (Zdg vs G h.nd h.sub) k.len
theorem WM.at {W : World} {p : Nat} {fv : Value} {vs G : List Int} (h : WM W p fv vs G) : ∃ a c, fv = .slice a vs.length c := by
 obtain ⟨rows, fs, hs, hg, _⟩ := h
 obtain ⟨a, c, e⟩ := (RowV.of_own hs.forms).shape
 exact ⟨a, c, by rw [e, hg.len]⟩
theorem Zau {w : World} {base n size : Nat} {e : TypeId} {v : Value} {xs : List Value} (h : w.ownsRow base e size v n xs) : ∀ k, v.ownBlock = some k → ∃ c, w.heap[k]? = some (.cells c e (0, 0)) := by
 intro k hk
 obtain ⟨_, h2⟩ := h
 rcases h2 with ⟨rfl, _⟩ | ⟨g, cap, cur, rfl, _, hh, _⟩
 · simp [Value.ownBlock] at hk
 · simp only [Value.ownBlock, Option.some.injEq] at hk
   subst hk; exact ⟨cur, hh⟩
theorem Zdv {w w' : World} {F : Nat → Prop} {base n size : Nat} {e : TypeId} {v : Value} {xs : List Value} (h : w.ownsRow base e size v n xs) (k : Keeps F w w') (hF : ∀ b, v.ownBlock = some b → ¬ F b) : w'.ownsRow base e size v n xs := by
 obtain ⟨h1, h2⟩ := h
 refine ⟨h1, ?_⟩
 rcases h2 with hn | ⟨g, cap, cur, rfl, hb, hgg, rest⟩
 · exact .inl hn
 · exact .inr ⟨g, cap, cur, rfl, hb, (k.block g (Array.getElem?_eq_some_iff.1 hgg).1 (hF g rfl)).trans hgg, rest⟩
variable {W W' W1 W2 : World} {p : Nat} {fv fv' fv1 : Value} {vs vs' vs1 G : List Int}
theorem WM.not {e : TypeId} {c : Array Value} {b : Nat} (h : WM W p fv vs G) (hb : W.heap[b]? = some (.cells c e (0, 0))) (h1 : e ≠ 44) (h2 : e ≠ 41) : ¬ wB p fv b := by
 obtain ⟨rows, fs, hs, _, _⟩ := h
 rintro (rfl | hk)
 · rw [hs.box] at hb; cases hb; exact h1 rfl
 · obtain ⟨c', h'⟩ := Zau hs.forms b hk
   rw [h'] at hb; cases hb; exact h2 rfl
theorem WM.own {base n size : Nat} {e : TypeId} {v : Value} {xs : List Value} (h : WM W p fv vs G) (ho : W.ownsRow base e size v n xs) (h1 : e ≠ 44) (h2 : e ≠ 41) (k : Keeps (wB p fv) W W') : W'.ownsRow base e size v n xs :=
 Zdv ho k (fun b hb => by
   obtain ⟨c, hc⟩ := Zau ho b hb
   exact h.not hc h1 h2)
theorem WM.row {v : Value} {f : List Wt} (h : WM W p fv vs G) (ho : RowW W v f) (k : Keeps (wB p fv) W W') : RowW W' v f := h.own ho (by decide) (by decide) k
theorem RowW.below {v : Value} {f : List Wt} (ho : RowW W v f) (hb : Below W.heap.size W W') : RowW W' v f := Zac ho hb
theorem WM.below (h : WM W p fv vs G) (hb : Below W.heap.size W W') : WM W' p fv vs G := by
 obtain ⟨rows, fs, hs, hg, hk⟩ := h
 refine ⟨rows, fs, ⟨(hb.block _ (Array.getElem?_eq_some_iff.1 hs.box).1).trans hs.box, Zac hs.forms hb, hs.len, fun i f hf => ?_⟩, hg, hk⟩
 obtain ⟨v, h1, h2⟩ := hs.row i f hf
 exact ⟨v, h1, h2.below hb⟩
theorem WM.plt (h : WM W p fv vs G) : p < W.heap.size := by
 obtain ⟨_, _, hs, _⟩ := h
 exact (Array.getElem?_eq_some_iff.1 hs.box).1
theorem WM.cell (h : WM W p fv vs G) : W.cell? ⟨p, 0, none⟩ = some fv ∧ W.frozen? ⟨p, 0, none⟩ = false := by
 obtain ⟨_, _, hs, _⟩ := h
 constructor <;> simp [World.cell?, World.frozen?, hs.box]
theorem WM.more {G' : List Int} (h : WM W p fv vs G) (hs : ∀ z ∈ G, z ∈ G') (hk : GOK G') : WM W p fv vs G' := by
 obtain ⟨rows, fs, h1, h2, _⟩ := h
 exact ⟨rows, fs, h1, ⟨h2.len, h2.nd, h2.zero, h2.form, fun z hz => hs z (h2.sub z hz)⟩, hk⟩
theorem WM.form {i : Nat} {z : Int} (h : WM W p fv vs G) (hi : vs[i]? = some z) : ∃ (b : Nat) (c : Nat) (v : Value) (f : List Wt), fv = .slice (some ⟨b, 0, none⟩) vs.length c ∧ W.cell? ⟨b, i, none⟩ = some v ∧ RowW W v f ∧ TMs vs f (naf z) ∧ (∀ t ∈ f, t.2 < i) ∧ z ∈ G := by
 obtain ⟨rows, fs, hs, hg, _⟩ := h
 have hlt := (List.getElem?_eq_some_iff.1 hi).1
 have hlt2 : i < fs.length := by rw [← hg.len]; exact hlt
 have hf := List.getElem?_eq_getElem hlt2
 obtain ⟨z', k1, k2, k3⟩ := hg.form i _ hf
 rw [hi] at k1
 cases k1
 obtain ⟨v, h1, h2⟩ := hs.row i _ hf
 have ho := hs.forms
 obtain ⟨b, cap, e⟩ := Go.Joins.ownsRow_form ho (by omega)
 subst e
 have hc := (ho.cellAt i (by omega)).trans h1
 exact ⟨b, cap, v, _, by rw [hg.len], hc, h2, k2, k3, hg.sub z (List.mem_of_getElem? hi)⟩
theorem Zbq {w0 w w' : World} {b n c : Nat} (h : Below w0.heap.size w0 w) (hg : w.grownBy w' (Value.slice (some ⟨b, 0, none⟩) n c).ownBlock) (hb : w0.heap.size ≤ b) : Below w0.heap.size w0 w' :=
 h.grown hg h.size (fun j hj => by simp only [Value.ownBlock, Option.some.injEq] at hj; omega)
def Off (W : World) (fv : Value) (N b : Nat) : Prop := ∀ (g i c : Nat) (v : Value), fv = .slice (some ⟨g, 0, none⟩) N c → i < N → W.cell? ⟨g, i, none⟩ = some v → v.ownBlock ≠ some b
theorem WM.cellrow {g i c : Nat} {v : Value} (h : WM W p fv vs G) (e : fv = .slice (some ⟨g, 0, none⟩) vs.length c) (hi : i < vs.length) (hc : W.cell? ⟨g, i, none⟩ = some v) : g < W.heap.size ∧ ∀ k, v.ownBlock = some k → k < W.heap.size := by
 obtain ⟨rows, fs, hs, hg, _⟩ := h
 have ho := hs.forms
 rw [e, hg.len] at ho
 have hgl := (ho.lt g rfl).2
 refine ⟨hgl, fun k hk => ?_⟩
 have hl2 : i < fs.length := by rw [← hg.len]; exact hi
 obtain ⟨v', h1, h2⟩ := hs.row i _ (List.getElem?_eq_getElem hl2)
 have := (ho.cellAt i (by omega)).trans h1
 rw [hc] at this
 cases this
 exact (h2.lt k hk).2
theorem WM.off {b : Nat} (h : WM W p fv vs G) (hb : W.heap.size ≤ b) : Off W fv vs.length b := fun g i c v e hi hc hk => by
 have := (h.cellrow e hi hc).2 b hk
 omega
theorem WM.off_below {b : Nat} (h : WM W p fv vs G) (hb : Below W.heap.size W W') (ho : Off W fv vs.length b) : Off W' fv vs.length b := fun g i c v e hi hc => by
 have hlt : g < W.heap.size := by
   obtain ⟨rows, fs, hs, hg, _⟩ := h
   have ho := hs.forms
   rw [e] at ho
   exact (ho.lt g rfl).2
 rw [hb.cell (p := ⟨g, i, none⟩) hlt] at hc
 exact ho g i c v e hi hc
def Grow (W : World) (p : Nat) (fv : Value) (vs G : List Int) (fv' : Value) (vs' : List Int) (W' : World) : Prop :=
 WM W' p fv' vs' G ∧ vs <+: vs' ∧ Keeps (wB p fv) W W' ∧ (∀ k, fv'.ownBlock = some k → fv.ownBlock = some k ∨ W.heap.size ≤ k) ∧ ∀ b, b < W.heap.size → Off W fv vs.length b → Off W' fv' vs'.length b
theorem Grow.refl (h : WM W p fv vs G) : Grow W p fv vs G fv vs W := ⟨h, List.prefix_refl _, Keeps.refl _ _, fun k hk => .inl hk, fun b _ h => h⟩
theorem Grow.trans (h : Grow W p fv vs G fv1 vs1 W1) (k : Grow W1 p fv1 vs1 G fv' vs' W') : Grow W p fv vs G fv' vs' W' := by
 obtain ⟨a1, a2, a3, a4, a5⟩ := h
 obtain ⟨b1, b2, b3, b4, b5⟩ := k
 refine ⟨b1, a2.trans b2, a3.trans b3 (fun i hi => ?_), fun i hi => ?_, fun b hb ho => b5 b (Nat.lt_of_lt_of_le hb a3.size) (a5 b hb ho)⟩
 · rcases hi with rfl | hi
   · exact .inl (.inl rfl)
   · rcases a4 i hi with c | c
     · exact .inl (.inr c)
     · exact .inr c
 · rcases b4 i hi with c | c
   · exact a4 i c
   · exact .inr (Nat.le_trans a3.size c)
theorem Zbe {F : Nat → Prop} (h : Below W.heap.size W W') : Keeps F W W' := Keeps.of_below h (zl)
theorem Grow.below (h : Grow W p fv vs G fv' vs' W1) (hb : Below W1.heap.size W1 W') : Grow W p fv vs G fv' vs' W' :=
 h.trans ⟨h.1.below hb, List.prefix_refl _, Zbe hb, fun k hk => .inl hk, fun b _ ho => h.1.off_below hb ho⟩
theorem Grow.row {v : Value} {f : List Wt} (h : WM W p fv vs G) (k : Grow W p fv vs G fv' vs' W') (ho : RowW W v f) : RowW W' v f := h.row ho k.2.2.1
theorem Zmx {z : Int} (h : vs.Nodup) (hz : z ∉ vs) : (vs ++ [z]).Nodup := by
 refine List.nodup_append.2 ⟨h, by simp, fun a ha b hb => ?_⟩
 rw [List.mem_singleton.1 hb]
 rintro rfl
 exact hz ha
theorem WM.push {rows : List Value} {fs : List (List Wt)} {v : Value} {l : List Wt} {z : Int} {g c n : Nat} (hn : n = fs.length) (hs : WS W p fv rows fs) (hg : WG vs fs G) (hk : GOK G) (hb : Below W.heap.size W W1) (hl : RowW W1 v l)
   (ho : W2.ownsRow 0 41 1 (.slice (some ⟨g, 0, none⟩) (n + 1) c) (n + 1) (rows ++ [v])) (hgr : W1.grownBy W2 fv.ownBlock) (hat : fv.ownBlock = some g ∨ W.heap.size ≤ g) (ht : TMs vs l (naf z)) (hz : z ∉ vs) (hzG : z ∈ G) (hvb : ∀ k, v.ownBlock = some k → W.heap.size ≤ k) :
   Grow W p fv vs G (.slice (some ⟨g, 0, none⟩) (n + 1) c) (vs ++ [z]) (W2.setCell ⟨p, 0, none⟩ (.slice (some ⟨g, 0, none⟩) (n + 1) c)) := by
 subst hn
 have hpl := (Array.getElem?_eq_some_iff.1 hs.box).1
 have hne : fv.ownBlock ≠ some p := fun e => by
   obtain ⟨c', h'⟩ := Zau hs.forms p e
   rw [hs.box] at h'; cases h'
 have hne2 : (Value.slice (some ⟨g, 0, none⟩) (fs.length + 1) c).ownBlock ≠ some p := fun e => by
   simp only [Value.ownBlock, Option.some.injEq] at e
   rcases hat with h | h
   · rw [e] at h; exact hne h
   · omega
 have hbox1 : W1.heap[p]? = some (.cells #[fv] 44 (0, 0)) := (hb.block p hpl).trans hs.box
 have hbox2 : W2.heap[p]? = some (.cells #[fv] 44 (0, 0)) := (hgr.block p (Nat.lt_of_lt_of_le hpl hb.size) (fun e => hne e.symm)).trans hbox1
 have hrow : ∀ (u : Value) (f : List Wt), RowW W1 u f → RowW (W2.setCell ⟨p, 0, none⟩ (.slice (some ⟨g, 0, none⟩) (fs.length + 1) c)) u f := fun u f hu => by
   have h2 : RowW W2 u f := by
     refine World.ownsRow.kept hu hgr ?_
     rcases hv : u.ownBlock with _ | k
     · exact .inl rfl
     · refine .inr fun hk2 => ?_
       obtain ⟨c1, e1⟩ := Zau hu k hv
       obtain ⟨c2, e2⟩ := Zau (Zac hs.forms hb) k hk2.symm
       rw [e1] at e2; cases e2
   refine ownsRow_setCell_other h2 (fun e => ?_) _
   obtain ⟨c1, e1⟩ := Zau h2 p e
   rw [hbox2] at e1; cases e1
 refine ⟨⟨rows ++ [v], fs ++ [l], ⟨one_setCell hbox2, ?_, by simp [hs.len], fun i f hf => ?_⟩, ⟨by simp [hg.len], Zmx hg.nd hz, ?_, fun i f hf => ?_, fun y hy => ?_⟩, hk⟩, List.prefix_append _ _, ?_, fun k hk' => ?_, fun b hb' hoff g' i c' u he hi hc => ?_⟩
 · rw [List.length_append]
   exact ownsRow_setCell_other ho hne2 _
 · by_cases hi : i < fs.length
   · rw [List.getElem?_append_left hi] at hf
     obtain ⟨u, h1, h2⟩ := hs.row i f hf
     exact ⟨u, by rw [List.getElem?_append_left (by rw [hs.len]; exact hi)]; exact h1, hrow u f (h2.below hb)⟩
   · have hi2 : i = fs.length := by
       have := (List.getElem?_eq_some_iff.1 hf).1
       simp at this; omega
     subst hi2
     simp at hf
     subst hf
     exact ⟨v, by rw [← hs.len]; simp, hrow v l hl⟩
 · exact Zci (List.prefix_append _ _) hg.zero
 · by_cases hi : i < fs.length
   · rw [List.getElem?_append_left hi] at hf
     obtain ⟨y, h1, h2, h3⟩ := hg.form i f hf
     exact ⟨y, Zci (List.prefix_append _ _) h1, h2.mono (List.prefix_append _ _), h3⟩
   · have hi2 : i = fs.length := by
       have := (List.getElem?_eq_some_iff.1 hf).1
       simp at this; omega
     subst hi2
     simp at hf
     subst hf
     exact ⟨z, by rw [← hg.len]; simp, ht.mono (List.prefix_append _ _), fun t h => by rw [← hg.len]; exact ht.lt t h⟩
 · rcases List.mem_append.1 hy with a | a
   · exact hg.sub y a
   · rw [List.mem_singleton.1 a]; exact hzG
 · have k1 : Keeps (wB p fv) W W1 := Zbe hb
   have k2 : Keeps (wB p fv) W1 W2 := ⟨hgr.os, hgr.tape, hgr.output, hgr.size, fun k hk' hf => hgr.block k hk' (fun e => hf (.inr e.symm))⟩
   have k3 : Keeps (wB p fv) W2 (W2.setCell ⟨p, 0, none⟩ (.slice (some ⟨g, 0, none⟩) (fs.length + 1) c)) :=
     ⟨rfl, rfl, rfl, by simp [World.setCell], fun k hk' hf => Below.heap_setCell _ _ _ _ (fun e => hf (.inl e))⟩
   exact (k1.trans k2 (fun i hi => .inl hi)).trans k3 (fun i hi => .inl hi)
 · simp only [Value.ownBlock, Option.some.injEq] at hk'
   subst hk'
   exact hat
 · simp only [Value.slice.injEq, Option.some.injEq, Addr.mk.injEq, and_true] at he
   obtain ⟨rfl, _, rfl⟩ := he
   have ho3 := ownsRow_setCell_other ho (a := ⟨p, 0, none⟩) hne2 (.slice (some ⟨g, 0, none⟩) (fs.length + 1) c)
   have hvl := hg.len
   simp only [List.length_append, List.length_singleton] at hi
   by_cases hi2 : i < fs.length
   · obtain ⟨w', h1, h2⟩ := hs.row i _ (List.getElem?_eq_getElem hi2)
     have h3 := ho3.cellAt i (by omega)
     rw [List.getElem?_append_left (by rw [hs.len]; exact hi2), h1] at h3
     have h4 := h3.symm.trans hc
     cases h4
     obtain ⟨b0, cap, e0⟩ := Go.Joins.ownsRow_form hs.forms (by omega)
     have hfo := hs.forms
     rw [e0] at hfo
     exact hoff b0 i cap u (by rw [e0, hvl]) (by omega) ((hfo.cellAt i (by omega)).trans h1)
   · have hi3 : i = fs.length := by omega
     subst hi3
     have h3 := ho3.cellAt fs.length (by omega)
     rw [List.getElem?_append_right (by rw [hs.len]; exact zl), hs.len, Nat.sub_self] at h3
     have h4 := h3.symm.trans hc
     simp at h4
     subst h4
     intro hk
     have := hvb b hk
     omega
theorem WM.set {g j : Nat} (u : Value) (h : WM W p fv vs G) (hg : ¬ wB p fv g) (ho : Off W fv vs.length g) : WM (W.setCell ⟨g, j, none⟩ u) p fv vs G := by
 obtain ⟨rows, fs, hs, hgg, hk⟩ := h
 have hgp : p ≠ g := fun e => hg (.inl e.symm)
 have hgf : fv.ownBlock ≠ some g := fun e => hg (.inr e)
 refine ⟨rows, fs, ⟨(Below.heap_setCell _ _ _ _ hgp).trans hs.box, ownsRow_setCell_other hs.forms hgf u, hs.len, fun i f hf => ?_⟩, hgg, hk⟩
 obtain ⟨v, h1, h2⟩ := hs.row i f hf
 have hil := (List.getElem?_eq_some_iff.1 hf).1
 obtain ⟨b0, cap, e0⟩ := Go.Joins.ownsRow_form hs.forms (by omega)
 have hfo := hs.forms
 rw [e0] at hfo
 exact ⟨v, h1, ownsRow_setCell_other h2 (ho b0 i cap v (by rw [e0, hgg.len]) (by rw [hgg.len]; exact hil) ((hfo.cellAt i (by omega)).trans h1)) u⟩
theorem Grow.set {g j : Nat} (u : Value) (h : Grow W p fv vs G fv' vs' W1) (hg : ¬ wB p fv' g) (ho : Off W1 fv' vs'.length g) (hn : W.heap.size ≤ g) : Grow W p fv vs G fv' vs' (W1.setCell ⟨g, j, none⟩ u) := by
 obtain ⟨h1, h2, h3, h4, h5⟩ := h
 refine ⟨h1.set u hg ho, h2, ⟨h3.os, h3.tape, h3.output, by simpa [World.setCell] using h3.size, fun k hk hf => (Below.heap_setCell _ _ _ _ (by show k ≠ g; omega)).trans (h3.block k hk hf)⟩, h4, fun b hb hoff g' i c v e hi hc => ?_⟩
 refine h5 b hb hoff g' i c v e hi ?_
 have hne : g' ≠ g := fun e2 => hg (.inr (by rw [e, e2]; rfl))
 have : (W1.setCell ⟨g, j, none⟩ u).heap[g']? = W1.heap[g']? := Below.heap_setCell _ _ _ _ hne
 unfold World.cell? at hc ⊢
 rw [this] at hc
 exact hc
end
section
open Go.RowKit
variable {W W' W1 W2 : World} {p : Nat} {fv fv' fv1 : Value} {vs vs' vs1 G : List Int}
theorem Zao {v : Value} {f : List Wt} {n : Nat} (h : RowW W v f) (hn : n < f.length) : ∃ b c, v = .slice (some ⟨b, 0, none⟩) f.length c ∧ W.cell? ⟨b, n * 2, none⟩ = some (.bool f[n].1) ∧ W.cell? ⟨b, n * 2 + 1, none⟩ = some (.int .i64 (f[n].2 : Int)) := by
 obtain ⟨b, cap, e⟩ := Go.Joins.ownsRow_form h (by omega)
 subst e
 obtain ⟨q0, q1⟩ := Ze1 f n hn
 exact ⟨b, cap, rfl, (h.cellAt (n * 2) (by omega)).trans q0, (h.cellAt (n * 2 + 1) (by omega)).trans q1⟩
theorem Zh6 {f l : List Wt} {y z : Int} (hn : vs.Nodup) (h1 : TMs vs f (naf y)) (h2 : TMs vs l (naf z)) (hne : f ≠ l) : y ≠ z := fun e => by
 subst e
 exact hne (TMs.same hn h1 h2)
theorem Zn5 {f : List Wt} {y z : Int} (h1 : TMs vs f (naf y)) (h2 : TMs vs f (naf z)) : y = z := by
 have := TMs.inj h1 h2
 rw [← Zam y, ← Zam z, this]
theorem Zl4 {k : Nat} {y z : Int} (h : ∀ j, j < k → vs[j]? ≠ some z) (hk : vs[k]? = some y) (hne : y ≠ z) : ∀ j, j < k + 1 → vs[j]? ≠ some z := fun j hj => by
 by_cases e : j = k
 · rw [e, hk]; exact fun h => hne (Option.some.inj h)
 · exact h j (by omega)
theorem Ze2 (hM : WM W p fv vs G) {v : Value} {l : List Wt} {z : Int} (hl : RowW W v l) (ht : TMs vs l (naf z)) (hz : z ∈ G) :
   Calls Tryz.prog 37 #[.pointer (some ⟨p, 0, none⟩), v] W fun e w' => ∃ (fv' : Value) (vs' : List Int) (i : Nat), e = .returned (.int .i64 (i : Int)) ∧ Grow W p fv vs G fv' vs' w' ∧ vs'[i]? = some z := by
 obtain ⟨a1, c1, rfl⟩ := (RowV.of_own hl).shape
 obtain ⟨af, cf, rfl⟩ := hM.at
 obtain ⟨x0, x1⟩ := hM.cell
 have hc := hM.count
 unfold gMax at hc
 have hlM : l.length ≤ 30000 := by rw [ht.len]; exact hM.ok.wts z hz
 obtain ⟨N, hN⟩ : ∃ N, N = vs.length := ⟨_, rfl⟩
 obtain ⟨M, hMl⟩ : ∃ M, M = l.length := ⟨_, rfl⟩
 have HX := zh (zi hM (zi hl (zi ht (zi hz (zi hN hMl)))))
 rw [← hN] at x0 hc ⊢
 rw [← hMl] at hlM ⊢
 have hc2 : (N : Int) ≤ 1000000000000 := by omega
 have hM2 : (M : Int) ≤ 30000 := by omega
 clear hM hl ht hz hN hMl hc hlM
 go_enter Tryz.func37, Tryz.ntmps37
 go_upto_region 2 with fail
 go_loopw [5] (fun i wl => ∃ k : Nat, k ≤ N ∧ i = .int .i64 k ∧ (∀ j, j < k → vs[j]? ≠ some z) ∧ Below W.heap.size W wl) (fun i _ => N - (intOf i).toNat)
 case atStart => exact ⟨0, by omega, by simp, fun j h => by omega, zb⟩
 case round =>
   obtain ⟨k, hkl, rfl, hall, hB⟩ := hrel
   obtain ⟨hM, hl, ht, hz, hN, hMl⟩ := HX.out
   replace hM := hM.below hB
   replace hl := hl.below hB
   clear x0 x1
   obtain ⟨x0, x1⟩ := hM.cell
   rw [← hN] at x0
   by_cases hlt : k < N
   · have hlt' : (k : Int) < (N : Int) := by omega
     obtain ⟨y, hkv⟩ : ∃ y, vs[k]? = some y := ⟨_, List.getElem?_eq_getElem (by omega)⟩
     obtain ⟨b, c, vf, f, efv, hcb, hrf, htf, hpl, hzG⟩ := hM.form hkv
     cases efv
     obtain ⟨aF, cF, rfl⟩ := (RowV.of_own hrf).shape
     have hF3 : f.length ≤ 30000 := by rw [htf.len]; exact hM.ok.wts _ hzG
     obtain ⟨F, hF⟩ : ∃ F, F = f.length := ⟨_, rfl⟩
     have HF := zh (zi hall (zi hkv (zi hrf (zi htf (zi hF (zi hB (zi hM hl)))))))
     rw [← hF] at hcb hF3
     have hF2 : (F : Int) ≤ 30000 := by omega
     clear hM hl ht hz hN hMl hall hkv hrf htf hF hpl hzG hF3 hkl hB
     obtain ⟨wa, hwa⟩ : ∃ wa, wa = wr := ⟨_, rfl⟩
     subst hwa
     go_upto_region 6 with fail
     go_loopw [7] (fun i wl => ∃ n : Nat, n ≤ M ∧ i = .int .i64 n ∧ (F = M → f.take n = l.take n) ∧ (F ≠ M → n = 0) ∧ Below wa.heap.size wa wl) (fun i _ => M - (intOf i).toNat)
     case atStart => exact ⟨0, by omega, rfl, fun _ => by simp, fun _ => rfl, zb⟩
     case round =>
       obtain ⟨n, hnM, rfl, heq, hne, hB2⟩ := hrel
       by_cases hFM : F = M
       · subst hFM
         have hFi : ((F : Int) == (F : Int)) = true := by simp
         by_cases hnl : n < F
         · have hnl' : (n : Int) < (F : Int) := by omega
           obtain ⟨_, _, ht, hz, hN, hMl⟩ := HX.out
           obtain ⟨hall, hkv, hrf, htf, hF, hB, hM, hl⟩ := HF.out
           replace hrf := hrf.below hB2
           replace hl := hl.below hB2
           obtain ⟨b1, q1, e1, y0, y1⟩ := Zao (n := n) hrf (by omega)
           obtain ⟨b2, q2, e2, z0, z1⟩ := Zao (n := n) hl (by omega)
           rw [← hF] at e1
           rw [← hMl] at e2
           cases e1
           cases e2
           obtain ⟨m1, g1, h1⟩ : ∃ m g, f[n]? = some (m, g) := ⟨_, _, List.getElem?_eq_getElem (by omega)⟩
           obtain ⟨m2, g2, h2⟩ : ∃ m g, l[n]? = some (m, g) := ⟨_, _, List.getElem?_eq_getElem (by omega)⟩
           rw [(List.getElem?_eq_some_iff.1 h1).2] at y0 y1
           rw [(List.getElem?_eq_some_iff.1 h2).2] at z0 z1
           by_cases hmm : m1 = m2 ∧ g1 = g2
           · obtain ⟨rfl, rfl⟩ := hmm
             have HR := zh (zi (heq rfl) (zi h1 (zi h2 hB2)))
             clear hM hl ht hz hN hMl hall hkv hrf htf hF h1 h2 heq hne hnM hB hB2
             go_upto_region 6 with fail
             go_quiet (fail)
             go_wp2
             refine ⟨⟨n + 1, by omega, by go_num, fun _ => ?_, fun h => absurd rfl h, Zaa HR.out.2.2.2 _⟩, by simp [intOf]; omega⟩
             rw [List.take_add_one, List.take_add_one, HR.out.1, HR.out.2.1, HR.out.2.2.1]
           · have hyz : y ≠ z := Zh6 hM.nd htf ht (fun e => by
               rw [e, h2] at h1
               cases h1
               exact hmm ⟨rfl, rfl⟩)
             have hnF2 : ((n : Int) == (F : Int)) = false := by rw [beq_eq_false_iff_ne]; omega
             have HR := zh (zi hyz (zi (Zl4 hall hkv hyz) (hB.trans (hB2.mono hB.size))))
             by_cases hm1 : m1 = m2
             · have hgg : ((g1 : Int) == (g2 : Int)) = false := by
                 rw [beq_eq_false_iff_ne]
                 exact fun h => hmm ⟨hm1, by omega⟩
               subst hm1
               clear hM hl ht hz hN hMl hall hkv hrf htf hF h1 h2 heq hne hnM hB hB2 hmm hyz
               go_upto_region 6 with fail
               go_quiet (fail)
               go_wp2
               exact ⟨⟨k + 1, by omega, by go_num, HR.out.2.1, Zaa HR.out.2.2 _⟩, by simp [intOf]; omega⟩
             · have hmb : (m1 == m2) = false := by rw [beq_eq_false_iff_ne]; exact hm1
               clear hM hl ht hz hN hMl hall hkv hrf htf hF h1 h2 heq hne hnM hB hB2 hmm hyz
               go_upto_region 6 with fail
               go_quiet (fail)
               go_wp2
               exact ⟨⟨k + 1, by omega, by go_num, HR.out.2.1, Zaa HR.out.2.2 _⟩, by simp [intOf]; omega⟩
         · have hnF : n = F := by omega
           subst hnF
           have hnl' : ¬ (n : Int) < (n : Int) := by omega
           obtain ⟨_, _, ht, hz, hN, hMl⟩ := HX.out
           obtain ⟨hall, hkv, hrf, htf, hF, hB, hM, hl⟩ := HF.out
           replace hrf := hrf.below hB2
           replace hl := hl.below hB2
           have hfl : f = l := by
             have h := heq rfl
             rw [List.take_of_length_le (by omega), List.take_of_length_le (by omega)] at h
             exact h
           subst hfl
           have hyz := Zn5 htf ht
           subst hyz
           have hG := (Grow.refl (HX.out.1)).below (hB.trans (hB2.mono hB.size))
           rw [← hN] at hG
           have HR := zh (zi hG hkv)
           clear hG
           clear hM hl ht hz hN hMl hall hkv hrf htf hF heq hne hnM hB hB2 hnl
           go_upto_region 6 with fail
           go_quiet (fail)
           go_wp2
           refine bodyPost_ret (v := .int .i64 (k : Int)) (by simp [results, Tryz.results37, go_sem, *]) rfl ⟨_, _, k, rfl, HR.out.1.below (Zaa (zb) _), HR.out.2⟩
       · obtain rfl := hne hFM
         have hFi : ((F : Int) == (M : Int)) = false := by rw [beq_eq_false_iff_ne]; omega
         obtain ⟨_, _, ht, hz, hN, hMl⟩ := HX.out
         obtain ⟨hall, hkv, hrf, htf, hF, hB, hM, hl⟩ := HF.out
         have hyz : y ≠ z := Zh6 hM.nd htf ht (fun e => by rw [e] at hF; omega)
         have HR := zh (zi hyz (zi (Zl4 hall hkv hyz) (hB.trans (hB2.mono hB.size))))
         clear hM hl ht hz hN hMl hall hkv hrf htf hF heq hne hnM hB hB2 hFM hyz
         go_upto_region 6 with fail
         go_quiet (fail)
         go_wp2
         exact ⟨⟨k + 1, by omega, by go_num, HR.out.2.1, Zaa HR.out.2.2 _⟩, by simp [intOf]; omega⟩
   · have hkn : k = N := by omega
     subst hkn
     have hlt' : ¬ (k : Int) < (k : Int) := by omega
     have hzv : z ∉ vs := fun hm => by
       obtain ⟨j, hj⟩ := List.mem_iff_getElem?.1 hm
       have := (List.getElem?_eq_some_iff.1 hj).1
       exact hall j (by omega) hj
     obtain ⟨rows, fs, hs, hg, hk⟩ := hM
     have hNf : k = fs.length := by rw [hN, hg.len]
     have hl0 : 0 < M := by
       rcases Nat.eq_zero_or_pos M with h0 | h0
       · exfalso
         have : (naf z).length = 0 := by rw [← ht.len, ← hMl]; exact h0
         have := Zfp (List.length_eq_zero_iff.1 this)
         subst this
         exact hzv (List.mem_of_getElem? hg.zero)
       · exact h0
     obtain ⟨bl, rfl⟩ : ∃ bl, a1 = some ⟨bl, 0, none⟩ := by
       obtain ⟨g', cap, e⟩ := Go.Joins.ownsRow_form hl (by omega)
       cases e; exact ⟨g', rfl⟩
     obtain ⟨i0, hi0, hy0, hy1, hy2⟩ := info_parts infoeW
     obtain ⟨j0, hj0, hw0, hw1, hw2⟩ := info_parts infoeWW
     have hnew : ∀ W', Below wr.heap.size wr W' → ∀ j u, (flatW l)[j]? = some u → W'.cell? ((⟨bl, 0, none⟩ : Addr).add j) = some u := fun W' hW j u hj => by
       have hl2 := hl.below hW
       exact World.ownsRow.cells hl2 rfl j u hj
     have hA : ∀ o, Below wr.heap.size wr (wr.alloc o) := fun o => (zb).alloc (zl) o
     have hpl := (Array.getElem?_eq_some_iff.1 hs.box).1
     have xa : (wr.alloc (.cells #[] 64)).cell? ⟨p, 0, none⟩ = some (.slice af k cf) := ((hA _).cell (p := ⟨p, 0, none⟩) hpl).trans x0
     have hown0 : (wr.alloc (.cells #[] 64)).ownsRow wr.heap.size 64 2 (.slice (some ⟨wr.heap.size, 0, none⟩) 0 0) 0 [] := World.ownsRow_lit wr #[] 0 (zl) (by decide) rfl
     have HH := zh (zi hi0 (zi hy0 (zi hy1 (zi hy2 (zi hj0 (zi hw0 (zi hw1 hw2)))))))
     have hln : (flatW l).length = M * 2 := by rw [Zgv, ← hMl]
     have HNW := zh (zi hnew (zi hown0 hln))
     have hfo := hs.forms
     rw [← hNf, ← hN] at hfo
     have hs' := hs
     rw [← hN] at hs'
     have HS := zh (zi hs' (zi hg (zi hk (zi hzv (zi hNf (zi hpl (zi hl hfo)))))))
     have HB := zh hB
     clear hs hs' hg hk hzv hNf hnew hA hown0 hi0 hy0 hy1 hy2 hj0 hw0 hw1 hw2 hl ht hz hMl hall hkl hlt hB hln hN hfo
     go_upto_region 10 with fail
     go_cut [] from 60 to 71 (fun wx => ∃ g8 c8, Grow wr p (.slice af k cf) vs G (.slice (some ⟨g8, 0, none⟩) (k + 1) c8) (vs ++ [z]) wx)
     case first =>
       first
         | go_region_law
           (first
           | (refine step_append_lies _ (by rfl) _ _ _ (by rfl) wr.heap.size 64 i0 zW 2 16 Tryz.underlying41 HH.out.1 HH.out.2.1 HH.out.2.2.1 HH.out.2.2.2.1 (by rfl) (by decide) _ 0 [] (by rfl) (by exact HNW.out.2.1) ⟨bl, 0, none⟩ M c1 (flatW l) (by rfl) HNW.out.2.2 (HNW.out.1 _ (by repeat (first | exact zb | refine Below.drew ?_ | refine Below.alloc ?_ (by simp) _))) (Zba l) hl0 (by unfold maxLen; omega) (by omega) (by first | exact zl | exact Nat.le_succ _ | (simp; done) | (simp; omega)) _ rfl ?_; intro g7 k7 w7 hown7 hg7 hat7 hlt7
              have hb7 : Below wr.heap.size wr w7 := Zbq (by repeat (first | exact zb | refine Below.drew ?_ | refine Below.alloc ?_ (by simp) _)) hg7 (zl)
              have hr7 : RowW w7 (.slice (some ⟨g7, 0, none⟩) M k7) l := by
                have h := hown7
                rw [Nat.zero_add, List.nil_append] at h
                unfold RowW
                rw [← HX.out.2.2.2.2.2]
                exact Zah h (Nat.zero_le _)
              have x7 := (hb7.cell (p := ⟨p, 0, none⟩) hpl).trans x0
              have x7a := ((hb7.alloc hb7.size (.cells #[.slice (some ⟨g7, 0, none⟩) M k7] 41)).cell (p := ⟨p, 0, none⟩) hpl).trans x0
              have H7 := zh (zi hb7 (zi hr7 (fun k (hk : (Value.slice (some ⟨g7, 0, none⟩) M k7).ownBlock = some k) => (hown7.lt k hk).1)))
              clear hown7 hg7 hat7 hb7 hr7)
           | (refine step_append_lies _ (by rfl) _ _ _ (by rfl) 0 41 j0 (.slice none 0 0) 1 24 Tryz.underlying42 HH.out.2.2.2.2.1 HH.out.2.2.2.2.2.1 HH.out.2.2.2.2.2.2.1 HH.out.2.2.2.2.2.2.2 (by rfl) (by decide) _ k _ (by rfl) ((Zac HS.out.2.2.2.2.2.2.2 H7.out.1).alloc _) ⟨w7.heap.size, 0, none⟩ 1 1 [_] (by rfl) (by rfl) (Zaj w7 _ _ _) (by simp [Value.oneCell']) (by decide) (by unfold maxLen; omega) (by omega) (by simp) _ rfl ?_; intro g8 k8 w8 hown8 hg8 hat8 hlt8
              have hb8 := H7.out.1.alloc H7.out.1.size (.cells #[.slice (some ⟨g7, 0, none⟩) M k7] 41)
              have hgw := WM.push HS.out.2.2.2.2.1 HS.out.1 HS.out.2.1 HS.out.2.2.1 hb8 (H7.out.2.1.below ((zb).alloc (zl) _)) hown8 hg8 (by
                rcases hat8 with e | e
                · exact .inl e
                · refine .inr ?_
                  have := hb8.size
                  first | omega | (simp at e this; omega)) HX.out.2.2.1 HS.out.2.2.2.1 HX.out.2.2.2.1 H7.out.2.2
              have hne : ¬ (Value.slice af k cf).ownBlock = some p := fun e => by
                obtain ⟨c', h'⟩ := Zau HS.out.2.2.2.2.2.2.2 p e
                rw [HS.out.1.box] at h'; cases h'
              have x8 : w8.cell? ⟨p, 0, none⟩ = some (.slice af k cf) := (hg8.cell_far ⟨p, 0, none⟩ (Nat.lt_of_lt_of_le hpl hb8.size) (fun e => hne e.symm)).trans x7a
              have y8 : w8.frozen? ⟨p, 0, none⟩ = false := (hg8.frozen_far ⟨p, 0, none⟩ (Nat.lt_of_lt_of_le hpl hb8.size) (fun e => hne e.symm)).trans ((hb8.frozen (p := ⟨p, 0, none⟩) hpl).trans x1)
              have H8 := zh hgw
              clear hown8 hg8 hat8 hb8 hgw hne))
         | fail
       all_goals
         (try go_wp2)
         go_meet
         exact ⟨_, _, H8.out⟩
     obtain ⟨g8, c8, hG⟩ := hcut
     obtain ⟨xc, _⟩ := hG.1.cell
     have hkw : IntKind.i64.wrap ((k : Int) + 1 - 1) = (k : Int) := by rw [IntWalk.i64_in _ (by omega)]; omega
     have hk1 : (k : Int) + 1 - 1 = (k : Int) := by omega
     have HG := zh hG
     clear hG x0 x1 xa
     go_wp2
     have hfin : Grow W p (.slice af k cf) vs G (.slice (some ⟨g8, 0, none⟩) (k + 1) c8) (vs ++ [z]) wc := by
       have h := (Grow.refl HX.out.1).below HB.out
       rw [← HX.out.2.2.2.2.1] at h
       exact h.trans HG.out
     refine bodyPost_ret (v := .int .i64 (k : Int)) (by simp [results, Tryz.results37, go_sem, *]) rfl ⟨_, _, k, rfl, hfin, ?_⟩
     rw [HX.out.2.2.2.2.1]
     simp
end
section
open Go.RowKit
variable {W W' W1 W2 : World} {p : Nat} {fv fv' fv1 : Value} {vs vs' vs1 G : List Int}
theorem Zct (m : Bool) (W : World) : Calls Tryz.prog 51 #[.bool m] W fun e w' => e = .returned (.int .i64 (sg m)) ∧ W = w' := by
 cases m
 · go_enter Tryz.func51, Tryz.ntmps51
   go_wp2
   refine bodyPost_ret (v := .int .i64 1) (by simp [results, Tryz.results51, go_sem]) rfl ⟨rfl, rfl⟩
 · go_enter Tryz.func51, Tryz.ntmps51
   go_wp2
   refine bodyPost_ret (v := .int .i64 (-1)) (by simp [results, Tryz.results51, go_sem]) rfl ⟨rfl, rfl⟩
theorem Zdw : ∀ (n : Nat) (l m : List Tm), l.take n = m.take n → n ≤ l.length → n ≤ m.length → cmpL l m = cmpL (l.drop n) (m.drop n)
 | 0, _, _, _, _, _ => rfl
 | n + 1, t :: l, u :: m, h, h1, h2 => by
   simp only [List.take_succ_cons, List.cons.injEq] at h
   obtain ⟨rfl, h⟩ := h
   simp only [List.drop_succ_cons, cmpL]
   rw [Zow, ← Zdw n l m h (by simpa using h1) (by simpa using h2)]
   simp
 | n + 1, [], _, _, h1, _ => by simp at h1
 | n + 1, _ :: _, [], _, _, h2 => by simp at h2
theorem Ziz (y z : Int) : cmpL (naf y) (naf z) = sgn (y - z) := by rw [Zgo _ _ (Za3 y) (Za3 z), Zam, Zam]
theorem cmpN_sgn (a b : Nat) : cmpN a b = sgn ((a : Int) - (b : Int)) := by
 unfold cmpN sgn
 split <;> split <;> (try split) <;> (try split) <;> omega
section
variable {y z : Int} {n : Nat}
theorem Zqw (h : (naf y).take n = (naf z).take n) (h1 : n = (naf y).length) (h2 : n = (naf z).length) : sgn (y - z) = 0 := by
 rw [← Ziz, Zdw n _ _ h (by omega) (by omega), List.drop_of_length_le (by omega), List.drop_of_length_le (by omega)]
 rfl
theorem Zps (h : (naf y).take n = (naf z).take n) (h1 : n = (naf y).length) (h2 : n < (naf z).length) : sgn (y - z) = - sg (naf z)[n].1 := by
 rw [← Ziz, Zdw n _ _ h (by omega) (by omega), List.drop_of_length_le (by omega), List.drop_eq_getElem_cons h2]
 rfl
theorem Zn6 (h : (naf y).take n = (naf z).take n) (h1 : n < (naf y).length) (h2 : n = (naf z).length) : sgn (y - z) = sg (naf y)[n].1 := by
 rw [← Ziz, Zdw n _ _ h (by omega) (by omega), List.drop_of_length_le (i := n) (l := naf z) (by omega), List.drop_eq_getElem_cons h1]
 rfl
theorem Zl5 (h : (naf y).take n = (naf z).take n) (h1 : n < (naf y).length) (h2 : n < (naf z).length) (hne : (naf y)[n] ≠ (naf z)[n]) : sgn (y - z) = if (naf y)[n].1 != (naf z)[n].1 then sg (naf y)[n].1 else sg (naf y)[n].1 * sgn (((naf y)[n].2 : Int) - ((naf z)[n].2 : Int)) := by
 rw [← Ziz, Zdw n _ _ h (by omega) (by omega), List.drop_eq_getElem_cons h1, List.drop_eq_getElem_cons h2, ← cmpN_sgn]
 simp only [cmpL]
 rw [if_pos (fun hc => hne (Zg5 hc))]
 rfl
end
theorem Zgw (hM : WM W p fv vs G) {x : Nat} {z : Int} (hx : vs[x]? = some z) : Calls Tryz.prog 46 #[.pointer (some ⟨p, 0, none⟩), .int .i64 (x : Int)] W fun e w' => e = .returned (.int .i64 (sgn z)) ∧ Below W.heap.size W w' := by
 obtain ⟨b, c, v, f, efv, hcb, hrf, htf, hpl, hzG⟩ := hM.form hx
 obtain ⟨x0, x1⟩ := hM.cell
 have hxl : (x : Int) < (vs.length : Int) := by have := (List.getElem?_eq_some_iff.1 hx).1; omega
 have hc := hM.count
 unfold gMax at hc
 subst efv
 obtain ⟨aF, cF, rfl⟩ := (RowV.of_own hrf).shape
 have hlen := htf.len
 obtain ⟨N, hN⟩ : ∃ N, N = vs.length := ⟨_, rfl⟩
 rw [← hN] at hxl x0 hc
 have hc2 : (N : Int) ≤ 1000000000000 := by omega
 obtain ⟨F, hF⟩ : ∃ F, F = f.length := ⟨_, rfl⟩
 by_cases h0 : F = 0
 · have hz : z = 0 := Zfp (List.length_eq_zero_iff.1 (by omega))
   subst hz
   rw [← hF, h0] at hcb
   clear hM hx hrf htf hpl hzG hlen hN hF hc h0
   go_enter Tryz.func46, Tryz.ntmps46
   go_wp2
   refine bodyPost_ret (v := .int .i64 0) (by simp [results, Tryz.results46, go_sem]) rfl ⟨by rw [Zmj], zb⟩
 · obtain ⟨b2, c2, e2, y0, y1⟩ := Zao (n := 0) hrf (by omega)
   cases e2
   obtain ⟨m, hm⟩ : ∃ m, m = (f[0]'(by omega)).1 := ⟨_, rfl⟩
   rw [← hm] at y0
   have hsg : sgn z = sg m := by
     have h1 := (htf.get 0 (by omega) (by omega)).1
     rcases hnf : naf z with _ | ⟨t, l⟩
     · rw [hnf] at hlen; rw [hlen] at hF; exact absurd hF h0
     · have := Zfc (t := t) (l := l) (by rw [← hnf]; exact Za3 z)
       rw [← hnf, Zam] at this
       rw [this, hm, h1]
       simp [hnf]
   rw [← hF] at hcb
   have hF0 : ((F : Int) == 0) = false := by rw [beq_eq_false_iff_ne]; omega
   have hFp : (0 : Int) < (F : Int) := by omega
   have HS := zh hsg
   clear hM hx hrf htf hpl hzG hlen hN hF hc h0 hm hsg y1
   go_enter Tryz.func46, Tryz.ntmps46
   go_wp2_with (first
     | (go_at_call 51; with_reducible refine (Zct m _).mono ?_; rintro e5 w5 ⟨rfl, rfl⟩))
   refine bodyPost_ret (v := .int .i64 (sg m)) (by simp [results, Tryz.results46, go_sem]) rfl ⟨by rw [HS.out], zb⟩
end
section
open Go.RowKit
variable {W W' W1 W2 : World} {p : Nat} {fv fv' fv1 : Value} {vs vs' vs1 G : List Int}
theorem TMs.takes {f g : List Wt} {l m : List Tm} {n : Nat} (h : TMs vs f l) (k : TMs vs g m) (e : f.take n = g.take n) : l.take n = m.take n := by
 have h1 := h.take n
 rw [e] at h1
 exact TMs.inj h1 (k.take n)
theorem Zcm : ∀ (k : Nat) (y z : Int), y.natAbs < k → ∀ {W : World} {p : Nat} {fv : Value} {vs G : List Int} (hM : WM W p fv vs G) (x x' : Nat) (hx : vs[x]? = some y) (hx' : vs[x']? = some z), Calls Tryz.prog 16 #[.pointer (some ⟨p, 0, none⟩), .int .i64 (x : Int), .int .i64 (x' : Int)] W fun e w' => e = .returned (.int .i64 (sgn (y - z))) ∧ Below W.heap.size W w'
 | 0, _, _, h, _, _, _, _, _, _, _, _, _, _ => by omega
 | k + 1, y, z, hk, W, p, fv, vs, G, hM, x, x', hx, hx' => by
   have IH := zh (fun (e e' : Int) (he : e.natAbs < k) (W' : World) (hW : Below W.heap.size W W') (i j : Nat) (hi : vs[i]? = some e) (hj : vs[j]? = some e') => Zcm k e e' he (hM.below hW) i j hi hj)
   obtain ⟨b, c, v, f, efv, hcb, hrf, htf, _, hzG⟩ := hM.form hx
   obtain ⟨b', c', v', f', efv', hcb', hrf', htf', _, hzG'⟩ := hM.form hx'
   subst efv
   cases efv'
   obtain ⟨x0, x1⟩ := hM.cell
   have hxl : (x : Int) < (vs.length : Int) := by have := (List.getElem?_eq_some_iff.1 hx).1; omega
   have hxl' : (x' : Int) < (vs.length : Int) := by have := (List.getElem?_eq_some_iff.1 hx').1; omega
   have hc := hM.count
   unfold gMax at hc
   obtain ⟨aF, cF, rfl⟩ := (RowV.of_own hrf).shape
   obtain ⟨aF', cF', rfl⟩ := (RowV.of_own hrf').shape
   have hf3 : f.length ≤ 30000 := by rw [htf.len]; exact hM.ok.wts y hzG
   have hf3' : f'.length ≤ 30000 := by rw [htf'.len]; exact hM.ok.wts z hzG'
   obtain ⟨N, hN⟩ : ∃ N, N = vs.length := ⟨_, rfl⟩
   rw [← hN] at hxl hxl' x0 hc
   have hc2 : (N : Int) ≤ 1000000000000 := by omega
   obtain ⟨F, hF⟩ : ∃ F, F = f.length := ⟨_, rfl⟩
   obtain ⟨F', hF'⟩ : ∃ F, F = f'.length := ⟨_, rfl⟩
   have hrf2 := hrf
   have hrf2' := hrf'
   rw [← hF] at hcb hf3 hrf2
   rw [← hF'] at hcb' hf3' hrf2'
   have hF2 : (F : Int) ≤ 30000 := by omega
   have hF2' : (F' : Int) ≤ 30000 := by omega
   have HX := zh (zi hM (zi hrf2 (zi hrf2' (zi htf (zi htf' (zi hF (zi hF' hk)))))))
   clear hM hrf hrf' hrf2 hrf2' htf htf' hF hF' hk hc hf3 hf3' hx hx' hzG hzG'
   go_enter Tryz.func16, Tryz.ntmps16
   go_upto_region 1 with fail
   go_quiet (fail)
   go_upto_region 3 with fail
   go_loopw [9] (fun i wl => ∃ n : Nat, n ≤ F ∧ n ≤ F' ∧ i = .int .i64 n ∧ f.take n = f'.take n ∧ Below W.heap.size W wl) (fun i _ => F - (intOf i).toNat)
   case atStart => exact ⟨0, by omega, by omega, rfl, by simp, Zaa (zb) _⟩
   case round =>
     obtain ⟨n, hnF, hnF', rfl, htk, hB⟩ := hrel
     obtain ⟨hM, hrf, hrf', htf, htf', hF, hF', hk⟩ := HX.out
     have hlf := htf.len
     have hlf' := htf'.len
     have htn := htf.takes htf' htk
     clear x0 x1 hcb hcb'
     by_cases h1 : n < F
     · have h1' : (n : Int) < (F : Int) := by omega
       obtain ⟨ba, qa, ea, y0, y1⟩ := Zao (n := n) (hrf.below hB) (by omega)
       rw [← hF] at ea
       cases ea
       have g1 := htf.get n (by omega) (by omega)
       obtain ⟨m1, e1, hm1⟩ : ∃ m e, f[n]'(by omega) = (m, e) := ⟨_, _, rfl⟩
       rw [hm1] at y0 y1 g1
       simp only at y0 y1
       obtain ⟨u1, v1, hu1⟩ : ∃ u v, (naf y)[n]'(by omega) = (u, v) := ⟨_, _, rfl⟩
       rw [hu1] at g1
       obtain ⟨g10, g11⟩ := g1
       simp only at g10 g11
       subst g10
       by_cases h2 : n < F'
       · have h2' : (n : Int) < (F' : Int) := by omega
         obtain ⟨bb, qb, eb, z0, z1⟩ := Zao (n := n) (hrf'.below hB) (by omega)
         rw [← hF'] at eb
         cases eb
         have g2 := htf'.get n (by omega) (by omega)
         obtain ⟨m2, e2, hm2⟩ : ∃ m e, f'[n]'(by omega) = (m, e) := ⟨_, _, rfl⟩
         rw [hm2] at z0 z1 g2
         simp only at z0 z1
         obtain ⟨u2, v2, hu2⟩ : ∃ u v, (naf z)[n]'(by omega) = (u, v) := ⟨_, _, rfl⟩
         rw [hu2] at g2
         obtain ⟨g20, g21⟩ := g2
         simp only at g20 g21
         subst g20
         have hnF1 : ((n : Int) == (F : Int)) = false := by rw [beq_eq_false_iff_ne]; omega
         have hnF2 : ((n : Int) == (F' : Int)) = false := by rw [beq_eq_false_iff_ne]; omega
         by_cases hm : m1 = m2
         · subst hm
           by_cases he : e1 = e2
           · subst he
             have HR := zh (zi htk (zi hB (zi (List.getElem?_eq_some_iff.2 ⟨by omega, hm1⟩ : f[n]? = some (m1, e1)) (List.getElem?_eq_some_iff.2 ⟨by omega, hm2⟩ : f'[n]? = some (m1, e1)))))
             clear hM hrf hrf' htf htf' hF hF' hk hlf hlf' htn hnF hnF' htk hB g11 g21 hm1 hm2 hu1 hu2
             go_upto_region 3 with fail
             go_quiet (fail)
             go_wp2
             refine ⟨⟨n + 1, by omega, by omega, by go_num, ?_, Zaa HR.out.2.1 _⟩, by simp [intOf]; omega⟩
             rw [List.take_add_one, List.take_add_one, HR.out.1, HR.out.2.2.1, HR.out.2.2.2]
           · have hee : ((e1 : Int) == (e2 : Int)) = false := by rw [beq_eq_false_iff_ne]; omega
             have hcm := Zl5 htn (by omega) (by omega) (by
               rw [hu1, hu2]
               intro h
               simp only [Prod.mk.injEq, true_and] at h
               subst h
               exact he (Zbj hM.nd g11 g21))
             rw [hu1, hu2] at hcm
             simp only [bne_self_eq_false, Bool.false_eq_true, if_false] at hcm
             have hv1 : v1 < y.natAbs := Zbf (t := (m1, v1)) (by rw [← hu1]; exact List.getElem_mem _)
             have hcall := fun W' (hW : Below wr.heap.size wr W') => IH.out (v1 : Int) (v2 : Int) (by omega) W' (hB.trans (hW.mono hB.size)) e1 e2 g11 g21
             have HC := zh hcall
             have HR := zh (zi hcm hB)
             have hmb : (m1 != m1) = false := by simp
             have hS := fun W' (hW : Below wr.heap.size wr W') => zi ((hW.cell (p := ⟨ba, n * 2, none⟩) (World.block_lt_of_cell? _ _ y0)).trans y0) (zi ((hW.cell (p := ⟨ba, n * 2 + 1, none⟩) (World.block_lt_of_cell? _ _ y1)).trans y1) ((hW.cell (p := ⟨bb, n * 2 + 1, none⟩) (World.block_lt_of_cell? _ _ z1)).trans z1))
             have HS := zh hS
             clear hS
             clear hM hrf hrf' htf htf' hF hF' hk hlf hlf' htn hnF hnF' htk hB g11 g21 hm1 hm2 hu1 hu2 hcm hv1 hcall
             go_upto_region 3 with fail
             go_quiet (fail)
             go_upto_region 9 with fail
             go_quiet (fail)
             go_upto_region 11 with fail
             have HN := zh (Below.refl wr.heap.size wr)
             have hwm : IntKind.i64.wrap (sg m1 * sgn ((v1 : Int) - (v2 : Int))) = sg m1 * sgn ((v1 : Int) - (v2 : Int)) := by
               unfold sgn
               cases m1 <;> split <;> (try split) <;> rfl
             first
               | go_region_held3 (fun W => W.cell? ⟨ba, n * 2, none⟩ = some (.bool m1) ∧ W.cell? ⟨ba, n * 2 + 1, none⟩ = some (.int .i64 (e1 : Int)) ∧ W.cell? ⟨bb, n * 2 + 1, none⟩ = some (.int .i64 (e2 : Int))) (first | exact HS.out _ HN.out | (go_keep; done))
                   (first
                   | (go_at_call 51; with_reducible refine (Zct m1 _).mono ?_; rintro e5 w5 ⟨rfl, rfl⟩)
                   | (go_at_call 16; refine (HC.out _ (by repeat (first | with_reducible exact HN.out | with_reducible exact zb | with_reducible refine Below.drew ?_ | with_reducible refine Zaa ?_ _))).mono ?_; rintro e5 w5 ⟨rfl, hb5⟩
                      have hb6 : Below wr.heap.size wr w5 := Below.trans (by repeat (first | with_reducible exact HN.out | with_reducible exact zb | with_reducible refine Below.drew ?_ | with_reducible refine Zaa ?_ _)) (hb5.mono (by first | exact zl | exact HN.out.size))
                      have HN := zh hb6
                      clear hb5 hb6))
               | fail
             all_goals
               (try go_wp2)
               refine bodyPost_ret (v := .int .i64 (sg m1 * sgn ((v1 : Int) - (v2 : Int)))) (by simp [results, Tryz.results16, go_sem, *]) rfl ⟨by rw [HR.out.1], HR.out.2.trans (HN.out.mono HR.out.2.size)⟩
         · have hmb : (m1 == m2) = false := by rw [beq_eq_false_iff_ne]; exact hm
           have hmt : (m1 != m2) = true := by rw [bne, hmb]; rfl
           have hcm := Zl5 htn (by omega) (by omega) (by
             rw [hu1, hu2]
             intro h
             simp only [Prod.mk.injEq] at h
             exact hm h.1)
           rw [hu1, hu2] at hcm
           simp only [hmt, if_true] at hcm
           have HR := zh (zi hcm hB)
           clear hM hrf hrf' htf htf' hF hF' hk hlf hlf' htn hnF hnF' htk hB g11 g21 hm1 hm2 hu1 hu2 hcm
           go_upto_region 3 with fail
           go_quiet (fail)
           go_upto_region 9 with fail
           go_quiet (fail)
           go_wp2_with (first
             | (go_at_call 51; with_reducible refine (Zct m1 _).mono ?_; rintro e5 w5 ⟨rfl, rfl⟩))
           refine bodyPost_ret (v := .int .i64 (sg m1)) (by simp [results, Tryz.results16, go_sem]) rfl ⟨by rw [HR.out.1], Zaa HR.out.2 _⟩
       · have hnF1 : ((n : Int) == (F : Int)) = false := by rw [beq_eq_false_iff_ne]; omega
         have hnF2 : n = F' := by omega
         subst hnF2
         have hl2 : ¬ (n : Int) < (n : Int) := by omega
         have hcm := Zn6 htn (by omega) (by omega)
         rw [hu1] at hcm
         have HR := zh (zi hcm hB)
         clear hM hrf hrf' htf htf' hF hF' hk hlf hlf' htn hnF hnF' htk hB g11 hm1 hu1 hcm h2
         go_upto_region 3 with fail
         go_quiet (fail)
         go_upto_region 9 with fail
         go_quiet (fail)
         go_wp2_with (first
           | (go_at_call 51; with_reducible refine (Zct m1 _).mono ?_; rintro e5 w5 ⟨rfl, rfl⟩))
         refine bodyPost_ret (v := .int .i64 (sg m1)) (by simp [results, Tryz.results16, go_sem]) rfl ⟨by rw [HR.out.1], Zaa HR.out.2 _⟩
     · have hnF1 : n = F := by omega
       subst hnF1
       have hl1 : ¬ (n : Int) < (n : Int) := by omega
       by_cases h2 : n < F'
       · have h2' : (n : Int) < (F' : Int) := by omega
         obtain ⟨bb, qb, eb, z0, z1⟩ := Zao (n := n) (hrf'.below hB) (by omega)
         rw [← hF'] at eb
         cases eb
         have g2 := htf'.get n (by omega) (by omega)
         obtain ⟨m2, e2, hm2⟩ : ∃ m e, f'[n]'(by omega) = (m, e) := ⟨_, _, rfl⟩
         rw [hm2] at z0 z1 g2
         simp only at z0 z1
         have hnF2 : ((n : Int) == (F' : Int)) = false := by rw [beq_eq_false_iff_ne]; omega
         have hcm := Zps htn (by omega) (by omega)
         rw [← g2.1] at hcm
         simp only at hcm
         have HR := zh (zi hcm hB)
         have hwn : IntKind.i64.wrap (-(sg m2)) = -(sg m2) := by cases m2 <;> rfl
         clear hM hrf hrf' htf htf' hF hF' hk hlf hlf' htn hnF hnF' htk hB g2 hm2 hcm h1
         go_upto_region 3 with fail
         go_quiet (fail)
         go_wp2_with (first
           | (go_at_call 51; with_reducible refine (Zct m2 _).mono ?_; rintro e5 w5 ⟨rfl, rfl⟩))
         refine bodyPost_ret (v := .int .i64 (-(sg m2))) (by simp [results, Tryz.results16, go_sem, *]) rfl ⟨by rw [HR.out.1], Zaa HR.out.2 _⟩
       · have hnF2 : n = F' := by omega
         subst hnF2
         have hcm := Zqw htn (by omega) (by omega)
         have HR := zh (zi hcm hB)
         clear hM hrf hrf' htf htf' hF hF' hk hlf hlf' htn hnF hnF' htk hB hcm h1 h2
         go_upto_region 3 with fail
         go_quiet (fail)
         go_wp2
         refine bodyPost_ret (v := .int .i64 0) (by simp [results, Tryz.results16, go_sem]) rfl ⟨by rw [HR.out.1], Zaa HR.out.2 _⟩
end
section
open Go.RowKit
variable {W W' W1 W2 : World} {p : Nat} {fv fv' fv1 : Value} {vs vs' vs1 G : List Int}
theorem Zc8 (u : Wt) (l : List Wt) : flatW (u :: l) = cellsW u ++ flatW l := by simp [flatW]
theorem Zh7 : ∀ (l : List Wt) (k : Nat), flatW (l.take k) = (flatW l).take (k * 2)
 | [], k => by simp [flatW]
 | u :: l, 0 => by simp [flatW]
 | u :: l, k + 1 => by
   rw [List.take_succ_cons, Zc8, Zc8, Zh7 l k, show (k + 1) * 2 = k * 2 + 2 by omega]
   simp [cellsW]
theorem Zh8 : ∀ (l : List Wt) (k : Nat), flatW (l.drop k) = (flatW l).drop (k * 2)
 | [], k => by simp [flatW]
 | u :: l, 0 => by simp
 | u :: l, k + 1 => by
   rw [List.drop_succ_cons, Zc8, Zh8 l k, show (k + 1) * 2 = k * 2 + 2 by omega]
   simp [cellsW]
theorem Zl6 {b c : Nat} {l : List Wt} (h : RowW W (.slice (some ⟨b, 0, none⟩) l.length c) l) : RowC W b 0 (flatW l) := fun j u hj => by
 have := World.ownsRow.cells h rfl j u hj
 rw [Zbl] at this
 exact this
theorem Zj0 {b c k : Nat} {l : List Wt} (h : RowW W (.slice (some ⟨b, 0, none⟩) l.length c) l) (hk : k ≤ l.length) : RowV W 2 (.slice (some ⟨b, 0, none⟩) k c) k (flatW (l.take k)) := by
 have hc := Zl6 h
 obtain ⟨_, hv⟩ := RowV.of_own h
 rcases hv with ⟨e, _⟩ | ⟨b', off, cap, e, h1, h2, h3, _⟩
 · cases e
 · cases e
   refine ⟨by rw [Zgv, List.length_take]; omega, .inr ⟨b, 0, c, rfl, by omega, h2, h3, fun j u hj => ?_⟩⟩
   rw [Zh7, List.getElem?_take] at hj
   split at hj
   · exact hc j u hj
   · cases hj
theorem Zj1 {b c k : Nat} {l : List Wt} (h : RowW W (.slice (some ⟨b, 0, none⟩) l.length c) l) (hk : k ≤ l.length) : RowV W 2 (.slice (some ⟨b, k * 2, none⟩) (l.length - k) (c - k)) (l.length - k) (flatW (l.drop k)) := by
 have hc := Zl6 h
 obtain ⟨_, hv⟩ := RowV.of_own h
 rcases hv with ⟨e, _⟩ | ⟨b', off, cap, e, h1, h2, h3, _⟩
 · cases e
 · cases e
   refine ⟨by rw [Zgv, List.length_drop], .inr ⟨b, k * 2, c - k, rfl, by omega, by omega, h3, fun j u hj => ?_⟩⟩
   rw [Zh8, List.getElem?_drop] at hj
   have := hc (k * 2 + j) u hj
   simpa using this
theorem Zh9 {b c k : Nat} {l : List Wt} (h : RowW W (.slice (some ⟨b, 0, none⟩) l.length c) l) (hk : k ≤ l.length) (hc : c = k) : RowV W 2 (.slice (some ⟨b, 0, none⟩) (l.length - k) 0) (l.length - k) (flatW (l.drop k)) := by
 obtain ⟨_, hv⟩ := RowV.of_own h
 rcases hv with ⟨e, _⟩ | ⟨b', off, cap, e, h1, h2, h3, _⟩
 · cases e
 · cases e
   have h0 : l.length - k = 0 := by omega
   have hd : l.drop k = [] := List.drop_of_length_le (by omega)
   rw [h0, hd]
   exact ⟨rfl, .inr ⟨b, 0, 0, rfl, zl, Nat.zero_le _, h3, fun j u hj => by simp [flatW] at hj⟩⟩
theorem Zi0 {v : Value} {l : List Wt} {k : Nat} (hl : RowW W v l) (hk : k < l.length) (hl3 : l.length ≤ 30000) :
   Calls Tryz.prog 72 #[v, .int .i64 (k : Int)] W fun e w' => ∃ v', e = .returned v' ∧ RowW w' v' (wo l k) ∧ Below W.heap.size W w' := by
 obtain ⟨b, c, e⟩ := Go.Joins.ownsRow_form hl (by omega)
 subst e
 obtain ⟨i0, hi0, hy0, hy1, hy2⟩ := info_parts infoeW
 have h1 := Zj0 hl (Nat.le_of_lt hk)
 have hcap : l.length ≤ c := by
   obtain ⟨_, hv⟩ := RowV.of_own hl
   rcases hv with ⟨e, _⟩ | ⟨b', off, cap, e, h1, _⟩
   · cases e
   · cases e; exact h1
 have hcm : c ≤ maxLen := by
   obtain ⟨_, hv⟩ := RowV.of_own hl
   rcases hv with ⟨e, _⟩ | ⟨b', off, cap, e, _, h1, _⟩
   · cases e
   · cases e; exact h1
 unfold maxLen at hcm
 have hlw : (wo l k).length = k + (l.length - (k + 1)) := by unfold wo; rw [List.length_append, List.length_take, List.length_drop]; omega
 have hfw : flatW (wo l k) = flatW (l.take k) ++ flatW (l.drop (k + 1)) := Zcs _ _
 obtain ⟨N, hN⟩ : ∃ N, N = l.length := ⟨_, rfl⟩
 have HX := zh (zi hl (zi h1 (zi hlw (zi hfw hN))))
 have HH := zh (zi hi0 (zi hy0 (zi hy1 hy2)))
 have hk3 := hk
 rw [← hN] at hk hl3 hcap
 have hk' : (k : Int) < (N : Int) := by omega
 have hN3 : (N : Int) ≤ 30000 := by omega
 have hcI : (N : Int) ≤ (c : Int) := by omega
 have hcJ : (c : Int) ≤ 9223372036854775807 := by omega
 have hkc : k ≤ c := by omega
 by_cases hck : c = k + 1
 · rw [hck] at h1
   have h2 := Zh9 HX.out.1 (show k + 1 ≤ l.length by omega) hck
   rw [← hN] at h2 ⊢
   have H2 := zh h2
   have H1 := zh h1
   clear hl h1 hN hi0 hy0 hy1 hy2 hcm h2 hlw hfw hk3
   go_enter Tryz.func72, Tryz.ntmps72
   go_upto_region 1 with fail
   go_upto_region 2 with (first
     | (at_builtin; refine Zaf rfl _ _ 41 rfl W.heap.size 64 i0 zW 2 16 Tryz.underlying41 HH.out.1 HH.out.2.1 HH.out.2.2.1 HH.out.2.2.2 rfl (by decide) _ 0 [] rfl (World.ownsRow_lit W #[] 0 (zl) (by decide) rfl) _ k (flatW (l.take k)) rfl (H1.out.below ((zb).alloc (zl) _) (zl)) (Zba _) (by unfold maxLen; omega) (by omega) (by simp) ?_; intro v7 w7 hown7 hg7
        rw [Nat.zero_add, List.nil_append] at hown7
        obtain ⟨a7, c7, rfl⟩ := (RowV.of_own hown7).shape
        have hb7 : Below W.heap.size W w7 := Zbq ((zb).alloc (zl) _) hg7 (zl)
        have H7 := zh (zi hown7 hb7)
        clear hown7 hg7 hb7))
   go_wp2_with (first
     | (at_builtin; refine Zaf rfl _ _ 41 rfl W.heap.size 64 i0 zW 2 16 Tryz.underlying41 HH.out.1 HH.out.2.1 HH.out.2.2.1 HH.out.2.2.2 rfl (by decide) _ k _ rfl H7.out.1 _ (N - (k + 1)) (flatW (l.drop (k + 1))) rfl (H2.out.below H7.out.2 (zl)) (Zba _) (by unfold maxLen; omega) (by omega) H7.out.2.size ?_; intro v8 w8 hown8 hg8
        obtain ⟨a8, c8, rfl⟩ := (RowV.of_own hown8).shape
        have hb8 : Below W.heap.size W w8 := H7.out.2.grown hg8 H7.out.2.size (fun q hq => (H7.out.1.lt q hq).1)
        have H8 := zh (zi hown8 hb8)
        clear hown8 hg8 hb8))
   refine bodyPost_ret (v := .slice a8 (k + (N - (k + 1))) c8) (by simp [results, Tryz.results72, go_sem]) rfl ⟨_, rfl, ?_, H8.out.2⟩
   have h := Zah H8.out.1 (Nat.zero_le _)
   unfold RowW
   rw [HX.out.2.2.1, HX.out.2.2.2.1, ← HX.out.2.2.2.2]
   exact h
 · skip
   have h2 := Zj1 HX.out.1 (show k + 1 ≤ l.length by omega)
   rw [← hN] at h2 ⊢
   have H2 := zh h2
   have H1 := zh h1
   clear hl h1 hN hi0 hy0 hy1 hy2 hcm h2 hlw hfw hk3
   go_enter Tryz.func72, Tryz.ntmps72
   go_upto_region 1 with fail
   go_upto_region 2 with (first
     | (at_builtin; refine Zaf rfl _ _ 41 rfl W.heap.size 64 i0 zW 2 16 Tryz.underlying41 HH.out.1 HH.out.2.1 HH.out.2.2.1 HH.out.2.2.2 rfl (by decide) _ 0 [] rfl (World.ownsRow_lit W #[] 0 (zl) (by decide) rfl) _ k (flatW (l.take k)) rfl (H1.out.below ((zb).alloc (zl) _) (zl)) (Zba _) (by unfold maxLen; omega) (by omega) (by simp) ?_; intro v7 w7 hown7 hg7
        rw [Nat.zero_add, List.nil_append] at hown7
        obtain ⟨a7, c7, rfl⟩ := (RowV.of_own hown7).shape
        have hb7 : Below W.heap.size W w7 := Zbq ((zb).alloc (zl) _) hg7 (zl)
        have H7 := zh (zi hown7 hb7)
        clear hown7 hg7 hb7))
   go_wp2_with (first
     | (at_builtin; refine Zaf rfl _ _ 41 rfl W.heap.size 64 i0 zW 2 16 Tryz.underlying41 HH.out.1 HH.out.2.1 HH.out.2.2.1 HH.out.2.2.2 rfl (by decide) _ k _ rfl H7.out.1 _ (N - (k + 1)) (flatW (l.drop (k + 1))) rfl (H2.out.below H7.out.2 (zl)) (Zba _) (by unfold maxLen; omega) (by omega) H7.out.2.size ?_; intro v8 w8 hown8 hg8
        obtain ⟨a8, c8, rfl⟩ := (RowV.of_own hown8).shape
        have hb8 : Below W.heap.size W w8 := H7.out.2.grown hg8 H7.out.2.size (fun q hq => (H7.out.1.lt q hq).1)
        have H8 := zh (zi hown8 hb8)
        clear hown8 hg8 hb8))
   refine bodyPost_ret (v := .slice a8 (k + (N - (k + 1))) c8) (by simp [results, Tryz.results72, go_sem]) rfl ⟨_, rfl, ?_, H8.out.2⟩
   have h := Zah H8.out.1 (Nat.zero_le _)
   unfold RowW
   rw [HX.out.2.2.1, HX.out.2.2.2.1, ← HX.out.2.2.2.2]
   exact h
end
section
def GP (G : List Int) (l : List Tm) (t : Tm) : Prop := (∀ i : Nat, 1 ≤ i → i ≤ 2 * mu l t + 2 → ((t.2 + i : Nat) : Int) ∈ G) ∧ ∀ x ∈ l, x.2 < t.2 → ((x.2 + 1 : Nat) : Int) ∈ G
variable {G : List Int}
theorem GP.one {l : List Tm} {t : Tm} (h : GP G l t) : ((t.2 + 1 : Nat) : Int) ∈ G := h.1 1 (zl) (by omega)
theorem GP.two {l : List Tm} {t : Tm} (h : GP G l t) : ((t.2 + 2 : Nat) : Int) ∈ G := h.1 2 (by omega) (by omega)
theorem GP_A {A R : List Tm} {m : Bool} {e N : Nat} (h : NA (A ++ (m, e) :: R)) (hb : Bd (A ++ (m, e) :: R) (m, e) N) (hg : GP G (A ++ (m, e) :: R) (m, e)) : GP G (A ++ R) (m, e + 1) := by
 have hm := (Zqh h hb).2.2.1
 obtain ⟨h1, h2, h3⟩ := Zdt.1 h
 have h4 := (List.pairwise_cons.1 h2).1
 refine ⟨fun i hi hl => ?_, fun x hx hlt => ?_⟩
 · have := hg.1 (1 + i) (by omega) (by simp only at *; omega)
   simp only at this ⊢
   rw [show e + 1 + i = e + (1 + i) by omega]
   exact this
 · simp only at hlt
   rcases List.mem_append.1 hx with a | a
   · have := h3 x a (m, e) (by simp)
     simp only at this; omega
   · have := h4 x a
     simp only at this
     exact hg.2 x (List.mem_append_right _ (List.mem_cons_of_mem _ a)) (by simp only; omega)
theorem Zn7 {l l' : List Tm} {t t' : Tm} (he : t'.2 = t.2) (hm : mu l' t' ≤ mu l t) (hs : ∀ x ∈ l', x ∈ l) (hg : GP G l t) : GP G l' t' := by
 refine ⟨fun i hi hl => ?_, fun x hx hlt => hg.2 x (hs x hx) (by omega)⟩
 rw [he]
 exact hg.1 i hi (by omega)
theorem Zn8 {A R : List Tm} {u x : Tm} (h : x ∈ A ++ R) : x ∈ A ++ u :: R := by
 rcases List.mem_append.1 h with a | a
 · exact List.mem_append_left _ a
 · exact List.mem_append_right _ (List.mem_cons_of_mem _ a)
theorem Zqx {R : List Tm} {m : Bool} {e : Nat} (h : NA R) (hr : ∀ r ∈ R, r.2 + 1 ≤ e) : ∀ x ∈ naf (val R + tv (!m, e)), x ∈ R ∨ e ≤ x.2 + 1 := by
 rcases R with _ | ⟨⟨s, r⟩, R⟩
 · intro x hx
   have hd := Zn4 (A := []) (R := []) (t := (!m, e)) (by simp [NA]) (by simp) (by simp)
   simp only [List.nil_append] at hd
   rw [hd] at hx
   simp at hx
   subst hx
   right; simp
 · have hr0 := hr (s, r) (by simp)
   simp only at hr0
   have h4 := (List.pairwise_cons.1 h).1
   by_cases hre : r + 2 ≤ e
   · intro x hx
     have hd := Zn4 (A := []) (R := (s, r) :: R) (t := (!m, e)) h (by simp) (fun u hu => by
       rcases List.mem_cons.1 hu with rfl | hu
       · exact hre
       · have := h4 u hu; simp only at this ⊢; omega)
     simp only [List.nil_append] at hd
     rw [hd] at hx
     rcases List.mem_cons.1 hx with rfl | hx
     · right; simp
     · exact .inl hx
   · have hre2 : e = r + 1 := by omega
     subst hre2
     by_cases hs : s = m
     · subst hs
       intro x hx
       have := Zn3 (A := []) (R := R) (m := !s) (e := r) (by simpa using h)
       simp only [Bool.not_not, List.nil_append] at this
       rw [this] at hx
       rcases List.mem_cons.1 hx with rfl | hx
       · right; simp
       · exact .inl (List.mem_cons_of_mem _ hx)
     · have hs2 : s = !m := by cases s <;> cases m <;> simp_all
       subst hs2
       have hn : NA ([(!m, r + 2)] ++ (m, r) :: R) := by
         have h5 : NA ([] ++ (m, r) :: R) := Zk2 (m := !m) (by simpa using h)
         refine List.pairwise_cons.2 ⟨fun u hu => ?_, h5⟩
         rcases List.mem_cons.1 hu with rfl | hu
         · exact zl
         · have := h4 u hu; simp only at this ⊢; omega
       have hf : naf (val ((!m, r) :: R) + tv (!m, r + 1)) = (!m, r + 2) :: (m, r) :: R := by
         refine Zdb hn ?_
         simp only [val]
         rw [← Zdu (!m) (r + 1), ← Zdu (!m) r, Zh5]
         have := Zdu m r
         omega
       intro x hx
       rw [hf] at hx
       rcases List.mem_cons.1 hx with rfl | hx
       · right; simp
       · rcases List.mem_cons.1 hx with rfl | hx
         · right; simp
         · exact .inl (List.mem_cons_of_mem _ hx)
theorem GP_B3 {A R : List Tm} {m : Bool} {e N : Nat} (h : NA (A ++ (m, e + 1) :: R)) (hb : Bd (A ++ (m, e + 1) :: R) (m, e) N) (hg : GP G (A ++ (m, e + 1) :: R) (m, e)) (he : (e : Int) ∈ G) : GP G (naf (val (A ++ R) + tv (!m, e))) (m, e + 2) := by
 have hm := (Zk4 h hb).2.1
 have hx3 := (Zk4 h hb).2.2
 obtain ⟨h1, h2, h3⟩ := Zdt.1 h
 have h4 := (List.pairwise_cons.1 h2).1
 have h5 := (List.pairwise_cons.1 h2).2
 have hr : ∀ r ∈ R, r.2 + 1 ≤ e := fun r hr => by have := h4 r hr; simp only at this; omega
 have hA : ∀ a ∈ A, e + 3 ≤ a.2 := fun a ha => by have := h3 a ha (m, e + 1) (by simp); simp only at this; omega
 have hform : naf (val (A ++ R) + tv (!m, e)) = A ++ naf (val R + tv (!m, e)) := by
   refine Zdb (Zdt.2 ⟨h1, Za3 _, fun a ha r hr2 => ?_⟩) ?_
   · have := hA a ha; have := (Zn2 (m := m) h5 hr r hr2).1; omega
   · rw [Za2, Zam, Za2]; omega
 refine ⟨fun i hi hl => ?_, fun x hx hlt => ?_⟩
 · have hl : i ≤ 2 * mu (naf (val (A ++ R) + tv (!m, e))) (m, e + 2) + 2 := hl
   have := hg.1 (2 + i) (by omega) (by omega)
   simp only at this ⊢
   rw [show e + 2 + i = e + (2 + i) by omega]
   exact this
 · have hlt : x.2 < e + 2 := hlt
   rw [hform] at hx
   rcases List.mem_append.1 hx with a | a
   · have := hA x a; omega
   · rcases Zqx (m := m) h5 hr x a with b | b
     · have := hr x b
       exact hg.2 x (List.mem_append_right _ (List.mem_cons_of_mem _ b)) (by simp only; omega)
     · rcases (show x.2 + 1 = e ∨ x.2 = e ∨ x.2 = e + 1 by omega) with c | c | c
       · rw [c]; exact he
       · rw [c]; exact hg.one
       · rw [c]; exact hg.two
theorem GP_C {A R : List Tm} {m : Bool} {e N : Nat} (h : NA (A ++ (m, e) :: R)) (ha : ∀ a ∈ A, e + 3 ≤ a.2) (hb : Bd (A ++ (m, e) :: R) (m, e + 1) N) (hg : GP G (A ++ (m, e) :: R) (m, e + 1)) : GP G (A ++ (!m, e) :: R) (m, e + 2) := by
 have hm := (Zqi h ha hb).2.2.2.1
 refine ⟨fun i hi hl => ?_, fun x hx hlt => ?_⟩
 · have hl : i ≤ 2 * mu (A ++ (!m, e) :: R) (m, e + 2) + 2 := hl
   have := hg.1 (1 + i) (by omega) (by omega)
   simp only at this ⊢
   rw [show e + 2 + i = e + 1 + (1 + i) by omega]
   exact this
 · simp only at hlt
   rcases List.mem_append.1 hx with a | a
   · have := ha x a; omega
   · rcases List.mem_cons.1 a with rfl | a
     · exact hg.2 (m, e) (by simp) (by simp)
     · obtain ⟨_, h2, _⟩ := Zdt.1 h
       have := (List.pairwise_cons.1 h2).1 x a
       simp only at this
       exact hg.2 x (List.mem_append_right _ (List.mem_cons_of_mem _ a)) (by simp only; omega)
end
section
open Go.RowKit
variable {W W' W1 W2 : World} {p : Nat} {fv fv' fv1 : Value} {vs vs' vs1 G : List Int}
def NextOK (N : Nat) : Prop := ∀ {W : World} {p : Nat} {fv : Value} {vs G : List Int} (_ : WM W p fv vs G) (x e : Nat), e < N → vs[x]? = some (e : Int) → ((e + 1 : Nat) : Int) ∈ G →
 Calls Tryz.prog 36 #[.pointer (some ⟨p, 0, none⟩), .int .i64 (x : Int)] W fun r w' => ∃ (fv' : Value) (vs' : List Int) (i : Nat), r = .returned (.int .i64 (i : Int)) ∧ Grow W p fv vs G fv' vs' w' ∧ vs'[i]? = some ((e + 1 : Nat) : Int)
def PlusOK (N n : Nat) : Prop := ∀ {W : World} {p : Nat} {fv : Value} {vs G : List Int} (_ : WM W p fv vs G) {v : Value} {l : List Wt} {y : Int} {m : Bool} {x e : Nat}, mu (naf y) (m, e) < n → RowW W v l → TMs vs l (naf y) → vs[x]? = some (e : Int) → wt y ≤ 30000 → Bd (naf y) (m, e) N → GP G (naf y) (m, e) →
 Calls Tryz.prog 35 #[.pointer (some ⟨p, 0, none⟩), v, .agg #[.bool m, .int .i64 (x : Int)]] W fun r w' => ∃ (fv' : Value) (vs' : List Int) (v' : Value) (l' : List Wt), r = .returned v' ∧ Grow W p fv vs G fv' vs' w' ∧ RowW w' v' l' ∧ TMs vs' l' (naf (y + tv (m, e)))
theorem Ze3 {b : Nat} {m : Bool} {x : Nat} (h : W.heap[b]? = some (.cells #[.bool m, .int .i64 (x : Int)] 64 (0, 0))) : W.cell? ⟨b, 0, none⟩ = some (.bool m) ∧ W.cell? ⟨b, 1, none⟩ = some (.int .i64 (x : Int)) := by
 constructor <;> simp [World.cell?, h]
theorem way_A {y : Int} {k n N e : Nat} {m : Bool} {A R : List Tm} (hA : (naf y).take k = A) (hR : (naf y).drop (k + 1) = R) (hnf : naf y = A ++ (m, e) :: R) (hbd : Bd (naf y) (m, e) N) (hgp : GP G (naf y) (m, e)) (hmu : mu (naf y) (m, e) < n + 1) (hw : wt y ≤ 30000) :
   ∃ y' : Int, naf y' = wo (naf y) k ∧ y' + tv (m, e + 1) = y + tv (m, e) ∧ mu (naf y') (m, e + 1) < n ∧ wt y' ≤ 30000 ∧ Bd (naf y') (m, e + 1) N ∧ GP G (naf y') (m, e + 1) ∧ e < N := by
 have hNA : NA (A ++ (m, e) :: R) := by rw [← hnf]; exact Za3 y
 have hwo : wo (naf y) k = A ++ R := by unfold wo; rw [hA, hR]
 have hv : val (A ++ (m, e) :: R) = y := by rw [← hnf, Zam]
 have hn : naf (val (A ++ R)) = A ++ R := Zbn (NA_wo hNA)
 rw [hnf] at hbd hgp hmu
 obtain ⟨r1, r2, r3, r4⟩ := Zqh hNA hbd
 rw [hv] at r1
 refine ⟨val (A ++ R), by rw [hwo, hn], r1.symm, by rw [hn]; omega, ?_, by rw [hn]; exact r2, by rw [hn]; exact GP_A hNA hbd hgp, r4⟩
 unfold wt at hw ⊢
 rw [hn]
 rw [hnf] at hw
 simp only [List.length_append, List.length_cons] at hw ⊢
 omega
theorem way_B1 {y : Int} {k n N e : Nat} {m : Bool} {A R : List Tm} (hA : (naf y).take k = A) (hR : (naf y).drop (k + 1) = R) (hnf : naf y = A ++ (!m, e + 1) :: R) (hbd : Bd (naf y) (m, e) N) (hgp : GP G (naf y) (m, e)) (hmu : mu (naf y) (m, e) < n + 1) (hw : wt y ≤ 30000) :
   ∃ y' : Int, naf y' = wo (naf y) k ∧ y' + tv (!m, e) = y + tv (m, e) ∧ mu (naf y') (!m, e) < n ∧ wt y' ≤ 30000 ∧ Bd (naf y') (!m, e) N ∧ GP G (naf y') (!m, e) := by
 have hNA : NA (A ++ (!m, e + 1) :: R) := by rw [← hnf]; exact Za3 y
 have hwo : wo (naf y) k = A ++ R := by unfold wo; rw [hA, hR]
 have hv : val (A ++ (!m, e + 1) :: R) = y := by rw [← hnf, Zam]
 have hn : naf (val (A ++ R)) = A ++ R := Zbn (NA_wo hNA)
 rw [hnf] at hbd hgp hmu
 obtain ⟨r1, r2, r3, r4⟩ := Zqt hNA hbd
 rw [hv] at r1
 refine ⟨val (A ++ R), by rw [hwo, hn], r1.symm, by rw [hn]; omega, ?_, by rw [hn]; exact r2, by rw [hn]; exact Zn7 rfl (Nat.le_of_lt r3) (fun x hx => Zn8 hx) hgp⟩
 unfold wt at hw ⊢
 rw [hn]
 rw [hnf] at hw
 simp only [List.length_append, List.length_cons] at hw ⊢
 omega
theorem way_B2 {y : Int} {k n N e : Nat} {m : Bool} {A R : List Tm} (hA : (naf y).take k = A) (hR : (naf y).drop (k + 1) = R) (hnf : naf y = A ++ (m, e + 1) :: R) (hbd : Bd (naf y) (m, e) N) (hgp : GP G (naf y) (m, e)) (hmu : mu (naf y) (m, e) < n + 1) (hw : wt y ≤ 30000) (he : (e : Int) ∈ G) :
   ∃ y' y2 : Int, naf y' = wo (naf y) k ∧ y2 = y' + tv (!m, e) ∧ y2 + tv (m, e + 2) = y + tv (m, e) ∧ (mu (naf y') (!m, e) < n ∧ wt y' ≤ 30000 ∧ Bd (naf y') (!m, e) N ∧ GP G (naf y') (!m, e)) ∧ (mu (naf y2) (m, e + 2) < n ∧ wt y2 ≤ 30000 ∧ Bd (naf y2) (m, e + 2) N ∧ GP G (naf y2) (m, e + 2)) ∧ e + 1 < N := by
 have hNA : NA (A ++ (m, e + 1) :: R) := by rw [← hnf]; exact Za3 y
 have hwo : wo (naf y) k = A ++ R := by unfold wo; rw [hA, hR]
 have hv : val (A ++ (m, e + 1) :: R) = y := by rw [← hnf, Zam]
 have hn : naf (val (A ++ R)) = A ++ R := Zbn (NA_wo hNA)
 have hl : (A ++ R).length + 1 = wt y := by unfold wt; rw [hnf]; simp; omega
 have hw1 : wt (val (A ++ R)) + 1 = wt y := by rw [← hl]; unfold wt; rw [hn]
 rw [hnf] at hbd hgp hmu
 obtain ⟨r1, r2, r3, r4⟩ := Zqu hNA hbd
 obtain ⟨s1, s2, _⟩ := Zk4 hNA hbd
 rw [hv] at r1
 have hw2 := wt_tv (val (A ++ R)) (!m, e)
 exact ⟨val (A ++ R), _, by rw [hwo, hn], rfl, r1.symm, ⟨by rw [hn]; omega, by omega, by rw [hn]; exact r2, by rw [hn]; exact Zn7 rfl (Nat.le_of_lt r3) (fun x hx => Zn8 hx) hgp⟩, ⟨by omega, by omega, s1, GP_B3 hNA hbd hgp he⟩, r4⟩
theorem way_C {y : Int} {n N e : Nat} {m : Bool} {A R : List Tm} (hnf : naf y = A ++ (m, e) :: R) (ha : ∀ a ∈ A, e + 3 ≤ a.2) (hbd : Bd (naf y) (m, e + 1) N) (hgp : GP G (naf y) (m, e + 1)) (hmu : mu (naf y) (m, e + 1) < n + 1) (hw : wt y ≤ 30000) :
   ∃ y' : Int, naf y' = A ++ (!m, e) :: R ∧ y' + tv (m, e + 2) = y + tv (m, e + 1) ∧ mu (naf y') (m, e + 2) < n ∧ wt y' ≤ 30000 ∧ Bd (naf y') (m, e + 2) N ∧ GP G (naf y') (m, e + 2) ∧ e + 1 < N := by
 have hNA : NA (A ++ (m, e) :: R) := by rw [← hnf]; exact Za3 y
 have hv : val (A ++ (m, e) :: R) = y := by rw [← hnf, Zam]
 rw [hnf] at hbd hgp hmu
 obtain ⟨r1, r2, r3, r4, r5⟩ := Zqi hNA ha hbd
 have hn : naf (val (A ++ (!m, e) :: R)) = A ++ (!m, e) :: R := Zbn r2
 rw [hv] at r1
 refine ⟨val (A ++ (!m, e) :: R), hn, r1.symm, by rw [hn]; omega, ?_, by rw [hn]; exact r3, by rw [hn]; exact GP_C hNA ha hbd hgp, r5⟩
 unfold wt at hw ⊢
 rw [hn]
 rw [hnf] at hw
 simpa using hw
structure PS (W : World) (p : Nat) (fv : Value) (vs G : List Int) (bt : Nat) (m : Bool) (x e : Nat) (v : Value) (l : List Wt) (y : Int) (w : World) (fk : Value) (vk : List Int) : Prop where
 grow : Grow W p fv vs G fk vk w
 row : RowW w v l
 box : w.heap[bt]? = some (.cells #[.bool m, .int .i64 (x : Int)] 64 (0, 0))
 tms : TMs vk l (naf y)
 pl : vk[x]? = some (e : Int)
section
variable {bt x e : Nat} {m : Bool} {v fk fk' : Value} {l : List Wt} {y : Int} {w w' : World} {vk vk' : List Int}
theorem PS.step (h : PS W p fv vs G bt m x e v l y w fk vk) (k : Grow w p fk vk G fk' vk' w') : PS W p fv vs G bt m x e v l y w' fk' vk' :=
 ⟨h.grow.trans k, Grow.row h.grow.1 k h.row, (k.2.2.1.block bt (Array.getElem?_eq_some_iff.1 h.box).1 (h.grow.1.not h.box (by decide) (by decide))).trans h.box, h.tms.mono k.2.1, Zci k.2.1 h.pl⟩
theorem PS.below (h : PS W p fv vs G bt m x e v l y w fk vk) (hb : Below w.heap.size w w') : PS W p fv vs G bt m x e v l y w' fk vk := h.step ((Grow.refl h.grow.1).below hb)
theorem PS.cells (h : PS W p fv vs G bt m x e v l y w fk vk) : w.cell? ⟨bt, 0, none⟩ = some (.bool m) ∧ w.cell? ⟨bt, 1, none⟩ = some (.int .i64 (x : Int)) := Ze3 h.box
theorem PS.wo {k : Nat} (h : PS W p fv vs G bt m x e v l y w fk vk) (hk : k < l.length) (hl : l.length ≤ 30000) : ∀ W', Below w.heap.size w W' →
   Calls Tryz.prog 72 #[v, .int .i64 (k : Int)] W' fun r w' => ∃ v', r = .returned v' ∧ PS W p fv vs G bt m x e v l y w' fk vk ∧ RowW w' v' (wo l k) ∧ Below w.heap.size w w' := fun W' hW => by
 refine (Zi0 (k := k) (h.below hW).row hk hl).mono ?_
 rintro r w' ⟨v', rfl, h1, h2⟩
 have hb : Below w.heap.size w w' := hW.trans (h2.mono hW.size)
 exact ⟨v', rfl, h.below hb, h1, hb⟩
theorem PS.next {N x' e' : Nat} (NX : NextOK N) (h : PS W p fv vs G bt m x e v l y w fk vk) (he : e' < N) (hx : vk[x']? = some (e' : Int)) (hG : ((e' + 1 : Nat) : Int) ∈ G) : ∀ W', Below w.heap.size w W' →
   Calls Tryz.prog 36 #[.pointer (some ⟨p, 0, none⟩), .int .i64 (x' : Int)] W' fun r w' => ∃ (f' : Value) (s' : List Int) (i : Nat), r = .returned (.int .i64 (i : Int)) ∧ PS W p fv vs G bt m x e v l y w' f' s' ∧ Grow w p fk vk G f' s' w' ∧ s'[i]? = some ((e' + 1 : Nat) : Int) := fun W' hW => by
 refine (NX (h.below hW).grow.1 x' e' he hx hG).mono ?_
 rintro r w' ⟨f', s', i, rfl, h1, h2⟩
 exact ⟨f', s', i, rfl, (h.below hW).step h1, ((Grow.refl h.grow.1).below hW).trans h1, h2⟩
theorem PS.plus {N n x' e' : Nat} {m' : Bool} {v5 : Value} {l5 : List Wt} {y' : Int} (PL : PlusOK N n) (h : PS W p fv vs G bt m x e v l y w fk vk) (hr : RowW w v5 l5) (ht : TMs vk l5 (naf y')) (hmu : mu (naf y') (m', e') < n) (hx : vk[x']? = some (e' : Int)) (hw : wt y' ≤ 30000) (hbd : Bd (naf y') (m', e') N) (hgp : GP G (naf y') (m', e')) : ∀ W', Below w.heap.size w W' →
   Calls Tryz.prog 35 #[.pointer (some ⟨p, 0, none⟩), v5, .agg #[.bool m', .int .i64 (x' : Int)]] W' fun r w' => ∃ (f' : Value) (s' : List Int) (v' : Value) (l' : List Wt), r = .returned v' ∧ PS W p fv vs G bt m x e v l y w' f' s' ∧ Grow w p fk vk G f' s' w' ∧ RowW w' v' l' ∧ TMs s' l' (naf (y' + tv (m', e'))) := fun W' hW => by
 refine (PL (h.below hW).grow.1 (y := y') hmu (hr.below hW) ht hx hw hbd hgp).mono ?_
 rintro r w' ⟨f', s', v', l', rfl, h1, h2, h3⟩
 exact ⟨f', s', v', l', rfl, (h.below hW).step h1, ((Grow.refl h.grow.1).below hW).trans h1, h2, h3⟩
theorem PS.keep {v5 : Value} {l5 : List Wt} (h : PS W p fv vs G bt m x e v l y w fk vk) (hr : RowW w v5 l5) (k : Grow w p fk vk G fk' vk' w') : RowW w' v5 l5 := Grow.row h.grow.1 k hr
theorem PS.at_row {ba M c1 n x1 : Nat} {m1 : Bool} (hM : M = l.length) (h : PS W p fv vs G bt m x e (.slice (some ⟨ba, 0, none⟩) M c1) l y w fk vk) (hn : l[n]? = some (m1, x1)) : w.cell? ⟨ba, n * 2, none⟩ = some (.bool m1) ∧ w.cell? ⟨ba, n * 2 + 1, none⟩ = some (.int .i64 (x1 : Int)) := by
 obtain ⟨hl, he⟩ := List.getElem?_eq_some_iff.1 hn
 obtain ⟨b, c, ev, y0, y1⟩ := Zao (n := n) h.row hl
 cases ev
 rw [he] at y0 y1
 exact ⟨y0, y1⟩
theorem Zpt {vk : List Int} {l : List Wt} {y : Int} {i j x1 e1 : Nat} {m1 : Bool} (hn : vk.Nodup) (ht : TMs vk l (naf y)) (hl : l[j]? = some (m1, x1)) (hi : vk[i]? = some (e1 : Int)) :
   (((i : Int) == (x1 : Int)) = true → (naf y)[j]? = some (m1, e1)) ∧ (((i : Int) == (x1 : Int)) = false → ∀ m', (naf y)[j]? ≠ some (m', e1)) := by
 obtain ⟨hj, he⟩ := List.getElem?_eq_some_iff.1 hl
 have hj2 : j < (naf y).length := by rw [← ht.len]; exact hj
 obtain ⟨g0, g1⟩ := ht.get j hj hj2
 rw [he] at g0 g1
 simp only at g0 g1
 refine ⟨fun h => ?_, fun h m' h' => ?_⟩
 · have hx : i = x1 := by
     have := eq_of_beq h
     omega
   rw [hx, g1] at hi
   have h2 : ((naf y)[j]).2 = e1 := by
     have := Option.some.inj hi
     omega
   rw [List.getElem?_eq_getElem hj2, ← h2, g0]
 · rw [List.getElem?_eq_getElem hj2] at h'
   have h3 := Option.some.inj h'
   rw [h3] at g1
   have hx := Zbj hn hi g1
   rw [hx] at h
   simp at h
theorem Zn9 {vk : List Int} {i x e1 e : Nat} (hn : vk.Nodup) (hi : vk[i]? = some ((e1 + 1 : Nat) : Int)) (hx : vk[x]? = some (e : Int)) :
   (((i : Int) == (x : Int)) = true → e = e1 + 1) ∧ (((i : Int) == (x : Int)) = false → e ≠ e1 + 1) := by
 refine ⟨fun h => ?_, fun h h' => ?_⟩
 · have := eq_of_beq h
   have hix : i = x := by omega
   rw [hix, hx] at hi
   have := Option.some.inj hi
   omega
 · rw [← h'] at hi
   rw [Zbj hn hi hx] at h
   simp at h
structure PH (W : World) (p : Nat) (fv : Value) (vs G : List Int) (bt : Nat) (m : Bool) (x e : Nat) (v : Value) (l : List Wt) (y : Int) (bh : Nat) (m2 : Bool) (x2 e2 : Nat) (w : World) (fk : Value) (vk : List Int) : Prop where
 ps : PS W p fv vs G bt m x e v l y w fk vk
 box2 : w.heap[bh]? = some (.cells #[.bool m2, .int .i64 (x2 : Int)] 64 (0, 0))
 pl2 : vk[x2]? = some (e2 : Int)
section
variable {bh x2 e2 : Nat} {m2 : Bool}
theorem PH.grow (h : PH W p fv vs G bt m x e v l y bh m2 x2 e2 w fk vk) : Grow W p fv vs G fk vk w := h.ps.grow
theorem PH.tms (h : PH W p fv vs G bt m x e v l y bh m2 x2 e2 w fk vk) : TMs vk l (naf y) := h.ps.tms
theorem PH.pl (h : PH W p fv vs G bt m x e v l y bh m2 x2 e2 w fk vk) : vk[x]? = some (e : Int) := h.ps.pl
theorem PH.cells (h : PH W p fv vs G bt m x e v l y bh m2 x2 e2 w fk vk) : w.cell? ⟨bt, 0, none⟩ = some (.bool m) ∧ w.cell? ⟨bt, 1, none⟩ = some (.int .i64 (x : Int)) := h.ps.cells
theorem PH.cells2 (h : PH W p fv vs G bt m x e v l y bh m2 x2 e2 w fk vk) : w.cell? ⟨bh, 0, none⟩ = some (.bool m2) ∧ w.cell? ⟨bh, 1, none⟩ = some (.int .i64 (x2 : Int)) := Ze3 h.box2
theorem PH.step (h : PH W p fv vs G bt m x e v l y bh m2 x2 e2 w fk vk) (k : Grow w p fk vk G fk' vk' w') : PH W p fv vs G bt m x e v l y bh m2 x2 e2 w' fk' vk' :=
 ⟨h.ps.step k, (k.2.2.1.block bh (Array.getElem?_eq_some_iff.1 h.box2).1 (h.grow.1.not h.box2 (by decide) (by decide))).trans h.box2, Zci k.2.1 h.pl2⟩
theorem PH.below (h : PH W p fv vs G bt m x e v l y bh m2 x2 e2 w fk vk) (hb : Below w.heap.size w w') : PH W p fv vs G bt m x e v l y bh m2 x2 e2 w' fk vk := h.step ((Grow.refl h.grow.1).below hb)
end
theorem PS.set {g j : Nat} (u : Value) (h : PS W p fv vs G bt m x e v l y w fk vk) (hg : ¬ wB p fk g) (ho : Off w fk vk.length g) (hn : W.heap.size ≤ g) (hb : bt ≠ g) (hv : v.ownBlock ≠ some g) : PS W p fv vs G bt m x e v l y (w.setCell ⟨g, j, none⟩ u) fk vk :=
 ⟨h.grow.set u hg ho hn, ownsRow_setCell_other h.row hv u, (Below.heap_setCell _ _ _ _ hb).trans h.box, h.tms, h.pl⟩
structure PO (base : Nat) (w : World) (fk : Value) (vk : List Int) (vo : Value) (n : Nat) (f : List Wt) : Prop where
 own : w.ownsRow base 64 2 vo n (flatW f)
 off : ∀ k, vo.ownBlock = some k → Off w fk vk.length k
theorem PO.step {base n : Nat} {vo : Value} {f : List Wt} (h : PO base w fk vk vo n f) (hM : WM w p fk vk G) (k : Grow w p fk vk G fk' vk' w') : PO base w' fk' vk' vo n f :=
 ⟨hM.own h.own (by decide) (by decide) k.2.2.1, fun b hb => k.2.2.2.2 b (h.own.lt b hb).2 (h.off b hb)⟩
theorem PO.below {base n : Nat} {vo : Value} {f : List Wt} (h : PO base w fk vk vo n f) (hM : WM w p fk vk G) (hb : Below w.heap.size w w') : PO base w' fk vk vo n f := h.step hM ((Grow.refl hM).below hb)
theorem PO.not {base n b : Nat} {vo : Value} {f : List Wt} (h : PO base w fk vk vo n f) (hM : WM w p fk vk G) (hb : vo.ownBlock = some b) : ¬ wB p fk b := by
 obtain ⟨c, hc⟩ := Zau h.own b hb
 exact hM.not hc (by decide) (by decide)
theorem TMs.set : ∀ {ts : List Wt} {l : List Tm} {k : Nat} {m m' : Bool} {x e : Nat}, TMs vk ts l → ts[k]? = some (m, x) → l[k]? = some (m, e) → TMs vk (ts.set k (m', x)) (l.set k (m', e))
 | t :: ts, u :: l, 0, m, m', x, e, h, h1, h2 => by
   simp only [List.getElem?_cons_zero, Option.some.injEq] at h1 h2
   subst h1 h2
   exact ⟨⟨rfl, h.1.2⟩, h.2⟩
 | t :: ts, u :: l, k + 1, m, m', x, e, h, h1, h2 => by
   simp only [List.getElem?_cons_succ] at h1 h2
   exact ⟨h.1, TMs.set h.2 h1 h2⟩
 | [], _, k, _, _, _, _, _, h1, _ => by simp at h1
 | _, [], k, _, _, _, _, _, _, h2 => by simp at h2
theorem Zgx : ∀ {ts : List Wt} {k : Nat} {m m' : Bool} {x : Nat}, ts[k]? = some (m, x) → (flatW ts).set (k * 2) (.bool m') = flatW (ts.set k (m', x))
 | t :: ts, 0, m, m', x, h => by
   simp only [List.getElem?_cons_zero, Option.some.injEq] at h
   subst h
   simp [flatW, cellsW]
 | t :: ts, k + 1, m, m', x, h => by
   simp only [List.getElem?_cons_succ] at h
   have := Zgx (m' := m') h
   rw [List.set_cons_succ, Zc8, Zc8, ← this, show (k + 1) * 2 = k * 2 + 2 by omega]
   simp [cellsW]
 | [], k, _, _, _, h => by simp at h
theorem Zpu {k : Nat} {u : Tm} {L : List Tm} (h : L[k]? = some u) : L = L.take k ++ u :: L.drop (k + 1) := by
 obtain ⟨h1, h2⟩ := List.getElem?_eq_some_iff.1 h
 conv => lhs; rw [← List.take_append_drop k L, List.drop_eq_getElem_cons h1, h2]
theorem set_at {k : Nat} {u u' : Tm} {L : List Tm} (h : L[k]? = some u) : L.set k u' = L.take k ++ u' :: L.drop (k + 1) := by
 obtain ⟨h1, h2⟩ := List.getElem?_eq_some_iff.1 h
 rw [List.set_eq_take_append_cons_drop, if_pos h1]
theorem Zj2 {k e : Nat} {L : List Tm} (hn : NA L) (hk : k ≤ L.length) (ha : ∀ u ∈ L.take k, e < u.2) (hne : ∀ j m', k = j + 1 → L[j]? ≠ some (m', e + 1)) : ∀ u ∈ L.take k, e + 2 ≤ u.2 := by
 intro u hu
 obtain ⟨i, hi, rfl⟩ := List.mem_iff_getElem.1 hu
 have hi2 : i < k ∧ i < L.length := by simp at hi; omega
 rw [List.getElem_take]
 have hlast : e + 2 ≤ (L[k - 1]'(by omega)).2 := by
   have h1 := ha (L[k - 1]'(by omega)) (List.mem_iff_getElem.2 ⟨k - 1, by simp; omega, by rw [List.getElem_take]⟩)
   have h2 : (L[k - 1]'(by omega)).2 ≠ e + 1 := fun h => hne (k - 1) (L[k - 1]'(by omega)).1 (by omega) (List.getElem?_eq_some_iff.2 ⟨by omega, by rw [← h]⟩)
   omega
 rcases Nat.lt_or_ge i (k - 1) with h | h
 · have := List.pairwise_iff_getElem.1 hn i (k - 1) (by omega) (by omega) h
   omega
 · have : i = k - 1 := by omega
   subst this
   exact hlast
theorem Ze4 (w : World) (A B : Obj) : ((w.alloc A).alloc B).heap[w.heap.size]? = some A ∧ ((w.alloc A).alloc B).heap[w.heap.size + 1]? = some B := by
 constructor
 · have h := heap_alloc_new w A
   have := ((Below.refl (w.alloc A).heap.size (w.alloc A)).alloc (zl) B).block w.heap.size (by simp)
   exact this.trans h
 · have := heap_alloc_new (w.alloc A) B
   simpa using this
theorem lit0 (w : World) (base : Nat) (hb : base ≤ w.heap.size) : (w.alloc (.cells #[] 64)).ownsRow base 64 2 (.slice (some ⟨w.heap.size, 0, none⟩) 0 0) 0 [] := World.ownsRow_lit w #[] 0 hb (by decide) rfl
theorem lit1 (w : World) (base : Nat) (hb : base ≤ w.heap.size) (o : Obj) : ((w.alloc (.cells #[] 64)).alloc o).ownsRow base 64 2 (.slice (some ⟨w.heap.size, 0, none⟩) 0 0) 0 [] := (lit0 w base hb).alloc o
theorem lit2 (w : World) (base : Nat) (hb : base ≤ w.heap.size) (o : Obj) : ((w.alloc o).alloc (.cells #[] 64)).ownsRow base 64 2 (.slice (some ⟨w.heap.size + 1, 0, none⟩) 0 0) 0 [] := by
 have := lit0 (w.alloc o) base (by simp; omega)
 simpa using this
theorem Za6 {P : Program} (w : World) {ops : Array Oper} {o : Oper} {a : Act} {K : Act → World → Prop} {Q : Exit → Act → World → Prop} {E : Prop} (hgd : o.guard = none) (s x : Operand) (t : TypeId)
   (ho : o.op = .call { callee := .builtin .append, args := #[s, x], argTypes := #[t, t] })
   (base : Nat) (e : TypeId) (i : TypeInfo) (z : Value) (size bytes : Nat) (ht : P.underlying t = some (.slice e)) (hi : P.info? e = some i) (hz : i.zero = some z)
   (hsize : i.size = size) (hby : i.bytes = bytes) (hzs : z.cells.size = size) (hsz : 0 < size)
   (v : Value) (n : Nat) (xs : List Value) (hs : a.eval s = v) (hown : w.ownsRow base e size v n xs)
   (sv : Value) (m : Nat) (news : List Value) (hx : a.eval x = sv) (hr : RowV w size sv m news) (h1 : ∀ u ∈ news, u.oneCell' = true)
   (h63 : n + m ≤ maxLen) (hbytes : (n + m) * bytes ≤ 140737488355328) (hbase : base ≤ w.heap.size)
   (h : ∀ a' c' w', w'.ownsRow base e size (.slice a' (n + m) c') (n + m) (xs ++ news) → w.grownBy w' v.ownBlock → K (a.put o.dst (.slice a' (n + m) c')) w') :
   if Region.wanted o (yielded ops a.tmps) = true then Oper.wp P o a w K Q else E := by
 have hw : Region.wanted o (yielded ops a.tmps) = true := by simp [Region.wanted, hgd]
 rw [if_pos hw]
 obtain ⟨hl, hr⟩ := hr
 rcases hr with ⟨rfl, rfl⟩ | ⟨b, off, cap, rfl, hc, hm, hb, hr⟩
 · obtain rfl : news = [] := List.length_eq_zero_iff.1 (by simpa using hl)
   have hrun := run_append_owned_none (P := P) (w := w) base t o.type e i size ht hi v n xs hown
   obtain ⟨a', c', e'⟩ := (RowV.of_own hown).shape
   unfold Oper.wp
   simp [execOp, ho, resolve, invoke, builtin, hs, hx, hrun, Result.andThen]
   have := h a' c' w (by rw [Nat.add_zero, List.append_nil, ← e']; exact hown) ⟨rfl, rfl, rfl, zl, fun _ _ _ => rfl⟩
   rw [Nat.add_zero, ← e'] at this
   exact this
 · obtain ⟨v', w', hrun, h2, h3, h4, h5⟩ := run_append_own_at (P := P) w base t o.type e i z size bytes ht hi hz hsize hby hzs hsz v n xs hown ⟨b, off, none⟩ m cap news hl (fun j u hj => by rw [Zbl]; exact hr j u hj) h1 h63 hbytes hbase
   obtain ⟨a', c', rfl⟩ := (RowV.of_own h2).shape
   unfold Oper.wp execOp
   simp only [ho, resolve, invoke, builtin, Sem.run_bind, Sem.run_pure, Result.andThen_ok, List.map_toArray, List.map_cons, List.map_nil, hs, hx, hrun]
   exact h a' c' w' h2 h3
theorem Zgj {w : World} {b x : Nat} {m : Bool} (h : w.heap[b]? = some (.cells #[.bool m, .int .i64 (x : Int)] 64 (0, 0))) : RowV w 2 (.slice (some ⟨b, 0, none⟩) 1 1) 1 (flatW [(m, x)]) := by
 refine ⟨rfl, .inr ⟨b, 0, 1, rfl, zl, by decide, (Array.getElem?_eq_some_iff.1 h).1, fun j u hj => ?_⟩⟩
 rw [cell_of_row w b _ _ _ _ h]
 simpa [flatW, cellsW] using hj
end
end
section
end
end Go.Proofs.YtlkmgclbckojgaaGreatDoor

