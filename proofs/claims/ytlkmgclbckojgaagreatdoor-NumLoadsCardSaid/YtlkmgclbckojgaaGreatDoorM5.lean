set_option linter.unusedVariables false
set_option linter.unusedSimpArgs false
namespace Go.Proofs.YtlkmgclbckojgaaGreatDoor
section
abbrev Tm := Bool × Nat
def sg (m : Bool) : Int := if m then -1 else 1
def tv (t : Tm) : Int := sg t.1 * 2 ^ t.2
def val : List Tm → Int
 | [] => 0
 | t :: l => tv t + val l
def NA (l : List Tm) : Prop := l.Pairwise (fun t u => u.2 + 2 ≤ t.2)
theorem Zay (m : Bool) : (m = true ∧ sg m = -1) ∨ (m = false ∧ sg m = 1) := by cases m <;> simp [sg]
theorem Za2 (l m : List Tm) : val (l ++ m) = val l + val m := by
 induction l with
 | nil => simp [val]
 | cons t l ih => simp only [List.cons_append, val, ih]; omega
theorem Zg4 (l : List Tm) : val l.reverse = val l := by
 induction l with
 | nil => rfl
 | cons t l ih => simp only [List.reverse_cons, Za2, val, ih]; omega
theorem pow_pos (n : Nat) : (0 : Int) < 2 ^ n := Int.pow_pos (by decide)
theorem Zai (n : Nat) : (2 : Int) ^ (n + 1) = 2 * 2 ^ n := by rw [Int.pow_succ]; omega
theorem Zc2 {a b : Nat} (h : a ≤ b) : (2 : Int) ^ a ≤ 2 ^ b := by
 obtain ⟨d, rfl⟩ := Nat.le.dest h
 induction d with
 | zero => exact Int.le_refl _
 | succ d ih => have := ih (by omega); rw [show a + (d + 1) = (a + d) + 1 from by omega, Zai]; have := pow_pos (a + d); omega
theorem NA.tail {t : Tm} {l : List Tm} (h : NA (t :: l)) : NA l := (List.pairwise_cons.1 h).2
theorem NA.head {t : Tm} {l : List Tm} (h : NA (t :: l)) : ∀ u ∈ l, u.2 + 2 ≤ t.2 := (List.pairwise_cons.1 h).1
theorem Zd4 : ∀ (l : List Tm) (b : Nat), NA l → (∀ t ∈ l, t.2 < b) → 3 * val l < 2 ^ (b + 1) ∧ -(2 ^ (b + 1)) < 3 * val l
 | [], b, _, _ => by have := pow_pos (b + 1); simp only [val]; omega
 | t :: l, b, h, hb => by
   have ht := hb t (List.mem_cons_self ..)
   have p2 : (2 : Int) ^ (t.2 + 2) ≤ 2 ^ (b + 1) := Zc2 (by omega)
   have p3 : (2 : Int) ^ (t.2 + 2) = 4 * 2 ^ t.2 := by rw [show t.2 + 2 = (t.2 + 1) + 1 from rfl, Zai, Zai]; omega
   have p4 := pow_pos t.2
   have hv : 3 * val l < 2 ^ t.2 ∧ -(2 ^ t.2) < 3 * val l := by
     rcases Nat.eq_zero_or_pos t.2 with hz | hz
     · have : l = [] := by
         cases l with
         | nil => rfl
         | cons u l => have := h.head u (List.mem_cons_self ..); omega
       subst this; simp only [val]; omega
     · have ih := Zd4 l (t.2 - 1) h.tail (fun u hu => by have := h.head u hu; omega)
       rw [show t.2 - 1 + 1 = t.2 from by omega] at ih
       exact ih
   simp only [val, tv]
   rcases Zay t.1 with ⟨_, e⟩ | ⟨_, e⟩ <;> rw [e] <;> omega
theorem Zp7 {t : Tm} {l : List Tm} (h : NA (t :: l)) : 3 * val l < 2 ^ t.2 ∧ -(2 ^ t.2) < 3 * val l := by
 rcases Nat.eq_zero_or_pos t.2 with hz | hz
 · have : l = [] := by
     cases l with
     | nil => rfl
     | cons u l => have := h.head u (List.mem_cons_self ..); omega
   subst this; have := pow_pos t.2; simp only [val]; omega
 · have ih := Zd4 l (t.2 - 1) h.tail (fun u hu => by have := h.head u hu; omega)
   rw [show t.2 - 1 + 1 = t.2 from by omega] at ih
   exact ih
theorem Zbm {t : Tm} {l : List Tm} (h : NA (t :: l)) : 2 * 2 ^ t.2 < 3 * (sg t.1 * val (t :: l)) ∧ 3 * (sg t.1 * val (t :: l)) < 4 * 2 ^ t.2 := by
 have hv := Zp7 h
 have p4 := pow_pos t.2
 simp only [val, tv]
 rcases Zay t.1 with ⟨_, e⟩ | ⟨_, e⟩ <;> rw [e] <;> omega
def sgn (z : Int) : Int := if z < 0 then -1 else if z = 0 then 0 else 1
def cmpN (a b : Nat) : Int := if a < b then -1 else if a = b then 0 else 1
def cmpT (t u : Tm) : Int := if t.1 != u.1 then sg t.1 else sg t.1 * cmpN t.2 u.2
def cmpL : List Tm → List Tm → Int
 | [], [] => 0
 | t :: _, [] => sg t.1
 | [], u :: _ => -sg u.1
 | t :: l, u :: m => if cmpT t u ≠ 0 then cmpT t u else cmpL l m
theorem Zov (z : Int) : sgn (-z) = -sgn z := by unfold sgn; split <;> (try split) <;> (try split) <;> (try split) <;> omega
theorem Zd5 {z : Int} (h : 0 < z) : sgn z = 1 := by unfold sgn; rw [if_neg (by omega), if_neg (by omega)]
theorem Zf4 {z : Int} (h : z < 0) : sgn z = -1 := by unfold sgn; rw [if_pos h]
theorem Zmj : sgn 0 = 0 := rfl
theorem Zfc {t : Tm} {l : List Tm} (h : NA (t :: l)) : sgn (val (t :: l)) = sg t.1 := by
 have hv := Zbm h
 have p4 := pow_pos t.2
 rcases Zay t.1 with ⟨_, e⟩ | ⟨_, e⟩ <;> rw [e] at hv ⊢
 · exact Zf4 (by omega)
 · exact Zd5 (by omega)
theorem Zg5 {t u : Tm} (h : cmpT t u = 0) : t = u := by
 obtain ⟨a, b⟩ := t
 obtain ⟨c, d⟩ := u
 simp only [cmpT, cmpN] at h
 cases a <;> cases c <;> simp [sg] at h ⊢ <;> split at h <;> (try split at h) <;> (try omega)
theorem Zow (t : Tm) : cmpT t t = 0 := by simp [cmpT, cmpN]
theorem Zgo : ∀ (l m : List Tm), NA l → NA m → cmpL l m = sgn (val l - val m)
 | [], [], _, _ => rfl
 | t :: l, [], h, _ => by rw [cmpL, show val (t :: l) - val [] = val (t :: l) from by simp only [val]; omega, Zfc h]
 | [], u :: m, _, h => by rw [cmpL, show val [] - val (u :: m) = -val (u :: m) from by simp only [val]; omega, Zov, Zfc h]
 | t :: l, u :: m, h, k => by
   rw [cmpL]
   by_cases hz : cmpT t u = 0
   · obtain rfl := Zg5 hz
     rw [if_neg (by simp [hz]), Zgo l m h.tail k.tail]
     congr 1
     simp only [val]; omega
   · rw [if_pos hz]
     have h1 := Zbm h
     have k1 := Zbm k
     have p1 := pow_pos t.2
     have p2 := pow_pos u.2
     generalize val (t :: l) = x at *
     generalize val (u :: m) = y at *
     obtain ⟨a, b⟩ := t
     obtain ⟨c, d⟩ := u
     simp only at *
     rcases Nat.lt_trichotomy b d with hb | hb | hb
     · have p3 : (2 : Int) ^ (b + 1) ≤ 2 ^ d := Zc2 (by omega)
       rw [Zai] at p3
       cases a <;> cases c <;> simp [sg, cmpT, cmpN, hb] at h1 k1 ⊢ <;> first | rw [Zf4 (by omega)] | rw [Zd5 (by omega)]
     · subst hb
       cases a <;> cases c <;> simp [sg, cmpT, cmpN] at h1 k1 hz ⊢ <;> first | rw [Zf4 (by omega)] | rw [Zd5 (by omega)]
     · have p3 : (2 : Int) ^ (d + 1) ≤ 2 ^ b := Zc2 (by omega)
       rw [Zai] at p3
       have n1 : ¬ b < d := by omega
       have n2 : ¬ b = d := by omega
       cases a <;> cases c <;> simp [sg, cmpT, cmpN, n1, n2] at h1 k1 ⊢ <;> first | rw [Zf4 (by omega)] | rw [Zd5 (by omega)]
theorem Zkd : ∀ (l m : List Tm), cmpL l m = 0 → l = m
 | [], [], _ => rfl
 | t :: l, [], h => by rw [cmpL] at h; rcases Zay t.1 with ⟨_, e⟩ | ⟨_, e⟩ <;> omega
 | [], u :: m, h => by rw [cmpL] at h; rcases Zay u.1 with ⟨_, e⟩ | ⟨_, e⟩ <;> omega
 | t :: l, u :: m, h => by
   rw [cmpL] at h
   by_cases hz : cmpT t u = 0
   · rw [if_neg (by simp [hz])] at h
     rw [Zg5 hz, Zkd l m h]
   · rw [if_pos hz] at h; exact absurd h hz
theorem Zlj {l m : List Tm} (h : NA l) (k : NA m) (e : val l = val m) : l = m := by
 refine Zkd l m ?_
 rw [Zgo l m h k, e, show val m - val m = 0 from by omega]; rfl
def nafUp (z : Int) (e : Nat) : List Tm :=
 if z = 0 then [] else
 if z % 2 = 0 then nafUp (z / 2) (e + 1) else
 if z % 4 = 1 then (false, e) :: nafUp ((z - 1) / 2) (e + 1) else (true, e) :: nafUp ((z + 1) / 2) (e + 1)
termination_by z.natAbs
decreasing_by all_goals omega
theorem Zda (e : Nat) : nafUp 0 e = [] := by rw [nafUp]; simp
def naf (z : Int) : List Tm := (nafUp z 0).reverse
theorem Zie (n : Nat) : ∀ (z : Int) (e : Nat), z.natAbs ≤ n →
   (nafUp z e).Pairwise (fun t u => t.2 + 2 ≤ u.2) ∧ (∀ t ∈ nafUp z e, e + (if z % 2 = 0 then 1 else 0) ≤ t.2) ∧ val (nafUp z e) = z * 2 ^ e := by
 induction n with
 | zero =>
   intro z e h
   obtain rfl : z = 0 := by omega
   rw [nafUp]; simp [val]
 | succ n ih =>
   intro z e h
   rw [nafUp]
   by_cases h0 : z = 0
   · subst h0; simp [val]
   rw [if_neg h0]
   by_cases h2 : z % 2 = 0
   · rw [if_pos h2]
     obtain ⟨a, b, c⟩ := ih (z / 2) (e + 1) (by omega)
     refine ⟨a, fun t ht => ?_, ?_⟩
     · have := b t ht; rw [if_pos h2]; omega
     · rw [c, Zai, ← Int.mul_assoc, Int.mul_comm (z / 2) 2, show 2 * (z / 2) = z from by omega]
   rw [if_neg h2]
   by_cases h4 : z % 4 = 1
   · rw [if_pos h4]
     obtain ⟨a, b, c⟩ := ih ((z - 1) / 2) (e + 1) (by omega)
     have he : (z - 1) / 2 % 2 = 0 := by omega
     rw [if_pos he] at b
     refine ⟨List.pairwise_cons.2 ⟨fun t ht => by have := b t ht; simp only; omega, a⟩, fun t ht => ?_, ?_⟩
     · rw [if_neg h2]
       rcases List.mem_cons.1 ht with rfl | ht
       · simp
       · have := b t ht; omega
     · simp only [val, tv, sg, c]
       rw [Zai, ← Int.mul_assoc, show (z - 1) / 2 * 2 = z - 1 from by omega, Int.sub_mul]; simp; omega
   · rw [if_neg h4]
     obtain ⟨a, b, c⟩ := ih ((z + 1) / 2) (e + 1) (by omega)
     have he : (z + 1) / 2 % 2 = 0 := by omega
     rw [if_pos he] at b
     refine ⟨List.pairwise_cons.2 ⟨fun t ht => by have := b t ht; simp only; omega, a⟩, fun t ht => ?_, ?_⟩
     · rw [if_neg h2]
       rcases List.mem_cons.1 ht with rfl | ht
       · simp
       · have := b t ht; omega
     · simp only [val, tv, sg, c]
       rw [Zai, ← Int.mul_assoc, show (z + 1) / 2 * 2 = z + 1 from by omega, Int.add_mul]; simp; omega
theorem Za3 (z : Int) : NA (naf z) := by
 have := (Zie z.natAbs z 0 (Nat.le_refl _)).1
 unfold NA naf
 rw [List.pairwise_reverse]
 exact this
theorem Zam (z : Int) : val (naf z) = z := by
 unfold naf
 rw [Zg4, (Zie z.natAbs z 0 (Nat.le_refl _)).2.2]; simp
theorem Zbn {l : List Tm} (h : NA l) : naf (val l) = l := Zlj (Za3 _) h (Zam _)
theorem Zdb {l : List Tm} {z : Int} (h : NA l) (e : val l = z) : naf z = l := by rw [← e]; exact Zbn h
theorem Zef : naf 0 = [] := by simp [naf, nafUp]
theorem Zfp {z : Int} (h : naf z = []) : z = 0 := by rw [← Zam z, h]; rfl
theorem Zjc (n : Nat) : naf (2 ^ n) = [(false, n)] := Zdb (by simp [NA]) (by simp [val, tv, sg])
def wt (z : Int) : Nat := (naf z).length
theorem Zg6 (n : Nat) : ∀ (z : Int) (e f : Nat), z.natAbs ≤ n → (nafUp z e).length = (nafUp z f).length := by
 induction n with
 | zero =>
   intro z e f h
   obtain rfl : z = 0 := by omega
   rw [Zda, Zda]
 | succ n ih =>
   intro z e f h
   rw [nafUp, nafUp.eq_def z f]
   by_cases h0 : z = 0
   · simp [h0]
   rw [if_neg h0, if_neg h0]
   by_cases h2 : z % 2 = 0
   · rw [if_pos h2, if_pos h2]; exact ih _ _ _ (by omega)
   rw [if_neg h2, if_neg h2]
   by_cases h4 : z % 4 = 1
   · rw [if_pos h4, if_pos h4]; simp only [List.length_cons]; rw [ih _ (e + 1) (f + 1) (by omega)]
   · rw [if_neg h4, if_neg h4]; simp only [List.length_cons]; rw [ih _ (e + 1) (f + 1) (by omega)]
theorem Zfq : wt 0 = 0 := by simp [wt, Zef]
theorem Za9 (y : Int) : wt (2 * y) = wt y := by
 unfold wt naf
 rw [List.length_reverse, List.length_reverse]
 rw [nafUp]
 by_cases h0 : 2 * y = 0
 · have : y = 0 := by omega
   subst this; simp [Zda]
 rw [if_neg h0, if_pos (by omega), show 2 * y / 2 = y from by omega]
 exact Zg6 _ _ _ _ (Nat.le_refl _)
theorem Zb4 (u : Int) : wt (4 * u + 1) = wt u + 1 := by
 rw [← Za9 u]
 unfold wt naf
 rw [List.length_reverse, List.length_reverse]
 rw [nafUp, if_neg (by omega), if_neg (by omega), if_pos (by omega), show (4 * u + 1 - 1) / 2 = 2 * u from by omega, List.length_cons]
 rw [Zg6 _ (2 * u) _ 0 (Nat.le_refl _)]
theorem Zbp (u : Int) : wt (4 * u - 1) = wt u + 1 := by
 rw [← Za9 u]
 unfold wt naf
 rw [List.length_reverse, List.length_reverse]
 rw [nafUp, if_neg (by omega), if_neg (by omega), if_neg (by omega), show (4 * u - 1 + 1) / 2 = 2 * u from by omega, List.length_cons]
 rw [Zg6 _ (2 * u) _ 0 (Nat.le_refl _)]
theorem Zke (n : Nat) : ∀ z : Int, z.natAbs ≤ n → wt (z + 1) ≤ wt z + 1 ∧ wt (z - 1) ≤ wt z + 1 := by
 induction n with
 | zero =>
   intro z h
   obtain rfl : z = 0 := by omega
   have a : wt 1 = 1 := by have := Zb4 0; rw [Zfq] at this; simpa using this
   have b : wt (-1) = 1 := by have := Zbp 0; rw [Zfq] at this; simpa using this
   rw [Zfq]; simp [a, b]
 | succ n ih =>
   intro z h
   have hc : z % 4 = 0 ∨ z % 4 = 1 ∨ z % 4 = 2 ∨ z % 4 = 3 := by omega
   rcases hc with hc | hc | hc | hc
   · obtain ⟨u, rfl⟩ : ∃ u, z = 4 * u := ⟨z / 4, by omega⟩
     rw [Zb4, Zbp, show 4 * u = 2 * (2 * u) from by omega, Za9, Za9]; omega
   · obtain ⟨u, rfl⟩ : ∃ u, z = 4 * u + 1 := ⟨z / 4, by omega⟩
     rw [Zb4, show 4 * u + 1 + 1 = 2 * (2 * u + 1) from by omega, Za9, show 4 * u + 1 - 1 = 2 * (2 * u) from by omega, Za9, Za9]
     refine ⟨?_, by omega⟩
     rcases (show u % 2 = 0 ∨ u % 2 = 1 by omega) with hu | hu
     · obtain ⟨v, rfl⟩ : ∃ v, u = 2 * v := ⟨u / 2, by omega⟩
       rw [show 2 * (2 * v) + 1 = 4 * v + 1 from by omega, Zb4, Za9]; omega
     · obtain ⟨v, rfl⟩ : ∃ v, u = 2 * v - 1 := ⟨(u + 1) / 2, by omega⟩
       have := (ih (2 * v - 1) (by omega)).1
       rw [show 2 * (2 * v - 1) + 1 = 4 * v - 1 from by omega, Zbp]
       rw [show 2 * v - 1 + 1 = 2 * v from by omega, Za9] at this
       omega
   · obtain ⟨u, rfl⟩ : ∃ u, z = 4 * u + 2 := ⟨z / 4, by omega⟩
     have e1 : wt (4 * u + 2) = wt (2 * u + 1) := by rw [show 4 * u + 2 = 2 * (2 * u + 1) from by omega, Za9]
     have i1 := ih u (by omega)
     have e2 : wt (2 * u + 1) = (if u % 2 = 0 then wt u else wt (u + 1)) + 1 := by
       rcases (show u % 2 = 0 ∨ u % 2 = 1 by omega) with hu | hu
       · obtain ⟨v, rfl⟩ : ∃ v, u = 2 * v := ⟨u / 2, by omega⟩
         rw [if_pos hu, show 2 * (2 * v) + 1 = 4 * v + 1 from by omega, Zb4, Za9]
       · obtain ⟨v, rfl⟩ : ∃ v, u = 2 * v - 1 := ⟨(u + 1) / 2, by omega⟩
         rw [if_neg (by omega), show 2 * (2 * v - 1) + 1 = 4 * v - 1 from by omega, Zbp, show 2 * v - 1 + 1 = 2 * v from by omega, Za9]
     have i2 := ih (u + 1) (by omega)
     rw [show u + 1 - 1 = u from by omega] at i2
     rw [show 4 * u + 2 + 1 = 4 * (u + 1) - 1 from by omega, Zbp, show 4 * u + 2 - 1 = 4 * u + 1 from by omega, Zb4, e1, e2]
     split <;> omega
   · obtain ⟨u, rfl⟩ : ∃ u, z = 4 * u - 1 := ⟨(z + 1) / 4, by omega⟩
     rw [Zbp, show 4 * u - 1 + 1 = 2 * (2 * u) from by omega, Za9, Za9, show 4 * u - 1 - 1 = 2 * (2 * u - 1) from by omega, Za9]
     refine ⟨by omega, ?_⟩
     rcases (show u % 2 = 0 ∨ u % 2 = 1 by omega) with hu | hu
     · obtain ⟨v, rfl⟩ : ∃ v, u = 2 * v := ⟨u / 2, by omega⟩
       rw [show 2 * (2 * v) - 1 = 4 * v - 1 from by omega, Zbp, Za9]; omega
     · obtain ⟨v, rfl⟩ : ∃ v, u = 2 * v + 1 := ⟨u / 2, by omega⟩
       have := (ih (2 * v + 1) (by omega)).2
       rw [show 2 * (2 * v + 1) - 1 = 4 * v + 1 from by omega, Zb4]
       rw [show 2 * v + 1 - 1 = 2 * v from by omega, Za9] at this
       omega
theorem wt_pow (e : Nat) : ∀ z : Int, wt (z + 2 ^ e) ≤ wt z + 1 ∧ wt (z - 2 ^ e) ≤ wt z + 1 := by
 induction e with
 | zero => intro z; simpa using Zke _ z (Nat.le_refl _)
 | succ e ih =>
   intro z
   rw [Zai]
   rcases (show z % 2 = 0 ∨ z % 2 = 1 by omega) with hz | hz
   · obtain ⟨y, rfl⟩ : ∃ y, z = 2 * y := ⟨z / 2, by omega⟩
     rw [← Int.mul_add, ← Int.mul_sub, Za9, Za9, Za9]; exact ih y
   cases e with
   | zero =>
     rcases (show z % 4 = 1 ∨ z % 4 = 3 by omega) with h4 | h4
     · obtain ⟨u, rfl⟩ : ∃ u, z = 4 * u + 1 := ⟨z / 4, by omega⟩
       have := Zke _ u (Nat.le_refl _)
       rw [show 4 * u + 1 + 2 * 2 ^ 0 = 4 * (u + 1) - 1 from by omega, show 4 * u + 1 - 2 * 2 ^ 0 = 4 * u - 1 from by omega, Zb4, Zbp, Zbp]; omega
     · obtain ⟨u, rfl⟩ : ∃ u, z = 4 * u - 1 := ⟨(z + 1) / 4, by omega⟩
       have := Zke _ u (Nat.le_refl _)
       rw [show 4 * u - 1 + 2 * 2 ^ 0 = 4 * u + 1 from by omega, show 4 * u - 1 - 2 * 2 ^ 0 = 4 * (u - 1) + 1 from by omega, Zb4, Zb4, Zbp]; omega
   | succ e =>
     have key : ∀ u : Int, wt (u + 2 ^ e) ≤ wt u + 1 ∧ wt (u - 2 ^ e) ≤ wt u + 1 := by
       intro u
       have := ih (2 * u)
       rw [Zai, ← Int.mul_add, ← Int.mul_sub, Za9, Za9, Za9] at this
       exact this
     rw [Zai]
     rcases (show z % 4 = 1 ∨ z % 4 = 3 by omega) with h4 | h4
     · obtain ⟨u, rfl⟩ : ∃ u, z = 4 * u + 1 := ⟨z / 4, by omega⟩
       rw [show 4 * u + 1 + 2 * (2 * 2 ^ e) = 4 * (u + 2 ^ e) + 1 from by omega, show 4 * u + 1 - 2 * (2 * 2 ^ e) = 4 * (u - 2 ^ e) + 1 from by omega, Zb4, Zb4, Zb4]
       have := key u; omega
     · obtain ⟨u, rfl⟩ : ∃ u, z = 4 * u - 1 := ⟨(z + 1) / 4, by omega⟩
       rw [show 4 * u - 1 + 2 * (2 * 2 ^ e) = 4 * (u + 2 ^ e) - 1 from by omega, show 4 * u - 1 - 2 * (2 * 2 ^ e) = 4 * (u - 2 ^ e) - 1 from by omega, Zbp, Zbp, Zbp]
       have := key u; omega
theorem wt_tv (z : Int) (t : Tm) : wt (z + tv t) ≤ wt z + 1 := by
 have := wt_pow t.2 z
 unfold tv
 rcases Zay t.1 with ⟨_, e⟩ | ⟨_, e⟩ <;> rw [e]
 · rw [show z + -1 * 2 ^ t.2 = z - 2 ^ t.2 from by omega]; exact this.2
 · rw [show z + 1 * 2 ^ t.2 = z + 2 ^ t.2 from by omega]; exact this.1
theorem Zox : ∀ l : List Tm, wt (val l) ≤ l.length
 | [] => by simp [val, Zfq]
 | t :: l => by
   have := Zox l
   have := wt_tv (val l) t
   simp only [val, List.length_cons]
   rw [Int.add_comm]; omega
theorem Zp8 (n : Nat) : 3 * (n : Int) ≤ 2 ^ (n + 1) := by
 induction n with
 | zero => decide
 | succ n ih => rw [Zai]; have := Zc2 (a := 1) (b := n + 1) (by omega); simp at this; omega
theorem Zbf {z : Int} {t : Tm} (h : t ∈ naf z) : t.2 < z.natAbs := by
 have hz := Zam z
 have hn := Za3 z
 cases hl : naf z with
 | nil => rw [hl] at h; exact absurd h (by simp)
 | cons u l =>
   rw [hl] at h hn hz
   have hu : t.2 ≤ u.2 := by
     rcases List.mem_cons.1 h with rfl | h
     · omega
     · have := hn.head t h; omega
   have h1 := (Zbm hn).1
   rw [hz] at h1
   have h2 := Zp8 u.2
   rw [Zai] at h2
   rcases Zay u.1 with ⟨_, e⟩ | ⟨_, e⟩ <;> rw [e] at h1 <;> omega
end
section
def cntE (l : List Tm) (e : Nat) : Nat := l.countP (fun t => t.2 == e)
theorem Zdc {l : List Tm} {e : Nat} (h : ∀ t ∈ l, t.2 ≠ e) : cntE l e = 0 := by
 unfold cntE
 rw [List.countP_eq_zero]
 intro t ht
 simpa using h t ht
theorem Zkf (l : List Tm) (t : Tm) (e : Nat) : cntE (l ++ [t]) e = cntE l e + (if t.2 = e then 1 else 0) := by
 unfold cntE
 simp [List.countP_append, List.countP_cons]
def Falls (l : List Tm) : Prop := l.Pairwise (fun t u => u.2 ≤ t.2)
theorem Falls.take {l : List Tm} (h : Falls l) (n : Nat) : Falls (l.take n) := List.Pairwise.sublist (List.take_sublist ..) h
theorem Falls.snoc {l : List Tm} {t : Tm} (h : Falls (l ++ [t])) : ∀ u ∈ l, t.2 ≤ u.2 := by
 intro u hu
 exact (List.pairwise_append.1 h).2.2 u hu t (by simp)
structure MidS (l : List Tm) (left : Nat) (c : Int) (a : Nat) (out : List Tm) : Prop where
 hl : left ≤ l.length
 hv : val (l.take left) + c * 2 ^ a + val out = val l
 hn : NA out.reverse
 hc : c.natAbs ≤ l.length - left
 ha : ∀ u ∈ l.take left, a ≤ u.2
 lt : ∀ t, out.getLast? = some t → (∀ u ∈ l.take left, t.2 < u.2) ∧ t.2 < a ∧ (a = t.2 + 1 → (c + cntE (l.take left) a) % 2 = 0)
structure OutS (l : List Tm) (left : Nat) (c : Int) (a : Nat) (out : List Tm) : Prop where
 hl : left ≤ l.length
 hv : val (l.take left) + c * 2 ^ a + val out = val l
 hn : NA out.reverse
 hc : c.natAbs ≤ l.length - left
 ha : c ≠ 0 → ∀ u ∈ l.take left, a ≤ u.2
 lt : ∀ t, out.getLast? = some t → (∀ u ∈ l.take left, t.2 < u.2) ∧ (c = 0 → cntE (l.take left) (t.2 + 1) % 2 = 0) ∧ (c ≠ 0 → t.2 < a ∧ (a = t.2 + 1 → (c + cntE (l.take left) a) % 2 = 0))
theorem OutS.start (l : List Tm) : OutS l l.length 0 0 [] := ⟨Nat.le_refl _, by simp [val], by simp [NA], by simp, fun h => absurd rfl h, by simp⟩
theorem OutS.go {l : List Tm} {left : Nat} {c : Int} {a : Nat} {out : List Tm} (h : OutS l left c a out) (hc : c ≠ 0) : MidS l left c a out :=
 ⟨h.hl, h.hv, h.hn, h.hc, h.ha hc, fun t ht => ⟨(h.lt t ht).1, ((h.lt t ht).2.2 hc).1, ((h.lt t ht).2.2 hc).2⟩⟩
theorem Zfd {α : Type} {l : List α} {n : Nat} (h0 : 0 < n) (h : n ≤ l.length) : l.take n = l.take (n - 1) ++ [l[n - 1]'(by omega)] := by
 have := List.take_succ_eq_append_getElem (l := l) (i := n - 1) (by omega)
 rwa [show n - 1 + 1 = n by omega] at this
theorem OutS.begin {l : List Tm} (hf : Falls l) {left : Nat} {a : Nat} {out : List Tm} (h : OutS l left 0 a out) (h0 : 0 < left) : MidS l left 0 (l[left - 1]'(by have := h.hl; omega)).2 out := by
 have hl := h.hl
 have hsp := Zfd h0 hl
 refine ⟨h.hl, by have := h.hv; simp only [Int.zero_mul] at this ⊢; exact this, h.hn, h.hc, ?_, fun t ht => ?_⟩
 · intro u hu
   have hft := hf.take left
   rw [hsp] at hu hft
   rcases List.mem_append.1 hu with x | x
   · exact hft.snoc u x
   · rw [List.mem_singleton.1 x]; exact Nat.le_refl _
 · obtain ⟨h1, h2, _⟩ := h.lt t ht
   refine ⟨h1, h1 _ (by rw [hsp]; exact List.mem_append_right _ (List.mem_singleton_self _)), fun e => ?_⟩
   have := h2 rfl
   rw [e]
   omega
theorem MidS.eat {l : List Tm} {left : Nat} {c : Int} {a : Nat} {out : List Tm} (h : MidS l left c a out) (h0 : 0 < left) (he : (l[left - 1]'(by have := h.hl; omega)).2 = a) : MidS l (left - 1) (c + sg (l[left - 1]'(by have := h.hl; omega)).1) a out := by
 have hl := h.hl
 have hsp := Zfd h0 hl
 have hv := h.hv
 have hsub : ∀ u, u ∈ l.take (left - 1) → u ∈ l.take left := fun u hu => by rw [hsp]; exact List.mem_append_left _ hu
 have hsg := Zay (l[left - 1]'(by omega)).1
 refine ⟨by omega, ?_, h.hn, ?_, fun u hu => h.ha u (hsub u hu), fun t ht => ?_⟩
 · rw [hsp, Za2] at hv
   simp only [val, tv, he] at hv
   rw [Int.add_mul]
   omega
 · have := h.hc
   rcases hsg with ⟨_, e⟩ | ⟨_, e⟩ <;> rw [e] <;> omega
 · obtain ⟨h1, h2, h3⟩ := h.lt t ht
   refine ⟨fun u hu => h1 u (hsub u hu), h2, fun e => ?_⟩
   have := h3 e
   rw [hsp, Zkf, if_pos he] at this
   rcases hsg with ⟨_, e⟩ | ⟨_, e⟩ <;> rw [e] <;> omega
def Done (l : List Tm) (left : Nat) (a : Nat) : Prop := ∀ u ∈ l.take left, a < u.2
theorem MidS.done {l : List Tm} (hf : Falls l) {left : Nat} {c : Int} {a : Nat} {out : List Tm} (h : MidS l left c a out) (he : ∀ h0 : 0 < left, (l[left - 1]'(by have := h.hl; omega)).2 ≠ a) : Done l left a := by
 intro u hu
 have hl := h.hl
 by_cases h0 : 0 < left
 · have hsp := Zfd h0 hl
   have hne := he h0
   have hft := hf.take left
   have hge := h.ha (l[left - 1]'(by omega)) (by rw [hsp]; exact List.mem_append_right _ (List.mem_singleton_self _))
   rw [hsp] at hu hft
   rcases List.mem_append.1 hu with x | x
   · have := hft.snoc u x; omega
   · rw [List.mem_singleton.1 x]; omega
 · rw [show left = 0 by omega] at hu; simp at hu
theorem MidS.even {l : List Tm} {left : Nat} {c : Int} {a : Nat} {out : List Tm} (h : MidS l left c a out) (hd : Done l left a) (he : c % 2 = 0) : OutS l left (c / 2) (a + 1) out := by
 have hcc : c = 2 * (c / 2) := by omega
 refine ⟨h.hl, ?_, h.hn, by have := h.hc; omega, fun _ u hu => hd u hu, fun t ht => ?_⟩
 · have hv := h.hv
   rw [hcc, Int.mul_comm 2 (c / 2), Int.mul_assoc, ← Zai] at hv
   exact hv
 · obtain ⟨h1, h2, h3⟩ := h.lt t ht
   refine ⟨h1, fun _ => ?_, fun _ => ⟨by omega, fun e => by omega⟩⟩
   rw [Zdc]
   intro u hu
   have := hd u hu; omega
theorem MidS.odd {l : List Tm} {left : Nat} {c : Int} {a : Nat} {out : List Tm} (h : MidS l left c a out) (hd : Done l left a) (ho : c % 2 ≠ 0) {m : Bool} (hp : (c + 2 * cntE (l.take left) (a + 1) - sg m) % 4 = 0) :
   OutS l left ((c - sg m) / 2) (a + 1) (out ++ [(m, a)]) := by
 have hsg := Zay m
 have hcc : c = 2 * ((c - sg m) / 2) + sg m := by omega
 have hz : cntE (l.take left) a = 0 := Zdc fun u hu => by have := hd u hu; omega
 refine ⟨h.hl, ?_, ?_, by have := h.hc; omega, fun _ u hu => hd u hu, fun t ht => ?_⟩
 · have hv := h.hv
   rw [Za2]
   simp only [val, tv]
   rw [hcc, Int.add_mul, Int.mul_comm 2, Int.mul_assoc, ← Zai] at hv
   omega
 · unfold NA
   rw [List.reverse_append, List.reverse_singleton, List.singleton_append, List.pairwise_cons]
   refine ⟨fun u hu => ?_, h.hn⟩
   have hu' : u ∈ out := List.mem_reverse.1 hu
   cases hL : out.getLast? with
   | none => rw [List.getLast?_eq_none_iff.1 hL] at hu'; simp at hu'
   | some t =>
     obtain ⟨h1, h2, h3⟩ := h.lt t hL
     have ht2 : t.2 + 2 ≤ a := by
       rcases Nat.lt_or_ge (t.2 + 1) a with x | x
       · omega
       · have := h3 (by omega); rw [hz] at this; omega
     obtain ⟨ys, rfl⟩ := List.getLast?_eq_some_iff.1 hL
     have hn := h.hn
     unfold NA at hn
     rw [List.reverse_append, List.reverse_singleton, List.singleton_append, List.pairwise_cons] at hn
     rcases List.mem_append.1 hu' with x | x
     · have := hn.1 u (List.mem_reverse.2 x)
       simp only; omega
     · rw [List.mem_singleton.1 x]; exact ht2
 · rw [List.getLast?_append] at ht
   simp only [List.getLast?_singleton, Option.some_or, Option.some.injEq] at ht
   subst ht
   exact ⟨hd, fun e => by simp only; omega, fun _ => ⟨Nat.lt_succ_self _, fun _ => by omega⟩⟩
theorem OutS.ends {l : List Tm} {left formed a : Nat} {out : List Tm} (h : OutS l left 0 a out) (hf : NA (l.take formed)) (hle : left ≤ formed) : NA (l.take left ++ out.reverse) ∧ val (l.take left ++ out.reverse) = val l := by
 have hna : NA (l.take left) := by
   have : l.take left = (l.take formed).take left := by rw [List.take_take]; congr 1; omega
   rw [this]
   exact List.Pairwise.sublist (List.take_sublist ..) hf
 refine ⟨?_, by rw [Za2, Zg4]; have := h.hv; simp only [Int.zero_mul] at this; omega⟩
 unfold NA
 rw [List.pairwise_append]
 refine ⟨hna, h.hn, fun t ht u hu => ?_⟩
 have hu' : u ∈ out := List.mem_reverse.1 hu
 cases hL : out.getLast? with
 | none => rw [List.getLast?_eq_none_iff.1 hL] at hu'; simp at hu'
 | some v =>
   obtain ⟨h1, h2, _⟩ := h.lt v hL
   have h2 := h2 rfl
   have huv : u.2 ≤ v.2 := by
     obtain ⟨ys, rfl⟩ := List.getLast?_eq_some_iff.1 hL
     have hn := h.hn
     unfold NA at hn
     rw [List.reverse_append, List.reverse_singleton, List.singleton_append, List.pairwise_cons] at hn
     rcases List.mem_append.1 hu' with x | x
     · have := hn.1 u (List.mem_reverse.2 x)
       omega
     · rw [List.mem_singleton.1 x]; exact Nat.le_refl _
   have h1t := h1 t ht
   have : t.2 ≠ v.2 + 1 := by
     intro e
     obtain ⟨xs, ys, hxy⟩ := List.append_of_mem ht
     rw [hxy] at h2 hna
     have h3 : cntE (xs ++ t :: ys) (v.2 + 1) = 1 := by
       unfold NA at hna
       rw [List.pairwise_append, List.pairwise_cons] at hna
       have e1 : cntE xs (v.2 + 1) = 0 := Zdc fun w hw => by have := hna.2.2 w hw t (by simp); omega
       have e2 : cntE ys (v.2 + 1) = 0 := Zdc fun w hw => by have := hna.2.1.1 w hw; omega
       unfold cntE at *
       rw [List.countP_append, List.countP_cons, e1, e2]
       simp [e]
     omega
   omega
end
section
section
variable {α : Type} (key : α → Int)
def Srt (l : List α) : Prop := l.Pairwise (fun a b => key a ≤ key b)
structure MrgS (all out x y : List α) : Prop where
 perm : (out ++ (x ++ y)).Perm all
 so : Srt key out
 sx : Srt key x
 sy : Srt key y
 ox : ∀ o ∈ out, ∀ a ∈ x, key o ≤ key a
 oy : ∀ o ∈ out, ∀ a ∈ y, key o ≤ key a
variable {key}
theorem MrgS.start {x y : List α} (hx : Srt key x) (hy : Srt key y) : MrgS key (x ++ y) [] x y := ⟨by simp, by simp [Srt], hx, hy, by simp, by simp⟩
theorem Srt.snoc {l : List α} {a : α} (h : Srt key l) (ha : ∀ b ∈ l, key b ≤ key a) : Srt key (l ++ [a]) := by
 unfold Srt
 rw [List.pairwise_append]
 exact ⟨h, by simp, fun b hb c hc => by rw [List.mem_singleton.1 hc]; exact ha b hb⟩
theorem MrgS.left {all out x y : List α} {a b : α} (h : MrgS key all out (a :: x) (b :: y)) (hab : key a ≤ key b) : MrgS key all (out ++ [a]) x (b :: y) := by
 have hx := List.pairwise_cons.1 h.sx
 have hy := List.pairwise_cons.1 h.sy
 refine ⟨by have := h.perm; simpa using this, h.so.snoc (fun o ho => h.ox o ho a (by simp)), hx.2, h.sy, fun o ho u hu => ?_, fun o ho u hu => ?_⟩
 · rcases List.mem_append.1 ho with c | c
   · exact h.ox o c u (by simp [hu])
   · rw [List.mem_singleton.1 c]; exact hx.1 u hu
 · rcases List.mem_append.1 ho with c | c
   · exact h.oy o c u hu
   · rw [List.mem_singleton.1 c]
     rcases List.mem_cons.1 hu with rfl | hu
     · exact hab
     · exact Int.le_trans hab (hy.1 u hu)
theorem MrgS.right {all out x y : List α} {a b : α} (h : MrgS key all out (a :: x) (b :: y)) (hab : ¬ key a ≤ key b) : MrgS key all (out ++ [b]) (a :: x) y := by
 have hx := List.pairwise_cons.1 h.sx
 have hy := List.pairwise_cons.1 h.sy
 refine ⟨?_, h.so.snoc (fun o ho => h.oy o ho b (by simp)), h.sx, hy.2, fun o ho u hu => ?_, fun o ho u hu => ?_⟩
 · refine List.Perm.trans ?_ h.perm
   rw [List.append_assoc]
   refine List.Perm.append_left out ?_
   have : (a :: x ++ b :: y).Perm (b :: (a :: x ++ y)) := List.perm_middle
   exact this.symm
 · rcases List.mem_append.1 ho with c | c
   · exact h.ox o c u hu
   · rw [List.mem_singleton.1 c]
     rcases List.mem_cons.1 hu with rfl | hu
     · omega
     · have := hx.1 u hu; omega
 · rcases List.mem_append.1 ho with c | c
   · exact h.oy o c u (by simp [hu])
   · rw [List.mem_singleton.1 c]; exact hy.1 u hu
theorem MrgS.ends {all out x y : List α} (h : MrgS key all out x y) (h0 : x = [] ∨ y = []) : (out ++ x ++ y).Perm all ∧ Srt key (out ++ x ++ y) := by
 refine ⟨by have := h.perm; simpa using this, ?_⟩
 unfold Srt
 rcases h0 with rfl | rfl
 · rw [List.append_nil, List.pairwise_append]
   exact ⟨h.so, h.sy, fun a ha b hb => h.oy a ha b hb⟩
 · rw [List.append_nil, List.pairwise_append]
   exact ⟨h.so, h.sx, fun a ha b hb => h.ox a ha b hb⟩
theorem Srt.append {x y : List α} (hx : Srt key x) (hy : Srt key y) (h : ∀ a b, x.getLast? = some a → y[0]? = some b → key a ≤ key b) : Srt key (x ++ y) := by
 unfold Srt
 rw [List.pairwise_append]
 refine ⟨hx, hy, fun a ha b hb => ?_⟩
 cases y with
 | nil => simp at hb
 | cons c y =>
   cases hL : x.getLast? with
   | none => rw [List.getLast?_eq_none_iff.1 hL] at ha; simp at ha
   | some d =>
     have hdc := h d c hL rfl
     have hcb : key c ≤ key b := by
       rcases List.mem_cons.1 hb with rfl | hb
       · omega
       · exact (List.pairwise_cons.1 hy).1 b hb
     have had : key a ≤ key d := by
       obtain ⟨ys, rfl⟩ := List.getLast?_eq_some_iff.1 hL
       have := List.pairwise_append.1 hx
       rcases List.mem_append.1 ha with e | e
       · exact this.2.2 a e d (by simp)
       · rw [List.mem_singleton.1 e]; omega
     omega
end
theorem wt_add (a b : Int) : wt (a + b) ≤ wt a + wt b := by
 have := Zox (naf a ++ naf b)
 rw [Za2, Zam, Zam, List.length_append] at this
 exact this
theorem Zoy (n : Nat) : ∀ k : Nat, (k : Int) < 2 ^ n → wt k ≤ n + 1 := by
 induction n with
 | zero => intro k hk; rw [show k = 0 by simp at hk; omega]; simp [Zfq]
 | succ n ih =>
   intro k hk
   rw [Zai] at hk
   have := ih (k / 2) (by omega)
   rcases Nat.mod_two_eq_zero_or_one k with e | e
   · rw [show (k : Int) = 2 * ((k / 2 : Nat) : Int) by omega, Za9]; omega
   · have h1 := (Zke ((2 * ((k / 2 : Nat) : Int)).natAbs) _ (Nat.le_refl _)).1
     rw [Za9] at h1
     rw [show (k : Int) = 2 * ((k / 2 : Nat) : Int) + 1 by omega]; omega
theorem Zf5 {k : Nat} (h : k < 9223372036854775808) : wt k ≤ 64 := Zoy 63 k (by exact_mod_cast h)
theorem Zrb {e k : Nat} (h : k < 9223372036854775808) : wt ((e + k : Nat) : Int) ≤ wt e + 64 := by
 have h1 := wt_add (e : Int) (k : Int)
 have h2 := Zf5 h
 rw [show ((e + k : Nat) : Int) = (e : Int) + (k : Int) by omega]
 omega
end
end Go.Proofs.YtlkmgclbckojgaaGreatDoor

