import Derived.Test.YtlclanmbebjfkaaDoorP5
import Derived.Test.YtlclanmbebjfkaaDoorL6
set_option linter.unusedVariables false
set_option linter.unusedSimpArgs false
namespace Go.Proofs.YtlclanmbebjfkaaDoor
set_option linter.unusedVariables false

theorem visL_flip : ∀ (l : List Tm) (s : List Int), visL (l.map flipT) s = visL l s
  | [], _ => rfl
  | t :: l, s => by
    rw [List.map_cons, visL_cons, visL_cons]
    exact visL_flip l _
theorem hgtL_flip (l : List Tm) : hgtL (l.map flipT) = hgtL l := by
  unfold hgtL
  rw [List.foldl_map]; rfl
theorem wt_neg (z : Int) : wt (-z) = wt z := by unfold wt; rw [naf_neg, List.length_map]
theorem weightZ_neg (z : Int) : weightZ (-z) = weightZ z := by
  unfold weightZ
  rw [partsZ_last, partsZ_last, naf_neg, visL_flip]; simp
theorem hgt_neg (z : Int) : hgt (-z) = hgt z := by rw [hgt_L, hgt_L, naf_neg, hgtL_flip]
theorem allowed_neg {z : Int} (h : allowedZ z) : allowedZ (-z) := by
  refine ⟨by rw [weightZ_neg]; exact h.1, by rw [hgt_neg]; exact h.2.1, fun p hp => ?_⟩
  rw [partsZ_last, naf_neg, visL_flip] at hp
  rcases List.mem_append.1 hp with x | x
  · exact h.2.2 p (by rw [partsZ_last]; exact List.mem_append_left _ x)
  · rw [List.mem_singleton.1 x, wt_neg]; exact h.2.2 z (partsZ_mem z)
end Go.Proofs.YtlclanmbebjfkaaDoor

namespace Go.Proofs.YtlclanmbebjfkaaDoor
set_option linter.unusedVariables false

/-- a term, shifted -/
def shT (y : Int) (t : Tm) : Tm := (t.1, ((t.2 : Int) + y).toNat)
/-- a number, shifted, where its least term reaches -/
def shiftZ (z y : Int) : Int := val ((naf z).map (shT y))
/-- the least term reaches -/
def reaches (z y : Int) : Prop := ∀ t ∈ naf z, 0 ≤ (t.2 : Int) + y
theorem NA_sh {l : List Tm} {y : Int} (h : NA l) (hr : ∀ t ∈ l, 0 ≤ (t.2 : Int) + y) : NA (l.map (shT y)) := by
  unfold NA at *
  rw [List.pairwise_map]
  refine List.Pairwise.imp_of_mem (fun {a b} ha hb hab => ?_) h
  have := hr a ha
  have := hr b hb
  simp only [shT]
  omega
theorem naf_shift {z y : Int} (hr : reaches z y) : naf (shiftZ z y) = (naf z).map (shT y) := naf_eq (NA_sh (naf_NA z) hr) rfl
theorem val_sh_nat (y : Nat) : ∀ l : List Tm, val (l.map (shT y)) = val l * 2 ^ y
  | [] => by simp [val]
  | t :: l => by
    simp only [List.map_cons, val, val_sh_nat y l, Int.add_mul]
    congr 1
    simp only [tv, shT]
    rw [show ((t.2 : Int) + (y : Int)).toNat = t.2 + y by omega, Int.pow_add, Int.mul_assoc]
theorem shiftZ_nat (z : Int) (y : Nat) : shiftZ z y = z * 2 ^ y := by unfold shiftZ; rw [val_sh_nat, naf_val]
theorem reaches_nat (z : Int) (y : Nat) : reaches z y := fun t _ => by omega
end Go.Proofs.YtlclanmbebjfkaaDoor

namespace Go.Proofs.YtlclanmbebjfkaaDoor
set_option linter.unusedVariables false

/-- the product of two terms -/
def mulT (t u : Tm) : Tm := (t.1 != u.1, t.2 + u.2)
theorem tv_mulT (t u : Tm) : tv (mulT t u) = tv t * tv u := by
  obtain ⟨a, e⟩ := t
  obtain ⟨b, f⟩ := u
  simp only [mulT, tv, Int.pow_add]
  cases a <;> cases b <;> simp [sg, Int.neg_mul, Int.mul_neg]

/-- the products of the terms of two lists -/
def prodL (l m : List Tm) : List Tm := l.flatMap (fun t => m.map (mulT t))
theorem val_mulL (t : Tm) : ∀ m : List Tm, val (m.map (mulT t)) = tv t * val m
  | [] => by simp [val]
  | u :: m => by simp only [List.map_cons, val]; rw [val_mulL t m, tv_mulT, Int.mul_add]
theorem val_prodL (m : List Tm) : ∀ l : List Tm, val (prodL l m) = val l * val m
  | [] => by simp [val, prodL]
  | t :: l => by
    have ih := val_prodL m l
    simp only [prodL, List.flatMap_cons] at ih ⊢
    rw [val_append, val_mulL, ih]
    simp only [val]
    rw [Int.add_mul]
theorem prodL_length (m : List Tm) : ∀ l : List Tm, (prodL l m).length = l.length * m.length
  | [] => by simp [prodL]
  | t :: l => by
    have ih := prodL_length m l
    simp only [prodL, List.flatMap_cons, List.length_append, List.length_map] at ih ⊢
    rw [ih, List.length_cons, Nat.add_mul]; omega
theorem prodL_mem {l m : List Tm} {u : Tm} (h : u ∈ prodL l m) : ∃ t ∈ l, ∃ t' ∈ m, u = mulT t t' := by
  obtain ⟨t, ht, hu⟩ := List.mem_flatMap.1 h
  obtain ⟨t', ht', rfl⟩ := List.mem_map.1 hu
  exact ⟨t, ht, t', ht', rfl⟩
theorem prodL_row (l m : List Tm) {i : Nat} (h : i < l.length) : prodL (l.take (i + 1)) m = prodL (l.take i) m ++ m.map (mulT l[i]) := by
  rw [List.take_succ_eq_append_getElem h]
  unfold prodL
  rw [List.flatMap_append]
  congr 1
  simp only [List.flatMap_cons, List.flatMap_nil, List.append_nil]
theorem mul_row (t : Tm) (m : List Tm) {j : Nat} (h : j < m.length) : (m.take (j + 1)).map (mulT t) = (m.take j).map (mulT t) ++ [mulT t m[j]] := by
  rw [List.take_succ_eq_append_getElem h, List.map_append]; rfl

/-- products of numbers of few terms, whose exponents have few terms, are of the same kind -/
theorem prodL_wt {z z' : Int} (h : ∀ u ∈ naf z, wt (u.2 : Int) ≤ 300) (h' : ∀ u ∈ naf z', wt (u.2 : Int) ≤ 300) : ∀ u ∈ prodL (naf z) (naf z'), wt (u.2 : Int) ≤ 29900 := by
  intro u hu
  obtain ⟨t, ht, t', ht', rfl⟩ := prodL_mem hu
  have h1 := h t ht
  have h2 := h' t' ht'
  have h3 := wt_add (t.2 : Int) (t'.2 : Int)
  show wt ((t.2 + t'.2 : Nat) : Int) ≤ 29900
  rw [Int.natCast_add]
  omega
theorem val_prod (z z' : Int) : val (prodL (naf z) (naf z')) = z * z' := by
  rw [val_prodL, naf_val, naf_val]
end Go.Proofs.YtlclanmbebjfkaaDoor
