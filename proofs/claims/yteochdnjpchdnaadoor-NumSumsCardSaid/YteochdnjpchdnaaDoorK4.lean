import Derived.Test.YteochdnjpchdnaaDoorP8
import Derived.Test.YteochdnjpchdnaaDoorK2
set_option linter.unusedVariables false
set_option linter.unusedSimpArgs false
namespace Go.Proofs.YteochdnjpchdnaaDoor
open Go.RowKit
set_option linter.unusedVariables false

/-! The numbers of NumFull. -/
theorem NA_half : ∀ (l : List Tm) (b : Nat), NA l → (∀ t ∈ l, t.2 < b) → 2 * l.length ≤ b + 1
  | [], b, _, _ => by simp
  | t :: l, b, h, hb => by
    have ht := hb t (List.mem_cons_self ..)
    have hl : ∀ u ∈ l, u.2 < t.2 - 1 := fun u hu => by have := h.head u hu; omega
    have h1 := NA_half l (t.2 - 1) h.tail hl
    simp only [List.length_cons]
    by_cases h0 : t.2 = 0
    · cases l with
      | nil => simp; omega
      | cons u l => have := h.head u (List.mem_cons_self ..); omega
    · omega
/-- small exponents, and not too many -/
theorem allowed_range {z : Int} (h : ∀ t ∈ naf z, t.2 < 1000) (hw : wt z ≤ 300) : allowedZ z ∧ hgt z ≤ 14 ∧ weightZ z ≤ 1001 := by
  have hC : ClosedL (z :: (List.range 1000).map (fun i : Nat => (i : Int))) := by
    intro p hp t ht
    refine List.mem_cons_of_mem _ (List.mem_map.2 ⟨t.2, List.mem_range.2 ?_, rfl⟩)
    rcases List.mem_cons.1 hp with e | e
    · subst e; exact h t ht
    · obtain ⟨i, hi, rfl⟩ := List.mem_map.1 e
      have hi := List.mem_range.1 hi
      have := exp_boundP (z := (i : Int)) (b := 10) (by omega) (by omega) t ht
      omega
  have hm := List.mem_cons_self (a := z) (l := (List.range 1000).map (fun i : Nat => (i : Int)))
  have h1 : weightZ z ≤ 1001 := by
    have := partsZ_le hC hm
    simpa [weightZ] using this
  have h2 : hgt z ≤ 14 := by
    refine hgt_le fun t ht => ?_
    have h3 := h t ht
    have h4 := (allowed_bits (z := (t.2 : Int)) (b := 10) (by omega) (by omega) (by omega)).2.1
    have h5 := hgt_le_weight _ (t.2 : Int) (Nat.lt_succ_self _)
    omega
  refine ⟨⟨by omega, by omega, fun p hp => ?_⟩, h2, h1⟩
  rcases List.mem_cons.1 (partsZ_sub hC hm p hp) with e | e
  · rw [e]; exact hw
  · obtain ⟨i, hi, rfl⟩ := List.mem_map.1 e
    have hi := List.mem_range.1 hi
    have := (allowed_bits (z := (i : Int)) (b := 10) (by omega) (by omega) (by omega)).2.2
    omega
/-- the terms of NumFull: i, as it is appended -/
def tmF (n i : Nat) : Tm := (decide (i % 3 = 1), 2 * i + n)
def fullL (n k : Nat) : List Tm := ((List.range k).map (tmF n)).reverse
def fullZ (n k : Nat) : Int := val (fullL n k)
theorem fullL_succ (n k : Nat) : fullL n (k + 1) = tmF n k :: fullL n k := by
  unfold fullL
  rw [List.range_succ, List.map_append, List.reverse_append]; rfl
theorem fullL_exp (n : Nat) : ∀ k, ∀ t ∈ fullL n k, t.2 + 2 ≤ 2 * k + n
  | 0 => by simp [fullL]
  | k + 1 => by
    rw [fullL_succ]
    intro t ht
    rcases List.mem_cons.1 ht with e | e
    · subst e; simp only [tmF]; omega
    · have := fullL_exp n k t e; omega
theorem fullL_NA (n : Nat) : ∀ k, NA (fullL n k)
  | 0 => by simp [fullL, NA]
  | k + 1 => by
    rw [fullL_succ]
    refine List.pairwise_cons.2 ⟨fun u hu => ?_, fullL_NA n k⟩
    have := fullL_exp n k u hu
    simp only [tmF]; omega
theorem fullL_len (n k : Nat) : (fullL n k).length = k := by simp [fullL]
theorem fullZ_naf (n k : Nat) : naf (fullZ n k) = fullL n k := naf_of_NA (fullL_NA n k)
theorem fullZ_wt (n k : Nat) : wt (fullZ n k) = k := by unfold wt; rw [fullZ_naf, fullL_len]
theorem fullZ_val (n k : Nat) : val ((List.range k).map (tmF n)) = fullZ n k := by unfold fullZ fullL; rw [val_reverse]
theorem fullZ_allowed {n k : Nat} (hk : k ≤ 300) (hn : n ≤ 255) : allowedZ (fullZ n k) ∧ hgt (fullZ n k) ≤ 14 ∧ weightZ (fullZ n k) ≤ 1001 := by
  refine allowed_range (fun t ht => ?_) (by rw [fullZ_wt]; exact hk)
  rw [fullZ_naf] at ht
  have := fullL_exp n k t ht
  omega
theorem fullZ_not {n k : Nat} (hk : 300 < k) : ¬ allowedZ (fullZ n k) := fun h => by
  have := h.2.2 _ (partsZ_mem _)
  rw [fullZ_wt] at this
  omega
/-- the number with one power more -/
theorem full_more (n : Nat) : wt (fullZ n 300 + 2 ^ (600 + n)) = 301 := by
  have hna : NA ((false, 600 + n) :: fullL n 300) := List.pairwise_cons.2 ⟨fun u hu => by have := fullL_exp n 300 u hu; simp only; omega, fullL_NA n 300⟩
  have hv : val ((false, 600 + n) :: fullL n 300) = fullZ n 300 + 2 ^ (600 + n) := by
    have h : val ((false, 600 + n) :: fullL n 300) = tv (false, 600 + n) + val (fullL n 300) := by simp [val]
    rw [h]; unfold fullZ; simp only [tv, sg]; simp; omega
  unfold wt
  rw [naf_eq hna hv, List.length_cons, fullL_len]
theorem full_pos (n : Nat) : 0 < fullZ n 300 := by
  have e := fullL_succ n 299
  have h := sgn_first (t := tmF n 299) (l := fullL n 299) (by rw [← e]; exact fullL_NA n 300)
  rw [← e] at h
  have h2 : sgn (fullZ n 300) = 1 := by unfold fullZ; rw [h]; simp [tmF, sg]
  unfold sgn at h2
  split at h2
  · omega
  · split at h2 <;> omega
theorem full_100 (n : Nat) : fullZ n 100 ≠ 0 := fun h => by
  have := fullZ_wt n 100
  rw [h, wt_zero] at this
  omega
/-- the square of the number of 100 terms -/
theorem tmF_sh (n : Nat) (i : Nat) : tmF n i = shT (n : Int) (tmF 0 i) := by simp only [tmF, shT]; congr 1
theorem full_shift (n k : Nat) : fullZ n k = fullZ 0 k * 2 ^ n := by
  rw [← shiftZ_nat]
  unfold shiftZ
  rw [fullZ_naf]
  unfold fullZ fullL
  rw [List.map_reverse, List.map_map]
  rw [List.map_congr_left (fun i _ => tmF_sh n i)]; rfl
theorem full_square {n : Nat} (hn : n ≤ 255) : allowedZ (fullZ n 100 * fullZ n 100) := by
  have hb := val_bound (fullL 0 100) 199 (fullL_NA 0 100) (fun t ht => by have := fullL_exp 0 100 t ht; omega)
  have hp : (2 : Int) ^ 200 = 2 * 2 ^ 199 := by rw [← pow_two_mul]
  have h1 : fullZ 0 100 ≤ 2 ^ 199 ∧ -(2 ^ 199) ≤ fullZ 0 100 := by
    have h0 := pow_pos 199
    unfold fullZ
    omega
  have h2 : fullZ 0 100 * fullZ 0 100 ≤ 2 ^ 398 ∧ 0 ≤ fullZ 0 100 * fullZ 0 100 := by
    have h9 := Int.natAbs_mul_self' (fullZ 0 100)
    refine ⟨?_, by rw [← h9]; exact Int.mul_nonneg (by omega) (by omega)⟩
    have h3 : fullZ 0 100 * fullZ 0 100 = (fullZ 0 100).natAbs * (fullZ 0 100).natAbs := (Int.natAbs_mul_self' _).symm
    have h4 : ((fullZ 0 100).natAbs : Int) ≤ 2 ^ 199 := by omega
    rw [h3, show (2 : Int) ^ 398 = 2 ^ 199 * 2 ^ 199 by rw [← Int.pow_add]]
    exact Int.mul_le_mul h4 h4 (by omega) (by have := pow_pos 199; omega)
  have he := exp_boundP (z := fullZ 0 100 * fullZ 0 100) (b := 398) h2.1 (by have := pow_pos 398; omega)
  have hsq : fullZ n 100 * fullZ n 100 = shiftZ (fullZ 0 100 * fullZ 0 100) ((2 * n : Nat) : Int) := by
    rw [full_shift n 100, shiftZ_nat, show 2 * n = n + n by omega, Int.pow_add]
    simp only [Int.mul_assoc, Int.mul_left_comm, Int.mul_comm]
  have hnaf : naf (fullZ n 100 * fullZ n 100) = (naf (fullZ 0 100 * fullZ 0 100)).map (shT ((2 * n : Nat) : Int)) := by
    rw [hsq]; exact naf_shift (reaches_nat _ _)
  refine (allowed_range (fun t ht => ?_) ?_).1
  · rw [hnaf] at ht
    obtain ⟨u, hu, rfl⟩ := List.mem_map.1 ht
    have := he u hu
    simp only [shT]
    omega
  · unfold wt
    rw [hnaf, List.length_map]
    have := NA_half _ 400 (naf_NA (fullZ 0 100 * fullZ 0 100)) he
    omega
/-- towers -/
def tw : Nat → Nat
  | 0 => 1
  | k + 1 => 2 ^ tw k
theorem tw_cast (k : Nat) : ((tw (k + 1) : Nat) : Int) = 2 ^ tw k := by simp only [tw]; rw [Int.natCast_pow]; rfl
theorem tw_two : ∀ k, 2 ≤ tw (k + 1)
  | 0 => by simp [tw]
  | k + 1 => by
    have h := tw_two k
    have h2 : 2 ^ 1 ≤ 2 ^ tw (k + 1) := Nat.pow_le_pow_right (by decide) (by omega)
    simpa [tw] using h2
theorem tw_facts : ∀ k, hgt (tw k : Int) = k + 1 ∧ weightZ (tw k : Int) = k + 2
  | 0 => by
    have h1 := hgt_pow 0
    have h2 := weightZ_pow 0
    have h3 : hgt ((0 : Nat) : Int) = 0 := by rw [hgt_eq]; simp [naf0]
    have h4 : weightZ ((0 : Nat) : Int) = 1 := by unfold weightZ; rw [partsZ_last]; simp [naf0, visL]
    rw [h3] at h1
    rw [h4] at h2
    simpa [tw] using And.intro h1 h2
  | k + 1 => by
    obtain ⟨h1, h2⟩ := tw_facts k
    rw [tw_cast, hgt_pow, weightZ_pow, h1, h2]
    exact ⟨rfl, rfl⟩
theorem tw_allowed : ∀ {k}, k ≤ 99 → allowedZ (tw k : Int)
  | 0, _ => allowed_i64 (by simp [tw])
  | k + 1, h => by
    have h1 := tw_facts k
    rw [tw_cast]
    exact allowed_pow (tw_allowed (by omega)) (by omega) (by omega)
theorem tw_less {k : Nat} (hk : k + 2 ≤ 99) : allowedZ ((tw (k + 2) : Int) - 1) ∧ wt ((tw (k + 2) : Int) - 1) = 2 := by
  have h98 := tw_facts (k + 1)
  have h2 := tw_two k
  have ha := tw_allowed (k := k + 1) (by omega)
  rw [tw_cast (k + 1)]
  generalize tw (k + 1) = e at *
  have hn : naf ((2 : Int) ^ e - 1) = [(false, e), (true, 0)] := naf_eq (by simp [NA]; omega) (by simp [val, tv, sg]; omega)
  generalize (2 : Int) ^ e - 1 = z at *
  have hC : ClosedL (z :: 0 :: partsZ (e : Int)) := by
    intro p hp t ht
    rcases List.mem_cons.1 hp with e1 | e1
    · subst e1
      rw [hn] at ht
      rcases List.mem_cons.1 ht with e2 | e2
      · subst e2; exact List.mem_cons_of_mem _ (List.mem_cons_of_mem _ (partsZ_mem _))
      · rw [List.mem_singleton.1 e2]; simp
    · rcases List.mem_cons.1 e1 with e2 | e2
      · subst e2; rw [naf0] at ht; simp at ht
      · exact List.mem_cons_of_mem _ (List.mem_cons_of_mem _ (partsZ_closed _ p e2 t ht))
  have hm := List.mem_cons_self (a := z) (l := 0 :: partsZ (e : Int))
  refine ⟨⟨?_, ?_, fun p hp => ?_⟩, by unfold wt; rw [hn]; rfl⟩
  · have := partsZ_le hC hm
    have h3 := h98.2
    unfold weightZ at h3 ⊢
    simp only [List.length_cons] at this
    omega
  · rw [hgt_eq, hn]
    have h0 : hgt ((0 : Nat) : Int) = 0 := by rw [hgt_eq]; simp [naf0]
    have h1 := h98.1
    show max (max 0 (hgt (e : Int) + 1)) (hgt ((0 : Nat) : Int) + 1) ≤ 100
    rw [h1, h0]
    exact Nat.max_le.2 ⟨Nat.max_le.2 ⟨by omega, by omega⟩, by omega⟩
  · rcases List.mem_cons.1 (partsZ_sub hC hm p hp) with e1 | e1
    · rw [e1]; unfold wt; rw [hn]; simp
    · rcases List.mem_cons.1 e1 with e2 | e2
      · rw [e2, wt_zero]; omega
      · exact ha.2.2 p e2
theorem tw_not {k : Nat} (hk : 99 ≤ k) : ¬ allowedZ (2 ^ tw k : Int) := fun h => by
  have h1 := h.2.1
  rw [hgt_pow, (tw_facts k).1] at h1
  omega
end Go.Proofs.YteochdnjpchdnaaDoor

namespace Go.Proofs.YteochdnjpchdnaaDoor
open Go.RowKit
set_option linter.unusedVariables false
variable {B B' : Nat → Prop}

/-! The rows of NumFull. -/
theorem errA_no {z : Int} (h : ¬ allowedZ z) : errA z = 5 ∧ valA z = 0 := by
  unfold errA valA; rw [if_neg h, if_neg h]; exact ⟨rfl, rfl⟩
theorem errM_no {z y : Int} (h : 10000 < wt z * wt y) : errM z y = 5 ∧ valM z y = 0 := by
  have h2 : ¬ (allowedZ (z * y) ∧ wt z * wt y ≤ 10000) := fun ⟨_, b⟩ => by omega
  unfold errM valM; rw [if_neg h2, if_neg h2]; exact ⟨rfl, rfl⟩
def cellF (n i : Nat) : TV := (decide (i % 3 = 1), ((2 * i + n : Nat) : Int), none)
def rowF (n k : Nat) : List TV := (List.range k).map (cellF n)
def numF (n i : Nat) : Bool × Int := (decide (i % 3 = 1), ((2 * i + n : Nat) : Int))
theorem rowF_len (n k : Nat) : (rowF n k).length = k := by simp [rowF]
theorem rowF_succ (n k : Nat) : rowF n (k + 1) = rowF n k ++ [cellF n k] := by simp [rowF, List.range_succ]
theorem rowF_more (n k : Nat) : ∀ m, ∃ r, rowF n (k + m) = rowF n k ++ r
  | 0 => ⟨[], by simp⟩
  | m + 1 => by
    obtain ⟨r, h⟩ := rowF_more n k m
    exact ⟨r ++ [cellF n (k + m)], by rw [← Nat.add_assoc, rowF_succ, h, List.append_assoc]⟩
theorem fits_map {w : World} {α : Type} {f : α → TV} {g : α → Bool × Int} : ∀ l : List α, (∀ i ∈ l, (f i).1 = (g i).1 ∧ NumA B w (f i).2.1 (f i).2.2 (g i).2) → FitsV B w (l.map f) (l.map g)
  | [], _ => trivial
  | i :: l, h => ⟨h i (List.mem_cons_self ..), fits_map l (fun j hj => h j (List.mem_cons_of_mem _ hj))⟩
theorem RowV.prefixF {w : World} {a : Option Addr} {c n k N : Nat} (h : RowV w 3 (.slice a N c) N (flatT (rowF n N))) (hk : k ≤ N) (hN : 0 < N) : RowV w 3 (.slice a k c) k (flatT (rowF n k)) := by
  obtain ⟨_, h2⟩ := h
  refine ⟨by rw [flatT_len, rowF_len], .inr ?_⟩
  rcases h2 with ⟨e, _⟩ | ⟨b, off, cap, e, p1, p2, p3, p4⟩
  · simp only [Value.slice.injEq] at e; omega
  · cases e
    refine ⟨b, off, c, rfl, by omega, p2, p3, fun j u hj => p4 j u ?_⟩
    obtain ⟨r, hr⟩ := rowF_more n k (N - k)
    rw [show k + (N - k) = N by omega] at hr
    rw [hr, flatT_append]
    have hl : j < (flatT (rowF n k)).length := (List.getElem?_eq_some_iff.1 hj).1
    rw [List.getElem?_append_left hl]
    exact hj
/-- Sum of the first terms -/
theorem LawW.sumF {wc : World} (h : LawW wc) {a : Option Addr} {c n k : Nat} (hr : RowV wc 3 (.slice a k c) k (flatT (rowF n k))) (hk : k ≤ 301) (hn : n ≤ 255) : Calls Tryd.prog 31 #[.slice a k c] wc fun e w' => ∃ (r : Int) (q : Option Addr), e = .returned (.tuple #[.agg #[.int .i64 r, .pointer q], .int .i64 (errA (fullZ n k))]) ∧ NumA cold w' r q (valA (fullZ n k)) ∧ Below wc.heap.size wc w' := by
  have hf : FitsV cold wc (rowF n k) ((List.range k).map (numF n)) := fits_map _ (fun i hi => ⟨rfl, by
    have := List.mem_range.1 hi
    exact NumA.small wc (show i64 ((2 * i + n : Nat) : Int) by unfold i64; omega)⟩)
  have hz : sumZ ((List.range k).map (numF n)) = fullZ n k := by
    rw [← fullZ_val]
    unfold sumZ
    rw [List.map_map]
    congr 1
  have h0 : ∀ p ∈ (List.range k).map (numF n), 0 ≤ p.2 := fun p hp => by
    obtain ⟨i, _, rfl⟩ := List.mem_map.1 hp
    simp only [numF]; omega
  refine (Sum_calls (by rw [rowF_len]; exact hr) hf (by rw [rowF_len]; omega) (h wc (Below.refl _ _)).1 (h wc (Below.refl _ _)).2 (fun k hk => hk.elim)).mono ?_
  rintro e w' ⟨hb, ⟨⟨p, hp, hn⟩, _⟩ | ⟨_, _, ha, r, q, rfl, hv⟩ | ⟨_, hno, rfl⟩⟩
  · have := h0 p hp; omega
  · rw [hz] at ha hv
    exact ⟨r, q, by rw [(errA_yes ha).1], by rw [(errA_yes ha).2]; exact hv, hb⟩
  · rw [hz] at hno
    have hno : ¬ allowedZ (fullZ n k) := by
      rcases hno with x | x
      · simp at x; omega
      · exact x
    exact ⟨0, none, by rw [(errA_no hno).1], by rw [(errA_no hno).2]; exact NumA.small _ i64_0, hb⟩
end Go.Proofs.YteochdnjpchdnaaDoor
