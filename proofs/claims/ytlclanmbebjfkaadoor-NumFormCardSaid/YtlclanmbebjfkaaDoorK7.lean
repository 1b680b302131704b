import Derived.Test.YtlclanmbebjfkaaDoorJ6
set_option linter.unusedVariables false
set_option linter.unusedSimpArgs false
namespace Go.Proofs.YtlclanmbebjfkaaDoor
open Go.RowKit
set_option linter.unusedVariables false
variable {B B' : Nat → Prop}

/-! Shifts one behind another (for NumShifts, NumPowers). -/
theorem shT_comp {t : Tm} {y x : Int} (h : 0 ≤ (t.2 : Int) + y) : shT x (shT y t) = shT (y + x) t := by
  simp only [shT]
  rw [show (((t.2 : Int) + y).toNat : Int) + x = (t.2 : Int) + (y + x) by omega]
theorem reaches_comp {z y x : Int} (h : reaches z y) : reaches (shiftZ z y) x ↔ reaches z (y + x) := by
  unfold reaches
  rw [naf_shift h]
  refine ⟨fun k t ht => ?_, fun k t ht => ?_⟩
  · have h1 := k _ (List.mem_map_of_mem (f := shT y) ht)
    have h2 := h t ht
    simp only [shT] at h1
    omega
  · obtain ⟨u, hu, rfl⟩ := List.mem_map.1 ht
    have h1 := k u hu
    have h2 := h u hu
    simp only [shT]
    omega
theorem shiftZ_comp {z y x : Int} (h : reaches z y) : shiftZ (shiftZ z y) x = shiftZ z (y + x) := by
  have e : shiftZ (shiftZ z y) x = val ((naf (shiftZ z y)).map (shT x)) := rfl
  rw [e, naf_shift h, List.map_map]
  unfold shiftZ
  congr 1
  exact List.map_congr_left (fun t ht => shT_comp (h t ht))
theorem shiftZ_zero (z : Int) : shiftZ z 0 = z := by
  have := shiftZ_nat z 0
  simpa using this
theorem reaches_zero (z : Int) : reaches z 0 := fun t _ => by omega
/-- back again -/
theorem shift_back {z y : Int} (h : reaches z y) : reaches (shiftZ z y) (-y) ∧ shiftZ (shiftZ z y) (-y) = z := by
  rw [reaches_comp h, shiftZ_comp h, show y + -y = 0 by omega]
  exact ⟨reaches_zero z, shiftZ_zero z⟩
/-- a shift to the other side is a division that leaves nothing -/
theorem shift_mul {z : Int} {k : Nat} (h : reaches z (-(k : Int))) : shiftZ z (-(k : Int)) * 2 ^ k = z := by
  have h1 := shiftZ_comp (x := (k : Int)) h
  rw [shiftZ_nat, show -(k : Int) + (k : Int) = 0 by omega, shiftZ_zero] at h1
  exact h1
/-- a sum's shift is the sum of shifts -/
theorem shift_add {x z y : Int} (hx : reaches x y) (hz : reaches z y) (hs : reaches (x + z) y) : shiftZ (x + z) y = shiftZ x y + shiftZ z y := by
  rcases Int.le_total 0 y with h | h
  · obtain ⟨k, rfl⟩ := Int.eq_ofNat_of_zero_le h
    rw [shiftZ_nat, shiftZ_nat, shiftZ_nat, Int.add_mul]
  · obtain ⟨k, hk⟩ := Int.eq_ofNat_of_zero_le (show 0 ≤ -y by omega)
    obtain rfl : y = -(k : Int) := by omega
    have h1 := shift_mul hx
    have h2 := shift_mul hz
    have h3 := shift_mul hs
    have hp : (2 : Int) ^ k ≠ 0 := Int.ne_of_gt (Int.pow_pos (by decide))
    refine Int.eq_of_mul_eq_mul_right hp ?_
    rw [Int.add_mul, h1, h2, h3]

open Classical in
/-- a shift's error, its value -/
noncomputable def errS (z y : Int) : Int := if reaches z y then (if allowedZ (shiftZ z y) then 0 else 5) else 4
open Classical in
noncomputable def valS (z y : Int) : Int := if reaches z y ∧ allowedZ (shiftZ z y) then shiftZ z y else 0
theorem errS_0 {z y : Int} (h : errS z y = 0) : reaches z y ∧ allowedZ (shiftZ z y) ∧ valS z y = shiftZ z y := by
  unfold errS at h
  unfold valS
  by_cases h1 : reaches z y
  · rw [if_pos h1] at h
    by_cases h2 : allowedZ (shiftZ z y)
    · exact ⟨h1, h2, by rw [if_pos ⟨h1, h2⟩]⟩
    · rw [if_neg h2] at h; omega
  · rw [if_neg h1] at h; omega
theorem errS_yes {z y : Int} (h1 : reaches z y) (h2 : allowedZ (shiftZ z y)) : errS z y = 0 ∧ valS z y = shiftZ z y := by
  unfold errS valS; rw [if_pos h1, if_pos h2, if_pos ⟨h1, h2⟩]; exact ⟨rfl, rfl⟩
theorem errS_4 {z y : Int} : errS z y = 4 ↔ ¬ reaches z y := by
  unfold errS
  by_cases h1 : reaches z y
  · rw [if_pos h1]
    refine ⟨fun h => ?_, fun h => absurd h1 h⟩
    by_cases h2 : allowedZ (shiftZ z y)
    · rw [if_pos h2] at h; omega
    · rw [if_neg h2] at h; omega
  · rw [if_neg h1]; exact ⟨fun _ => h1, fun _ => rfl⟩
/-- a shift is a product with a power of two, where that is there -/
theorem shift_product {x y : Int} (hx : wt x ≤ 300) (h1 : wt 1 ≤ 1) (hy : 0 ≤ y) (h : errS 1 y = 0) (hw : wt (valS 1 y) ≤ 1) : errS x y = errM x (valS 1 y) ∧ valS x y = valM x (valS 1 y) := by
  obtain ⟨k, rfl⟩ := Int.eq_ofNat_of_zero_le hy
  obtain ⟨_, _, hv⟩ := errS_0 h
  have hm : wt x * wt (valS 1 (k : Int)) ≤ 10000 := Nat.le_trans (Nat.mul_le_mul hx hw) (by decide)
  have he : x * valS 1 (k : Int) = shiftZ x k := by rw [hv, shiftZ_nat, shiftZ_nat, Int.one_mul]
  have hr := reaches_nat x k
  generalize valS 1 (k : Int) = p at he hm
  clear hv hw
  unfold errM valM
  rw [he]
  by_cases ha : allowedZ (shiftZ x (k : Int))
  · rw [(errS_yes hr ha).1, (errS_yes hr ha).2, if_pos ⟨ha, hm⟩, if_pos ⟨ha, hm⟩]; exact ⟨rfl, rfl⟩
  · have e1 : errS x (k : Int) = 5 := by unfold errS; rw [if_pos hr, if_neg ha]
    have e2 : valS x (k : Int) = 0 := by unfold valS; rw [if_neg (fun h => ha h.2)]
    rw [e1, e2, if_neg (fun h => ha h.1), if_neg (fun h => ha h.1)]; exact ⟨rfl, rfl⟩
section
variable {wc : World} {s s' z y : Int} {g g' : Option Addr}
/-- a shift at the world at hand -/
theorem LawW.shiftE (h : LawW wc) (hx : NumA B wc s g z) (hy : NumA B' wc s' g' y) : Calls Tryd.prog 30 #[.agg #[.int .i64 s, .pointer g], .agg #[.int .i64 s', .pointer g']] wc fun e w' => ∃ (r : Int) (q : Option Addr), e = .returned (.tuple #[.agg #[.int .i64 r, .pointer q], .int .i64 (errS z y)]) ∧ NumA cold w' r q (valS z y) ∧ Below wc.heap.size wc w' := by
  refine (Shift_calls hx.cold hy.cold (h wc (Below.refl _ _)).1 (h wc (Below.refl _ _)).2 (fun k hk => hk.elim)).mono ?_
  rintro e w' ⟨hb, ⟨h1, he⟩ | ⟨h1, h2, r, q, he, hn⟩ | ⟨h1, h2, he⟩⟩
  · exact ⟨0, none, by unfold errS; rw [if_neg h1]; exact he, by unfold valS; rw [if_neg (fun h => h1 h.1)]; exact NumA.small _ i64_0, hb⟩
  · exact ⟨r, q, by rw [(errS_yes h1 h2).1]; exact he, by rw [(errS_yes h1 h2).2]; exact hn, hb⟩
  · exact ⟨0, none, by unfold errS; rw [if_pos h1, if_neg h2]; exact he, by unfold valS; rw [if_neg (fun h => h2 h.2)]; exact NumA.small _ i64_0, hb⟩
end
/-- the least term tells whether a shift reaches -/
theorem reaches_last {z y : Int} {l : List Tm} {t : Tm} (h : naf z = l ++ [t]) : reaches z y ↔ 0 ≤ (t.2 : Int) + y := by
  unfold reaches
  rw [h]
  refine ⟨fun k => k t (by simp), fun k u hu => ?_⟩
  rcases List.mem_append.1 hu with x | x
  · have hn := naf_NA z
    rw [h] at hn
    have := (List.pairwise_append.1 hn).2.2 u x t (by simp)
    omega
  · rw [List.mem_singleton.1 x]; exact k

/-! Powers of two (for NumPowers). -/
theorem pow_val {y : Int} (hy : 0 ≤ y) (h : errS 1 y = 0) : valS 1 y = 2 ^ y.toNat := by
  obtain ⟨k, rfl⟩ := Int.eq_ofNat_of_zero_le hy
  rw [(errS_0 h).2.2, shiftZ_nat, Int.one_mul]; rfl
/-- a power of two is refused for its height alone -/
theorem pow_err {y : Int} (hy : 0 ≤ y) (ha : allowedZ y) (hw : weightZ y ≤ 120) : errS 1 y = 0 ∨ (errS 1 y = 5 ∧ hgt y = 100) := by
  obtain ⟨k, rfl⟩ := Int.eq_ofNat_of_zero_le hy
  have hr := reaches_nat 1 k
  have hs : shiftZ 1 (k : Int) = 2 ^ k := by rw [shiftZ_nat, Int.one_mul]
  by_cases h : hgt (k : Int) ≤ 99
  · exact .inl (errS_yes hr (by rw [hs]; exact allowed_pow ha (by omega) h)).1
  · by_cases h2 : allowedZ (shiftZ 1 (k : Int))
    · exact .inl (errS_yes hr h2).1
    · exact .inr ⟨by unfold errS; rw [if_pos hr, if_neg h2], by have := ha.2.1; omega⟩
theorem pow_gt (k : Nat) : ((k : Nat) : Int) < 2 ^ k := by
  have := Nat.lt_two_pow_self (n := k)
  have h2 : ((2 ^ k : Nat) : Int) = (2 : Int) ^ k := by rw [Int.natCast_pow]; rfl
  omega
theorem pow_lt {a b : Nat} (h : a < b) : (2 : Int) ^ a < 2 ^ b := by
  have h1 : (2 : Nat) ^ a < 2 ^ b := Nat.pow_lt_pow_right (by decide) h
  have h2 : ((2 ^ a : Nat) : Int) = (2 : Int) ^ a := by rw [Int.natCast_pow]; rfl
  have h3 : ((2 ^ b : Nat) : Int) = (2 : Int) ^ b := by rw [Int.natCast_pow]; rfl
  omega
theorem pow_cmp (a b : Nat) : sgn ((2 : Int) ^ a - 2 ^ b) = sgn ((a : Int) - b) := by
  rcases Nat.lt_trichotomy a b with h | h | h
  · have := pow_lt h
    unfold sgn
    repeat (split <;> try omega)
  · subst h; simp [sgn]
  · have := pow_lt h
    unfold sgn
    repeat (split <;> try omega)
theorem pow_double (k : Nat) : (2 : Int) ^ k + 2 ^ k = 2 ^ (k + 1) := by rw [Int.pow_succ]; omega
end Go.Proofs.YtlclanmbebjfkaaDoor

namespace Go.Proofs.YtlclanmbebjfkaaDoor
open Go.RowKit
set_option linter.unusedVariables false
variable {B B' : Nat → Prop}

/-! A number's terms as a row of the caller's own (for NumShifts, NumPowers, NumForm, NumOwn). -/
theorem allowed_exp {z : Int} (h : allowedZ z) {u : Tm} (hu : u ∈ naf z) : allowedZ (u.2 : Int) := by
  refine ⟨by have := weight_lt hu; have := h.1; omega, by have := hgt_ge hu; have := h.2.1; omega, fun p hp => h.2.2 p (partsZ_sub (partsZ_closed z) (partsZ_closed z z (partsZ_mem z) u hu) p hp)⟩
def ofT (u : Tm) : Bool × Int := (u.1, (u.2 : Int))
theorem tmOf_ofT (l : List Tm) : (l.map ofT).map tmOf = l := by
  rw [List.map_map]
  conv => rhs; rw [← List.map_id l]
  exact List.map_congr_left (fun u _ => by simp [ofT, tmOf])
theorem sumZ_ofT (l : List Tm) : sumZ (l.map ofT) = val l := by unfold sumZ; rw [tmOf_ofT]
theorem TVals.fits {w : World} {D : Addr → Option Int} {S : List Addr} (hf : Forest w B D) (hS : ∀ p y, D p = some y → p ∈ S) {L : Nat} (hL : S.length ≤ L) : ∀ {ts : List TV} {l : List Tm}, TVals D ts l → (∀ u ∈ l, allowedZ (u.2 : Int)) → FitsV B w ts (l.map ofT)
  | [], [], _, _ => trivial
  | t :: ts, u :: l, h, ha => ⟨⟨h.1.1, NumA.of ⟨D, S, hf, hS, hL, h.1.2⟩ (ha u (List.mem_cons_self ..))⟩, TVals.fits hf hS hL h.2 (fun x hx => ha x (List.mem_cons_of_mem _ hx))⟩
  | [], u :: l, h, _ => h.elim
  | t :: ts, [], h, _ => h.elim
section
variable {wc : World} {s s' z y : Int} {g g' : Option Addr}
/-- Terms, at every later world -/
theorem LawW.terms (h : LawW wc) (hx : NumA B wc s g z) : ∀ W, Below wc.heap.size wc W → Calls Tryd.prog 5 #[.agg #[.int .i64 s, .pointer g]] W fun e w' => ∃ (a : Option Addr) (c : Nat) (ts : List TV), e = .returned (.slice a ts.length c) ∧ ts.length = Go.Proofs.YtlclanmbebjfkaaDoor.wt z ∧ w'.ownsRow W.heap.size 31 3 (.slice a ts.length c) ts.length (flatT ts) ∧ FitsV cold w' ts ((naf z).map ofT) ∧ Below W.heap.size W w' := by
  intro W hW
  obtain ⟨ha, D, S, h1, h2, h3, h4⟩ := (hx.below hW).cold
  have hw : wide z := by have := hx.wt; have := lim_eq; unfold wide; omega
  refine (Terms_calls h1 h4 hw).mono ?_
  rintro e w' ⟨v, ts, rfl, ho, ht, hb⟩
  obtain ⟨a, c, rfl⟩ := (RowV.of_own ho).shape
  exact ⟨a, c, ts, rfl, by rw [ht.len]; rfl, ho, TVals.fits (h1.keeps ⟨hb.os, hb.tape, hb.output, hb.size, fun k hk _ => hb.block k hk⟩) h2 h3 ht (fun u hu => allowed_exp ha hu), hb⟩
theorem LawW.weight (h : LawW wc) (hx : NumA B wc s g z) : ∀ W, Below wc.heap.size wc W → Calls Tryd.prog 13 #[.agg #[.int .i64 s, .pointer g]] W fun e w' => e = .returned (.int .i64 (weightZ z)) ∧ Below wc.heap.size wc w' := by
  intro W hW
  refine (Weight_calls ((hx.below hW).cold.2.more (by omega))).mono ?_
  rintro e w' ⟨rfl, hb⟩
  exact ⟨rfl, hW.trans (hb.mono hW.size)⟩
theorem LawW.height (h : LawW wc) (hx : NumA B wc s g z) : ∀ W, Below wc.heap.size wc W → Calls Tryd.prog 10 #[.agg #[.int .i64 s, .pointer g]] W fun e w' => e = .returned (.int .i64 (hgt z)) ∧ Below wc.heap.size wc w' := by
  intro W hW
  refine (Height_calls ((hx.below hW).cold.2.more (by omega))).mono ?_
  rintro e w' ⟨rfl, hb⟩
  exact ⟨rfl, hW.trans (hb.mono hW.size)⟩
end
/-- a power of two, where it is there, has one term -/
theorem wt_power {y : Int} (hy : 0 ≤ y) (h : errS 1 y = 0) : wt (valS 1 y) ≤ 1 := by rw [pow_val hy h, wt_pow1]; omega

/-! The least term: the last of the row. -/
theorem last_of {z : Int} {n : Nat} (h : wt z = n + 1) : ∃ (l : List Tm) (t : Tm), naf z = l ++ [t] ∧ l.length = n := by
  have hl : (naf z).length = n + 1 := h
  rcases List.eq_nil_or_concat (naf z) with e | ⟨l, t, e⟩
  · rw [e] at hl; simp at hl
  · rw [List.concat_eq_append] at e
    exact ⟨l, t, e, by rw [e] at hl; simp at hl; omega⟩
theorem FitsV.last {w : World} {ts : List TV} {z : Int} {l : List Tm} {t : Tm} (h : FitsV B w ts ((naf z).map ofT)) (e : naf z = l ++ [t]) {n : Nat} (hn : ts.length = n + 1) : ∃ (m : Bool) (s : Int) (g : Option Addr), ∃ h1 : n < ts.length, ts[n] = (m, s, g) ∧ m = t.1 ∧ NumA B w s g (t.2 : Int) := by
  have hl := h.len
  have h1 : n < ts.length := by omega
  have h2 : n < ((naf z).map ofT).length := by omega
  have hg := h.get n h1 h2
  have hv : ((naf z).map ofT)[n] = ofT t := by
    have hll : l.length = n := by rw [e] at hl; simp at hl; omega
    simp only [e, List.map_append, List.map_cons, List.map_nil]
    rw [List.getElem_append_right (by simp; omega)]
    simp [hll]
  rw [hv] at hg
  exact ⟨_, _, _, h1, rfl, hg.1, hg.2⟩
/-- a shift to the other side -/
theorem err_other {z y : Int} {l : List Tm} {t : Tm} (h : naf z = l ++ [t]) (ha : errA ((t.2 : Int) + y) = 0) : (errS z y == 4) = !(decide (0 ≤ sgn (valA ((t.2 : Int) + y)))) := by
  have h1 := reaches_last (y := y) h
  rw [(errA_0 ha).2]
  rw [Bool.eq_iff_iff, Bool.not_eq_true', decide_eq_false_iff_not, beq_iff_eq, errS_4, h1]
  unfold sgn
  repeat (split <;> try omega)
theorem reaches_none {z : Int} (h : wt z = 0) (y : Int) : reaches z y := by
  have : naf z = [] := List.length_eq_zero_iff.1 h
  intro t ht; rw [this] at ht; simp at ht
end Go.Proofs.YtlclanmbebjfkaaDoor

namespace Go.Proofs.YtlclanmbebjfkaaDoor
open Go.RowKit
set_option linter.unusedVariables false
variable {B B' : Nat → Prop}

/-! Variables that are written again; two numbers that a law picks (for NumPowers, NumOwn). -/
theorem Vars.put {w : World} {x : Nat} {i : Int} {p : Option Addr} (hx : w.heap[x]? = some (.cells #[.int .i64 i, .pointer p] 28 (0, 0))) (u v : Value) : ∀ {l : List (Nat × Int)}, Vars w l → (∀ e ∈ l, e.1 ≠ x) → Vars ((w.setCell ⟨x, 0, none⟩ u).setCell ⟨x, 1, none⟩ v) l
  | [], _, _ => trivial
  | e :: l, h, hn => by
    obtain ⟨⟨s, g, h1, h2⟩, h3⟩ := h
    have hne := hn e (List.mem_cons_self ..)
    exact ⟨⟨s, g, ((Below.heap_setCell _ _ _ _ hne).trans (Below.heap_setCell _ _ _ _ hne)).trans h1, h2.put hx u v⟩, Vars.put hx u v h3 (fun e he => hn e (List.mem_cons_of_mem _ he))⟩

/-- two numbers that a law has picked -/
def PickT (X : World) (s1 s2 : Int) (g1 g2 : Option Addr) (v6 v7 : Value) (wx : World) : Prop :=
  ∃ b6 b7, v6 = .pointer (some ⟨b6, 0, none⟩) ∧ v7 = .pointer (some ⟨b7, 0, none⟩) ∧ Below X.heap.size X wx ∧
    wx.heap[b6]? = some (.cells #[.int .i64 s1, .pointer g1] 28 (0, 0)) ∧ wx.heap[b7]? = some (.cells #[.int .i64 s2, .pointer g2] 28 (0, 0)) ∧ X.heap.size ≤ b6 ∧ X.heap.size ≤ b7 ∧ b6 ≠ b7
theorem pick_new (X : World) (s1 s2 : Int) (g1 g2 : Option Addr) : PickT X s1 s2 g1 g2 (.pointer (some ⟨X.heap.size, 0, none⟩)) (.pointer (some ⟨X.heap.size + 1, 0, none⟩)) ((X.alloc (.cells #[.int .i64 s1, .pointer g1] 28)).alloc (.cells #[.int .i64 s2, .pointer g2] 28)).drew := by
  obtain ⟨a0, a1⟩ := alloc2_heap X (.cells #[.int .i64 s1, .pointer g1] 28) (.cells #[.int .i64 s2, .pointer g2] 28)
  exact ⟨_, _, rfl, rfl, by refine Below.drew ?_; repeat (first | exact Below.refl _ _ | refine Below.alloc ?_ (by simp <;> omega) _), a0, a1, by omega, by omega, by omega⟩
theorem pick_new' (X : World) (s1 s2 : Int) (g1 g2 : Option Addr) : PickT X s1 s2 g1 g2 (.pointer (some ⟨X.heap.size + 1, 0, none⟩)) (.pointer (some ⟨X.heap.size, 0, none⟩)) ((X.alloc (.cells #[.int .i64 s2, .pointer g2] 28)).alloc (.cells #[.int .i64 s1, .pointer g1] 28)).drew := by
  obtain ⟨a0, a1⟩ := alloc2_heap X (.cells #[.int .i64 s2, .pointer g2] 28) (.cells #[.int .i64 s1, .pointer g1] 28)
  exact ⟨_, _, rfl, rfl, by refine Below.drew ?_; repeat (first | exact Below.refl _ _ | refine Below.alloc ?_ (by simp <;> omega) _), a1, a0, by omega, by omega, by omega⟩

/-! A number made positive. -/
theorem abs_of (z : Int) : (sgn z < 0 → (z.natAbs : Int) = -z) ∧ (¬ sgn z < 0 → (z.natAbs : Int) = z) := by
  unfold sgn
  refine ⟨fun h => ?_, fun h => ?_⟩
  · by_cases hz : z < 0
    · omega
    · rw [if_neg hz] at h; split at h <;> omega
  · by_cases hz : z < 0
    · rw [if_pos hz] at h; omega
    · omega
theorem allowed_abs {z : Int} (h : allowedZ z) : allowedZ (z.natAbs : Int) := by
  rcases Int.natAbs_eq z with e | e
  · rw [← e]; exact h
  · rw [show (z.natAbs : Int) = -z by omega]; exact allowed_neg h
theorem weight_abs (z : Int) : weightZ (z.natAbs : Int) = weightZ z := by
  rcases Int.natAbs_eq z with e | e
  · rw [← e]
  · rw [show (z.natAbs : Int) = -z by omega]; exact weightZ_neg z
end Go.Proofs.YtlclanmbebjfkaaDoor

namespace Go.Proofs.YtlclanmbebjfkaaDoor
open Go.RowKit
set_option linter.unusedVariables false
variable {B B' : Nat → Prop}

/-! Rows of the caller's own that it writes into (for NumOwn). -/
theorem bytes_bound {z : Int} (h : allowedZ z) : (bytesZ z).length ≤ 2000000 := by
  have hb : ∀ l : List Int, (∀ p ∈ l, wt p ≤ 300) → (l.map (fun p => 2 + 3 * (naf p).length)).sum ≤ l.length * 902 := by
    intro l
    induction l with
    | nil => intro _; simp
    | cons p l ih =>
      intro hl
      have h1 := ih (fun q hq => hl q (List.mem_cons_of_mem _ hq))
      have h2 : (naf p).length ≤ 300 := hl p (List.mem_cons_self ..)
      simp only [List.map_cons, List.sum_cons, List.length_cons]
      omega
  have h1 := hb (listZ z) (fun p hp => h.2.2 p (mem_listZ.1 hp))
  have h2 := listZ_len z
  have h3 := h.1
  rw [bytesZ_len]
  omega

/-- a row of terms' cells: booleans at each third place -/
def RowB3 (N : Nat) (xs : List Value) : Prop := xs.length = N * 3 ∧ ∀ j, j < N → ∃ m, xs[j * 3]? = some (.bool m)
theorem RowB3.of_flat (ts : List TV) : RowB3 ts.length (flatT ts) := ⟨flatT_len ts, fun j hj => ⟨_, (flatT_get ts j hj).1⟩⟩
theorem RowB3.set3 {N k : Nat} {xs : List Value} {m : Bool} {u v : Value} (h : RowB3 N xs) (hk : k < N) : RowB3 N (((xs.set (k * 3) (.bool m)).set (k * 3 + 1) u).set (k * 3 + 2) v) := by
  obtain ⟨h1, h2⟩ := h
  refine ⟨by simp [h1], fun j hj => ?_⟩
  rw [List.getElem?_set_ne (by omega), List.getElem?_set_ne (by omega)]
  by_cases e : j = k
  · subst e
    exact ⟨m, by rw [List.getElem?_set_self (by omega)]⟩
  · rw [List.getElem?_set_ne (by omega)]
    exact h2 j hj
theorem cell_some {xs : List Value} {i : Nat} (h : i < xs.length) : ∃ u, xs[i]? = some u := ⟨_, List.getElem?_eq_getElem h⟩

section
variable {wc : World} {s s' z y : Int} {g g' : Option Addr}
/-- Terms, with the terms' numbers at the world ahead -/
theorem LawW.terms0 (h : LawW wc) (hx : NumA B wc s g z) : ∀ W, Below wc.heap.size wc W → Calls Tryd.prog 5 #[.agg #[.int .i64 s, .pointer g]] W fun e w' => ∃ (a : Option Addr) (c : Nat) (ts : List TV), e = .returned (.slice a ts.length c) ∧ ts.length = Go.Proofs.YtlclanmbebjfkaaDoor.wt z ∧ w'.ownsRow W.heap.size 31 3 (.slice a ts.length c) ts.length (flatT ts) ∧ FitsV cold wc ts ((naf z).map ofT) ∧ Below W.heap.size W w' := by
  intro W hW
  obtain ⟨ha, D, S, h1, h2, h3, h4⟩ := hx.cold
  have hw : wide z := by have := hx.wt; have := lim_eq; unfold wide; omega
  refine (Terms_calls (h1.keeps ⟨hW.os, hW.tape, hW.output, hW.size, fun k hk _ => hW.block k hk⟩) h4 hw).mono ?_
  rintro e w' ⟨v, ts, rfl, ho, ht, hb⟩
  obtain ⟨a, c, rfl⟩ := (RowV.of_own ho).shape
  exact ⟨a, c, ts, rfl, by rw [ht.len]; rfl, ho, TVals.fits h1 h2 h3 ht (fun u hu => allowed_exp ha hu), hb⟩
theorem LawW.bytes (h : LawW wc) (hx : NumA B wc s g z) : ∀ W, Below wc.heap.size wc W → Calls Tryd.prog 29 #[.agg #[.int .i64 s, .pointer g]] W fun e w' => ∃ (a : Option Addr) (c : Nat), e = .returned (.slice a (bytesZ z).length c) ∧ w'.ownsRow W.heap.size 5 1 (.slice a (bytesZ z).length c) (bytesZ z).length (byV (bytesZ z)) ∧ Below W.heap.size W w' := by
  intro W hW
  exact Bytes_calls hx.1 (hx.below hW).2 (h W hW).1 (h W hW).2
/-- a call whose answer is dropped -/
abbrev Drops (wc : World) (e : Ending) (w' : World) : Prop := ∃ (r E : Int) (q : Option Addr), e = .returned (.tuple #[.agg #[.int .i64 r, .pointer q], .int .i64 E]) ∧ Below wc.heap.size wc w'
theorem LawW.addD (h : LawW wc) (hx : NumA B wc s g z) (hy : NumA B' wc s' g' y) : ∀ W, Below wc.heap.size wc W → Calls Tryd.prog 21 #[.agg #[.int .i64 s, .pointer g], .agg #[.int .i64 s', .pointer g']] W (Drops wc) := fun W hW => by
  refine ((h.on hW).addE (hx.below hW) (hy.below hW)).mono ?_
  rintro e w' ⟨r, q, rfl, _, hb⟩
  exact ⟨_, _, _, rfl, hW.trans (hb.mono hW.size)⟩
theorem LawW.subD (h : LawW wc) (hx : NumA B wc s g z) (hy : NumA B' wc s' g' y) : ∀ W, Below wc.heap.size wc W → Calls Tryd.prog 7 #[.agg #[.int .i64 s, .pointer g], .agg #[.int .i64 s', .pointer g']] W (Drops wc) := fun W hW => by
  refine ((h.on hW).subE (hx.below hW) (hy.below hW)).mono ?_
  rintro e w' ⟨r, q, rfl, _, hb⟩
  exact ⟨_, _, _, rfl, hW.trans (hb.mono hW.size)⟩
theorem LawW.mulD (h : LawW wc) (hx : NumA B wc s g z) (hy : NumA B' wc s' g' y) : ∀ W, Below wc.heap.size wc W → Calls Tryd.prog 31 #[.agg #[.int .i64 s, .pointer g], .agg #[.int .i64 s', .pointer g']] W (Drops wc) := fun W hW => by
  refine ((h.on hW).mulE (hx.below hW) (hy.below hW)).mono ?_
  rintro e w' ⟨r, q, rfl, _, hb⟩
  exact ⟨_, _, _, rfl, hW.trans (hb.mono hW.size)⟩
theorem LawW.shiftD (h : LawW wc) (hx : NumA B wc s g z) (hy : NumA B' wc s' g' y) : ∀ W, Below wc.heap.size wc W → Calls Tryd.prog 30 #[.agg #[.int .i64 s, .pointer g], .agg #[.int .i64 s', .pointer g']] W (Drops wc) := fun W hW => by
  refine ((h.on hW).shiftE (hx.below hW) (hy.below hW)).mono ?_
  rintro e w' ⟨r, q, rfl, _, hb⟩
  exact ⟨_, _, _, rfl, hW.trans (hb.mono hW.size)⟩
theorem LawW.sumD (h : LawW wc) {v : Value} {ts : List TV} {vs : List (Bool × Int)} (hr : RowV wc 3 v ts.length (flatT ts)) (hv : FitsV cold wc ts vs) (hm : ts.length ≤ 16000000) : Calls Tryd.prog 11 #[v] wc (Drops wc) := by
  refine (Sum_calls hr hv hm (h wc (Below.refl _ _)).1 (h wc (Below.refl _ _)).2 (fun k hk => hk.elim)).mono ?_
  rintro e w' ⟨hb, ⟨_, rfl⟩ | ⟨_, _, _, r, q, rfl, _⟩ | ⟨_, _, rfl⟩⟩
  · exact ⟨_, _, _, rfl, hb⟩
  · exact ⟨_, _, _, rfl, hb⟩
  · exact ⟨_, _, _, rfl, hb⟩
theorem LawW.loadY (h : LawW wc) {a : Option Addr} {c : Nat} (ha : allowedZ z) (hr : RowV wc 1 (.slice a (bytesZ z).length c) (bytesZ z).length (byV (bytesZ z))) : Calls Tryd.prog 33 #[.slice a (bytesZ z).length c] wc fun e w' => ∃ (s : Int) (g : Option Addr), e = .returned (.tuple #[.agg #[.int .i64 s, .pointer g], .int .i64 0]) ∧ NumA cold w' s g z ∧ Below wc.heap.size wc w' :=
  Load_yes ha hr (h wc (Below.refl _ _)).1 (h wc (Below.refl _ _)).2
end

/-- two rows of the same terms, in blocks of their own: the one being written from the start on, up to k -/
def TwoR (w : World) (vo vk : Value) (N k : Nat) (tso tsk : List TV) (wl : World) : Prop :=
  Below w.heap.size w wl ∧ (∃ xs, wl.ownsRow w.heap.size 31 3 vo N xs ∧ xs.length = N * 3 ∧ ∀ i, k * 3 ≤ i → xs[i]? = (flatT tso)[i]?) ∧ wl.ownsRow w.heap.size 31 3 vk N (flatT tsk) ∧ ∀ j, vo.ownBlock = some j → vk.ownBlock ≠ some j
theorem TwoR.next {w wl W : World} {b c N k : Nat} {vk : Value} {tso tsk : List TV} (h : TwoR w (.slice (some ⟨b, 0, none⟩) N c) vk N k tso tsk wl) (hW : Below wl.heap.size wl W) (u : Value) : TwoR w (.slice (some ⟨b, 0, none⟩) N c) vk N (k + 1) tso tsk (W.setCell ⟨b, k * 3, none⟩ u) := by
  obtain ⟨h1, ⟨xs, h2, h3, h4⟩, h5, h6⟩ := h
  have hb := (h2.lt b rfl).1
  refine ⟨(h1.trans (hW.mono h1.size)).setCell (p := ⟨b, k * 3, none⟩) hb _, ⟨_, ((ownsRow_belowAll h2 hW).stored (k * 3) u).1, by simp [h3], fun i hi => ?_⟩, ownsRow_setCell_other (ownsRow_belowAll h5 hW) (h6 b rfl) u, h6⟩
  rw [List.getElem?_set_ne (by omega)]
  exact h4 i (by omega)
end Go.Proofs.YtlclanmbebjfkaaDoor

namespace Go.Proofs.YtlclanmbebjfkaaDoor
open Go.RowKit
set_option linter.unusedVariables false
variable {B B' : Nat → Prop}

/-! Sums of terms as functions; numbers of small exponents (for NumSums, NumFull, NumBinary). -/
theorem NA_half : ∀ (l : List Tm) (b : Nat), NA l → (∀ t ∈ l, t.2 < b) → 2 * l.length ≤ b + 1
  | [], b, _, _ => by simp
  | t :: l, b, h, hb => by
    have ht := hb t (List.mem_cons_self ..)
    have hl : ∀ u ∈ l, u.2 < t.2 - 1 := fun u hu => by have := h.head u hu; omega
    have h1 := NA_half l (t.2 - 1) h.tail hl
    simp only [List.length_cons]
    by_cases h0 : t.2 = 0
    · cases l with
      | nil => simp; omega
      | cons u l => have := h.head u (List.mem_cons_self ..); omega
    · omega
/-- small exponents, and not too many -/
theorem allowed_range {z : Int} (h : ∀ t ∈ naf z, t.2 < 1000) (hw : wt z ≤ 300) : allowedZ z ∧ hgt z ≤ 14 ∧ weightZ z ≤ 1001 := by
  have hC : ClosedL (z :: (List.range 1000).map (fun i : Nat => (i : Int))) := by
    intro p hp t ht
    refine List.mem_cons_of_mem _ (List.mem_map.2 ⟨t.2, List.mem_range.2 ?_, rfl⟩)
    rcases List.mem_cons.1 hp with e | e
    · subst e; exact h t ht
    · obtain ⟨i, hi, rfl⟩ := List.mem_map.1 e
      have hi := List.mem_range.1 hi
      have := exp_boundP (z := (i : Int)) (b := 10) (by omega) (by omega) t ht
      omega
  have hm := List.mem_cons_self (a := z) (l := (List.range 1000).map (fun i : Nat => (i : Int)))
  have h1 : weightZ z ≤ 1001 := by
    have := partsZ_le hC hm
    simpa [weightZ] using this
  have h2 : hgt z ≤ 14 := by
    refine hgt_le fun t ht => ?_
    have h3 := h t ht
    have h4 := (allowed_bits (z := (t.2 : Int)) (b := 10) (by omega) (by omega) (by omega)).2.1
    have h5 := hgt_le_weight _ (t.2 : Int) (Nat.lt_succ_self _)
    omega
  refine ⟨⟨by omega, by omega, fun p hp => ?_⟩, h2, h1⟩
  rcases List.mem_cons.1 (partsZ_sub hC hm p hp) with e | e
  · rw [e]; exact hw
  · obtain ⟨i, hi, rfl⟩ := List.mem_map.1 e
    have hi := List.mem_range.1 hi
    have := (allowed_bits (z := (i : Int)) (b := 10) (by omega) (by omega) (by omega)).2.2
    omega
theorem fits_map {w : World} {α : Type} {f : α → TV} {g : α → Bool × Int} : ∀ l : List α, (∀ i ∈ l, (f i).1 = (g i).1 ∧ NumA B w (f i).2.1 (f i).2.2 (g i).2) → FitsV B w (l.map f) (l.map g)
  | [], _ => trivial
  | i :: l, h => ⟨h i (List.mem_cons_self ..), fits_map l (fun j hj => h j (List.mem_cons_of_mem _ hj))⟩
open Classical in
noncomputable def errU (vs : List (Bool × Int)) : Int := if ∃ p ∈ vs, p.2 < 0 then 1 else if allowedZ (sumZ vs) then 0 else 5
open Classical in
noncomputable def valU (vs : List (Bool × Int)) : Int := if (∀ p ∈ vs, 0 ≤ p.2) ∧ allowedZ (sumZ vs) then sumZ vs else 0
theorem sumZ_perm {vs us : List (Bool × Int)} (h : vs.Perm us) : sumZ vs = sumZ us := val_perm (h.map _)
theorem errU_perm {vs us : List (Bool × Int)} (h : vs.Perm us) : errU vs = errU us ∧ valU vs = valU us := by
  unfold errU valU
  rw [sumZ_perm h]
  have h1 : (∃ p ∈ vs, p.2 < 0) ↔ ∃ p ∈ us, p.2 < 0 := ⟨fun ⟨p, a, b⟩ => ⟨p, h.mem_iff.1 a, b⟩, fun ⟨p, a, b⟩ => ⟨p, h.mem_iff.2 a, b⟩⟩
  have h2 : (∀ p ∈ vs, 0 ≤ p.2) ↔ ∀ p ∈ us, 0 ≤ p.2 := ⟨fun k p a => k p (h.mem_iff.2 a), fun k p a => k p (h.mem_iff.1 a)⟩
  refine ⟨?_, ?_⟩
  · by_cases e : ∃ p ∈ us, p.2 < 0
    · rw [if_pos (h1.2 e), if_pos e]
    · rw [if_neg (fun x => e (h1.1 x)), if_neg e]
  · by_cases e : (∀ p ∈ us, 0 ≤ p.2) ∧ allowedZ (sumZ us)
    · rw [if_pos ⟨h2.2 e.1, e.2⟩, if_pos e]
    · rw [if_neg (fun x => e ⟨h2.1 x.1, x.2⟩), if_neg e]
theorem sumZ_snoc (vs : List (Bool × Int)) (p : Bool × Int) : sumZ (vs ++ [p]) = sumZ vs + tv (tmOf p) := by
  unfold sumZ
  rw [List.map_append, val_append]
  simp [val]
/-- Sum of some terms -/
theorem LawW.sumU {wc : World} (h : LawW wc) {v : Value} {ts : List TV} {vs : List (Bool × Int)} (hr : RowV wc 3 v ts.length (flatT ts)) (hv : FitsV cold wc ts vs) (hm : ts.length ≤ 1000) : Calls Tryd.prog 11 #[v] wc fun e w' => ∃ (r : Int) (q : Option Addr), e = .returned (.tuple #[.agg #[.int .i64 r, .pointer q], .int .i64 (errU vs)]) ∧ NumA cold w' r q (valU vs) ∧ Below wc.heap.size wc w' := by
  have hl := hv.len
  refine (Sum_calls hr hv (by omega) (h wc (Below.refl _ _)).1 (h wc (Below.refl _ _)).2 (fun k hk => hk.elim)).mono ?_
  rintro e w' ⟨hb, ⟨hx, rfl⟩ | ⟨hx, _, ha, r, q, rfl, hn⟩ | ⟨hx, hno, rfl⟩⟩
  · refine ⟨0, none, by unfold errU; rw [if_pos hx], ?_, hb⟩
    unfold valU
    rw [if_neg (fun k => by obtain ⟨p, a, b⟩ := hx; have := k.1 p a; omega)]
    exact NumA.small _ i64_0
  · have hno : ¬ ∃ p ∈ vs, p.2 < 0 := fun ⟨p, a, b⟩ => by have := hx p a; omega
    exact ⟨r, q, by unfold errU; rw [if_neg hno, if_pos ha], by unfold valU; rw [if_pos ⟨hx, ha⟩]; exact hn, hb⟩
  · have hno1 : ¬ ∃ p ∈ vs, p.2 < 0 := fun ⟨p, a, b⟩ => by have := hx p a; omega
    have hno2 : ¬ allowedZ (sumZ vs) := by
      rcases hno with x | x
      · omega
      · exact x
    exact ⟨0, none, by unfold errU; rw [if_neg hno1, if_neg hno2], by unfold valU; rw [if_neg (fun k => hno2 k.2)]; exact NumA.small _ i64_0, hb⟩
end Go.Proofs.YtlclanmbebjfkaaDoor
