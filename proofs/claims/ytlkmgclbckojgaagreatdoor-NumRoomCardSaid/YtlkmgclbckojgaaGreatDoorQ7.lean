import Derived.Test.YtlkmgclbckojgaaGreatDoorL6
import Derived.Test.YtlkmgclbckojgaaGreatDoorP8
set_option linter.unusedVariables false
set_option linter.unusedSimpArgs false
namespace Go.Proofs.YtlkmgclbckojgaaGreatDoor
set_option linter.unusedVariables false
def Ex (z : Int) (k : Nat) : Prop := ∃ t ∈ naf z, t.2 = k
theorem Ex_even (w : Int) (k : Nat) : Ex (2 * w) k ↔ ∃ j, k = j + 1 ∧ Ex w j := by
 have e : naf (2 * w) = (naf w).map (shT ((1 : Nat) : Int)) := by
   have h := naf_shift (reaches_nat w 1)
   rw [shiftZ_nat, show w * 2 ^ 1 = 2 * w by omega] at h
   exact h
 unfold Ex
 rw [e]
 constructor
 · rintro ⟨t, ht, rfl⟩
   obtain ⟨u, hu, rfl⟩ := List.mem_map.1 ht
   exact ⟨u.2, by simp only [shT]; omega, u, hu, rfl⟩
 · rintro ⟨j, rfl, u, hu, rfl⟩
   exact ⟨_, List.mem_map_of_mem hu, by simp only [shT]; omega⟩
theorem Ex_odd (u : Int) (m : Bool) (k : Nat) : Ex (4 * u + sg m) k ↔ k = 0 ∨ ∃ j, k = j + 2 ∧ Ex u j := by
 have h := naf_shift (reaches_nat u 2)
 rw [shiftZ_nat, show u * 2 ^ 2 = 4 * u by omega] at h
 have hna : NA ((naf u).map (shT ((2 : Nat) : Int)) ++ [(m, 0)]) := by
   refine List.pairwise_append.2 ⟨NA_sh (naf_NA u) (reaches_nat u 2), by simp, fun a ha b hb => ?_⟩
   obtain ⟨v, _, rfl⟩ := List.mem_map.1 ha
   rw [List.mem_singleton.1 hb]
   simp only [shT]; omega
 have hv : val ((naf u).map (shT ((2 : Nat) : Int)) ++ [(m, 0)]) = 4 * u + sg m := by
   rw [val_append, ← h, naf_val]
   simp [val, tv]
 have e := naf_eq hna hv
 unfold Ex
 rw [e]
 constructor
 · rintro ⟨t, ht, rfl⟩
   rcases List.mem_append.1 ht with a | a
   · obtain ⟨v, hv, rfl⟩ := List.mem_map.1 a
     exact .inr ⟨v.2, by simp only [shT]; omega, v, hv, rfl⟩
   · rw [List.mem_singleton.1 a]; exact .inl rfl
 · rintro (rfl | ⟨j, rfl, v, hv, rfl⟩)
   · exact ⟨(m, 0), by simp, rfl⟩
   · exact ⟨shT ((2 : Nat) : Int) v, List.mem_append_left _ (List.mem_map_of_mem hv), by simp only [shT]; omega⟩
theorem Ex_zero (k : Nat) : ¬ Ex 0 k := by rintro ⟨t, ht, _⟩; rw [naf_zero] at ht; simp at ht
theorem digit (x : Int) : ∃ d x1 : Int, (d = 0 ∨ d = 1 ∨ d = -1) ∧ x = 2 * x1 + d ∧ (d ≠ 0 → x1 % 2 = 0) ∧ (∀ k, Ex x k ↔ (k = 0 ∧ d ≠ 0) ∨ ∃ j, k = j + 1 ∧ Ex x1 j) ∧ x1.natAbs ≤ x.natAbs ∧ (x ≠ 0 → x1.natAbs < x.natAbs) := by
 rcases (by omega : x % 2 = 0 ∨ x % 4 = 1 ∨ x % 4 = 3) with h | h | h
 · refine ⟨0, x / 2, .inl rfl, by omega, by omega, fun k => ?_, by omega, by omega⟩
   have e := Ex_even (x / 2) k
   rw [show 2 * (x / 2) = x by omega] at e
   rw [e]
   constructor
   · exact fun h => .inr h
   · rintro (⟨_, h⟩ | h)
     · exact absurd rfl h
     · exact h
 · refine ⟨1, x / 2, .inr (.inl rfl), by omega, by omega, fun k => ?_, by omega, by omega⟩
   have e := Ex_odd (x / 4) false k
   rw [show 4 * (x / 4) + sg false = x by simp only [sg]; simp; omega] at e
   rw [e]
   have e2 := fun j => Ex_even (x / 4) j
   rw [show 2 * (x / 4) = x / 2 by omega] at e2
   constructor
   · rintro (rfl | ⟨j, rfl, hj⟩)
     · exact .inl ⟨rfl, by omega⟩
     · exact .inr ⟨j + 1, rfl, (e2 (j + 1)).2 ⟨j, rfl, hj⟩⟩
   · rintro (⟨rfl, _⟩ | ⟨j, rfl, hj⟩)
     · exact .inl rfl
     · obtain ⟨i, rfl, hi⟩ := (e2 j).1 hj
       exact .inr ⟨i, rfl, hi⟩
 · refine ⟨-1, (x + 1) / 2, .inr (.inr rfl), by omega, by omega, fun k => ?_, by omega, by omega⟩
   have e := Ex_odd ((x + 1) / 4) true k
   rw [show 4 * ((x + 1) / 4) + sg true = x by simp only [sg]; simp; omega] at e
   rw [e]
   have e2 := fun j => Ex_even ((x + 1) / 4) j
   rw [show 2 * ((x + 1) / 4) = (x + 1) / 2 by omega] at e2
   constructor
   · rintro (rfl | ⟨j, rfl, hj⟩)
     · exact .inl ⟨rfl, by omega⟩
     · exact .inr ⟨j + 1, rfl, (e2 (j + 1)).2 ⟨j, rfl, hj⟩⟩
   · rintro (⟨rfl, _⟩ | ⟨j, rfl, hj⟩)
     · exact .inl rfl
     · obtain ⟨i, rfl, hi⟩ := (e2 j).1 hj
       exact .inr ⟨i, rfl, hi⟩
def Ex1 (z : Int) (k : Nat) : Prop := Ex z k ∨ ∃ j, k = j + 1 ∧ Ex z j
theorem Ex1.up {x x1 d : Int} (h : ∀ k, Ex x k ↔ (k = 0 ∧ d ≠ 0) ∨ ∃ j, k = j + 1 ∧ Ex x1 j) {k : Nat} (hk : Ex1 x1 k) : Ex1 x (k + 1) := by
 rcases hk with a | ⟨j, rfl, a⟩
 · exact .inl ((h _).2 (.inr ⟨k, rfl, a⟩))
 · exact .inr ⟨j + 1, rfl, (h _).2 (.inr ⟨j, rfl, a⟩)⟩
theorem c1_range {dx dy dv c c1 : Int} (h : 2 * c1 = dx + dy + c - dv) (hx : -1 ≤ dx ∧ dx ≤ 1) (hy : -1 ≤ dy ∧ dy ≤ 1) (hv : -1 ≤ dv ∧ dv ≤ 1) (hc : -1 ≤ c ∧ c ≤ 1) (hn : c = 0 ∨ dx = 0 ∨ dy = 0) : c1 = 0 ∨ c1 = 1 ∨ c1 = -1 := by omega
theorem less_r {a A b B n : Nat} (h : a ≤ A) (h2 : b < B) (hn : A + B < n + 1) : a + b < n := by omega
theorem less_l {a A b B n : Nat} (h : a < A) (h2 : b ≤ B) (hn : A + B < n + 1) : a + b < n := by omega
theorem odd_c {dx dy dv c c1 : Int} (h : 2 * c1 = dx + dy + c - dv) (a : ¬ dx ≠ 0) (b : ¬ dy ≠ 0) (hd : dv ≠ 0) (hv : -1 ≤ dv ∧ dv ≤ 1) : c ≠ 0 := by omega
theorem none_c {dx dy dv c c1 : Int} (h : 2 * c1 = dx + dy + c - dv) (a : ¬ dx ≠ 0) (b : ¬ dy ≠ 0) (hd : dv = 0) (hc : -1 ≤ c ∧ c ≤ 1) : c1 = 0 := by omega
theorem even_no {v1 v2 d2 : Int} (h : v1 = 2 * v2 + d2) (hd : d2 = 0 ∨ d2 = 1 ∨ d2 = -1) (h2 : v1 % 2 = 0) : ¬ d2 ≠ 0 := by omega
theorem tri {d : Int} (h : d = 0 ∨ d = 1 ∨ d = -1) : -1 ≤ d ∧ d ≤ 1 := by omega
theorem par1 {x x1 d y y1 e : Int} (hx : x = 2 * x1 + d) (hy : y = 2 * y1 + e) (h : x % 2 = 0 ∨ y % 2 = 0) (hd : d = 0 ∨ d = 1 ∨ d = -1) (he : e = 0 ∨ e = 1 ∨ e = -1) : d = 0 ∨ e = 0 := by omega
theorem par2 {x1 y1 c1 : Int} (h : (x1 + y1 + c1) % 2 = 0) (hc : c1 = 0 ∨ c1 = 1 ∨ c1 = -1) (h0 : c1 ≠ 0) : x1 % 2 = 0 ∨ y1 % 2 = 0 := by omega
theorem carry_exps : ∀ (n : Nat) (x y c : Int), x.natAbs + y.natAbs < n → (c = 0 ∨ c = 1 ∨ c = -1) → (c ≠ 0 → x % 2 = 0 ∨ y % 2 = 0) → ∀ k, Ex (x + y + c) k → Ex1 x k ∨ Ex1 y k ∨ (c ≠ 0 ∧ k = 0)
 | 0, x, y, c, h, _, _ => by omega
 | n + 1, x, y, c, hn, hc, he => by
   intro k hk
   obtain ⟨dx, x1, hdx, hx, hxe, hxk, hxm, hxl⟩ := digit x
   obtain ⟨dy, y1, hdy, hy, hye, hyk, hym, hyl⟩ := digit y
   obtain ⟨dv, v1, hdv, hv, hve, hvk, _, _⟩ := digit (x + y + c)
   by_cases h0 : x = 0 ∧ y = 0
   · obtain ⟨rfl, rfl⟩ := h0
     rcases hc with rfl | rfl | rfl
     · exact absurd hk (Ex_zero k)
     · refine .inr (.inr ⟨by omega, ?_⟩)
       obtain ⟨t, ht, rfl⟩ := hk
       rw [show (0 : Int) + 0 + 1 = 1 by omega, naf1] at ht
       rw [List.mem_singleton.1 ht]
     · refine .inr (.inr ⟨by omega, ?_⟩)
       obtain ⟨t, ht, rfl⟩ := hk
       rw [show (0 : Int) + 0 + -1 = -1 by omega, show (-1 : Int) = -(1 : Int) by omega, naf_neg, naf1] at ht
       simp only [List.map_cons, List.map_nil, List.mem_singleton] at ht
       rw [ht]; rfl
   · have hlt : x1.natAbs + y1.natAbs < n := by
       by_cases hx0 : x = 0
       · exact less_r hxm (hyl (fun e => h0 ⟨hx0, e⟩)) hn
       · exact less_l (hxl hx0) hym hn
     have hkv := (hvk k).1 hk
     obtain ⟨c1, hc1⟩ : ∃ c1, c1 = v1 - x1 - y1 := ⟨_, rfl⟩
     have hv1 : v1 = x1 + y1 + c1 := by rw [hc1]; omega
     have h2c : 2 * c1 = dx + dy + c - dv := by
       clear hxk hyk hvk hk hkv hxl hyl hlt he hxe hye hve hn hdx hdy hdv hc h0 hv1
       omega
     have hnot : c = 0 ∨ dx = 0 ∨ dy = 0 := by
       by_cases h1 : c = 0
       · exact .inl h1
       · exact .inr (par1 hx hy (he h1) hdx hdy)
     have hc1r : c1 = 0 ∨ c1 = 1 ∨ c1 = -1 := c1_range h2c (tri hdx) (tri hdy) (tri hdv) (tri hc) hnot
     have hc1e : c1 ≠ 0 → x1 % 2 = 0 ∨ y1 % 2 = 0 := fun h1 => by
       by_cases a : dx = 0
       · by_cases b : dy = 0
         · by_cases d : dv = 0
           · exfalso
             rw [a, b, d] at h2c
             rcases hc with e | e | e <;> rw [e] at h2c <;> omega
           · have h3 := hve d
             rw [hv1] at h3
             exact par2 h3 hc1r h1
         · exact .inr (hye b)
       · exact .inl (hxe a)
     rcases hkv with ⟨rfl, hd⟩ | ⟨j, rfl, hj⟩
     · by_cases a : dx ≠ 0
       · exact .inl (.inl ((hxk 0).2 (.inl ⟨rfl, a⟩)))
       · by_cases b : dy ≠ 0
         · exact .inr (.inl (.inl ((hyk 0).2 (.inl ⟨rfl, b⟩))))
         · exact .inr (.inr ⟨odd_c h2c a b hd (tri hdv), rfl⟩)
     · rw [hv1] at hj
       rcases carry_exps n x1 y1 c1 hlt hc1r hc1e j hj with a | a | ⟨h1, rfl⟩
       · exact .inl (Ex1.up hxk a)
       · exact .inr (.inl (Ex1.up hyk a))
       · by_cases a : dx ≠ 0
         · exact .inl (.inr ⟨0, rfl, (hxk 0).2 (.inl ⟨rfl, a⟩)⟩)
         · by_cases b : dy ≠ 0
           · exact .inr (.inl (.inr ⟨0, rfl, (hyk 0).2 (.inl ⟨rfl, b⟩)⟩))
           · exfalso
             by_cases d : dv = 0
             · exact h1 (none_c h2c a b d (tri hc))
             · have h2 := hve d
               rw [← hv1] at hj
               obtain ⟨d2, v2, hd2, hv2, _, hv2k, _, _⟩ := digit v1
               rcases (hv2k 0).1 hj with ⟨_, h4⟩ | ⟨i, h4, _⟩
               · exact even_no hv2 hd2 h2 h4
               · exact absurd h4 (by omega)
theorem sum_exps (x y : Int) (k : Nat) (h : Ex (x + y) k) : Ex1 x k ∨ Ex1 y k := by
 rcases carry_exps _ x y 0 (Nat.lt_succ_self _) (.inl rfl) (fun h => absurd rfl h) k (by rw [Int.add_zero]; exact h) with a | a | ⟨a, _⟩
 · exact .inl a
 · exact .inr a
 · exact absurd rfl a
end Go.Proofs.YtlkmgclbckojgaaGreatDoor
namespace Go.Proofs.YtlkmgclbckojgaaGreatDoor
set_option linter.unusedVariables false
end Go.Proofs.YtlkmgclbckojgaaGreatDoor
