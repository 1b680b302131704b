import Derived.Test.YtlclanmbebjfkaaDoorO0
set_option linter.unusedVariables false
set_option linter.unusedSimpArgs false
namespace Go.Proofs.YtlclanmbebjfkaaDoor
open Go.RowKit
set_option linter.unusedVariables false
variable {B B' : Nat → Prop}

open Classical in
/-- the error of a sum -/
noncomputable def errA (z : Int) : Int := if allowedZ z then 0 else 5
open Classical in
noncomputable def valA (z : Int) : Int := if allowedZ z then z else 0
open Classical in
/-- the error of a product -/
noncomputable def errM (z y : Int) : Int := if allowedZ (z * y) ∧ wt z * wt y ≤ 10000 then 0 else 5
open Classical in
noncomputable def valM (z y : Int) : Int := if allowedZ (z * y) ∧ wt z * wt y ≤ 10000 then z * y else 0
theorem errA_0 {z : Int} (h : errA z = 0) : allowedZ z ∧ valA z = z := by
  unfold errA at h
  unfold valA
  by_cases ha : allowedZ z
  · exact ⟨ha, by rw [if_pos ha]⟩
  · rw [if_neg ha] at h; omega
theorem errA_yes {z : Int} (h : allowedZ z) : errA z = 0 ∧ valA z = z := by
  unfold errA valA; rw [if_pos h, if_pos h]; exact ⟨rfl, rfl⟩
theorem errM_0 {z y : Int} (h : errM z y = 0) : allowedZ (z * y) ∧ valM z y = z * y := by
  unfold errM at h
  unfold valM
  by_cases ha : allowedZ (z * y) ∧ wt z * wt y ≤ 10000
  · exact ⟨ha.1, by rw [if_pos ha]⟩
  · rw [if_neg ha] at h; omega
theorem errM_comm (z y : Int) : errM z y = errM y z ∧ valM z y = valM y z := by
  unfold errM valM
  rw [Int.mul_comm z y, Nat.mul_comm (wt z) (wt y)]
  exact ⟨rfl, rfl⟩
theorem errM_yes {z y : Int} (h : allowedZ (z * y)) (h2 : wt z * wt y ≤ 10000) : errM z y = 0 ∧ valM z y = z * y := by
  unfold errM valM; rw [if_pos ⟨h, h2⟩, if_pos ⟨h, h2⟩]; exact ⟨rfl, rfl⟩
section
variable {wc : World} {s s' z y : Int} {g g' : Option Addr}
/-- sums, differences and products at the world at hand -/
theorem LawW.addE (h : LawW wc) (hx : NumA B wc s g z) (hy : NumA B' wc s' g' y) : Calls Tryd.prog 21 #[.agg #[.int .i64 s, .pointer g], .agg #[.int .i64 s', .pointer g']] wc fun e w' => ∃ (r : Int) (q : Option Addr), e = .returned (.tuple #[.agg #[.int .i64 r, .pointer q], .int .i64 (errA (z + y))]) ∧ NumA cold w' r q (valA (z + y)) ∧ Below wc.heap.size wc w' := by
  refine (Add_calls hx.cold hy.cold (h wc (Below.refl _ _)).1 (h wc (Below.refl _ _)).2 (fun k hk => hk.elim)).mono ?_
  rintro e w' ⟨hb, ⟨h1, r, q, he, hn⟩ | ⟨h1, he⟩⟩
  · exact ⟨r, q, by unfold errA; rw [if_pos h1]; exact he, by unfold valA; rw [if_pos h1]; exact hn, hb⟩
  · exact ⟨0, none, by unfold errA; rw [if_neg h1]; exact he, by unfold valA; rw [if_neg h1]; exact NumA.small _ i64_0, hb⟩
theorem LawW.subE (h : LawW wc) (hx : NumA B wc s g z) (hy : NumA B' wc s' g' y) : Calls Tryd.prog 7 #[.agg #[.int .i64 s, .pointer g], .agg #[.int .i64 s', .pointer g']] wc fun e w' => ∃ (r : Int) (q : Option Addr), e = .returned (.tuple #[.agg #[.int .i64 r, .pointer q], .int .i64 (errA (z - y))]) ∧ NumA cold w' r q (valA (z - y)) ∧ Below wc.heap.size wc w' := by
  refine (Sub_calls hx.cold hy.cold (h wc (Below.refl _ _)).1 (h wc (Below.refl _ _)).2 (fun k hk => hk.elim)).mono ?_
  rintro e w' ⟨hb, ⟨h1, r, q, he, hn⟩ | ⟨h1, he⟩⟩
  · exact ⟨r, q, by unfold errA; rw [if_pos h1]; exact he, by unfold valA; rw [if_pos h1]; exact hn, hb⟩
  · exact ⟨0, none, by unfold errA; rw [if_neg h1]; exact he, by unfold valA; rw [if_neg h1]; exact NumA.small _ i64_0, hb⟩
theorem LawW.mulE (h : LawW wc) (hx : NumA B wc s g z) (hy : NumA B' wc s' g' y) : Calls Tryd.prog 31 #[.agg #[.int .i64 s, .pointer g], .agg #[.int .i64 s', .pointer g']] wc fun e w' => ∃ (r : Int) (q : Option Addr), e = .returned (.tuple #[.agg #[.int .i64 r, .pointer q], .int .i64 (errM z y)]) ∧ NumA cold w' r q (valM z y) ∧ Below wc.heap.size wc w' := by
  refine (Mul_calls hx.cold hy.cold (h wc (Below.refl _ _)).1 (h wc (Below.refl _ _)).2 (fun k hk => hk.elim)).mono ?_
  rintro e w' ⟨hb, ⟨h1, h2, r, q, he, hn⟩ | ⟨h1, he⟩⟩
  · exact ⟨r, q, by unfold errM; rw [if_pos ⟨h1, h2⟩]; exact he, by unfold valM; rw [if_pos ⟨h1, h2⟩]; exact hn, hb⟩
  · have hno : ¬ (allowedZ (z * y) ∧ wt z * wt y ≤ 10000) := fun ⟨a, b⟩ => by
      rcases h1 with h1 | h1
      · exact h1 a
      · omega
    exact ⟨0, none, by unfold errM; rw [if_neg hno]; exact he, by unfold valM; rw [if_neg hno]; exact NumA.small _ i64_0, hb⟩
end

/-- variables that hold numbers -/
def Vars (W : World) : List (Nat × Int) → Prop
  | [] => True
  | p :: l => NumAt cold W p.1 p.2 ∧ Vars W l
theorem Vars.below {W W' : World} : ∀ {l : List (Nat × Int)}, Vars W l → Below W.heap.size W W' → Vars W' l
  | [], _, _ => trivial
  | _ :: l, h, hb => ⟨h.1.below hb, Vars.below h.2 hb⟩
theorem Vars.get {W : World} {b : Nat} {z : Int} : ∀ {l : List (Nat × Int)}, Vars W l → (b, z) ∈ l → NumAt cold W b z
  | p :: l, h, hm => by
    rcases List.mem_cons.1 hm with e | e
    · rw [← e] at h; exact h.1
    · exact Vars.get h.2 e
end Go.Proofs.YtlclanmbebjfkaaDoor
