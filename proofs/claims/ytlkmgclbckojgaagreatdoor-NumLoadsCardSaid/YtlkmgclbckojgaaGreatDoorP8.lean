import Derived.Test.YtlkmgclbckojgaaGreatDoorP5
import Derived.Test.YtlkmgclbckojgaaGreatDoorL6
set_option linter.unusedVariables false
set_option linter.unusedSimpArgs false
namespace Go.Proofs.YtlkmgclbckojgaaGreatDoor
section
theorem Zhi : ∀ (l : List Tm) (s : List Int), visL (l.map flipT) s = visL l s
 | [], _ => rfl
 | t :: l, s => by
   rw [List.map_cons, Zcv, Zcv]
   exact Zhi l _
theorem Zo6 (l : List Tm) : hgtL (l.map flipT) = hgtL l := by
 unfold hgtL
 rw [List.foldl_map]; rfl
theorem wt_neg (z : Int) : wt (-z) = wt z := by unfold wt; rw [Zd3, List.length_map]
theorem Zlo (z : Int) : weightZ (-z) = weightZ z := by
 unfold weightZ
 rw [Zbu, Zbu, Zd3, Zhi]; simp
theorem Zrd (z : Int) : hgt (-z) = hgt z := by rw [hgt_L, hgt_L, Zd3, Zo6]
theorem Zlp {z : Int} (h : allowedZ z) : allowedZ (-z) := by
 refine ⟨by rw [Zlo]; exact h.1, by rw [Zrd]; exact h.2.1, fun p hp => ?_⟩
 rw [Zbu, Zd3, Zhi] at hp
 rcases List.mem_append.1 hp with x | x
 · exact h.2.2 p (by rw [Zbu]; exact List.mem_append_left _ x)
 · rw [List.mem_singleton.1 x, wt_neg]; exact h.2.2 z (Za5 z)
end
section
def shT (y : Int) (t : Tm) : Tm := (t.1, ((t.2 : Int) + y).toNat)
def shiftZ (z y : Int) : Int := val ((naf z).map (shT y))
def reaches (z y : Int) : Prop := ∀ t ∈ naf z, 0 ≤ (t.2 : Int) + y
theorem NA_sh {l : List Tm} {y : Int} (h : NA l) (hr : ∀ t ∈ l, 0 ≤ (t.2 : Int) + y) : NA (l.map (shT y)) := by
 unfold NA at *
 rw [List.pairwise_map]
 refine List.Pairwise.imp_of_mem (fun {a b} ha hb hab => ?_) h
 have := hr a ha
 have := hr b hb
 simp only [shT]
 omega
theorem Zij (y : Nat) : ∀ l : List Tm, val (l.map (shT y)) = val l * 2 ^ y
 | [] => by simp [val]
 | t :: l => by
   simp only [List.map_cons, val, Zij y l, Int.add_mul]
   congr 1
   simp only [tv, shT]
   rw [show ((t.2 : Int) + (y : Int)).toNat = t.2 + y by omega, Int.pow_add, Int.mul_assoc]
theorem Zik (z : Int) (y : Nat) : shiftZ z y = z * 2 ^ y := by unfold shiftZ; rw [Zij, Zam]
theorem Zhj (z : Int) (y : Nat) : reaches z y := fun t _ => by omega
end
section
end
end Go.Proofs.YtlkmgclbckojgaaGreatDoor

