import Derived.Test.YtlkmgclbckojgaaGreatDoorP5
import Derived.Test.YtlkmgclbckojgaaGreatDoorL6
set_option linter.unusedVariables false
set_option linter.unusedSimpArgs false
namespace Go.Proofs.YtlkmgclbckojgaaGreatDoor
set_option linter.unusedVariables false
theorem visL_flip : ∀ (l : List Tm) (s : List Int), visL (l.map flipT) s = visL l s
 | [], _ => rfl
 | t :: l, s => by
   rw [List.map_cons, visL_cons, visL_cons]
   exact visL_flip l _
theorem hgtL_flip (l : List Tm) : hgtL (l.map flipT) = hgtL l := by
 unfold hgtL
 rw [List.foldl_map]; rfl
theorem wt_neg (z : Int) : wt (-z) = wt z := by unfold wt; rw [naf_neg, List.length_map]
theorem weightZ_neg (z : Int) : weightZ (-z) = weightZ z := by
 unfold weightZ
 rw [partsZ_last, partsZ_last, naf_neg, visL_flip]; simp
theorem hgt_neg (z : Int) : hgt (-z) = hgt z := by rw [hgt_L, hgt_L, naf_neg, hgtL_flip]
theorem allowed_neg {z : Int} (h : allowedZ z) : allowedZ (-z) := by
 refine ⟨by rw [weightZ_neg]; exact h.1, by rw [hgt_neg]; exact h.2.1, fun p hp => ?_⟩
 rw [partsZ_last, naf_neg, visL_flip] at hp
 rcases List.mem_append.1 hp with x | x
 · exact h.2.2 p (by rw [partsZ_last]; exact List.mem_append_left _ x)
 · rw [List.mem_singleton.1 x, wt_neg]; exact h.2.2 z (partsZ_mem z)
end Go.Proofs.YtlkmgclbckojgaaGreatDoor
namespace Go.Proofs.YtlkmgclbckojgaaGreatDoor
set_option linter.unusedVariables false
def shT (y : Int) (t : Tm) : Tm := (t.1, ((t.2 : Int) + y).toNat)
def shiftZ (z y : Int) : Int := val ((naf z).map (shT y))
def reaches (z y : Int) : Prop := ∀ t ∈ naf z, 0 ≤ (t.2 : Int) + y
theorem NA_sh {l : List Tm} {y : Int} (h : NA l) (hr : ∀ t ∈ l, 0 ≤ (t.2 : Int) + y) : NA (l.map (shT y)) := by
 unfold NA at *
 rw [List.pairwise_map]
 refine List.Pairwise.imp_of_mem (fun {a b} ha hb hab => ?_) h
 have := hr a ha
 have := hr b hb
 simp only [shT]
 omega
theorem naf_shift {z y : Int} (hr : reaches z y) : naf (shiftZ z y) = (naf z).map (shT y) := naf_eq (NA_sh (naf_NA z) hr) rfl
theorem val_sh_nat (y : Nat) : ∀ l : List Tm, val (l.map (shT y)) = val l * 2 ^ y
 | [] => by simp [val]
 | t :: l => by
   simp only [List.map_cons, val, val_sh_nat y l, Int.add_mul]
   congr 1
   simp only [tv, shT]
   rw [show ((t.2 : Int) + (y : Int)).toNat = t.2 + y by omega, Int.pow_add, Int.mul_assoc]
theorem shiftZ_nat (z : Int) (y : Nat) : shiftZ z y = z * 2 ^ y := by unfold shiftZ; rw [val_sh_nat, naf_val]
theorem reaches_nat (z : Int) (y : Nat) : reaches z y := fun t _ => by omega
end Go.Proofs.YtlkmgclbckojgaaGreatDoor
namespace Go.Proofs.YtlkmgclbckojgaaGreatDoor
set_option linter.unusedVariables false
end Go.Proofs.YtlkmgclbckojgaaGreatDoor
