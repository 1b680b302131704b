import Derived.Test.YtlkmgclbckojgaaGreatDoorRows
import Derived.Test.YtlkmgclbckojgaaGreatDoorM5
import Derived.WalkKit
import Derived.Deep.QuietTactic
import Derived.BigQuiet
import Derived.Deep.RegionHeld3
import Derived.Lib.Hide
set_option linter.unusedVariables false
set_option linter.unusedSimpArgs false
namespace Go.Proofs.YtlkmgclbckojgaaGreatDoor
open Go.RowKit
set_option linter.unusedVariables false
def i64 (z : Int) : Prop := -9223372036854775808 ≤ z ∧ z ≤ 9223372036854775807
theorem wrap64_i64 (z : Int) : i64 (wrap64 z) := by unfold i64 wrap64; omega
theorem wrap64_of {z : Int} (h : i64 z) : wrap64 z = z := by unfold i64 at h; unfold wrap64; omega
theorem wrap64_add (a b : Int) : wrap64 (wrap64 a + wrap64 b) = wrap64 (a + b) := by unfold wrap64; omega
theorem wrap64_neg (a : Int) : wrap64 (-wrap64 a) = wrap64 (-a) := by unfold wrap64; omega
theorem below_drewN {B : Nat} {a w : World} (h : Below B a w) (n : Nat) : Below B a (w.drewN n) := ⟨h.os, h.tape, h.output, h.size, h.block⟩
theorem of_calls (n : Int) (w : World) : Calls Tryz.prog 8 #[.int .i64 n] w fun e w' =>
   e = .returned (.agg #[.int .i64 n, .pointer none]) ∧ Below w.heap.size w w' := by
 go_enter Tryz.func8, Tryz.ntmps8
 go_wp2
 exact bodyPost_ret (v := .agg #[.int .i64 n, .pointer none]) (by simp [results, Tryz.results8, go_sem]) rfl ⟨rfl, (Below.refl _ _).alloc (Nat.le_refl _) _⟩
theorem tsign_calls (m : Bool) (s : Int) (g : Option Addr) (w : World) : Calls Tryz.prog 71 #[.agg #[.bool m, .int .i64 s, .pointer g]] w fun e w' =>
   e = .returned (.int .i64 (sg m)) ∧ Below w.heap.size w w' := by
 cases m
 all_goals
   go_enter Tryz.func71, Tryz.ntmps71
   go_wp2
   all_goals
     go_ret
     exact ⟨by simp [sg], (Below.refl _ _).alloc (Nat.le_refl _) _⟩
theorem int_calls (s : Int) (g : Option Addr) (w : World) : Calls Tryz.prog 29 #[.agg #[.int .i64 s, .pointer g]] w fun e w' =>
   e = .returned (.tuple #[.int .i64 s, .bool (g == none)]) ∧ Below w.heap.size w w' := by
 cases g
 all_goals
   go_enter Tryz.func29, Tryz.ntmps29
   go_wp2
   go_quiet (fail)
   all_goals
     go_wp2
     refine bodyPost_ret (v := .tuple #[.int .i64 s, .bool _]) (by simp [results, Tryz.results29, go_sem]) rfl ⟨rfl, below_drewN ((Below.refl _ _).alloc (Nat.le_refl _) _) _⟩
theorem isNaN_calls (a : Int) (w : World) : Calls Tryz.prog 94 #[.int .i64 a] w fun e w' => e = .returned (.bool false) ∧ w = w' := by
 go_enter Tryz.func94, Tryz.ntmps94
 go_wp2
 go_ret
 exact ⟨by simp, rfl⟩
theorem compare_lt (a b : Int) (w : World) (h : a < b) : Calls Tryz.prog 73 #[.int .i64 a, .int .i64 b] w fun e w' =>
   e = .returned (.int .i64 (-1)) ∧ w = w' := by
 have h1 : ¬ (b < a ∧ a < b) := by omega
 have b1 : decide (a < b) = (-1 == (-1 : Int)) := by simp; try omega
 have b2 : decide (b < a) = (-1 == (1 : Int)) := by simp; try omega
 have b3 : (a == b) = (-1 == (0 : Int)) := by simp; try omega
 simp at b1 b2 b3
 go_enter Tryz.func73, Tryz.ntmps73
 go_wp2_with (go_at_call 94; refine (isNaN_calls _ _).mono ?_; rintro e w' ⟨rfl, rfl⟩)
 go_ret
 exact ⟨by simp, rfl⟩
theorem compare_eq (a b : Int) (w : World) (h : a = b) : Calls Tryz.prog 73 #[.int .i64 a, .int .i64 b] w fun e w' =>
   e = .returned (.int .i64 (0)) ∧ w = w' := by
 have h1 : ¬ (b < a ∧ a < b) := by omega
 have b1 : decide (a < b) = (0 == (-1 : Int)) := by simp; try omega
 have b2 : decide (b < a) = (0 == (1 : Int)) := by simp; try omega
 have b3 : (a == b) = (0 == (0 : Int)) := by simp; try omega
 simp at b1 b2 b3
 go_enter Tryz.func73, Tryz.ntmps73
 go_wp2_with (go_at_call 94; refine (isNaN_calls _ _).mono ?_; rintro e w' ⟨rfl, rfl⟩)
 go_ret
 exact ⟨by simp, rfl⟩
theorem compare_gt (a b : Int) (w : World) (h : b < a) : Calls Tryz.prog 73 #[.int .i64 a, .int .i64 b] w fun e w' =>
   e = .returned (.int .i64 (1)) ∧ w = w' := by
 have h1 : ¬ (b < a ∧ a < b) := by omega
 have b1 : decide (a < b) = (1 == (-1 : Int)) := by simp; try omega
 have b2 : decide (b < a) = (1 == (1 : Int)) := by simp; try omega
 have b3 : (a == b) = (1 == (0 : Int)) := by simp; try omega
 simp at b1 b2 b3
 go_enter Tryz.func73, Tryz.ntmps73
 go_wp2_with (go_at_call 94; refine (isNaN_calls _ _).mono ?_; rintro e w' ⟨rfl, rfl⟩)
 go_ret
 exact ⟨by simp, rfl⟩
theorem compare_calls (a b : Int) (w : World) : Calls Tryz.prog 73 #[.int .i64 a, .int .i64 b] w fun e w' =>
   e = .returned (.int .i64 (sgn (a - b))) ∧ w = w' := by
 rcases Int.lt_trichotomy a b with h | h | h
 · rw [sgn_lt (by omega)]; exact compare_lt a b w h
 · rw [show a - b = 0 by omega, sgn_zero]; exact compare_eq a b w h
 · rw [sgn_pos (by omega)]; exact compare_gt a b w h
theorem bcell {W w1 : World} (hb : Below W.heap.size W w1) : (∀ b o, b < W.heap.size → w1.cell? ⟨b, o, none⟩ = W.cell? ⟨b, o, none⟩) ∧ (∀ b o, b < W.heap.size → w1.frozen? ⟨b, o, none⟩ = W.frozen? ⟨b, o, none⟩) :=
 ⟨fun b o h => hb.cell (p := ⟨b, o, none⟩) h, fun b o h => hb.frozen (p := ⟨b, o, none⟩) h⟩
theorem addSmall_flag (a b : Int) (ha : i64 a) (hb : i64 b) : (!(decide (wrap64 (a + b) < a) == decide (b < 0))) = true ↔ ¬ i64 (a + b) := by
 unfold i64 at *
 unfold wrap64
 by_cases h1 : (a + b + 9223372036854775808) % 18446744073709551616 - 9223372036854775808 < a <;> by_cases h2 : b < 0 <;> simp [h1, h2] <;> omega
set_option maxHeartbeats 2000000 in
theorem addSmall_00 (a b : Int) (p q : Addr) (w : World) : Calls Tryz.prog 86 #[.agg #[.int .i64 a, .pointer none], .agg #[.int .i64 b, .pointer none]] w fun e w' =>
   e = .returned (.tuple #[.agg #[.int .i64 (wrap64 (a + b)), .pointer none], .bool ((none : Option Addr) == none && (none : Option Addr) == none && (decide (wrap64 (a + b) < a) == decide (b < 0)))]) ∧ Below w.heap.size w w' := by
 have hne : ¬ (w.heap.size = w.heap.size + 1 + 1) := by omega
 have hne2 : ¬ (w.heap.size + 1 + 1 = w.heap.size) := by omega
 have hz : wrap64 (wrap64 (a + b)) = wrap64 (a + b) := wrap64_of (wrap64_i64 _)
 go_enter Tryz.func86, Tryz.ntmps86
 go_wp2
 first
 | go_region_held3 (fun w' => w'.cell? ⟨w.heap.size, 1, none⟩ = some (.pointer none) ∧ w'.cell? ⟨w.heap.size + 1, 1, none⟩ = some (.pointer none)) (first | (go_keep; done) | ((try dsimp only); refine ⟨?_, ?_⟩ <;> (go_keep; done)))
   (first
     | (go_at_call 8
        refine (of_calls _ _).mono ?_
        rintro e w1 ⟨rfl, hb1⟩
        obtain ⟨hc, hf⟩ := bcell hb1
        have hz := hb1.size
        have k1 := hc w.heap.size 1 (by simp; omega)
        have k2 := hc (w.heap.size + 1) 1 (by simp)
        simp at k1 k2 hz))
 | fail
 all_goals
   go_wp2
   refine bodyPost_ret (v := .tuple #[.agg #[.int .i64 (wrap64 (a + b)), .pointer none], .bool ((none : Option Addr) == none && (none : Option Addr) == none && (decide (wrap64 (a + b) < a) == decide (b < 0)))]) (by simp [results, Tryz.results86, go_sem, *]) rfl ⟨rfl, ?_⟩
   refine Below.setCell (Below.setCell (Below.trans ?_ (hb1.mono (by simp; omega))) (by simp; omega) _) (by simp; omega) _
   repeat (first | exact Below.refl _ _ | refine Below.alloc ?_ (by simp <;> omega) _ | refine Below.drew ?_)
set_option maxHeartbeats 2000000 in
theorem addSmall_01 (a b : Int) (p q : Addr) (w : World) : Calls Tryz.prog 86 #[.agg #[.int .i64 a, .pointer none], .agg #[.int .i64 b, .pointer (some q)]] w fun e w' =>
   e = .returned (.tuple #[.agg #[.int .i64 (wrap64 (a + b)), .pointer none], .bool ((none : Option Addr) == none && ((some q) : Option Addr) == none && (decide (wrap64 (a + b) < a) == decide (b < 0)))]) ∧ Below w.heap.size w w' := by
 have hne : ¬ (w.heap.size = w.heap.size + 1 + 1) := by omega
 have hne2 : ¬ (w.heap.size + 1 + 1 = w.heap.size) := by omega
 have hz : wrap64 (wrap64 (a + b)) = wrap64 (a + b) := wrap64_of (wrap64_i64 _)
 go_enter Tryz.func86, Tryz.ntmps86
 go_wp2
 first
 | go_region_with (first
     | (go_at_call 8
        refine (of_calls _ _).mono ?_
        rintro e w1 ⟨rfl, hb1⟩
        obtain ⟨hc, hf⟩ := bcell hb1
        have hz := hb1.size
        have k1 := hc w.heap.size 1 (by simp; omega)
        have k2 := hc (w.heap.size + 1) 1 (by simp)
        simp at k1 k2 hz))
 | fail
 all_goals
   go_wp2
   refine bodyPost_ret (v := .tuple #[.agg #[.int .i64 (wrap64 (a + b)), .pointer none], .bool ((none : Option Addr) == none && ((some q) : Option Addr) == none && (decide (wrap64 (a + b) < a) == decide (b < 0)))]) (by simp [results, Tryz.results86, go_sem, *]) rfl ⟨rfl, ?_⟩
   refine Below.setCell (Below.setCell (Below.trans ?_ (hb1.mono (by simp; omega))) (by simp; omega) _) (by simp; omega) _
   repeat (first | exact Below.refl _ _ | refine Below.alloc ?_ (by simp <;> omega) _ | refine Below.drew ?_)
set_option maxHeartbeats 2000000 in
theorem addSmall_10 (a b : Int) (p q : Addr) (w : World) : Calls Tryz.prog 86 #[.agg #[.int .i64 a, .pointer (some p)], .agg #[.int .i64 b, .pointer none]] w fun e w' =>
   e = .returned (.tuple #[.agg #[.int .i64 (wrap64 (a + b)), .pointer none], .bool (((some p) : Option Addr) == none && (none : Option Addr) == none && (decide (wrap64 (a + b) < a) == decide (b < 0)))]) ∧ Below w.heap.size w w' := by
 have hne : ¬ (w.heap.size = w.heap.size + 1 + 1) := by omega
 have hne2 : ¬ (w.heap.size + 1 + 1 = w.heap.size) := by omega
 have hz : wrap64 (wrap64 (a + b)) = wrap64 (a + b) := wrap64_of (wrap64_i64 _)
 go_enter Tryz.func86, Tryz.ntmps86
 go_wp2
 first
 | go_region_with (first
     | (go_at_call 8
        refine (of_calls _ _).mono ?_
        rintro e w1 ⟨rfl, hb1⟩
        obtain ⟨hc, hf⟩ := bcell hb1
        have hz := hb1.size
        have k1 := hc w.heap.size 1 (by simp; omega)
        have k2 := hc (w.heap.size + 1) 1 (by simp)
        simp at k1 k2 hz))
 | fail
 all_goals
   go_wp2
   refine bodyPost_ret (v := .tuple #[.agg #[.int .i64 (wrap64 (a + b)), .pointer none], .bool (((some p) : Option Addr) == none && (none : Option Addr) == none && (decide (wrap64 (a + b) < a) == decide (b < 0)))]) (by simp [results, Tryz.results86, go_sem, *]) rfl ⟨rfl, ?_⟩
   refine Below.setCell (Below.setCell (Below.trans ?_ (hb1.mono (by simp; omega))) (by simp; omega) _) (by simp; omega) _
   repeat (first | exact Below.refl _ _ | refine Below.alloc ?_ (by simp <;> omega) _ | refine Below.drew ?_)
set_option maxHeartbeats 2000000 in
theorem addSmall_11 (a b : Int) (p q : Addr) (w : World) : Calls Tryz.prog 86 #[.agg #[.int .i64 a, .pointer (some p)], .agg #[.int .i64 b, .pointer (some q)]] w fun e w' =>
   e = .returned (.tuple #[.agg #[.int .i64 (wrap64 (a + b)), .pointer none], .bool (((some p) : Option Addr) == none && ((some q) : Option Addr) == none && (decide (wrap64 (a + b) < a) == decide (b < 0)))]) ∧ Below w.heap.size w w' := by
 have hne : ¬ (w.heap.size = w.heap.size + 1 + 1) := by omega
 have hne2 : ¬ (w.heap.size + 1 + 1 = w.heap.size) := by omega
 have hz : wrap64 (wrap64 (a + b)) = wrap64 (a + b) := wrap64_of (wrap64_i64 _)
 go_enter Tryz.func86, Tryz.ntmps86
 go_wp2
 first
 | go_region_with (first
     | (go_at_call 8
        refine (of_calls _ _).mono ?_
        rintro e w1 ⟨rfl, hb1⟩
        obtain ⟨hc, hf⟩ := bcell hb1
        have hz := hb1.size
        have k1 := hc w.heap.size 1 (by simp; omega)
        have k2 := hc (w.heap.size + 1) 1 (by simp)
        simp at k1 k2 hz))
 | fail
 all_goals
   go_wp2
   refine bodyPost_ret (v := .tuple #[.agg #[.int .i64 (wrap64 (a + b)), .pointer none], .bool (((some p) : Option Addr) == none && ((some q) : Option Addr) == none && (decide (wrap64 (a + b) < a) == decide (b < 0)))]) (by simp [results, Tryz.results86, go_sem, *]) rfl ⟨rfl, ?_⟩
   refine Below.setCell (Below.setCell (Below.trans ?_ (hb1.mono (by simp; omega))) (by simp; omega) _) (by simp; omega) _
   repeat (first | exact Below.refl _ _ | refine Below.alloc ?_ (by simp <;> omega) _ | refine Below.drew ?_)
theorem addSmall_calls (a b : Int) (g k : Option Addr) (w : World) : Calls Tryz.prog 86 #[.agg #[.int .i64 a, .pointer g], .agg #[.int .i64 b, .pointer k]] w fun e w' =>
   e = .returned (.tuple #[.agg #[.int .i64 (wrap64 (a + b)), .pointer none], .bool (g == none && k == none && (decide (wrap64 (a + b) < a) == decide (b < 0)))]) ∧ Below w.heap.size w w' := by
 rcases g with _ | p <;> rcases k with _ | q
 · exact addSmall_00 a b default default w
 · exact addSmall_01 a b default q w
 · exact addSmall_10 a b p default w
 · exact addSmall_11 a b p q w
end Go.Proofs.YtlkmgclbckojgaaGreatDoor
