import Derived.Test.YtlkmgclbckojgaaGreatDoorRows
import Derived.Test.YtlkmgclbckojgaaGreatDoorM5
import Derived.WalkKit
import Derived.Deep.QuietTactic
import Derived.BigQuiet
import Derived.Deep.RegionHeld3
import Derived.Lib.Hide
set_option linter.unusedVariables false
set_option linter.unusedSimpArgs false
set_option maxHeartbeats 2000000
namespace Go.Proofs.YtlkmgclbckojgaaGreatDoor
theorem zi {a b : Prop} (x : a) (y : b) : a ∧ b := ⟨x, y⟩
theorem zl {n : Nat} : n ≤ n := Nat.le.refl
theorem zb {n : Nat} {w : World} : Go.RowKit.Below n w w := Go.RowKit.Below.refl n w
theorem zh {P : Prop} (h : P) : Go.RowKit.Hid P := Lib.hid h
open Go.RowKit
def i64 (z : Int) : Prop := -9223372036854775808 ≤ z ∧ z ≤ 9223372036854775807
theorem Zc9 (z : Int) : i64 (wrap64 z) := by unfold i64 wrap64; omega
theorem Za4 {z : Int} (h : i64 z) : wrap64 z = z := by unfold i64 at h; unfold wrap64; omega
theorem Zid (a b : Int) : wrap64 (wrap64 a + wrap64 b) = wrap64 (a + b) := by unfold wrap64; omega
theorem Zm9 (a : Int) : wrap64 (-wrap64 a) = wrap64 (-a) := by unfold wrap64; omega
theorem Zaa {B : Nat} {a w : World} (h : Below B a w) (n : Nat) : Below B a (w.drewN n) := ⟨h.os, h.tape, h.output, h.size, h.block⟩
theorem Zax (n : Int) (w : World) : Calls Tryz.prog 8 #[.int .i64 n] w fun e w' =>
   e = .returned (.agg #[.int .i64 n, .pointer none]) ∧ Below w.heap.size w w' := by
 go_enter Tryz.func8, Tryz.ntmps8
 go_wp2
 exact bodyPost_ret (v := .agg #[.int .i64 n, .pointer none]) (by simp [results, Tryz.results8, go_sem]) rfl ⟨rfl, (zb).alloc (zl) _⟩
theorem Zbk (m : Bool) (s : Int) (g : Option Addr) (w : World) : Calls Tryz.prog 71 #[.agg #[.bool m, .int .i64 s, .pointer g]] w fun e w' =>
   e = .returned (.int .i64 (sg m)) ∧ Below w.heap.size w w' := by
 cases m
 all_goals
   go_enter Tryz.func71, Tryz.ntmps71
   go_wp2
   all_goals
     go_ret
     exact ⟨by simp [sg], (zb).alloc (zl) _⟩
theorem Zj9 (s : Int) (g : Option Addr) (w : World) : Calls Tryz.prog 29 #[.agg #[.int .i64 s, .pointer g]] w fun e w' =>
   e = .returned (.tuple #[.int .i64 s, .bool (g == none)]) ∧ Below w.heap.size w w' := by
 cases g
 all_goals
   go_enter Tryz.func29, Tryz.ntmps29
   go_wp2
   go_quiet (fail)
   all_goals
     go_wp2
     refine bodyPost_ret (v := .tuple #[.int .i64 s, .bool _]) (by simp [results, Tryz.results29, go_sem]) rfl ⟨rfl, Zaa ((zb).alloc (zl) _) _⟩
theorem Zet (a : Int) (w : World) : Calls Tryz.prog 94 #[.int .i64 a] w fun e w' => e = .returned (.bool false) ∧ w = w' := by
 go_enter Tryz.func94, Tryz.ntmps94
 go_wp2
 go_ret
 exact ⟨by simp, rfl⟩
theorem Zna (a b : Int) (w : World) (h : a < b) : Calls Tryz.prog 73 #[.int .i64 a, .int .i64 b] w fun e w' =>
   e = .returned (.int .i64 (-1)) ∧ w = w' := by
 have h1 : ¬ (b < a ∧ a < b) := by omega
 have b1 : decide (a < b) = (-1 == (-1 : Int)) := by simp; try omega
 have b2 : decide (b < a) = (-1 == (1 : Int)) := by simp; try omega
 have b3 : (a == b) = (-1 == (0 : Int)) := by simp; try omega
 simp at b1 b2 b3
 go_enter Tryz.func73, Tryz.ntmps73
 go_wp2_with (go_at_call 94; refine (Zet _ _).mono ?_; rintro e w' ⟨rfl, rfl⟩)
 go_ret
 exact ⟨by simp, rfl⟩
theorem Znb (a b : Int) (w : World) (h : a = b) : Calls Tryz.prog 73 #[.int .i64 a, .int .i64 b] w fun e w' =>
   e = .returned (.int .i64 (0)) ∧ w = w' := by
 have h1 : ¬ (b < a ∧ a < b) := by omega
 have b1 : decide (a < b) = (0 == (-1 : Int)) := by simp; try omega
 have b2 : decide (b < a) = (0 == (1 : Int)) := by simp; try omega
 have b3 : (a == b) = (0 == (0 : Int)) := by simp; try omega
 simp at b1 b2 b3
 go_enter Tryz.func73, Tryz.ntmps73
 go_wp2_with (go_at_call 94; refine (Zet _ _).mono ?_; rintro e w' ⟨rfl, rfl⟩)
 go_ret
 exact ⟨by simp, rfl⟩
theorem Znc (a b : Int) (w : World) (h : b < a) : Calls Tryz.prog 73 #[.int .i64 a, .int .i64 b] w fun e w' =>
   e = .returned (.int .i64 (1)) ∧ w = w' := by
 have h1 : ¬ (b < a ∧ a < b) := by omega
 have b1 : decide (a < b) = (1 == (-1 : Int)) := by simp; try omega
 have b2 : decide (b < a) = (1 == (1 : Int)) := by simp; try omega
 have b3 : (a == b) = (1 == (0 : Int)) := by simp; try omega
 simp at b1 b2 b3
 go_enter Tryz.func73, Tryz.ntmps73
 go_wp2_with (go_at_call 94; refine (Zet _ _).mono ?_; rintro e w' ⟨rfl, rfl⟩)
 go_ret
 exact ⟨by simp, rfl⟩
theorem Zi8 (a b : Int) (w : World) : Calls Tryz.prog 73 #[.int .i64 a, .int .i64 b] w fun e w' =>
   e = .returned (.int .i64 (sgn (a - b))) ∧ w = w' := by
 rcases Int.lt_trichotomy a b with h | h | h
 · rw [Zf4 (by omega)]; exact Zna a b w h
 · rw [show a - b = 0 by omega, Zmj]; exact Znb a b w h
 · rw [Zd5 (by omega)]; exact Znc a b w h
theorem bcell {W w1 : World} (hb : Below W.heap.size W w1) : (∀ b o, b < W.heap.size → w1.cell? ⟨b, o, none⟩ = W.cell? ⟨b, o, none⟩) ∧ (∀ b o, b < W.heap.size → w1.frozen? ⟨b, o, none⟩ = W.frozen? ⟨b, o, none⟩) :=
 ⟨fun b o h => hb.cell (p := ⟨b, o, none⟩) h, fun b o h => hb.frozen (p := ⟨b, o, none⟩) h⟩
theorem Zi9 (a b : Int) (ha : i64 a) (hb : i64 b) : (!(decide (wrap64 (a + b) < a) == decide (b < 0))) = true ↔ ¬ i64 (a + b) := by
 unfold i64 at *
 unfold wrap64
 by_cases h1 : (a + b + 9223372036854775808) % 18446744073709551616 - 9223372036854775808 < a <;> by_cases h2 : b < 0 <;> simp [h1, h2] <;> omega
theorem Zld (a b : Int) (p q : Addr) (w : World) : Calls Tryz.prog 86 #[.agg #[.int .i64 a, .pointer none], .agg #[.int .i64 b, .pointer none]] w fun e w' =>
   e = .returned (.tuple #[.agg #[.int .i64 (wrap64 (a + b)), .pointer none], .bool ((none : Option Addr) == none && (none : Option Addr) == none && (decide (wrap64 (a + b) < a) == decide (b < 0)))]) ∧ Below w.heap.size w w' := by
 have hne : ¬ (w.heap.size = w.heap.size + 1 + 1) := by omega
 have hne2 : ¬ (w.heap.size + 1 + 1 = w.heap.size) := by omega
 have hz : wrap64 (wrap64 (a + b)) = wrap64 (a + b) := Za4 (Zc9 _)
 go_enter Tryz.func86, Tryz.ntmps86
 go_wp2
 first
 | go_region_held3 (fun w' => w'.cell? ⟨w.heap.size, 1, none⟩ = some (.pointer none) ∧ w'.cell? ⟨w.heap.size + 1, 1, none⟩ = some (.pointer none)) (first | (go_keep; done) | ((try dsimp only); refine ⟨?_, ?_⟩ <;> (go_keep; done)))
   (first
     | (go_at_call 8
        refine (Zax _ _).mono ?_
        rintro e w1 ⟨rfl, hb1⟩
        obtain ⟨hc, hf⟩ := bcell hb1
        have hz := hb1.size
        have k1 := hc w.heap.size 1 (by simp; omega)
        have k2 := hc (w.heap.size + 1) 1 (by simp)
        simp at k1 k2 hz))
 | fail
 all_goals
   go_wp2
   refine bodyPost_ret (v := .tuple #[.agg #[.int .i64 (wrap64 (a + b)), .pointer none], .bool ((none : Option Addr) == none && (none : Option Addr) == none && (decide (wrap64 (a + b) < a) == decide (b < 0)))]) (by simp [results, Tryz.results86, go_sem, *]) rfl ⟨rfl, ?_⟩
   refine Below.setCell (Below.setCell (Below.trans ?_ (hb1.mono (by simp; omega))) (by simp; omega) _) (by simp; omega) _
   repeat (first | exact zb | refine Below.alloc ?_ (by simp <;> omega) _ | refine Below.drew ?_)
theorem Zle (a b : Int) (p q : Addr) (w : World) : Calls Tryz.prog 86 #[.agg #[.int .i64 a, .pointer none], .agg #[.int .i64 b, .pointer (some q)]] w fun e w' =>
   e = .returned (.tuple #[.agg #[.int .i64 (wrap64 (a + b)), .pointer none], .bool ((none : Option Addr) == none && ((some q) : Option Addr) == none && (decide (wrap64 (a + b) < a) == decide (b < 0)))]) ∧ Below w.heap.size w w' := by
 have hne : ¬ (w.heap.size = w.heap.size + 1 + 1) := by omega
 have hne2 : ¬ (w.heap.size + 1 + 1 = w.heap.size) := by omega
 have hz : wrap64 (wrap64 (a + b)) = wrap64 (a + b) := Za4 (Zc9 _)
 go_enter Tryz.func86, Tryz.ntmps86
 go_wp2
 first
 | go_region_with (first
     | (go_at_call 8
        refine (Zax _ _).mono ?_
        rintro e w1 ⟨rfl, hb1⟩
        obtain ⟨hc, hf⟩ := bcell hb1
        have hz := hb1.size
        have k1 := hc w.heap.size 1 (by simp; omega)
        have k2 := hc (w.heap.size + 1) 1 (by simp)
        simp at k1 k2 hz))
 | fail
 all_goals
   go_wp2
   refine bodyPost_ret (v := .tuple #[.agg #[.int .i64 (wrap64 (a + b)), .pointer none], .bool ((none : Option Addr) == none && ((some q) : Option Addr) == none && (decide (wrap64 (a + b) < a) == decide (b < 0)))]) (by simp [results, Tryz.results86, go_sem, *]) rfl ⟨rfl, ?_⟩
   refine Below.setCell (Below.setCell (Below.trans ?_ (hb1.mono (by simp; omega))) (by simp; omega) _) (by simp; omega) _
   repeat (first | exact zb | refine Below.alloc ?_ (by simp <;> omega) _ | refine Below.drew ?_)
theorem Zlf (a b : Int) (p q : Addr) (w : World) : Calls Tryz.prog 86 #[.agg #[.int .i64 a, .pointer (some p)], .agg #[.int .i64 b, .pointer none]] w fun e w' =>
   e = .returned (.tuple #[.agg #[.int .i64 (wrap64 (a + b)), .pointer none], .bool (((some p) : Option Addr) == none && (none : Option Addr) == none && (decide (wrap64 (a + b) < a) == decide (b < 0)))]) ∧ Below w.heap.size w w' := by
 have hne : ¬ (w.heap.size = w.heap.size + 1 + 1) := by omega
 have hne2 : ¬ (w.heap.size + 1 + 1 = w.heap.size) := by omega
 have hz : wrap64 (wrap64 (a + b)) = wrap64 (a + b) := Za4 (Zc9 _)
 go_enter Tryz.func86, Tryz.ntmps86
 go_wp2
 first
 | go_region_with (first
     | (go_at_call 8
        refine (Zax _ _).mono ?_
        rintro e w1 ⟨rfl, hb1⟩
        obtain ⟨hc, hf⟩ := bcell hb1
        have hz := hb1.size
        have k1 := hc w.heap.size 1 (by simp; omega)
        have k2 := hc (w.heap.size + 1) 1 (by simp)
        simp at k1 k2 hz))
 | fail
 all_goals
   go_wp2
   refine bodyPost_ret (v := .tuple #[.agg #[.int .i64 (wrap64 (a + b)), .pointer none], .bool (((some p) : Option Addr) == none && (none : Option Addr) == none && (decide (wrap64 (a + b) < a) == decide (b < 0)))]) (by simp [results, Tryz.results86, go_sem, *]) rfl ⟨rfl, ?_⟩
   refine Below.setCell (Below.setCell (Below.trans ?_ (hb1.mono (by simp; omega))) (by simp; omega) _) (by simp; omega) _
   repeat (first | exact zb | refine Below.alloc ?_ (by simp <;> omega) _ | refine Below.drew ?_)
theorem Zlg (a b : Int) (p q : Addr) (w : World) : Calls Tryz.prog 86 #[.agg #[.int .i64 a, .pointer (some p)], .agg #[.int .i64 b, .pointer (some q)]] w fun e w' =>
   e = .returned (.tuple #[.agg #[.int .i64 (wrap64 (a + b)), .pointer none], .bool (((some p) : Option Addr) == none && ((some q) : Option Addr) == none && (decide (wrap64 (a + b) < a) == decide (b < 0)))]) ∧ Below w.heap.size w w' := by
 have hne : ¬ (w.heap.size = w.heap.size + 1 + 1) := by omega
 have hne2 : ¬ (w.heap.size + 1 + 1 = w.heap.size) := by omega
 have hz : wrap64 (wrap64 (a + b)) = wrap64 (a + b) := Za4 (Zc9 _)
 go_enter Tryz.func86, Tryz.ntmps86
 go_wp2
 first
 | go_region_with (first
     | (go_at_call 8
        refine (Zax _ _).mono ?_
        rintro e w1 ⟨rfl, hb1⟩
        obtain ⟨hc, hf⟩ := bcell hb1
        have hz := hb1.size
        have k1 := hc w.heap.size 1 (by simp; omega)
        have k2 := hc (w.heap.size + 1) 1 (by simp)
        simp at k1 k2 hz))
 | fail
 all_goals
   go_wp2
   refine bodyPost_ret (v := .tuple #[.agg #[.int .i64 (wrap64 (a + b)), .pointer none], .bool (((some p) : Option Addr) == none && ((some q) : Option Addr) == none && (decide (wrap64 (a + b) < a) == decide (b < 0)))]) (by simp [results, Tryz.results86, go_sem, *]) rfl ⟨rfl, ?_⟩
   refine Below.setCell (Below.setCell (Below.trans ?_ (hb1.mono (by simp; omega))) (by simp; omega) _) (by simp; omega) _
   repeat (first | exact zb | refine Below.alloc ?_ (by simp <;> omega) _ | refine Below.drew ?_)
theorem Zhw (a b : Int) (g k : Option Addr) (w : World) : Calls Tryz.prog 86 #[.agg #[.int .i64 a, .pointer g], .agg #[.int .i64 b, .pointer k]] w fun e w' =>
   e = .returned (.tuple #[.agg #[.int .i64 (wrap64 (a + b)), .pointer none], .bool (g == none && k == none && (decide (wrap64 (a + b) < a) == decide (b < 0)))]) ∧ Below w.heap.size w w' := by
 rcases g with _ | p <;> rcases k with _ | q
 · exact Zld a b default default w
 · exact Zle a b default q w
 · exact Zlf a b p default w
 · exact Zlg a b p q w
end Go.Proofs.YtlkmgclbckojgaaGreatDoor

