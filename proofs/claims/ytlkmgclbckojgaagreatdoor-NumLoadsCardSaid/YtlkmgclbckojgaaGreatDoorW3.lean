import Derived.Test.YtlkmgclbckojgaaGreatDoorW1
import Derived.Laws.EntriesVeiled
import Derived.BigQuiet
set_option linter.unusedVariables false
set_option linter.unusedSimpArgs false
set_option maxHeartbeats 2000000
set_option maxRecDepth 100000
namespace Go.Proofs.YtlkmgclbckojgaaGreatDoor
section
open Go.RowKit
theorem Znr (S : List Addr) (G : StG) : untaken S G ≤ S.length := List.countP_le_length
theorem Zex (w : World) (A B C X : Obj) : ((((w.alloc A).alloc B).alloc C).alloc X).heap[w.heap.size]? = some A ∧ ((((w.alloc A).alloc B).alloc C).alloc X).heap[w.heap.size + 1]? = some B ∧ ((((w.alloc A).alloc B).alloc C).alloc X).heap[w.heap.size + 2]? = some C ∧ ((((w.alloc A).alloc B).alloc C).alloc X).heap[w.heap.size + 3]? = some X := by
 refine ⟨?_, ?_, ?_, ?_⟩
 · rw [Below.heap_alloc _ _ _ (by simp; omega), Below.heap_alloc _ _ _ (by simp; omega), Below.heap_alloc _ _ _ (by simp), heap_alloc_new]
 · rw [Below.heap_alloc _ _ _ (by simp), Below.heap_alloc _ _ _ (by simp)]
   have := heap_alloc_new (w.alloc A) B
   simpa using this
 · rw [Below.heap_alloc _ _ _ (by simp)]
   have := heap_alloc_new ((w.alloc A).alloc B) C
   simpa using this
 · have := heap_alloc_new (((w.alloc A).alloc B).alloc C) X
   simpa using this
theorem Zns {w : World} {sb : Nat} {F : Nat → Prop} (H : Nat → Prop) {D : Addr → Option Int} {K : List Addr} {G : StG} (hm : StMem w sb F G) (hi : StInv w (hot H F) D K G) (hHlt : ∀ k, H k → k < w.heap.size)
   {Dx : Addr → Option Int} {S : List Addr} (hf : Forest w (hot H F) Dx) (hS : ∀ p z, Dx p = some z → p ∈ S) {s : Int} {g : Option Addr} {z : Int} (hv : ValD Dx s g z) (hbig : K.length + S.length ≤ big) :
   Calls Tryz.prog 64 #[.pointer (some ⟨sb, 0, none⟩), .agg #[.int .i64 s, .pointer g]] w fun e w' => ∃ (s' : Int) (g' : Option Addr) (F' : Nat → Prop) (D' : Addr → Option Int) (K' : List Addr) (G' : StG),
     e = .returned (.agg #[.int .i64 s', .pointer g']) ∧ ValD D' s' g' z ∧ StMem w' sb F' G' ∧ StInv w' (hot H F') D' K' G' ∧ Step w w' F F' ∧ Grown3 D D' K K' G G' ∧ K'.length ≤ K.length + S.length := by
 have hmf : ∀ (fn : Fn) (first cap : Array Value) (w : World), (Instr.makeFunc fn first cap).run Tryz.prog w = .ok (.func fn first cap) w := fun _ _ _ _ => rfl
 obtain ⟨w4, hw4⟩ : ∃ w4, w4 = ((((w.alloc (.cells #[.pointer (some ⟨sb, 0, none⟩)] 80)).alloc (.cells #[.int .i64 s, .pointer g] 28)).alloc (.cells #[.int .i64 0, .pointer none] 28)).alloc (.cells #[.func (.func 84) #[] #[.pointer (some ⟨w.heap.size, 0, none⟩), .pointer (some ⟨w.heap.size + 1 + 1 + 1, 0, none⟩)]] 107)) := ⟨_, rfl⟩
 have hb4 : Below w.heap.size w w4 := by
   rw [hw4]; repeat (first | exact zb | refine Below.alloc ?_ (by simp <;> omega) _)
 have hz4 : w4.heap.size = w.heap.size + 1 + 1 + 1 + 1 := by rw [hw4]; simp
 have a0 : w4.heap[w.heap.size]? = some (.cells #[.pointer (some ⟨sb, 0, none⟩)] 80) := by rw [hw4]; exact (Zex w _ _ _ _).1
 have a2 : w4.heap[w.heap.size + 1 + 1]? = some (.cells #[.int .i64 0, .pointer none] 28) := by rw [hw4]; exact (Zex w _ _ _ _).2.2.1
 have a3 : w4.heap[w.heap.size + 1 + 1 + 1]? = some (.cells #[.func (.func 84) #[] #[.pointer (some ⟨w.heap.size, 0, none⟩), .pointer (some ⟨w.heap.size + 1 + 1 + 1, 0, none⟩)]] 107) := by rw [hw4]; exact (Zex w _ _ _ _).2.2.2
 obtain ⟨Hq, hHq⟩ : ∃ Hq : Nat → Prop, Hq = fun k => H k ∨ k = w.heap.size + 1 + 1 := ⟨_, rfl⟩
 have hqu : ∀ i, hot Hq F i → hot H F i ∨ w.heap.size ≤ i := by
   intro i hx
   rcases hx with x | x
   · rw [hHq] at x
     rcases x with x | x
     · exact .inl (.inl x)
     · exact .inr (by omega)
   · exact .inl (.inr x)
 have hFlt := hm.flt
 have s4 := Step.of_below F hb4
 have nF : ∀ j, w.heap.size ≤ j → ¬ F j := fun j hj hx => by have := hFlt j hx; omega
 have hul := Znr S G
 have ht := Zly w.heap.size (w.heap.size + 1 + 1 + 1) sb (z.natAbs + 1) w4 F Hq D K G (hm.below hb4) ((hi.grow (zl) hqu).step (s4.hot Hq)) (by
   intro j hj
   rw [hHq] at hj
   rcases hj with x | x
   · have := hHlt j x; omega
   · omega) ⟨by simp [World.cell?, a0], by simp [World.cell?, a3], nF _ (by omega), nF _ (by omega)⟩ Dx S ((hf.grow (zl) hqu).step (s4.hot Hq)) hS s g z hv (by omega) (by omega)
 have HX := zh (zi hm (zi hi hbig))
 clear hm hi hHlt hf hS hbig hv
 go_enter Tryz.func64, Tryz.ntmps64
 go_wp2_with (first
   | (go_at_call 84; rw [← hw4]; refine ht.mono ?_; rintro e w2 ⟨s2, g2, F2, D2, K2, G2, rfl, hv2, m2, i2, st2, gg2, hcost2, hnew2⟩
      have nF4 := nF (w.heap.size + 1 + 1) (by omega)
      have b2 := (st2.keeps.block _ (by omega) nF4).trans a2
      have t3 : w2.cell? ⟨w.heap.size + 1 + 1, 0, none⟩ = some (.int .i64 0) := by simp [World.cell?, b2]
      have t4 : w2.cell? ⟨w.heap.size + 1 + 1, 1, none⟩ = some (.pointer none) := by simp [World.cell?, b2]
      have t5 : w2.frozen? ⟨w.heap.size + 1 + 1, 0, none⟩ = false := by simp [World.frozen?, b2]
      have t6 : w2.frozen? ⟨w.heap.size + 1 + 1, 1, none⟩ = false := by simp [World.frozen?, b2]))
 refine bodyPost_ret (v := .agg #[.int .i64 s2, .pointer g2]) (by simp [results, Tryz.results64, go_sem, *]) rfl ?_
 obtain ⟨hm, hi, hbig⟩ := HX.out
 have s42 := s4.trans st2
 have hlw := hm.lt
 have n2 : ¬ F2 (w.heap.size + 1 + 1) := fun hx => by
   rcases st2.grow _ hx with y | y
   · exact nF4 y
   · omega
 have hnf : ∀ c t fr, w2.heap[w.heap.size + 1 + 1]? = some (.cells c t fr) → t ≠ 113 := by
   intro c t fr h; rw [b2] at h; cases h; decide
 have hq1 : Hq (w.heap.size + 1 + 1) := by rw [hHq]; exact .inr rfl
 refine ⟨s2, g2, F2, D2, K2, G2, rfl, hv2, (m2.set (i := 0) (.int .i64 s2) n2 (by omega) hnf).set (i := 1) (.pointer g2) n2 (by omega) (Zew hnf), ?_, ⟨Zav (Zav s42.keeps _ (by omega)) _ (by omega), s42.grow, s42.mono⟩, gg2, by omega⟩
 refine ((i2.keeps (Zal (i := 0) _ (.inl hq1))).keeps (Zal (i := 1) _ (.inl hq1))).shrink (fun i hx => ?_)
 rcases hx with x | x
 · exact .inl (by rw [hHq]; exact .inl x)
 · exact .inr x
end
section
open Go.RowKit
theorem Zrg (a b : Int) (p q : Addr) (w : World) : Calls Tryz.prog 70 #[.agg #[.int .i64 a, .pointer none], .agg #[.int .i64 b, .pointer (some q)]] w fun e w' =>
   e = .returned (.tuple #[.agg #[.int .i64 0, .pointer none], .bool false]) ∧ Below w.heap.size w w' := by
 go_enter Tryz.func70, Tryz.ntmps70
 go_wp2
 refine bodyPost_ret (v := .tuple #[.agg #[.int .i64 0, .pointer none], .bool false]) (by simp [results, Tryz.results70, go_sem, *]) rfl ⟨rfl, ?_⟩
 repeat (first | exact zb | refine Below.alloc ?_ (by simp <;> omega) _ | refine Below.drew ?_)
theorem Zjo (a b : Int) (h : a = 0 ∨ b = 0) (w : World) : Calls Tryz.prog 70 #[.agg #[.int .i64 a, .pointer none], .agg #[.int .i64 b, .pointer none]] w fun e w' =>
   e = .returned (.tuple #[.agg #[.int .i64 0, .pointer none], .bool true]) ∧ Below w.heap.size w w' := by
 by_cases ha : a = 0
 · subst ha
   go_enter Tryz.func70, Tryz.ntmps70
   go_wp2
   refine bodyPost_ret (v := .tuple #[.agg #[.int .i64 0, .pointer none], .bool true]) (by simp [results, Tryz.results70, go_sem, *]) rfl ⟨rfl, ?_⟩
   repeat (first | exact zb | refine Below.alloc ?_ (by simp <;> omega) _ | refine Below.drew ?_)
 · obtain rfl : b = 0 := by omega
   go_enter Tryz.func70, Tryz.ntmps70
   go_wp2
   refine bodyPost_ret (v := .tuple #[.agg #[.int .i64 0, .pointer none], .bool true]) (by simp [results, Tryz.results70, go_sem, *]) rfl ⟨rfl, ?_⟩
   repeat (first | exact zb | refine Below.alloc ?_ (by simp <;> omega) _ | refine Below.drew ?_)
theorem Zec (x : Int) : IntKind.i64.wrap x = wrap64 x := by
 have h1 : IntKind.i64.signed = true := rfl
 have h2 : IntKind.i64.bits = 64 := rfl
 unfold IntKind.wrap wrap64
 rw [h1, h2]
 have e1 : (2 : Int) ^ (64 - 1) = 9223372036854775808 := by decide
 have e2 : (2 : Int) ^ 64 = 18446744073709551616 := by decide
 simp only [e1, e2]
 split <;> rename_i h <;> simp at h <;> omega
end
end Go.Proofs.YtlkmgclbckojgaaGreatDoor

