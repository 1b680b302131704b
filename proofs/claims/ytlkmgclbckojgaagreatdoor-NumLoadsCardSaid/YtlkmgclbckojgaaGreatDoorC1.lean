import Derived.Test.YtlkmgclbckojgaaGreatDoorW3
import Derived.Test.YtlkmgclbckojgaaGreatDoorM5
set_option linter.unusedVariables false
set_option linter.unusedSimpArgs false
set_option maxHeartbeats 4000000
set_option maxRecDepth 100000
namespace Go.Proofs.YtlkmgclbckojgaaGreatDoor
open Go.RowKit
def CmpMem (w : World) (sb : Nat) (F H : Nat → Prop) (D : Addr → Option Int) (K : List Addr) (G : StG) (w' : World) : Prop :=
 ∃ (F' : Nat → Prop) (G' : StG), StMem w' sb F' G' ∧ StInv w' (hot H F') D K G' ∧ Step w w' F F' ∧ Grown2 D D K K G G'
def CmpPost (w : World) (sb : Nat) (F H : Nat → Prop) (D : Addr → Option Int) (K : List Addr) (G : StG) (v : Int) (e : Ending) (w' : World) : Prop :=
 e = .returned (.int .i64 v) ∧ CmpMem w sb F H D K G w'
theorem CmpMem.below {w : World} {sb : Nat} {F H : Nat → Prop} {D : Addr → Option Int} {K : List Addr} {G : StG} {w' w'' : World} (h : CmpMem w sb F H D K G w') (hb : Below w'.heap.size w' w'') : CmpMem w sb F H D K G w'' := by
 obtain ⟨F', G', m', i', st', gg'⟩ := h
 have s' := Step.of_below F' hb
 exact ⟨F', G', m'.below hb, i'.step (s'.hot H), st'.trans s', gg'⟩
theorem CmpMem.after {a w : World} {sb : Nat} {F H : Nat → Prop} {D : Addr → Option Int} {K : List Addr} {G : StG} {w' : World} (hb : Below a.heap.size a w) (h : CmpMem w sb F H D K G w') : CmpMem a sb F H D K G w' := by
 obtain ⟨F', G', m', i', st', gg'⟩ := h
 exact ⟨F', G', m', i', (Step.of_below F hb).trans st', gg'⟩
theorem CmpMem.start {w : World} {sb : Nat} {F H : Nat → Prop} {D : Addr → Option Int} {K : List Addr} {G : StG} (hm : StMem w sb F G) (hi : StInv w (hot H F) D K G) : CmpMem w sb F H D K G w := ⟨F, G, hm, hi, Step.refl _ _, Grown2.refl _ _ _⟩
theorem CmpMem.keeps {w : World} {sb : Nat} {F H : Nat → Prop} {D : Addr → Option Int} {K : List Addr} {G : StG} {w' : World} (h : CmpMem w sb F H D K G w') : Keeps F w w' := by
 obtain ⟨F', G', m', i', st', gg'⟩ := h
 exact st'.keeps
def CmpC (sb : Nat) (H : Nat → Prop) (D : Addr → Option Int) (K : List Addr) (n : Nat) : Prop :=
 ∀ (w : World) (F : Nat → Prop) (G : StG) (hm : StMem w sb F G) (hi : StInv w (hot H F) D K G) (Dx Dy : Addr → Option Int) (hfx : Forest w (hot H F) Dx) (hfy : Forest w (hot H F) Dy)
   (hSx : ∀ p z, Dx p = some z → p ∈ K) (hSy : ∀ p z, Dy p = some z → p ∈ K) (s : Int) (g : Option Addr) (z : Int) (s' : Int) (g' : Option Addr) (z' : Int) (hx : ValD Dx s g z) (hy : ValD Dy s' g' z') (hn : z.natAbs < n),
   Calls Tryz.prog 50 #[.pointer (some ⟨sb, 0, none⟩), .agg #[.int .i64 s, .pointer g], .agg #[.int .i64 s', .pointer g']] w (CmpPost w sb F H D K G (sgn (z - z')))
theorem cmpN_sgn (a b : Nat) : cmpN a b = sgn ((a : Int) - b) := by
 unfold cmpN sgn
 split <;> (try split) <;> (try split) <;> (try split) <;> omega
theorem Za0 (w : World) (A B : Obj) : ((w.alloc A).alloc B).heap[w.heap.size]? = some A ∧ ((w.alloc A).alloc B).heap[w.heap.size + 1]? = some B := by
 constructor
 · rw [Below.heap_alloc _ _ _ (by simp), heap_alloc_new]
 · have := heap_alloc_new (w.alloc A) B
   simpa using this
theorem Za1 {w : World} {b : Nat} {m : Bool} {s : Int} {g : Option Addr} (h : w.heap[b]? = some (.cells #[.bool m, .int .i64 s, .pointer g] 62 (0, 0))) :
   w.cell? ⟨b, 0, none⟩ = some (.bool m) ∧ w.cell? ⟨b, 1, none⟩ = some (.int .i64 s) ∧ w.cell? ⟨b, 2, none⟩ = some (.pointer g) := by
 refine ⟨?_, ?_, ?_⟩ <;> simp [World.cell?, h]
theorem Zab {w : World} {b : Nat} {s : Int} {g : Option Addr} (h : w.heap[b]? = some (.cells #[.int .i64 s, .pointer g] 28 (0, 0))) :
   w.cell? ⟨b, 0, none⟩ = some (.int .i64 s) ∧ w.cell? ⟨b, 1, none⟩ = some (.pointer g) := by
 refine ⟨?_, ?_⟩ <;> simp [World.cell?, h]
theorem Zgr {sb : Nat} {F H : Nat → Prop} {D : Addr → Option Int} {K : List Addr} {w : World} {G : StG} (hm : StMem w sb F G) (hi : StInv w (hot H F) D K G) (s s' : Int) (g g' : Option Addr) :
   Calls Tryz.prog 76 #[.pointer (some ⟨sb, 0, none⟩), .agg #[.bool false, .int .i64 s, .pointer g], .agg #[.bool true, .int .i64 s', .pointer g']] w (CmpPost w sb F H D K G (1)) := by
 have HX := zh (zi hm hi)
 clear hm hi
 go_enter Tryz.func76, Tryz.ntmps76
 go_wp2_with (first
   | (go_at_call 71; refine (Zbk _ _ _ _).mono ?_; rintro e w1 ⟨rfl, hb1⟩))
 go_ret
 obtain ⟨hm, hi⟩ := HX.out
 have hb : Below w.heap.size w w1 := (((zb).alloc (zl) _).alloc (by simp) _).trans (hb1.mono (by simp; omega))
 exact ⟨rfl, (CmpMem.start hm hi).below hb⟩
theorem Zhp {sb : Nat} {F H : Nat → Prop} {D : Addr → Option Int} {K : List Addr} {w : World} {G : StG} (hm : StMem w sb F G) (hi : StInv w (hot H F) D K G) (s s' : Int) (g g' : Option Addr) :
   Calls Tryz.prog 76 #[.pointer (some ⟨sb, 0, none⟩), .agg #[.bool true, .int .i64 s, .pointer g], .agg #[.bool false, .int .i64 s', .pointer g']] w (CmpPost w sb F H D K G (-1)) := by
 have HX := zh (zi hm hi)
 clear hm hi
 go_enter Tryz.func76, Tryz.ntmps76
 go_wp2_with (first
   | (go_at_call 71; refine (Zbk _ _ _ _).mono ?_; rintro e w1 ⟨rfl, hb1⟩))
 go_ret
 obtain ⟨hm, hi⟩ := HX.out
 have hb : Below w.heap.size w w1 := (((zb).alloc (zl) _).alloc (by simp) _).trans (hb1.mono (by simp; omega))
 exact ⟨rfl, (CmpMem.start hm hi).below hb⟩
theorem Zgs {sb : Nat} {H : Nat → Prop} {D : Addr → Option Int} {K : List Addr} {n : Nat} (ih : CmpC sb H D K n) {F : Nat → Prop} {w : World} {G : StG} (hm : StMem w sb F G) (hi : StInv w (hot H F) D K G)
   {Dx Dy : Addr → Option Int} (hfx : Forest w (hot H F) Dx) (hfy : Forest w (hot H F) Dy) (hSx : ∀ p z, Dx p = some z → p ∈ K) (hSy : ∀ p z, Dy p = some z → p ∈ K)
   (s s' : Int) (g g' : Option Addr) (e f : Nat) (hx : ValD Dx s g e) (hy : ValD Dy s' g' f) (hn : e < n) :
   Calls Tryz.prog 76 #[.pointer (some ⟨sb, 0, none⟩), .agg #[.bool false, .int .i64 s, .pointer g], .agg #[.bool false, .int .i64 s', .pointer g']] w (CmpPost w sb F H D K G (cmpT (false, e) (false, f))) := by
 obtain ⟨wb, hwb⟩ : ∃ wb, wb = ((w.alloc (.cells #[.bool false, .int .i64 s, .pointer g] 62)).alloc (.cells #[.bool false, .int .i64 s', .pointer g'] 62)) := ⟨_, rfl⟩
 have hbb : Below w.heap.size w wb := by rw [hwb]; exact ((zb).alloc (zl) _).alloc (by simp) _
 have hzb : wb.heap.size = w.heap.size + 1 + 1 := by rw [hwb]; simp
 have hb0 : wb.heap[w.heap.size]? = some (.cells #[.bool false, .int .i64 s, .pointer g] 62) := by rw [hwb]; exact (Za0 w _ _).1
 have hb1 : wb.heap[w.heap.size + 1]? = some (.cells #[.bool false, .int .i64 s', .pointer g'] 62) := by rw [hwb]; exact (Za0 w _ _).2
 have hFlt := hm.flt
 have nF : ∀ j, w.heap.size ≤ j → ¬ F j := fun j hj hx => by have := hFlt j hx; omega
 -- whatever is met behind wb, and the call of compare there
 have call : ∀ W, Below wb.heap.size wb W → Calls Tryz.prog 50 #[.pointer (some ⟨sb, 0, none⟩), .agg #[.int .i64 s, .pointer g], .agg #[.int .i64 s', .pointer g']] W fun e' w' => ∃ (v : Int), e' = .returned (.int .i64 v) ∧ v = sgn ((e : Int) - f) ∧
     CmpMem w sb F H D K G w' ∧ w'.heap[w.heap.size]? = some (.cells #[.bool false, .int .i64 s, .pointer g] 62) ∧ w'.heap[w.heap.size + 1]? = some (.cells #[.bool false, .int .i64 s', .pointer g'] 62) := by
   intro W hW
   have hbW : Below w.heap.size w W := hbb.trans (hW.mono (by omega))
   have sW := Step.of_below F hbW
   have hWz := hW.size
   refine (ih W F G (hm.below hbW) (hi.step (sW.hot H)) Dx Dy (hfx.step (sW.hot H)) (hfy.step (sW.hot H)) hSx hSy s g _ s' g' _ hx hy (by omega)).mono ?_
   rintro e' w' ⟨rfl, hmem⟩
   have kp := hmem.keeps
   refine ⟨_, rfl, rfl, hmem.after hbW, ?_, ?_⟩
   · exact (kp.block _ (by omega) (nF _ (by omega))).trans ((hW.block _ (by omega)).trans hb0)
   · exact (kp.block _ (by omega) (nF _ (by omega))).trans ((hW.block _ (by omega)).trans hb1)
 have hcmp : cmpT (false, e) (false, f) = sg false * sgn ((e : Int) - f) := by simp [cmpT, cmpN_sgn]
 rw [hcmp]
 clear hm hi hfx hfy hSx hSy hx hy hn ih hFlt nF hbb hcmp
 have c0 := Za1 hb0
 have c1 := Za1 hb1
 obtain ⟨c00, c01, c02⟩ := c0
 obtain ⟨c10, c11, c12⟩ := c1
 have hsg : IntKind.i64.wrap (sg false * sgn ((e : Int) - f)) = sg false * sgn ((e : Int) - f) := by
   rw [Zec]; apply Za4
   unfold i64 sg sgn
   split <;> (try split) <;> (try split) <;> omega
 go_enter Tryz.func76, Tryz.ntmps76
 go_wp2
 rw [← hwb]
 have HW := zh hwb
 clear hwb
 first
   | go_region_with (first
     | (go_at_call 71; refine (Zbk _ _ _ _).mono ?_; rintro e1 w1 ⟨rfl, hs1⟩
        have hz1 := hs1.size
        first
          | (have k0 := (hs1.block w.heap.size (by simp <;> omega)).trans hb0
             have k1 := (hs1.block (w.heap.size + 1) (by simp <;> omega)).trans hb1
             obtain ⟨k00, k01, k02⟩ := Za1 k0
             obtain ⟨k10, k11, k12⟩ := Za1 k1)
          | (have k0 := (hs1.block w.heap.size (by omega)).trans y0
             have k1 := (hs1.block (w.heap.size + 1) (by omega)).trans y1
             obtain ⟨k00, k01, k02⟩ := Za1 k0
             obtain ⟨k10, k11, k12⟩ := Za1 k1))
     | (go_at_call 50; refine (call _ (by first | exact (zb).drew | exact ((zb).drew.trans (hs1.mono (by simp)))  )).mono ?_; rintro e2 w2 ⟨v, rfl, hv, post, y0, y1⟩
        obtain ⟨l00, l01, l02⟩ := Za1 y0
        obtain ⟨l10, l11, l12⟩ := Za1 y1))
   | fail
 all_goals (
   go_wp2
   refine bodyPost_ret (v := .int .i64 (sg false * sgn ((e : Int) - f))) (by simp [results, Tryz.results76, go_sem, hsg]) rfl ?_
   subst hv
   exact ⟨rfl, post⟩)
theorem Zhq {sb : Nat} {H : Nat → Prop} {D : Addr → Option Int} {K : List Addr} {n : Nat} (ih : CmpC sb H D K n) {F : Nat → Prop} {w : World} {G : StG} (hm : StMem w sb F G) (hi : StInv w (hot H F) D K G)
   {Dx Dy : Addr → Option Int} (hfx : Forest w (hot H F) Dx) (hfy : Forest w (hot H F) Dy) (hSx : ∀ p z, Dx p = some z → p ∈ K) (hSy : ∀ p z, Dy p = some z → p ∈ K)
   (s s' : Int) (g g' : Option Addr) (e f : Nat) (hx : ValD Dx s g e) (hy : ValD Dy s' g' f) (hn : e < n) :
   Calls Tryz.prog 76 #[.pointer (some ⟨sb, 0, none⟩), .agg #[.bool true, .int .i64 s, .pointer g], .agg #[.bool true, .int .i64 s', .pointer g']] w (CmpPost w sb F H D K G (cmpT (true, e) (true, f))) := by
 obtain ⟨wb, hwb⟩ : ∃ wb, wb = ((w.alloc (.cells #[.bool true, .int .i64 s, .pointer g] 62)).alloc (.cells #[.bool true, .int .i64 s', .pointer g'] 62)) := ⟨_, rfl⟩
 have hbb : Below w.heap.size w wb := by rw [hwb]; exact ((zb).alloc (zl) _).alloc (by simp) _
 have hzb : wb.heap.size = w.heap.size + 1 + 1 := by rw [hwb]; simp
 have hb0 : wb.heap[w.heap.size]? = some (.cells #[.bool true, .int .i64 s, .pointer g] 62) := by rw [hwb]; exact (Za0 w _ _).1
 have hb1 : wb.heap[w.heap.size + 1]? = some (.cells #[.bool true, .int .i64 s', .pointer g'] 62) := by rw [hwb]; exact (Za0 w _ _).2
 have hFlt := hm.flt
 have nF : ∀ j, w.heap.size ≤ j → ¬ F j := fun j hj hx => by have := hFlt j hx; omega
 -- whatever is met behind wb, and the call of compare there
 have call : ∀ W, Below wb.heap.size wb W → Calls Tryz.prog 50 #[.pointer (some ⟨sb, 0, none⟩), .agg #[.int .i64 s, .pointer g], .agg #[.int .i64 s', .pointer g']] W fun e' w' => ∃ (v : Int), e' = .returned (.int .i64 v) ∧ v = sgn ((e : Int) - f) ∧
     CmpMem w sb F H D K G w' ∧ w'.heap[w.heap.size]? = some (.cells #[.bool true, .int .i64 s, .pointer g] 62) ∧ w'.heap[w.heap.size + 1]? = some (.cells #[.bool true, .int .i64 s', .pointer g'] 62) := by
   intro W hW
   have hbW : Below w.heap.size w W := hbb.trans (hW.mono (by omega))
   have sW := Step.of_below F hbW
   have hWz := hW.size
   refine (ih W F G (hm.below hbW) (hi.step (sW.hot H)) Dx Dy (hfx.step (sW.hot H)) (hfy.step (sW.hot H)) hSx hSy s g _ s' g' _ hx hy (by omega)).mono ?_
   rintro e' w' ⟨rfl, hmem⟩
   have kp := hmem.keeps
   refine ⟨_, rfl, rfl, hmem.after hbW, ?_, ?_⟩
   · exact (kp.block _ (by omega) (nF _ (by omega))).trans ((hW.block _ (by omega)).trans hb0)
   · exact (kp.block _ (by omega) (nF _ (by omega))).trans ((hW.block _ (by omega)).trans hb1)
 have hcmp : cmpT (true, e) (true, f) = sg true * sgn ((e : Int) - f) := by simp [cmpT, cmpN_sgn]
 rw [hcmp]
 clear hm hi hfx hfy hSx hSy hx hy hn ih hFlt nF hbb hcmp
 have c0 := Za1 hb0
 have c1 := Za1 hb1
 obtain ⟨c00, c01, c02⟩ := c0
 obtain ⟨c10, c11, c12⟩ := c1
 have hsg : IntKind.i64.wrap (sg true * sgn ((e : Int) - f)) = sg true * sgn ((e : Int) - f) := by
   rw [Zec]; apply Za4
   unfold i64 sg sgn
   split <;> (try split) <;> (try split) <;> omega
 go_enter Tryz.func76, Tryz.ntmps76
 go_wp2
 rw [← hwb]
 have HW := zh hwb
 clear hwb
 first
   | go_region_with (first
     | (go_at_call 71; refine (Zbk _ _ _ _).mono ?_; rintro e1 w1 ⟨rfl, hs1⟩
        have hz1 := hs1.size
        first
          | (have k0 := (hs1.block w.heap.size (by simp <;> omega)).trans hb0
             have k1 := (hs1.block (w.heap.size + 1) (by simp <;> omega)).trans hb1
             obtain ⟨k00, k01, k02⟩ := Za1 k0
             obtain ⟨k10, k11, k12⟩ := Za1 k1)
          | (have k0 := (hs1.block w.heap.size (by omega)).trans y0
             have k1 := (hs1.block (w.heap.size + 1) (by omega)).trans y1
             obtain ⟨k00, k01, k02⟩ := Za1 k0
             obtain ⟨k10, k11, k12⟩ := Za1 k1))
     | (go_at_call 50; refine (call _ (by first | exact (zb).drew | exact ((zb).drew.trans (hs1.mono (by simp)))  )).mono ?_; rintro e2 w2 ⟨v, rfl, hv, post, y0, y1⟩
        obtain ⟨l00, l01, l02⟩ := Za1 y0
        obtain ⟨l10, l11, l12⟩ := Za1 y1))
   | fail
 all_goals (
   go_wp2
   refine bodyPost_ret (v := .int .i64 (sg true * sgn ((e : Int) - f))) (by simp [results, Tryz.results76, go_sem, hsg]) rfl ?_
   subst hv
   exact ⟨rfl, post⟩)
theorem Zhr {sb : Nat} {H : Nat → Prop} {D : Addr → Option Int} {K : List Addr} {n : Nat} (ih : CmpC sb H D K n) {F : Nat → Prop} {w : World} {G : StG} (hm : StMem w sb F G) (hi : StInv w (hot H F) D K G)
   {Dx Dy : Addr → Option Int} (hfx : Forest w (hot H F) Dx) (hfy : Forest w (hot H F) Dy) (hSx : ∀ p z, Dx p = some z → p ∈ K) (hSy : ∀ p z, Dy p = some z → p ∈ K)
   (m m' : Bool) (s s' : Int) (g g' : Option Addr) (e f : Nat) (hx : ValD Dx s g e) (hy : ValD Dy s' g' f) (hn : e < n) :
   Calls Tryz.prog 76 #[.pointer (some ⟨sb, 0, none⟩), .agg #[.bool m, .int .i64 s, .pointer g], .agg #[.bool m', .int .i64 s', .pointer g']] w (CmpPost w sb F H D K G (cmpT (m, e) (m', f))) := by
 cases m <;> cases m'
 · exact Zgs ih hm hi hfx hfy hSx hSy s s' g g' e f hx hy hn
 · exact Zgr hm hi s s' g g'
 · exact Zhp hm hi s s' g g'
 · exact Zhq ih hm hi hfx hfy hSx hSy s s' g g' e f hx hy hn
end Go.Proofs.YtlkmgclbckojgaaGreatDoor

