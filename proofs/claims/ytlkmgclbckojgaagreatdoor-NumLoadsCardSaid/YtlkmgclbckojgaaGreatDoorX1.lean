import Derived.Test.YtlkmgclbckojgaaGreatDoorY2
set_option linter.unusedVariables false
set_option linter.unusedSimpArgs false
set_option maxHeartbeats 4000000
set_option maxRecDepth 100000
namespace Go.Proofs.YtlkmgclbckojgaaGreatDoor
open Go.RowKit
def GrowMem (w : World) (sb : Nat) (F H : Nat → Prop) (D : Addr → Option Int) (K : List Addr) (G : StG) (add : Nat) (w' : World) (F' : Nat → Prop) (D' : Addr → Option Int) (K' : List Addr) (G' : StG) : Prop :=
 StMem w' sb F' G' ∧ StInv w' (hot H F') D' K' G' ∧ Step w w' F F' ∧ Grown2 D D' K K' G G' ∧ K'.length ≤ K.length + add
theorem GrowMem.start {w : World} {sb : Nat} {F H : Nat → Prop} {D : Addr → Option Int} {K : List Addr} {G : StG} (hm : StMem w sb F G) (hi : StInv w (hot H F) D K G) (add : Nat) : GrowMem w sb F H D K G add w F D K G := ⟨hm, hi, Step.refl _ _, Grown2.refl _ _ _, by omega⟩
theorem GrowMem.below {w : World} {sb : Nat} {F H : Nat → Prop} {D : Addr → Option Int} {K : List Addr} {G : StG} {add : Nat} {w' w'' : World} {F' : Nat → Prop} {D' : Addr → Option Int} {K' : List Addr} {G' : StG} (h : GrowMem w sb F H D K G add w' F' D' K' G') (hb : Below w'.heap.size w' w'') : GrowMem w sb F H D K G add w'' F' D' K' G' := by
 obtain ⟨h1, h2, h3, h4, h5⟩ := h
 have s := Step.of_below F' hb
 exact ⟨h1.below hb, h2.step (s.hot H), h3.trans s, h4, h5⟩
def NextC (γ sb B : Nat) : Prop :=
 ∀ (H : Nat → Prop) (w : World) (F : Nat → Prop) (D : Addr → Option Int) (K : List Addr) (G : StG) (hm : StMem w sb F G) (hi : StInv w (hot H F) D K G) (hH : ∀ k, H k → k < w.heap.size) (e : Nat) (s : Int) (g : Option Addr) (hv : ValD D s g (e : Int)) (hB : e < B)
   (hw : wt (e : Int) ≤ 29999) (hbig : K.length + 1 ≤ big),
   Calls Tryz.prog 100 #[.pointer (some ⟨sb, 0, none⟩), .agg #[.int .i64 s, .pointer g]] w fun x w' => ∃ (s' : Int) (g' : Option Addr) (F' : Nat → Prop) (D' : Addr → Option Int) (K' : List Addr) (G' : StG),
     x = .returned (.agg #[.int .i64 s', .pointer g']) ∧ ValD D' s' g' ((e : Int) + 1) ∧ GrowMem w sb F H D K G γ w' F' D' K' G'
theorem Znt (sb : Nat) (s : Int) (hs : 0 ≤ s) (hs2 : s < 9223372036854775807) (w : World) :
   Calls Tryz.prog 100 #[.pointer (some ⟨sb, 0, none⟩), .agg #[.int .i64 s, .pointer none]] w fun x w' => x = .returned (.agg #[.int .i64 (s + 1), .pointer none]) ∧ Below w.heap.size w w' := by
 go_enter Tryz.func100, Tryz.ntmps100
 go_wp2_with (go_at_call 8; refine (Zax _ _).mono ?_; rintro e w1 ⟨rfl, hb1⟩; obtain ⟨hc, hf⟩ := bcell hb1; have hz1 := hb1.size; have k1 := hc (w.heap.size + 1) 0 (by simp); have k2 := hc (w.heap.size + 1) 1 (by simp); have k3 := hf (w.heap.size + 1) 0 (by simp); have k4 := hf (w.heap.size + 1) 1 (by simp); simp at k1 k2 k3 k4)
 refine bodyPost_ret (v := .agg #[.int .i64 (s + 1), .pointer none]) (by simp [results, Tryz.results100, go_sem, *]) rfl ⟨rfl, ?_⟩
 exact Below.setCell (Below.setCell (Below.trans (((zb).alloc (zl) _).alloc (by simp) _) (hb1.mono (by simp; omega))) (by simp) _) (by simp) _
theorem Znu {sb : Nat} {H : Nat → Prop} {w : World} {F : Nat → Prop} {D : Addr → Option Int} {K : List Addr} {G : StG} (hm : StMem w sb F G) (hi : StInv w (hot H F) D K G) {e f : Nat} {s s' : Int} {g g' : Option Addr} (hv : ValD D s g (e : Int)) (hv' : ValD D s' g' (f : Int)) (hp : e % 2 = f % 2) :
   Calls Tryz.prog 83 #[.pointer (some ⟨sb, 0, none⟩), .agg #[.int .i64 s, .pointer g], .agg #[.int .i64 s', .pointer g']] w fun x w' => x = .returned (.bool false) ∧ Below w.heap.size w w' := by
 have hb : Below w.heap.size w ((w.alloc (.cells #[.int .i64 s, .pointer g] 28)).alloc (.cells #[.int .i64 s', .pointer g'] 28)) := ((zb).alloc (zl) _).alloc (by simp) _
 obtain ⟨be, hbe⟩ : ∃ be : Bool, be = ((e : Int) % 2 == 1) := ⟨_, rfl⟩
 obtain ⟨bf, hbf⟩ : ∃ bf : Bool, bf = ((f : Int) % 2 == 1) := ⟨_, rfl⟩
 have odd1 : ∀ W, Below w.heap.size w W → Calls Tryz.prog 99 #[.agg #[.int .i64 s, .pointer g]] W fun x w' => x = .returned (.bool be) ∧ Below W.heap.size W w' := fun W hW => by
   rw [hbe]; exact Zfb s g _ W (IsN.keeps ⟨D, hi.forest, hv⟩ (.of_below hW (zl))) (by omega)
 have odd2 : ∀ W, Below w.heap.size w W → Calls Tryz.prog 99 #[.agg #[.int .i64 s', .pointer g']] W fun x w' => x = .returned (.bool bf) ∧ Below W.heap.size W w' := fun W hW => by
   rw [hbf]; exact Zfb s' g' _ W (IsN.keeps ⟨D, hi.forest, hv'⟩ (.of_below hW (zl))) (by omega)
 obtain ⟨h0, h1⟩ := Za0 w (.cells #[.int .i64 s, .pointer g] 28) (.cells #[.int .i64 s', .pointer g'] 28)
 have HK : Hid (∀ W, Below ((w.alloc (.cells #[.int .i64 s, .pointer g] 28)).alloc (.cells #[.int .i64 s', .pointer g'] 28)).heap.size ((w.alloc (.cells #[.int .i64 s, .pointer g] 28)).alloc (.cells #[.int .i64 s', .pointer g'] 28)) W →
     (W.cell? ⟨w.heap.size, 0, none⟩ = some (.int .i64 s) ∧ W.cell? ⟨w.heap.size, 1, none⟩ = some (.pointer g) ∧ W.cell? ⟨w.heap.size + 1, 0, none⟩ = some (.int .i64 s') ∧ W.cell? ⟨w.heap.size + 1, 1, none⟩ = some (.pointer g')) ∧ Below w.heap.size w W) := by
   intro W hW
   obtain ⟨a1, a2⟩ := Zab ((hW.block w.heap.size (by simp; omega)).trans h0)
   obtain ⟨b1, b2⟩ := Zab ((hW.block (w.heap.size + 1) (by simp)).trans h1)
   exact ⟨⟨a1, a2, b1, b2⟩, hb.trans (hW.mono hb.size)⟩
 obtain ⟨c1, c2⟩ := Zab h0
 obtain ⟨c3, c4⟩ := Zab h1
 have hne : be = bf := by rw [hbe, hbf, show (e : Int) % 2 = (f : Int) % 2 by omega]
 subst hne
 have HBB := zh hb
 clear hm hi hv hv' hb h0 h1 hbe hbf
 cases be
 all_goals
   go_enter Tryz.func83, Tryz.ntmps83
   go_wp2
   first
     | go_region_with
       (first
       | (have h1 := hb1
          go_at_call 99; refine (odd2 _ (HK.out _ (((zb).drew).trans hb1)).2).mono ?_; rintro x2 w2 ⟨rfl, hb2⟩
          obtain ⟨⟨e1, e2, e3, e4⟩, e5⟩ := HK.out _ ((((zb).drew).trans hb1).trans (hb2.mono (by have := hb1.size; simpa using this))))
       | (go_at_call 99; refine (odd1 _ (HK.out _ ((zb).drew)).2).mono ?_; rintro x1 w1 ⟨rfl, hb1⟩
          obtain ⟨⟨d1, d2, d3, d4⟩, d5⟩ := HK.out _ (((zb).drew).trans hb1)))
     | fail
   all_goals go_wp2
   all_goals go_ret
   all_goals exact ⟨rfl, e5⟩
end Go.Proofs.YtlkmgclbckojgaaGreatDoor

