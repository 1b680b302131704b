import Derived.Test.YtlkmgclbckojgaaGreatDoorX1
set_option linter.unusedVariables false
set_option linter.unusedSimpArgs false
set_option maxHeartbeats 4000000
set_option maxRecDepth 100000
namespace Go.Proofs.YtlkmgclbckojgaaGreatDoor
open Go.RowKit
theorem ValD.same {w : World} {F : Nat → Prop} {D : Addr → Option Int} (hf : Forest w F D) {s s' : Int} {g g' : Option Addr} {z z' : Int} (h : ValD D s g z) (h' : ValD D s' g' z') : (s == s' && g == g') = decide (z' = z) := by
 by_cases hz : z' = z
 · subst hz
   obtain ⟨rfl, rfl⟩ := ValD.inj hf h h'
   simp
 · have : ¬ (s = s' ∧ g = g') := by
     rintro ⟨rfl, rfl⟩
     exact hz (ValD.det hf h' h)
   rw [Bool.eq_iff_iff]
   simp [hz, this]
theorem Zlz {γ sb B : Nat} (hN : NextC γ sb B) {H : Nat → Prop} {w : World} {F : Nat → Prop} {D : Addr → Option Int} {K : List Addr} {G : StG} (hm : StMem w sb F G) (hi : StInv w (hot H F) D K G) (hH : ∀ k, H k → k < w.heap.size) {e f : Nat} {s s' : Int} {g g' : Option Addr} (hv : ValD D s g (e : Int)) (hv' : ValD D s' g' (f : Int))
   (hB : e < B) (hw : wt (e : Int) ≤ 29999) (hbig : K.length + 1 ≤ big) (hp : e % 2 ≠ f % 2) :
   Calls Tryz.prog 83 #[.pointer (some ⟨sb, 0, none⟩), .agg #[.int .i64 s, .pointer g], .agg #[.int .i64 s', .pointer g']] w fun x w' => ∃ (F' : Nat → Prop) (D' : Addr → Option Int) (K' : List Addr) (G' : StG),
     x = .returned (.bool (decide (f = e + 1))) ∧ GrowMem w sb F H D K G γ w' F' D' K' G' := by
 have hb : Below w.heap.size w ((w.alloc (.cells #[.int .i64 s, .pointer g] 28)).alloc (.cells #[.int .i64 s', .pointer g'] 28)) := ((zb).alloc (zl) _).alloc (by simp) _
 obtain ⟨be, hbe⟩ : ∃ be : Bool, be = ((e : Int) % 2 == 1) := ⟨_, rfl⟩
 obtain ⟨bf, hbf⟩ : ∃ bf : Bool, bf = ((f : Int) % 2 == 1) := ⟨_, rfl⟩
 have odd1 : ∀ W, Below w.heap.size w W → Calls Tryz.prog 99 #[.agg #[.int .i64 s, .pointer g]] W fun x w' => x = .returned (.bool be) ∧ Below W.heap.size W w' := fun W hW => by
   rw [hbe]; exact Zfb s g _ W (IsN.keeps ⟨D, hi.forest, hv⟩ (.of_below hW (zl))) (by omega)
 have odd2 : ∀ W, Below w.heap.size w W → Calls Tryz.prog 99 #[.agg #[.int .i64 s', .pointer g']] W fun x w' => x = .returned (.bool bf) ∧ Below W.heap.size W w' := fun W hW => by
   rw [hbf]; exact Zfb s' g' _ W (IsN.keeps ⟨D, hi.forest, hv'⟩ (.of_below hW (zl))) (by omega)
 obtain ⟨h0, h1⟩ := Za0 w (.cells #[.int .i64 s, .pointer g] 28) (.cells #[.int .i64 s', .pointer g'] 28)
 have HK : Hid (∀ W, Below ((w.alloc (.cells #[.int .i64 s, .pointer g] 28)).alloc (.cells #[.int .i64 s', .pointer g'] 28)).heap.size ((w.alloc (.cells #[.int .i64 s, .pointer g] 28)).alloc (.cells #[.int .i64 s', .pointer g'] 28)) W →
     (W.heap[w.heap.size]? = some (.cells #[.int .i64 s, .pointer g] 28) ∧ W.heap[w.heap.size + 1]? = some (.cells #[.int .i64 s', .pointer g'] 28)) ∧ Below w.heap.size w W) := by
   intro W hW
   exact ⟨⟨(hW.block w.heap.size (by simp; omega)).trans h0, (hW.block (w.heap.size + 1) (by simp)).trans h1⟩, hb.trans (hW.mono hb.size)⟩
 obtain ⟨s2, hs2⟩ : ∃ s2 : Int, ∀ (W : World) (F' : Nat → Prop) (D' : Addr → Option Int) (t : Int) (q : Option Addr), Forest W F' D' → ValD D' t q ((e : Int) + 1) → t = s2 := by
   by_cases h64 : i64 ((e : Int) + 1)
   · refine ⟨(e : Int) + 1, fun W F' D' t q hf hv => ?_⟩
     cases q with
     | none => exact hv.1
     | some p => exact absurd h64 (hf.great _ _ hv.2).1
   · refine ⟨0, fun W F' D' t q hf hv => ?_⟩
     cases q with
     | none => exact absurd hv.2 h64
     | some p => exact hv.1
 obtain ⟨br, hbr⟩ : ∃ br : Bool, br = decide (f = e + 1) := ⟨_, rfl⟩
 rw [← hbr]
 have next : ∀ W, Below w.heap.size w W → Calls Tryz.prog 100 #[.pointer (some ⟨sb, 0, none⟩), .agg #[.int .i64 s, .pointer g]] W fun x w' => ∃ (g2 : Option Addr) (F' : Nat → Prop) (D' : Addr → Option Int) (K' : List Addr) (G' : StG),
     x = .returned (.agg #[.int .i64 s2, .pointer g2]) ∧ (s2 == s' && g2 == g') = br ∧ PtrOk w' g2 ∧ PtrOk w' g' ∧ GrowMem w sb F H D K G γ w' F' D' K' G' ∧ Others W w' := by
   intro W hW
   have sW := Step.of_below F hW
   have mW := hm.below hW
   refine (hN H W F D K G mW (hi.step (sW.hot H)) (fun k hk => Nat.lt_of_lt_of_le (hH k hk) hW.size) e s g hv hB hw hbig).mono ?_
   rintro x w' ⟨s3, g2, F', D', K', G', rfl, hv2, m2, i2, st2, gg2, hk2⟩
   have hv3 := hv'.mono gg2.d
   obtain rfl := hs2 _ _ _ _ _ i2.forest hv2
   refine ⟨g2, F', D', K', G', rfl, ?_, hv2.ptr i2.forest, hv3.ptr i2.forest, ⟨m2, i2, sW.trans st2, gg2, hk2⟩, fun x c t fr hx h1 h2 h3 => Own.kept mW st2.keeps hx h1 h2 h3⟩
   rw [ValD.same i2.forest hv2 hv3, hbr, Bool.eq_iff_iff]
   simp only [decide_eq_true_eq]
   omega
 have hbr0 : s2 ≠ s' → br = false := by
   intro hne
   rw [hbr]
   simp only [decide_eq_false_iff_not]
   rintro rfl
   exact hne (hs2 w _ D s' g' hi.forest (by simpa using hv')).symm
 obtain ⟨c1, c2⟩ := Zab h0
 obtain ⟨c3, c4⟩ := Zab h1
 have hne : be = !bf := by
   rw [hbe, hbf]
   rcases Nat.mod_two_eq_zero_or_one e with h | h <;> rcases Nat.mod_two_eq_zero_or_one f with h' | h'
   · omega
   · rw [show (e : Int) % 2 = 0 by omega, show (f : Int) % 2 = 1 by omega]; rfl
   · rw [show (e : Int) % 2 = 1 by omega, show (f : Int) % 2 = 0 by omega]; rfl
   · omega
 subst hne
 have HBB := zh hb
 clear hm hi hv hv' hb h0 h1 hbe hbf hN hH hB hw hbig hp hs2 hbr
 by_cases hss : s2 = s'
 · subst hss
   clear hbr0
   cases bf <;> cases br
   all_goals
     simp only [Bool.not_true, Bool.not_false] at odd1
     go_enter Tryz.func83, Tryz.ntmps83
     go_wp2
     first
       | go_region_with
         (first
         | (go_at_call 100; refine (next _ (HK.out _ hb12).2).mono ?_; rintro x3 w3 ⟨g2, F3, D3, K3, G3, rfl, hres, p2, p3, hG, hO⟩
            have hq := Zf3 w3 9998 g2 g' p2 p3
            rw [show (g2 == g') = (s2 == s2 && g2 == g') by simp, hres] at hq
            have k0 := hO _ _ _ _ (HK.out _ hb12).1.1 (by decide) (by decide) (by decide)
            have k1 := hO _ _ _ _ (HK.out _ hb12).1.2 (by decide) (by decide) (by decide)
            obtain ⟨e1, e2⟩ := Zab k0
            obtain ⟨e3, e4⟩ := Zab k1
            have HG := zh hG
            clear hG hres hO)
         | (have h1 := hb1
            go_at_call 99; refine (odd2 _ (HK.out _ (((zb).drew).trans hb1)).2).mono ?_; rintro x2 w2 ⟨rfl, hb2⟩
            have hb12 := (((zb).drew).trans hb1).trans (hb2.mono (by have := hb1.size; simpa using this))
            obtain ⟨e1, e2⟩ := Zab (HK.out _ hb12).1.1
            obtain ⟨e3, e4⟩ := Zab (HK.out _ hb12).1.2)
         | (go_at_call 99; refine (odd1 _ (HK.out _ ((zb).drew)).2).mono ?_; rintro x1 w1 ⟨rfl, hb1⟩
            obtain ⟨d1, d2⟩ := Zab (HK.out _ (((zb).drew).trans hb1)).1.1
            obtain ⟨d3, d4⟩ := Zab (HK.out _ (((zb).drew).trans hb1)).1.2))
       | fail
     all_goals go_wp2
     all_goals go_ret
     all_goals exact ⟨_, _, _, _, rfl, HG.out⟩
 · have hbr1 := hbr0 hss
   subst hbr1
   have hss2 : (s2 == s') = false := by simp [hss]
   clear hbr0
   cases bf
   all_goals
     simp only [Bool.not_true, Bool.not_false] at odd1
     go_enter Tryz.func83, Tryz.ntmps83
     go_wp2
     first
       | go_region_held3 (fun w' => w'.cell? ⟨w.heap.size, 0, none⟩ = some (.int .i64 s) ∧ w'.cell? ⟨w.heap.size, 1, none⟩ = some (.pointer g) ∧ w'.cell? ⟨w.heap.size + 1, 0, none⟩ = some (.int .i64 s') ∧ w'.cell? ⟨w.heap.size + 1, 1, none⟩ = some (.pointer g')) (first | (go_keep; done) | ((try dsimp only); refine ⟨?_, ?_, ?_, ?_⟩ <;> (go_keep; done)))
         (first
         | (go_at_call 100; refine (next _ (HK.out _ hb12).2).mono ?_; rintro x3 w3 ⟨g2, F3, D3, K3, G3, rfl, hres, p2, p3, hG, hO⟩
            have hq := Zf3 w3 9998 g2 g' p2 p3
            skip
            have k0 := hO _ _ _ _ (HK.out _ hb12).1.1 (by decide) (by decide) (by decide)
            have k1 := hO _ _ _ _ (HK.out _ hb12).1.2 (by decide) (by decide) (by decide)
            obtain ⟨e1, e2⟩ := Zab k0
            obtain ⟨e3, e4⟩ := Zab k1
            have HG := zh hG
            clear hG hres hO)
         | (have h1 := hb1
            go_at_call 99; refine (odd2 _ (HK.out _ (((zb).drew).trans hb1)).2).mono ?_; rintro x2 w2 ⟨rfl, hb2⟩
            have hb12 := (((zb).drew).trans hb1).trans (hb2.mono (by have := hb1.size; simpa using this))
            obtain ⟨e1, e2⟩ := Zab (HK.out _ hb12).1.1
            obtain ⟨e3, e4⟩ := Zab (HK.out _ hb12).1.2)
         | (go_at_call 99; refine (odd1 _ (HK.out _ ((zb).drew)).2).mono ?_; rintro x1 w1 ⟨rfl, hb1⟩
            obtain ⟨d1, d2⟩ := Zab (HK.out _ (((zb).drew).trans hb1)).1.1
            obtain ⟨d3, d4⟩ := Zab (HK.out _ (((zb).drew).trans hb1)).1.2))
       | fail
     all_goals go_wp2
     all_goals go_ret
     all_goals exact ⟨_, _, _, _, rfl, HG.out⟩
theorem Zfl {γ sb B : Nat} (hN : NextC γ sb B) {H : Nat → Prop} {w : World} {F : Nat → Prop} {D : Addr → Option Int} {K : List Addr} {G : StG} (hm : StMem w sb F G) (hi : StInv w (hot H F) D K G) (hH : ∀ k, H k → k < w.heap.size) {e f : Nat} {s s' : Int} {g g' : Option Addr} (hv : ValD D s g (e : Int)) (hv' : ValD D s' g' (f : Int))
   (hB : e < B) (hw : wt (e : Int) ≤ 29999) (hbig : K.length + 1 ≤ big) :
   Calls Tryz.prog 83 #[.pointer (some ⟨sb, 0, none⟩), .agg #[.int .i64 s, .pointer g], .agg #[.int .i64 s', .pointer g']] w fun x w' => ∃ (F' : Nat → Prop) (D' : Addr → Option Int) (K' : List Addr) (G' : StG),
     x = .returned (.bool (decide (f = e + 1))) ∧ GrowMem w sb F H D K G γ w' F' D' K' G' := by
 by_cases hp : e % 2 = f % 2
 · refine (Znu hm hi hv hv' hp).mono ?_
   rintro x w' ⟨rfl, hb⟩
   refine ⟨F, D, K, G, ?_, (GrowMem.start hm hi γ).below hb⟩
   rw [show decide (f = e + 1) = false by simp; omega]
 · exact Zlz hN hm hi hH hv hv' hB hw hbig hp
end Go.Proofs.YtlkmgclbckojgaaGreatDoor

