import Derived.Test.YtlkmgclbckojgaaGreatDoorC5
set_option linter.unusedVariables false
set_option linter.unusedSimpArgs false
set_option maxHeartbeats 4000000
set_option maxRecDepth 100000
namespace Go.Proofs.YtlkmgclbckojgaaGreatDoor
section
open Go.RowKit
def valD (D : Addr → Option Int) (s : Int) (g : Option Addr) : Int := match g with | none => s | some p => (D p).getD 0
theorem ValD.val {D : Addr → Option Int} {s : Int} {g : Option Addr} {z : Int} (h : ValD D s g z) : valD D s g = z := by
 cases g with
 | none => exact h.1
 | some p => simp [valD, h.2]
def Box (W : World) (cs sb : Nat) : Prop := W.heap[cs]? = some (.cells #[.pointer (some ⟨sb, 0, none⟩)] 80 (0, 0))
theorem Box.below {W W' : World} {cs sb : Nat} (h : Box W cs sb) (hb : Below W.heap.size W W') : Box W' cs sb := by
 refine (hb.block cs ?_).trans h
 rcases Nat.lt_or_ge cs W.heap.size with x | x
 · exact x
 · unfold Box at h; simp [Array.getElem?_eq_none x] at h
theorem Zmw {sb : Nat} {D : Addr → Option Int} {K : List Addr} (hbig : K.length ≤ big) {H F : Nat → Prop} {w : World} {G : StG} (hm : StMem w sb F G) (hi : StInv w (hot H F) D K G) {cs : Nat} (hbx : Box w cs sb)
   {Dx : Addr → Option Int} (hf : Forest w (hot H F) Dx) (hS : ∀ p z, Dx p = some z → p ∈ K) (m m' : Bool) (s s' : Int) (g g' : Option Addr) (z z' : Int) (hx : ValD Dx s g z) (hy : ValD Dx s' g' z') :
   Calls Tryz.prog 91 #[.agg #[.bool m, .int .i64 s, .pointer g], .agg #[.bool m', .int .i64 s', .pointer g'], .pointer (some ⟨cs, 0, none⟩)] w (CmpPost w sb F H D K G (sgn (z' - z))) := by
 have hbb : Below w.heap.size w ((w.alloc (.cells #[.bool m, .int .i64 s, .pointer g] 62)).alloc (.cells #[.bool m', .int .i64 s', .pointer g'] 62)) := ((zb).alloc (zl) _).alloc (by simp) _
 have b0 := hbx.below hbb
 have cb : ((w.alloc (.cells #[.bool m, .int .i64 s, .pointer g] 62)).alloc (.cells #[.bool m', .int .i64 s', .pointer g'] 62)).cell? ⟨cs, 0, none⟩ = some (.pointer (some ⟨sb, 0, none⟩)) := by unfold Box at b0; simp [World.cell?, b0]
 have call : Calls Tryz.prog 50 #[.pointer (some ⟨sb, 0, none⟩), .agg #[.int .i64 s', .pointer g'], .agg #[.int .i64 s, .pointer g]] ((w.alloc (.cells #[.bool m, .int .i64 s, .pointer g] 62)).alloc (.cells #[.bool m', .int .i64 s', .pointer g'] 62)) (CmpPost w sb F H D K G (sgn (z' - z))) := by
   have sW := Step.of_below F hbb
   refine (Ze0 hbig (z'.natAbs + 1) H _ F G (hm.below hbb) (hi.step (sW.hot H)) Dx Dx (hf.step (sW.hot H)) (hf.step (sW.hot H)) hS hS s' g' _ s g _ hy hx (by omega)).mono ?_
   rintro e' w' ⟨rfl, hmem⟩
   exact ⟨rfl, hmem.after hbb⟩
 clear hm hi hf hS hx hy hbx hbb b0
 go_enter Tryz.func91, Tryz.ntmps91
 go_wp2_with (first
   | (go_at_call 50; refine call.mono ?_; rintro e2 w2 ⟨rfl, hp⟩)
   | fail)
 go_ret
 exact ⟨rfl, hp⟩
def keyT (D : Addr → Option Int) (t : TV) : Int := -(valD D t.2.1 t.2.2)
def knownT (D : Addr → Option Int) (t : TV) : Prop := ∃ z, ValD D t.2.1 t.2.2 z
theorem Zjy {sb : Nat} {D : Addr → Option Int} {K : List Addr} (hbig : K.length ≤ big) {H F : Nat → Prop} {w : World} {G : StG} (hm : StMem w sb F G) (hi : StInv w (hot H F) D K G) {cs : Nat} (hbx : Box w cs sb)
   {Dx : Addr → Option Int} (hf : Forest w (hot H F) Dx) (hS : ∀ p z, Dx p = some z → p ∈ K) (t u : TV) (ht : knownT Dx t) (hu : knownT Dx u) :
   Calls Tryz.prog 91 #[.agg #[.bool t.1, .int .i64 t.2.1, .pointer t.2.2], .agg #[.bool u.1, .int .i64 u.2.1, .pointer u.2.2], .pointer (some ⟨cs, 0, none⟩)] w (CmpPost w sb F H D K G (sgn (keyT Dx t - keyT Dx u))) := by
 obtain ⟨z, hz⟩ := ht
 obtain ⟨z', hz'⟩ := hu
 have h := Zmw hbig hm hi hbx hf hS t.1 u.1 t.2.1 u.2.1 t.2.2 u.2.2 z z' hz hz'
 unfold keyT
 rw [hz.val, hz'.val, show -z - -z' = z' - z by omega]
 exact h
end
section
open Go.RowKit
theorem Zcl {w : World} (a b : Value) (t : TypeId) : (w.alloc (.cells #[a, b] t)).cell? ⟨w.heap.size, 0, none⟩ = some a ∧ (w.alloc (.cells #[a, b] t)).cell? ⟨w.heap.size, 1, none⟩ = some b := by
 have h := Zck (heap_alloc_new w (.cells #[a, b] t))
 exact ⟨h.1, h.2.1⟩
theorem Znz (w : World) (cs : Nat) (a a' : Option Addr) (n m c c' : Nat) (hm : m ≤ lim) {xs ys : List Value} (r1 : RowV w 3 (.slice a 0 c) 0 xs) (r2 : RowV w 3 (.slice a' m c') m ys) (o1 : ∀ u ∈ xs, u.oneCell' = true) (o2 : ∀ u ∈ ys, u.oneCell' = true) :
   Calls Tryz.prog 104 #[.slice a 0 c, .slice a' m c', .func (.func 91) #[] #[.pointer (some ⟨cs, 0, none⟩)]] w fun e w' => ∃ v', e = .returned v' ∧ w'.ownsRow w.heap.size 62 3 v' (0 + m) (xs ++ ys) ∧ Below w.heap.size w w' := by
 have h1 := (show (((0 : Nat) : Int) == 0) = true by rfl)
 have h2 := (show True by trivial)
 have hl := Za8
 have call : ∀ W, Below w.heap.size w W → Calls Tryz.prog 87 #[.slice (some ⟨W.heap.size, 0, none⟩) 2 2] (W.alloc (.cells #[.slice a 0 c, .slice a' m c'] 59)).drew fun e w' => ∃ v', e = .returned v' ∧ w'.ownsRow w.heap.size 62 3 v' (0 + m) (xs ++ ys) ∧ Below w.heap.size w w' := by
   intro W hW
   obtain ⟨c1, c2⟩ := Zcl (w := W) (.slice a 0 c) (.slice a' m c') 59
   have hB : Below w.heap.size w (W.alloc (.cells #[.slice a 0 c, .slice a' m c'] 59)).drew := (hW.alloc hW.size _).drew
   refine (Zdj W.heap.size _ _ _ _ xs ys ((W.alloc (.cells #[.slice a 0 c, .slice a' m c'] 59)).drew) c1 c2 (r1.below hB (zl)) (r2.below hB (zl)) o1 o2 (by omega)).mono ?_
   rintro e w' ⟨v', rfl, ho, hb⟩
   exact ⟨v', rfl, Zah ho hB.size, hB.trans (hb.mono hB.size)⟩
 clear r1 r2 hl
 go_enter Tryz.func104, Tryz.ntmps104
 go_wp2
 first
   | go_big_region
   | fail
 go_wp2_with (first
   | (go_at_call 87; refine (call _ (zb)).mono ?_; rintro e w1 ⟨v', rfl, ho, hb⟩))
 go_ret
 exact ⟨_, rfl, ho, hb⟩
theorem Zn0 (w : World) (cs : Nat) (a a' : Option Addr) (n m c c' : Nat) (hn : 0 < n) (hm : n ≤ lim) {xs ys : List Value} (r1 : RowV w 3 (.slice a n c) n xs) (r2 : RowV w 3 (.slice a' 0 c') 0 ys) (o1 : ∀ u ∈ xs, u.oneCell' = true) (o2 : ∀ u ∈ ys, u.oneCell' = true) :
   Calls Tryz.prog 104 #[.slice a n c, .slice a' 0 c', .func (.func 91) #[] #[.pointer (some ⟨cs, 0, none⟩)]] w fun e w' => ∃ v', e = .returned v' ∧ w'.ownsRow w.heap.size 62 3 v' (n + 0) (xs ++ ys) ∧ Below w.heap.size w w' := by
 have h1 := (show ((n : Int) == 0) = false by simp; omega)
 have h2 := (show (((0 : Nat) : Int) == 0) = true by rfl)
 have hl := Za8
 have call : ∀ W, Below w.heap.size w W → Calls Tryz.prog 87 #[.slice (some ⟨W.heap.size, 0, none⟩) 2 2] (W.alloc (.cells #[.slice a n c, .slice a' 0 c'] 59)).drew fun e w' => ∃ v', e = .returned v' ∧ w'.ownsRow w.heap.size 62 3 v' (n + 0) (xs ++ ys) ∧ Below w.heap.size w w' := by
   intro W hW
   obtain ⟨c1, c2⟩ := Zcl (w := W) (.slice a n c) (.slice a' 0 c') 59
   have hB : Below w.heap.size w (W.alloc (.cells #[.slice a n c, .slice a' 0 c'] 59)).drew := (hW.alloc hW.size _).drew
   refine (Zdj W.heap.size _ _ _ _ xs ys ((W.alloc (.cells #[.slice a n c, .slice a' 0 c'] 59)).drew) c1 c2 (r1.below hB (zl)) (r2.below hB (zl)) o1 o2 (by omega)).mono ?_
   rintro e w' ⟨v', rfl, ho, hb⟩
   exact ⟨v', rfl, Zah ho hB.size, hB.trans (hb.mono hB.size)⟩
 clear r1 r2 hl
 go_enter Tryz.func104, Tryz.ntmps104
 go_wp2
 first
   | go_big_region
   | fail
 go_wp2_with (first
   | (go_at_call 87; refine (call _ (zb)).mono ?_; rintro e w1 ⟨v', rfl, ho, hb⟩))
 go_ret
 exact ⟨_, rfl, ho, hb⟩
end
section
open Go.RowKit
theorem Zcz {w : World} {v1 v2 : Value} {n m : Nat} (hlen : n + m ≤ lim) {xs ys : List Value} (r1 : RowV w 3 v1 n xs) (r2 : RowV w 3 v2 m ys) (o1 : ∀ u ∈ xs, u.oneCell' = true) (o2 : ∀ u ∈ ys, u.oneCell' = true) :
   Calls Tryz.prog 87 #[.slice (some ⟨w.heap.size, 0, none⟩) 2 2] (w.alloc (.cells #[v1, v2] 59)) fun e w' => ∃ v', e = .returned v' ∧ w'.ownsRow w.heap.size 62 3 v' (n + m) (xs ++ ys) ∧ Below w.heap.size w w' := by
 obtain ⟨c1, c2⟩ := Zcl (w := w) v1 v2 59
 have hB : Below w.heap.size w (w.alloc (.cells #[v1, v2] 59)) := (zb).alloc (zl) _
 refine (Zdj w.heap.size _ _ _ _ xs ys ((w.alloc (.cells #[v1, v2] 59))) c1 c2 (r1.below hB (zl)) (r2.below hB (zl)) o1 o2 hlen).mono ?_
 rintro e w' ⟨v', rfl, ho, hb⟩
 exact ⟨v', rfl, Zah ho hB.size, hB.trans (hb.mono hB.size)⟩
theorem StMem.grownT {w w' : World} {sb : Nat} {F : Nat → Prop} {G : StG} (h : StMem w sb F G) {base : Nat} {e : TypeId} {size : Nat} {v : Value} {n : Nat} {xs : List Value} (ho : w.ownsRow base e size v n xs) (h1 : e ≠ 87) (h2 : e ≠ 102) (h3 : e ≠ 113)
   (hb : 0 < base) (hg : w.grownBy w' v.ownBlock) : StMem w' sb F G := by
 have hF := h.own ho h1 h2
 have hk : ∀ k, F k → w'.heap[k]? = w.heap[k]? := fun k hk => hg.block k (h.flt k hk) (fun e => hF k e.symm hk)
 have hp : ∀ k, PtrOk w k → PtrOk w' k := by
   intro k hk
   rcases hk with rfl | ⟨b, u, rfl, hb⟩
   · exact .inl rfl
   · refine .inr ⟨b, u, rfl, (hg.block b ?_ ?_).trans hb⟩
     · rcases Nat.lt_or_ge b w.heap.size with x | x
       · exact x
       · simp [Array.getElem?_eq_none x] at hb
     · intro ee
       obtain ⟨_, ho⟩ := ho
       rcases ho with ⟨rfl, _⟩ | ⟨g, cap, cur, rfl, _, hh, _⟩
       · simp [Value.ownBlock] at ee
       · simp only [Value.ownBlock, Option.some.injEq] at ee
         subst ee
         rw [hb] at hh
         cases hh
         exact h3 rfl
 have hF' : ∀ {k}, (k = sb ∨ G.m0 = some k ∨ G.m1 = some k ∨ G.m2 = some k ∨ G.m3 = some k ∨ G.m4 = some k) → F k := fun {k} hk => (h.hF k).2 hk
 have h0 : w'.heap[0]? = w.heap[0]? := hg.block 0 (by have := h.lt; have := h.pos; omega) (fun ee => by have := (ho.lt 0 ee.symm).1; omega)
 exact { h with
   hs := (hk sb (hF' (.inl rfl))).trans h.hs
   mp := h.mp.keep (fun r hr => hk r (hF' (by simp [hr]))) hp
   mt := h.mt.keep (fun r hr => hk r (hF' (by simp [hr]))) hp
   ma := h.ma.keep (fun r hr => hk r (hF' (by simp [hr]))) (fun _ _ => trivial)
   mo := h.mo.keep (fun r hr => hk r (hF' (by simp [hr]))) (fun _ _ => trivial)
   mn := h.mn.keep (fun r hr => hk r (hF' (by simp [hr]))) (fun k hk => hp k.2 hk)
   tab := Zbd h.tab h0 }
def OutM (w : World) (sb : Nat) (F H : Nat → Prop) (D : Addr → Option Int) (K : List Addr) (G : StG) (el : TypeId) (size : Nat) (wr : World) (o : Value) (n : Nat) (cs : List Value) : Prop :=
 ∃ (Fr : Nat → Prop) (Gr : StG), wr.ownsRow w.heap.size el size o n cs ∧ StMem wr sb Fr Gr ∧ StInv wr (hot (fun k => H k ∨ w.heap.size ≤ k) Fr) D K Gr ∧ Step w wr F Fr ∧ Grown2 D D K K G Gr
section
variable {w : World} {sb : Nat} {F H : Nat → Prop} {D : Addr → Option Int} {K : List Addr} {G : StG} {el : TypeId} {size : Nat} {wr W : World} {o : Value} {n : Nat} {cs : List Value}
theorem OutM.below (h : OutM w sb F H D K G el size wr o n cs) (hb : Below wr.heap.size wr W) : OutM w sb F H D K G el size W o n cs := by
 obtain ⟨Fr, Gr, h1, h2, h3, h4, h5⟩ := h
 have s := Step.of_below Fr hb
 exact ⟨Fr, Gr, Zac h1 hb, h2.below hb, h3.step (s.hot _), h4.trans s, h5⟩
theorem OutM.le (h : OutM w sb F H D K G el size wr o n cs) : w.heap.size ≤ wr.heap.size := by
 obtain ⟨Fr, Gr, h1, h2, h3, h4, h5⟩ := h
 exact h4.keeps.size
theorem OutM.own (h : OutM w sb F H D K G el size wr o n cs) : wr.ownsRow w.heap.size el size o n cs := by
 obtain ⟨Fr, Gr, h1, h2, h3, h4, h5⟩ := h
 exact h1
theorem OutM.append {o' : Value} {n' : Nat} {cs' : List Value} (h : OutM w sb F H D K G el size wr o n cs) (h1 : el ≠ 87) (h2 : el ≠ 102) (h3 : el ≠ 113) (hw : 0 < w.heap.size)
   (ho : W.ownsRow w.heap.size el size o' n' cs') (hg : wr.grownBy W o.ownBlock) : OutM w sb F H D K G el size W o' n' cs' := by
 obtain ⟨Fr, Gr, a1, a2, a3, a4, a5⟩ := h
 have hge := Zak a1
 refine ⟨Fr, Gr, ho, a2.grownT a1 h1 h2 h3 hw hg, a3.keeps ⟨hg.os, hg.tape, hg.output, hg.size, fun k a b => hg.block k a (fun e => b (.inl (.inr (hge k e.symm))))⟩, ⟨⟨hg.os.trans a4.keeps.os, hg.tape.trans a4.keeps.tape, hg.output.trans a4.keeps.output, Nat.le_trans a4.keeps.size hg.size, fun k a b => ?_⟩, a4.grow, a4.mono⟩, a5⟩
 exact (hg.block k (Nat.lt_of_lt_of_le a a4.keeps.size) (fun e => by have := hge k e.symm; omega)).trans (a4.keeps.block k a b)
theorem OutM.cmp {Fr : Nat → Prop} {Gr : StG} (h1 : wr.ownsRow w.heap.size el size o n cs) (h2 : StMem wr sb Fr Gr) (h4 : Step w wr F Fr) (h5 : Grown2 D D K K G Gr) (e1 : el ≠ 87) (e2 : el ≠ 102)
   (hc : CmpMem wr sb Fr (fun k => H k ∨ w.heap.size ≤ k) D K Gr W) : OutM w sb F H D K G el size W o n cs := by
 obtain ⟨F', G', m', i', st', gg'⟩ := hc
 exact ⟨F', G', Zag h1 st'.keeps (h2.own h1 e1 e2), m', i', h4.trans st', h5.trans gg'⟩
theorem OutM.row (h : OutM w sb F H D K G el size wr o n cs) {sz : Nat} {v : Value} {m : Nat} {xs : List Value} (hr : RowF w (hot H F) sz v m xs) : RowV wr sz v m xs := by
 obtain ⟨Fr, Gr, h1, h2, h3, h4, h5⟩ := h
 exact (hr.step (h4.hot H)).1
theorem RowV.rowC {w : World} {sz b off m c : Nat} {xs : List Value} (h : RowV w sz (.slice (some ⟨b, off, none⟩) m c) m xs) : RowC w b off xs := by
 rcases h.2 with ⟨e, _⟩ | ⟨b1, off1, cap1, e1, p1, p2, p3, p4⟩
 · cases e
 · cases e1; exact p4
end
theorem OutM.callT {w : World} {sb : Nat} {F H : Nat → Prop} {D : Addr → Option Int} {K : List Addr} (hbig : K.length ≤ big) {G : StG} {el : TypeId} {size : Nat} {wr : World} {o : Value} {n : Nat} {cs' : List Value} (hm : StMem w sb F G) {cs : Nat} (hbx : Box w cs sb)
   {Dx : Addr → Option Int} (hf : Forest w (hot H F) Dx) (hS : ∀ p z, Dx p = some z → p ∈ K) (e1 : el ≠ 87) (e2 : el ≠ 102) (h : OutM w sb F H D K G el size wr o n cs') (t u : TV) (ht : knownT Dx t) (hu : knownT Dx u) :
   Calls Tryz.prog 91 #[.agg #[.bool t.1, .int .i64 t.2.1, .pointer t.2.2], .agg #[.bool u.1, .int .i64 u.2.1, .pointer u.2.2], .pointer (some ⟨cs, 0, none⟩)] wr fun e w1 => e = .returned (.int .i64 (sgn (keyT Dx t - keyT Dx u))) ∧ OutM w sb F H D K G el size w1 o n cs' := by
 obtain ⟨Fr, Gr, h1, h2, h3, h4, h5⟩ := h
 have hbr : Box wr cs sb := Own.kept hm h4.keeps hbx (by decide) (by decide) (by decide)
 refine (Zjy hbig h2 h3 hbr ((hf.grow (zl) Zcy).step (h4.hot _)) hS t u ht hu).mono ?_
 rintro e w1 ⟨rfl, hc⟩
 exact ⟨rfl, OutM.cmp h1 h2 h4 h5 e1 e2 hc⟩
end
section
open Go.RowKit
theorem Zee {F H : Nat → Prop} {n : Nat} : ∀ i, hot H F i → hot (fun k => H k ∨ n ≤ k) F i := by
 rintro i (x | x)
 · exact .inl (.inl x)
 · exact .inr x
theorem RowF.tail {w : World} {F : Nat → Prop} {size b o n c : Nat} {x ys : List Value} (h : RowF w F size (.slice (some ⟨b, o, none⟩) (n + 1) c) (n + 1) (x ++ ys)) (hx : x.length = size) :
   RowF w F size (.slice (if c = 1 then some ⟨b, o, none⟩ else some ⟨b, o + size, none⟩) n (c - 1)) n ys := by
 obtain ⟨⟨h1, h2⟩, h3⟩ := h
 have hl : ys.length = n * size := by
   rw [List.length_append, hx, Nat.succ_mul] at h1
   omega
 rcases h2 with ⟨e, _⟩ | ⟨b1, off1, cap1, e1, p1, p2, p3, p4⟩
 · cases e
 · cases e1
   by_cases hc : c = 1
   · have hn : n = 0 := by omega
     subst hn
     have hy : ys = [] := List.length_eq_zero_iff.1 (by simpa using hl)
     subst hy
     rw [if_pos hc]
     exact ⟨⟨hl, .inr ⟨b, o, c - 1, rfl, by omega, by omega, p3, fun j u hj => by simp at hj⟩⟩, fun k hk => h3 k hk⟩
   · rw [if_neg hc]
     refine ⟨⟨hl, .inr ⟨b, o + size, c - 1, rfl, by omega, by omega, p3, fun j u hj => ?_⟩⟩, fun k hk => h3 k hk⟩
     have := p4 (size + j) u (by rw [List.getElem?_append_right (by omega)]; rw [hx, Nat.add_sub_cancel_left]; exact hj)
     rw [← Nat.add_assoc] at this
     exact this
def lenV : Value → Nat | .slice _ n _ => n | _ => 0
theorem Zjz {sb : Nat} {D : Addr → Option Int} {K : List Addr} (hbig : K.length ≤ big) {H F : Nat → Prop} {w : World} {G : StG} (hm : StMem w sb F G) (hi : StInv w (hot H F) D K G) {cs : Nat} (hbx : Box w cs sb)
   {Dx : Addr → Option Int} (hf : Forest w (hot H F) Dx) (hS : ∀ p z, Dx p = some z → p ∈ K) {xs ys : List TV} {b ro cx b' ro' cy N M : Nat} (hNx : xs.length = N) (hMy : ys.length = M) (hcx : N ≤ cx) (hcy : M ≤ cy) (hmx : cx ≤ maxLen) (hmy : cy ≤ maxLen)
   (hrx : RowF w (hot H F) 3 (.slice (some ⟨b, ro, none⟩) N cx) N (flatT xs)) (hry : RowF w (hot H F) 3 (.slice (some ⟨b', ro', none⟩) M cy) M (flatT ys))
   (hx0 : 0 < N) (hy0 : 0 < M) (hkx : ∀ t ∈ xs, knownT Dx t) (hky : ∀ t ∈ ys, knownT Dx t) (hsx : Srt (keyT Dx) xs) (hsy : Srt (keyT Dx) ys) (hlen : N + M ≤ 60000) :
   Calls Tryz.prog 104 #[.slice (some ⟨b, ro, none⟩) N cx, .slice (some ⟨b', ro', none⟩) M cy, .func (.func 91) #[] #[.pointer (some ⟨cs, 0, none⟩)]] w fun e w' => ∃ (v' : Value) (zs : List TV) (F' : Nat → Prop) (G' : StG),
     e = .returned v' ∧ w'.ownsRow w.heap.size 62 3 v' zs.length (flatT zs) ∧ zs.Perm (xs ++ ys) ∧ Srt (keyT Dx) zs ∧ StMem w' sb F' G' ∧ StInv w' (hot H F') D K G' ∧ Step w w' F F' ∧ Grown2 D D K K G G' := by
 have rcx : RowC w b ro (flatT xs) := by
   rcases hrx.1.2 with ⟨e, _⟩ | ⟨b1, off1, cap1, e1, p1, p2, p3, p4⟩
   · cases e
   · cases e1; exact p4
 have rcy : RowC w b' ro' (flatT ys) := by
   rcases hry.1.2 with ⟨e, _⟩ | ⟨b1, off1, cap1, e1, p1, p2, p3, p4⟩
   · cases e
   · cases e1; exact p4
 obtain ⟨x1, x2, x3⟩ := RowC.term rcx (N - 1) (by omega)
 obtain ⟨y1, y2, y3⟩ := RowC.term rcy 0 (by omega)
 have kx := hkx _ (List.getElem_mem (l := xs) (n := N - 1) (by omega))
 have ky := hky _ (List.getElem_mem (l := ys) (n := 0) (by omega))
 have hXL : xs[N - 1]? = some (xs[N - 1]'(by omega)) := List.getElem?_eq_getElem (by omega)
 have hY0 : ys[0]? = some (ys[0]'(by omega)) := List.getElem?_eq_getElem (by omega)
 generalize xs[N - 1]'(by omega) = tx at *
 generalize ys[0]'(by omega) = ty at *
 have call := fun (W : World) (hW : Below w.heap.size w W) => Zjy hbig (hm.below hW) ((hi.grow (zl) Zcy).step ((Step.of_below F hW).hot (fun k => H k ∨ w.heap.size ≤ k))) (hbx.below hW) ((hf.grow (zl) Zcy).step ((Step.of_below F hW).hot (fun k => H k ∨ w.heap.size ≤ k))) hS tx ty kx ky
 obtain ⟨tx0, tx1, tx2⟩ := tx
 obtain ⟨ty0, ty1, ty2⟩ := ty
 simp only [Nat.zero_mul, Nat.add_zero] at x1 x2 x3 y1 y2 y3 call
 have hn0 : ((N : Int) == 0) = false := by rw [beq_eq_false_iff_ne]; omega
 have hm0 : ((M : Int) == 0) = false := by rw [beq_eq_false_iff_ne]; omega
 have hidx : ((N : Int) - 1).toNat = N - 1 := by omega
 have hw1 : IntKind.i64.wrap ((N : Int) - 1) = (N : Int) - 1 := IntWalk.i64_in _ (by omega)
 have hw0 : (1 : Int) ≤ (N : Int) := by omega
 have hw9 : (N : Int) ≤ 9223372036854775807 := by omega
 have hw2 : (0 : Int) ≤ (N : Int) - 1 := by omega
 have hw3 : (N : Int) - 1 < (N : Int) := by omega
 have hw4 : (0 : Int) < (M : Int) := by omega
 have hbl := World.block_lt_of_cell? _ _ x1
 have hbl' := World.block_lt_of_cell? _ _ y1
 have nF := fun h => hrx.2 b rfl (.inr h)
 have nF' := fun h => hry.2 b' rfl (.inr h)
 have HX := zh (zi hm (zi hi (zi hbx (zi hf (zi hS (zi hrx (zi hry (zi hkx (zi hky (zi hsx (zi hsy (zi hXL (zi hY0 (zi hNx hMy))))))))))))))
 clear hm hi hbx hf hS hrx hry hkx hky hsx hsy hXL hY0 hNx hMy rcx rcy kx ky
 generalize hv : sgn (keyT Dx (tx0, tx1, tx2) - keyT Dx (ty0, ty1, ty2)) = v at call
 have HV := zh hv
 clear hv
 by_cases hle : v ≤ 0
 all_goals
   go_enter Tryz.func104, Tryz.ntmps104
   go_wp2
   first
     | go_region_held3 (fun w' => w'.cell? ⟨b, ro + (N - 1) * 3, none⟩ = some (.bool tx0) ∧ w'.cell? ⟨b, ro + (N - 1) * 3 + 1, none⟩ = some (.int .i64 tx1) ∧ w'.cell? ⟨b, ro + (N - 1) * 3 + 2, none⟩ = some (.pointer tx2) ∧
         w'.cell? ⟨b', ro', none⟩ = some (.bool ty0) ∧ w'.cell? ⟨b', ro' + 1, none⟩ = some (.int .i64 ty1) ∧ w'.cell? ⟨b', ro' + 2, none⟩ = some (.pointer ty2)) (first | (go_keep; done) | ((try dsimp only); refine ⟨?_, ?_, ?_, ?_, ?_, ?_⟩ <;> (go_keep; done)))
       (first
       | (go_at_call 91; refine (call _ (by first | exact (zb).drew | exact zb)).mono ?_; rintro e1 w1 ⟨rfl, hmem⟩
          have hmem1 := hmem.after ((zb).drew)
          have kp := hmem1.keeps
          have g1 := (kp.cell _ hbl nF).trans x1
          have g2 := (kp.cell _ hbl nF).trans x2
          have g3 := (kp.cell _ hbl nF).trans x3
          have g4 := (kp.cell _ hbl' nF').trans y1
          have g5 := (kp.cell _ hbl' nF').trans y2
          have g6 := (kp.cell _ hbl' nF').trans y3
          clear hmem kp
          have HM := zh hmem1
          clear hmem1))
     | fail
 · obtain ⟨F1, G1, m1, i1, st1, gg1⟩ := HM.out
   obtain ⟨hm, hi, hbx, hf, hS, hrx, hry, hkx, hky, hsx, hsy, hXL, hY0, hNx, hMy⟩ := HX.out
   have hc := Zcz (w := w1) (by have := Za8; omega) (hrx.step (st1.hot H)).1 (hry.step (st1.hot H)).1 (Zaw xs) (Zaw ys)
   have HY := zh (zi m1 (zi i1 (zi st1 gg1)))
   clear m1 i1 st1 gg1 hm hi hbx hf hS hrx hry hkx hky hsx hsy hXL hY0 hNx hMy
   go_wp2_with (first
     | (go_at_call 87; refine hc.mono ?_; rintro e2 w2 ⟨v', rfl, ho, hb⟩))
   go_ret
   obtain ⟨m1, i1, st1, gg1⟩ := HY.out
   obtain ⟨hm, hi, hbx, hf, hS, hrx, hry, hkx, hky, hsx, hsy, hXL, hY0, hNx, hMy⟩ := HX.out
   have s2 := Step.of_below F1 hb
   refine ⟨v', xs ++ ys, F1, G1, rfl, by rw [Zas, List.length_append, hNx, hMy]; exact Zah ho st1.keeps.size, List.Perm.refl _, hsx.append hsy (fun a b ha hb => ?_), m1.below hb, (i1.shrink Zee).step (s2.hot H), st1.trans s2, gg1⟩
   rw [List.getLast?_eq_getElem?, hNx] at ha
   rw [hXL] at ha
   rw [hY0] at hb
   cases ha
   cases hb
   have h := HV.out
   unfold sgn at h
   split at h <;> (try split at h) <;> omega
 · obtain ⟨i0, hi0, hz0, hz1, hz2⟩ := info_parts infoeT
   go_wp2_with (first
     | (at_make; refine wpList_make_own _ rfl _ _ 59 rfl w.heap.size 62 i0 zT 3 Tryz.underlying59 hi0 hz0 hz1 .i64 .i64 _ (N + M) rfl rfl (by omega) (by rw [hz2]; omega) (by unfold maxLen; omega) (HM.out.keeps.size) ?_; intro w0 hown0 hgrow0))
   have hO : OutM w sb F H D K G 62 3 w0 (.slice (some ⟨w1.heap.size, 0, none⟩) 0 (N + M)) 0 [] := by
     obtain ⟨F1, G1, m1, i1, st1, gg1⟩ := HM.out
     have hb0 : Below w1.heap.size w1 w0 := (zb).grown hgrow0 (zl) (by simp)
     have s0 := Step.of_below F1 hb0
     refine ⟨F1, G1, hown0, m1.below hb0, ?_, st1.trans s0, gg1⟩
     exact i1.step (s0.hot _)
   obtain ⟨hm, hi, hbx, hf, hS, hrx, hry, hkx, hky, hsx, hsy, hXL, hY0, hNx, hMy⟩ := HX.out
   have hrel0 : ∃ (outs xr yr : List TV) (ax ay : Option Addr) (nx ny : Nat), Value.slice (some ⟨b, ro, none⟩) N cx = .slice ax xr.length nx ∧ Value.slice (some ⟨b', ro', none⟩) M cy = .slice ay yr.length ny ∧ RowF w (hot H F) 3 (.slice ax xr.length nx) xr.length (flatT xr) ∧ RowF w (hot H F) 3 (.slice ay yr.length ny) yr.length (flatT yr) ∧
       OutM w sb F H D K G 62 3 w0 (.slice (some ⟨w1.heap.size, 0, none⟩) 0 (N + M)) outs.length (flatT outs) ∧ MrgS (keyT Dx) (xs ++ ys) outs xr yr ∧ (∀ t ∈ xr, knownT Dx t) ∧ (∀ t ∈ yr, knownT Dx t) :=
     ⟨[], xs, ys, some ⟨b, ro, none⟩, some ⟨b', ro', none⟩, cx, cy, by rw [hNx], by rw [hMy], by rw [hNx]; exact hrx, by rw [hMy]; exact hry, hO, MrgS.start hsx hsy, hkx, hky⟩
   have hpos : 0 < w.heap.size := by have := hm.lt; have := hm.pos; omega
   have HB := zh hpos
   clear hm hi hbx hf hS hrx hry hkx hky hsx hsy hXL hY0 hNx hMy hO call g1 g2 g3 g4 g5 g6 x1 x2 x3 y1 y2 y3 hpos hcx hcy hmx hmy hidx hw1 hw2 hw3 hw4
   have HR0 := zh hrel0
   clear hrel0
   have HI := zh (zi hi0 (zi hz0 (zi hz1 hz2)))
   clear hi0 hz0 hz1 hz2 hown0 hgrow0
   go_loopw [0, 1, 7] (fun x y o wr => ∃ (outs xr yr : List TV) (ax ay : Option Addr) (nx ny : Nat), x = .slice ax xr.length nx ∧ y = .slice ay yr.length ny ∧ RowF w (hot H F) 3 (.slice ax xr.length nx) xr.length (flatT xr) ∧ RowF w (hot H F) 3 (.slice ay yr.length ny) yr.length (flatT yr) ∧
       OutM w sb F H D K G 62 3 wr o outs.length (flatT outs) ∧ MrgS (keyT Dx) (xs ++ ys) outs xr yr ∧ (∀ t ∈ xr, knownT Dx t) ∧ (∀ t ∈ yr, knownT Dx t)) (fun x y _ _ => lenV x + lenV y)
   case atStart => exact HR0.out
   case round =>
     obtain ⟨outs, xr, yr, ax, ay, nx, ny, rfl, rfl, rx, ry, hO, hM, kx, ky⟩ := hrel
     clear HR0
     cases xr with
     | nil =>
       have hMe := hM.ends (.inl rfl)
       have hol : outs.length + (([] : List TV)).length + (yr).length ≤ 60000 := by
         have := hM.perm.length_eq
         have hNM := HX.out.2.2.2.2.2.2.2.2.2.2.2.2.2
         simp only [List.length_append] at this ⊢
         omega
       have rxv := hO.row rx
       have ryv := fun W o' n' cs' (h : OutM w sb F H D K G 62 3 W o' n' cs') => h.row ry
       have hle := hO.le
       have ex : flatT (([] : List TV)) = flatT (([] : List TV)) := rfl
       obtain ⟨hi0, hz0, hz1, hz2⟩ := HI.out
       have hown := hO.own
       have HQ := zh (zi hO hMe)
       have one1 := Zaw (([] : List TV))
       have one2 := Zaw (yr)
       have HL := zh hol
       have hA1 : outs.length + (([] : List TV)).length ≤ maxLen := by unfold maxLen; omega
       have hA2 : outs.length + (([] : List TV)).length + (yr).length ≤ maxLen := by unfold maxLen; omega
       have hB1 : (outs.length + (([] : List TV)).length) * 24 ≤ 140737488355328 := by omega
       have hB2 : (outs.length + (([] : List TV)).length + (yr).length) * 24 ≤ 140737488355328 := by omega
       simp only [List.length_nil] at *
       clear rx ry hM kx ky hO hMe hol
       go_wp2_with (first
         | (have hown3' := hown3
            at_builtin; refine Zaf rfl _ _ 59 rfl w.heap.size 62 i0 _ 3 24 Tryz.underlying59 hi0 hz0 hz1 hz2 rfl (by decide) _ _ _ rfl hown3 _ _ _ rfl (ryv _ _ _ _ hO3.out) one2 hA2 hB2 hO3.out.le ?_; intro v4 w4 hown4 hg4)
         | (at_builtin; refine Zaf rfl _ _ 59 rfl w.heap.size 62 i0 _ 3 24 Tryz.underlying59 hi0 hz0 hz1 hz2 rfl (by decide) _ _ _ rfl hown _ _ _ rfl rxv one1 hA1 hB1 hle ?_; intro v3 w3 hown3 hg3
            have hO3 := zh (HQ.out.1.append (by decide) (by decide) (by decide) HB.out hown3 hg3)))
       go_ret
       have hO4 := hO3.out.append (by decide) (by decide) (by decide) HB.out hown4 hg4
       obtain ⟨Fr, Gr, q1, q2, q3, q4, q5⟩ := hO4
       exact ⟨_, _, Fr, Gr, rfl, by simpa [Zcb, Zas, List.length_append, Nat.add_assoc, List.append_assoc, List.length_cons, List.length_nil] using q1, HQ.out.2.1, HQ.out.2.2, q2, q3.shrink Zee, q4, q5⟩
     | cons a xr =>
       cases yr with
       | nil =>
         have hMe := hM.ends (.inr rfl)
         have hol : outs.length + (a :: xr).length + (([] : List TV)).length ≤ 60000 := by
           have := hM.perm.length_eq
           have hNM := HX.out.2.2.2.2.2.2.2.2.2.2.2.2.2
           simp only [List.length_append] at this ⊢
           omega
         have rxv := hO.row rx
         have ryv := fun W o' n' cs' (h : OutM w sb F H D K G 62 3 W o' n' cs') => h.row ry
         have hle := hO.le
         have ex : flatT (a :: xr) = flatT (a :: xr) := rfl
         obtain ⟨hi0, hz0, hz1, hz2⟩ := HI.out
         have hown := hO.own
         have HQ := zh (zi hO hMe)
         have one1 := Zaw (a :: xr)
         have one2 := Zaw (([] : List TV))
         have HL := zh hol
         have hA1 : outs.length + (a :: xr).length ≤ maxLen := by unfold maxLen; omega
         have hA2 : outs.length + (a :: xr).length + (([] : List TV)).length ≤ maxLen := by unfold maxLen; omega
         have hB1 : (outs.length + (a :: xr).length) * 24 ≤ 140737488355328 := by omega
         have hB2 : (outs.length + (a :: xr).length + (([] : List TV)).length) * 24 ≤ 140737488355328 := by omega
         simp only [List.length_nil, List.length_cons] at *
         clear rx ry hM kx ky hO hMe hol
         go_wp2_with (first
           | (have hown3' := hown3
              at_builtin; refine Zaf rfl _ _ 59 rfl w.heap.size 62 i0 _ 3 24 Tryz.underlying59 hi0 hz0 hz1 hz2 rfl (by decide) _ _ _ rfl hown3 _ _ _ rfl (ryv _ _ _ _ hO3.out) one2 hA2 hB2 hO3.out.le ?_; intro v4 w4 hown4 hg4)
           | (at_builtin; refine Zaf rfl _ _ 59 rfl w.heap.size 62 i0 _ 3 24 Tryz.underlying59 hi0 hz0 hz1 hz2 rfl (by decide) _ _ _ rfl hown _ _ _ rfl rxv one1 hA1 hB1 hle ?_; intro v3 w3 hown3 hg3
              have hO3 := zh (HQ.out.1.append (by decide) (by decide) (by decide) HB.out hown3 hg3)))
         go_ret
         have hO4 := hO3.out.append (by decide) (by decide) (by decide) HB.out hown4 hg4
         obtain ⟨Fr, Gr, q1, q2, q3, q4, q5⟩ := hO4
         exact ⟨_, _, Fr, Gr, rfl, by simpa [Zcb, Zas, List.length_append, Nat.add_assoc, List.append_assoc, List.length_cons, List.length_nil] using q1, HQ.out.2.1, HQ.out.2.2, q2, q3.shrink Zee, q4, q5⟩
       | cons c yr =>
         obtain ⟨bx, ox, rfl⟩ : ∃ bx ox, ax = some ⟨bx, ox, none⟩ := by
           rcases rx.1.2 with ⟨e, h0⟩ | ⟨b1, off1, cap1, e1, p1, p2, p3, p4⟩
           · simp at h0
           · cases e1; exact ⟨_, _, rfl⟩
         obtain ⟨by', oy, rfl⟩ : ∃ bx ox, ay = some ⟨bx, ox, none⟩ := by
           rcases ry.1.2 with ⟨e, h0⟩ | ⟨b1, off1, cap1, e1, p1, p2, p3, p4⟩
           · simp at h0
           · cases e1; exact ⟨_, _, rfl⟩
         obtain ⟨hm, hi, hbx, hf, hS, _⟩ := HX.out
         have cX : ∀ W o' n' cs', OutM w sb F H D K G 62 3 W o' n' cs' → W.cell? ⟨bx, ox, none⟩ = some (.bool a.1) ∧ W.cell? ⟨bx, ox + 1, none⟩ = some (.int .i64 a.2.1) ∧ W.cell? ⟨bx, ox + 2, none⟩ = some (.pointer a.2.2) := fun W o' n' cs' h => by
           have := RowC.term (h.row rx).rowC 0 (by simp)
           simpa using this
         have cY : ∀ W o' n' cs', OutM w sb F H D K G 62 3 W o' n' cs' → W.cell? ⟨by', oy, none⟩ = some (.bool c.1) ∧ W.cell? ⟨by', oy + 1, none⟩ = some (.int .i64 c.2.1) ∧ W.cell? ⟨by', oy + 2, none⟩ = some (.pointer c.2.2) := fun W o' n' cs' h => by
           have := RowC.term (h.row ry).rowC 0 (by simp)
           simpa using this
         have call := OutM.callT hbig hm hbx hf hS (by decide) (by decide) (hO.below ((zb).drew)) a c (kx a (by simp)) (ky c (by simp))
         have hM1 := fun h => hM.left h
         have hM2 := fun h => hM.right h
         have hcap : (xr.length + 1 ≤ nx ∧ nx ≤ maxLen) ∧ (yr.length + 1 ≤ ny ∧ ny ≤ maxLen) := by
           rcases rx.1.2 with ⟨e, h0⟩ | ⟨b1, off1, cap1, e1, p1, p2, p3, p4⟩
           · simp at h0
           · rcases ry.1.2 with ⟨e, h0⟩ | ⟨b2, off2, cap2, e2, q1, q2, q3, q4⟩
             · simp at h0
             · cases e1; cases e2; exact ⟨⟨p1, p2⟩, q1, q2⟩
         have hol : outs.length + (xr.length + 1) + (yr.length + 1) ≤ 60000 := by
           have := hM.perm.length_eq
           simp at this
           omega
         obtain ⟨x1, x2, x3⟩ := cX _ _ _ _ hO
         obtain ⟨y1, y2, y3⟩ := cY _ _ _ _ hO
         generalize hvv : sgn (keyT Dx a - keyT Dx c) = v2 at call
         obtain ⟨a0, a1, a2⟩ := a
         obtain ⟨c0, c1, c2⟩ := c
         simp only at call x1 x2 x3 y1 y2 y3 cX cY
         have HVV := zh hvv
         have HQ := zh (zi rx (zi ry (zi kx (zi ky (zi hM1 (zi hM2 hO))))))
         clear rx ry hM kx ky hM1 hM2 hO hm hi hbx hf hS hvv
         have hg0 : (0 : Int) < (xr.length : Int) + 1 := by omega
         have hg1 : (0 : Int) < (yr.length : Int) + 1 := by omega
         simp only [List.length_cons] at *
         by_cases hle2 : v2 ≤ 0
         all_goals
           go_wp2
           first
             | go_region_held3 (fun w' => w'.cell? ⟨bx, ox, none⟩ = some (.bool a0) ∧ w'.cell? ⟨bx, ox + 1, none⟩ = some (.int .i64 a1) ∧ w'.cell? ⟨bx, ox + 2, none⟩ = some (.pointer a2) ∧
                 w'.cell? ⟨by', oy, none⟩ = some (.bool c0) ∧ w'.cell? ⟨by', oy + 1, none⟩ = some (.int .i64 c1) ∧ w'.cell? ⟨by', oy + 2, none⟩ = some (.pointer c2)) (first | (go_keep; done) | ((try dsimp only); refine ⟨?_, ?_, ?_, ?_, ?_, ?_⟩ <;> (go_keep; done)))
               (first
               | (go_at_call 91; refine call.mono ?_; rintro e2 w2 ⟨rfl, hO2⟩
                  obtain ⟨g1, g2, g3⟩ := cX _ _ _ _ hO2
                  obtain ⟨g4, g5, g6⟩ := cY _ _ _ _ hO2
                  have HO2 := zh hO2
                  clear hO2))
             | fail
         · obtain ⟨hi0, hz0, hz1, hz2⟩ := HI.out
           have hsz2 := HO2.out.le
           go_wp2_with (first
             | (at_builtin; refine wpList_append_own _ rfl _ _ 59 rfl w.heap.size 62 i0 zT 3 24 Tryz.underlying59 hi0 hz0 hz1 hz2 rfl (by decide) _ _ _ rfl (HO2.out.own.alloc _) ⟨w2.heap.size, 0, none⟩ 1 1 (cellsT (a0, a1, a2)) rfl rfl (Zaj w2 _ _ _) (by simp [cellsT, Value.oneCell']) (by unfold maxLen; omega) (by omega) (by simp; omega) ?_; intro v3 w3 hown3 hg3 _))
           obtain ⟨rx, ry, kx, ky, hM1, hM2, hO⟩ := HQ.out
           have hsg : keyT Dx (a0, a1, a2) ≤ keyT Dx (c0, c1, c2) := by
             have h := HVV.out
             unfold sgn at h
             split at h <;> (try split at h) <;> omega
           refine ⟨⟨outs ++ [(a0, a1, a2)], xr, (c0, c1, c2) :: yr, _, _, _, _, rfl, rfl, rx.tail rfl, ry, ?_, hM1 hsg, fun t ht => kx t (by simp [ht]), ky⟩, by simp [lenV]⟩
           rw [List.length_append, Zas]
           exact ((HO2.out.below ((zb).alloc (zl) _)).append (by decide) (by decide) (by decide) HB.out hown3 hg3)
         · obtain ⟨hi0, hz0, hz1, hz2⟩ := HI.out
           have hsz2 := HO2.out.le
           go_wp2_with (first
             | (at_builtin; refine wpList_append_own _ rfl _ _ 59 rfl w.heap.size 62 i0 zT 3 24 Tryz.underlying59 hi0 hz0 hz1 hz2 rfl (by decide) _ _ _ rfl (HO2.out.own.alloc _) ⟨w2.heap.size, 0, none⟩ 1 1 (cellsT (c0, c1, c2)) rfl rfl (Zaj w2 _ _ _) (by simp [cellsT, Value.oneCell']) (by unfold maxLen; omega) (by omega) (by simp; omega) ?_; intro v3 w3 hown3 hg3 _))
           obtain ⟨rx, ry, kx, ky, hM1, hM2, hO⟩ := HQ.out
           have hsg : ¬ keyT Dx (a0, a1, a2) ≤ keyT Dx (c0, c1, c2) := by
             have h := HVV.out
             unfold sgn at h
             split at h <;> (try split at h) <;> omega
           refine ⟨⟨outs ++ [(c0, c1, c2)], (a0, a1, a2) :: xr, yr, _, _, _, _, rfl, rfl, rx, ry.tail rfl, ?_, hM2 (by omega), kx, fun t ht => ky t (by simp [ht])⟩, by simp [lenV]⟩
           rw [List.length_append, Zas]
           exact ((HO2.out.below ((zb).alloc (zl) _)).append (by decide) (by decide) (by decide) HB.out hown3 hg3)
end
end Go.Proofs.YtlkmgclbckojgaaGreatDoor

