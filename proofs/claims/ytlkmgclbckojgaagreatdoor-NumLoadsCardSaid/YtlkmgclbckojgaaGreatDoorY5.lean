import Derived.Test.YtlkmgclbckojgaaGreatDoorY2
set_option linter.unusedVariables false
set_option linter.unusedSimpArgs false
set_option maxHeartbeats 4000000
set_option maxRecDepth 100000
namespace Go.Proofs.YtlkmgclbckojgaaGreatDoor
section
open Go.RowKit
abbrev NV := Int × Option Addr
def cellsN (t : NV) : List Value := [.int .i64 t.1, .pointer t.2]
def flatN (l : List NV) : List Value := l.flatMap cellsN
theorem Zed : flatN [] = [] := rfl
theorem Zei (t : NV) (l : List NV) : flatN (t :: l) = .int .i64 t.1 :: .pointer t.2 :: flatN l := rfl
theorem Za7 (l m : List NV) : flatN (l ++ m) = flatN l ++ flatN m := by simp [flatN]
theorem Zho (l : List NV) : (flatN l).length = l.length * 2 := by
 induction l with
 | nil => rfl
 | cons t l ih => rw [Zei]; simp [ih]; omega
theorem Zbo (l : List NV) : ∀ u ∈ flatN l, u.oneCell' = true := by
 induction l with
 | nil => intro u hu; simp [Zed] at hu
 | cons t l ih =>
   intro u hu
   rw [Zei] at hu
   simp only [List.mem_cons] at hu
   rcases hu with rfl | rfl | hu
   · rfl
   · rfl
   · exact ih u hu
theorem Zkr : ∀ (l : List NV) (i : Nat) (h : i < l.length), (flatN l)[i * 2]? = some (.int .i64 l[i].1) ∧ (flatN l)[i * 2 + 1]? = some (.pointer l[i].2)
 | t :: l, 0, _ => by rw [Zei]; simp
 | t :: l, i + 1, h => by
   have := Zkr l i (by simpa using h)
   rw [Zei, show (i + 1) * 2 = i * 2 + 2 by omega, show i * 2 + 2 + 1 = (i * 2 + 1) + 2 by omega]
   simpa using this
theorem RowC.num {w : World} {b off : Nat} {l : List NV} (h : RowC w b off (flatN l)) (i : Nat) (hi : i < l.length) :
   w.cell? ⟨b, off + i * 2, none⟩ = some (.int .i64 l[i].1) ∧ w.cell? ⟨b, off + i * 2 + 1, none⟩ = some (.pointer l[i].2) := by
 obtain ⟨a1, a2⟩ := Zkr l i hi
 exact ⟨h _ _ a1, h _ _ a2⟩
def rankN (D : Addr → Option Int) (t : NV) : Int := valD D t.1 t.2
def knownN (D : Addr → Option Int) (t : NV) : Prop := ∃ z, ValD D t.1 t.2 z
theorem Zks {sb : Nat} {D : Addr → Option Int} {K : List Addr} (hbig : K.length ≤ big) {H F : Nat → Prop} {w : World} {G : StG} (hm : StMem w sb F G) (hi : StInv w (hot H F) D K G)
   {Dx : Addr → Option Int} (hf : Forest w (hot H F) Dx) (hS : ∀ p z, Dx p = some z → p ∈ K) (t u : NV) (ht : knownN Dx t) (hu : knownN Dx u) :
   Calls Tryz.prog 50 #[.pointer (some ⟨sb, 0, none⟩), .agg #[.int .i64 t.1, .pointer t.2], .agg #[.int .i64 u.1, .pointer u.2]] w (CmpPost w sb F H D K G (sgn (rankN Dx t - rankN Dx u))) := by
 obtain ⟨z, hz⟩ := ht
 obtain ⟨z', hz'⟩ := hu
 unfold rankN
 rw [hz.val, hz'.val]
 exact Ze0 hbig (z.natAbs + 1) H w F G hm hi Dx Dx hf hf hS hS t.1 t.2 z u.1 u.2 z' hz hz' (by omega)
theorem Zey {w : World} {D : Addr → Option Int} {s : Int} {g : Option Addr} {z : Int} (hf : Forest w cold D) (hv : ValD D s g z) (hz : wide z) :
   Calls Tryz.prog 32 #[.agg #[.int .i64 s, .pointer g]] w fun x w' => ∃ (v : Value) (ts : List TV), x = .returned v ∧ w'.ownsRow w.heap.size 62 3 v ts.length (flatT ts) ∧ TVals D ts (naf z) ∧ Below w.heap.size w w' := by
 have hb1 : Below w.heap.size w (w.alloc (.cells #[.int .i64 s, .pointer g] 28)) := (zb).alloc (zl) _
 have ht : ∀ W, Below w.heap.size w W → Calls Tryz.prog 55 #[.agg #[.int .i64 s, .pointer g]] W fun x w' => ∃ v ts, x = .returned v ∧ RowF w' cold 3 v ts.length (flatT ts) ∧ TVals D ts (naf z) ∧ Below W.heap.size W w' := fun W hW =>
   Zbt s g z W (hf.keeps ⟨hW.os, hW.tape, hW.output, hW.size, fun k hk _ => hW.block k hk⟩) hv (fun i hi => hi.elim)
 have HZ := zh hz
 clear hf hv hz
 go_enter Tryz.func32, Tryz.ntmps32
 go_wp2_with (first
   | (go_at_call 55; refine (ht _ (by first | exact hb1 | exact zb)).mono ?_; rintro x1 w1 ⟨v, ts, rfl, hr, htv, hb⟩
      have hlen : ts.length ≤ lim := by rw [htv.len]; have h1 := HZ.out; have h2 := Za8; unfold wide wt at h1; omega)
   | (go_at_call 65; refine (Zbv _ _ _ _ hr.1 (Zaw ts) hlen).mono ?_; rintro x2 w2 ⟨v2, rfl, ho, hb2⟩))
 go_ret
 have hs := hb.size
 refine ⟨v2, ts, rfl, Zah ho (by simp at hs; omega), htv, ?_⟩
 first
   | exact (hb1.trans (hb.mono (by simp))).trans (hb2.mono (by simp at hs; omega))
   | exact hb.trans (hb2.mono hs)
end
section
open Go.RowKit
theorem Zph (w : World) (cs : Nat) (a a' : Option Addr) (n m c c' : Nat) (hm : m ≤ lim) {xs ys : List Value} (r1 : RowV w 2 (.slice a 0 c) 0 xs) (r2 : RowV w 2 (.slice a' m c') m ys) (o1 : ∀ u ∈ xs, u.oneCell' = true) (o2 : ∀ u ∈ ys, u.oneCell' = true) :
   Calls Tryz.prog 80 #[.slice a 0 c, .slice a' m c', .func (.func 50) #[.pointer (some ⟨cs, 0, none⟩)] #[]] w fun e w' => ∃ v', e = .returned v' ∧ w'.ownsRow w.heap.size 28 2 v' (0 + m) (xs ++ ys) ∧ Below w.heap.size w w' := by
 have h1 := (show (((0 : Nat) : Int) == 0) = true by rfl)
 have h2 := (show True by trivial)
 have hl := Za8
 have call : ∀ W, Below w.heap.size w W → Calls Tryz.prog 96 #[.slice (some ⟨W.heap.size, 0, none⟩) 2 2] (W.alloc (.cells #[.slice a 0 c, .slice a' m c'] 30)).drew fun e w' => ∃ v', e = .returned v' ∧ w'.ownsRow w.heap.size 28 2 v' (0 + m) (xs ++ ys) ∧ Below w.heap.size w w' := by
   intro W hW
   obtain ⟨c1, c2⟩ := Zcl (w := W) (.slice a 0 c) (.slice a' m c') 30
   have hB : Below w.heap.size w (W.alloc (.cells #[.slice a 0 c, .slice a' m c'] 30)).drew := (hW.alloc hW.size _).drew
   refine (Zdk W.heap.size _ _ _ _ xs ys ((W.alloc (.cells #[.slice a 0 c, .slice a' m c'] 30)).drew) c1 c2 (r1.below hB (zl)) (r2.below hB (zl)) o1 o2 (by omega)).mono ?_
   rintro e w' ⟨v', rfl, ho, hb⟩
   exact ⟨v', rfl, Zah ho hB.size, hB.trans (hb.mono hB.size)⟩
 clear r1 r2 hl
 go_enter Tryz.func80, Tryz.ntmps80
 go_wp2
 first
   | go_big_region
   | fail
 go_wp2_with (first
   | (go_at_call 96; refine (call _ (zb)).mono ?_; rintro e w1 ⟨v', rfl, ho, hb⟩))
 go_ret
 exact ⟨_, rfl, ho, hb⟩
theorem Zpi (w : World) (cs : Nat) (a a' : Option Addr) (n m c c' : Nat) (hn : 0 < n) (hm : n ≤ lim) {xs ys : List Value} (r1 : RowV w 2 (.slice a n c) n xs) (r2 : RowV w 2 (.slice a' 0 c') 0 ys) (o1 : ∀ u ∈ xs, u.oneCell' = true) (o2 : ∀ u ∈ ys, u.oneCell' = true) :
   Calls Tryz.prog 80 #[.slice a n c, .slice a' 0 c', .func (.func 50) #[.pointer (some ⟨cs, 0, none⟩)] #[]] w fun e w' => ∃ v', e = .returned v' ∧ w'.ownsRow w.heap.size 28 2 v' (n + 0) (xs ++ ys) ∧ Below w.heap.size w w' := by
 have h1 := (show ((n : Int) == 0) = false by simp; omega)
 have h2 := (show (((0 : Nat) : Int) == 0) = true by rfl)
 have hl := Za8
 have call : ∀ W, Below w.heap.size w W → Calls Tryz.prog 96 #[.slice (some ⟨W.heap.size, 0, none⟩) 2 2] (W.alloc (.cells #[.slice a n c, .slice a' 0 c'] 30)).drew fun e w' => ∃ v', e = .returned v' ∧ w'.ownsRow w.heap.size 28 2 v' (n + 0) (xs ++ ys) ∧ Below w.heap.size w w' := by
   intro W hW
   obtain ⟨c1, c2⟩ := Zcl (w := W) (.slice a n c) (.slice a' 0 c') 30
   have hB : Below w.heap.size w (W.alloc (.cells #[.slice a n c, .slice a' 0 c'] 30)).drew := (hW.alloc hW.size _).drew
   refine (Zdk W.heap.size _ _ _ _ xs ys ((W.alloc (.cells #[.slice a n c, .slice a' 0 c'] 30)).drew) c1 c2 (r1.below hB (zl)) (r2.below hB (zl)) o1 o2 (by omega)).mono ?_
   rintro e w' ⟨v', rfl, ho, hb⟩
   exact ⟨v', rfl, Zah ho hB.size, hB.trans (hb.mono hB.size)⟩
 clear r1 r2 hl
 go_enter Tryz.func80, Tryz.ntmps80
 go_wp2
 first
   | go_big_region
   | fail
 go_wp2_with (first
   | (go_at_call 96; refine (call _ (zb)).mono ?_; rintro e w1 ⟨v', rfl, ho, hb⟩))
 go_ret
 exact ⟨_, rfl, ho, hb⟩
theorem Zkt {w : World} {v1 v2 : Value} {n m : Nat} (hlen : n + m ≤ lim) {xs ys : List Value} (r1 : RowV w 2 v1 n xs) (r2 : RowV w 2 v2 m ys) (o1 : ∀ u ∈ xs, u.oneCell' = true) (o2 : ∀ u ∈ ys, u.oneCell' = true) :
   Calls Tryz.prog 96 #[.slice (some ⟨w.heap.size, 0, none⟩) 2 2] (w.alloc (.cells #[v1, v2] 30)) fun e w' => ∃ v', e = .returned v' ∧ w'.ownsRow w.heap.size 28 2 v' (n + m) (xs ++ ys) ∧ Below w.heap.size w w' := by
 obtain ⟨c1, c2⟩ := Zcl (w := w) v1 v2 30
 have hB : Below w.heap.size w (w.alloc (.cells #[v1, v2] 30)) := (zb).alloc (zl) _
 refine (Zdk w.heap.size _ _ _ _ xs ys ((w.alloc (.cells #[v1, v2] 30))) c1 c2 (r1.below hB (zl)) (r2.below hB (zl)) o1 o2 hlen).mono ?_
 rintro e w' ⟨v', rfl, ho, hb⟩
 exact ⟨v', rfl, Zah ho hB.size, hB.trans (hb.mono hB.size)⟩
theorem OutM.callN {w : World} {sb : Nat} {F H : Nat → Prop} {D : Addr → Option Int} {K : List Addr} (hbig : K.length ≤ big) {G : StG} {el : TypeId} {size : Nat} {wr : World} {o : Value} {n : Nat} {cs' : List Value}
   {Dx : Addr → Option Int} (hf : Forest w (hot H F) Dx) (hS : ∀ p z, Dx p = some z → p ∈ K) (e1 : el ≠ 87) (e2 : el ≠ 102) (h : OutM w sb F H D K G el size wr o n cs') (t u : NV) (ht : knownN Dx t) (hu : knownN Dx u) :
   Calls Tryz.prog 50 #[.pointer (some ⟨sb, 0, none⟩), .agg #[.int .i64 t.1, .pointer t.2], .agg #[.int .i64 u.1, .pointer u.2]] wr fun e w1 => e = .returned (.int .i64 (sgn (rankN Dx t - rankN Dx u))) ∧ OutM w sb F H D K G el size w1 o n cs' := by
 obtain ⟨Fr, Gr, h1, h2, h3, h4, h5⟩ := h
 refine (Zks hbig h2 h3 ((hf.grow (zl) Zcy).step (h4.hot _)) hS t u ht hu).mono ?_
 rintro e w1 ⟨rfl, hc⟩
 exact ⟨rfl, OutM.cmp h1 h2 h4 h5 e1 e2 hc⟩
end
section
open Go.RowKit
theorem Zku {sb : Nat} {D : Addr → Option Int} {K : List Addr} (hbig : K.length ≤ big) {H F : Nat → Prop} {w : World} {G : StG} (hm : StMem w sb F G) (hi : StInv w (hot H F) D K G) {Dx : Addr → Option Int} (hf : Forest w (hot H F) Dx) (hS : ∀ p z, Dx p = some z → p ∈ K) {xs ys : List NV} {b ro cx b' ro' cy N M : Nat} (hNx : xs.length = N) (hMy : ys.length = M) (hcx : N ≤ cx) (hcy : M ≤ cy) (hmx : cx ≤ maxLen) (hmy : cy ≤ maxLen)
   (hrx : RowF w (hot H F) 2 (.slice (some ⟨b, ro, none⟩) N cx) N (flatN xs)) (hry : RowF w (hot H F) 2 (.slice (some ⟨b', ro', none⟩) M cy) M (flatN ys))
   (hx0 : 0 < N) (hy0 : 0 < M) (hkx : ∀ t ∈ xs, knownN Dx t) (hky : ∀ t ∈ ys, knownN Dx t) (hsx : Srt (rankN Dx) xs) (hsy : Srt (rankN Dx) ys) (hlen : N + M ≤ 60000) :
   Calls Tryz.prog 80 #[.slice (some ⟨b, ro, none⟩) N cx, .slice (some ⟨b', ro', none⟩) M cy, .func (.func 50) #[.pointer (some ⟨sb, 0, none⟩)] #[]] w fun e w' => ∃ (v' : Value) (zs : List NV) (F' : Nat → Prop) (G' : StG),
     e = .returned v' ∧ w'.ownsRow w.heap.size 28 2 v' zs.length (flatN zs) ∧ zs.Perm (xs ++ ys) ∧ Srt (rankN Dx) zs ∧ StMem w' sb F' G' ∧ StInv w' (hot H F') D K G' ∧ Step w w' F F' ∧ Grown2 D D K K G G' := by
 have rcx : RowC w b ro (flatN xs) := by
   rcases hrx.1.2 with ⟨e, _⟩ | ⟨b1, off1, cap1, e1, p1, p2, p3, p4⟩
   · cases e
   · cases e1; exact p4
 have rcy : RowC w b' ro' (flatN ys) := by
   rcases hry.1.2 with ⟨e, _⟩ | ⟨b1, off1, cap1, e1, p1, p2, p3, p4⟩
   · cases e
   · cases e1; exact p4
 obtain ⟨x1, x2⟩ := RowC.num rcx (N - 1) (by omega)
 obtain ⟨y1, y2⟩ := RowC.num rcy 0 (by omega)
 have kx := hkx _ (List.getElem_mem (l := xs) (n := N - 1) (by omega))
 have ky := hky _ (List.getElem_mem (l := ys) (n := 0) (by omega))
 have hXL : xs[N - 1]? = some (xs[N - 1]'(by omega)) := List.getElem?_eq_getElem (by omega)
 have hY0 : ys[0]? = some (ys[0]'(by omega)) := List.getElem?_eq_getElem (by omega)
 generalize xs[N - 1]'(by omega) = tx at *
 generalize ys[0]'(by omega) = ty at *
 have call := fun (W : World) (hW : Below w.heap.size w W) => Zks hbig (hm.below hW) ((hi.grow (zl) Zcy).step ((Step.of_below F hW).hot (fun k => H k ∨ w.heap.size ≤ k))) ((hf.grow (zl) Zcy).step ((Step.of_below F hW).hot (fun k => H k ∨ w.heap.size ≤ k))) hS tx ty kx ky
 obtain ⟨tx1, tx2⟩ := tx
 obtain ⟨ty1, ty2⟩ := ty
 simp only [Nat.zero_mul, Nat.add_zero] at x1 x2 y1 y2 call
 have hn0 : ((N : Int) == 0) = false := by rw [beq_eq_false_iff_ne]; omega
 have hm0 : ((M : Int) == 0) = false := by rw [beq_eq_false_iff_ne]; omega
 have hidx : ((N : Int) - 1).toNat = N - 1 := by omega
 have hw1 : IntKind.i64.wrap ((N : Int) - 1) = (N : Int) - 1 := IntWalk.i64_in _ (by omega)
 have hw0 : (1 : Int) ≤ (N : Int) := by omega
 have hw9 : (N : Int) ≤ 9223372036854775807 := by omega
 have hw2 : (0 : Int) ≤ (N : Int) - 1 := by omega
 have hw3 : (N : Int) - 1 < (N : Int) := by omega
 have hw4 : (0 : Int) < (M : Int) := by omega
 have hbl := World.block_lt_of_cell? _ _ x1
 have hbl' := World.block_lt_of_cell? _ _ y1
 have nF := fun h => hrx.2 b rfl (.inr h)
 have nF' := fun h => hry.2 b' rfl (.inr h)
 have hbx : True := trivial
 have HX := zh (zi hm (zi hi (zi hbx (zi hf (zi hS (zi hrx (zi hry (zi hkx (zi hky (zi hsx (zi hsy (zi hXL (zi hY0 (zi hNx hMy))))))))))))))
 clear hm hi hbx hf hS hrx hry hkx hky hsx hsy hXL hY0 hNx hMy rcx rcy kx ky
 generalize hv : sgn (rankN Dx (tx1, tx2) - rankN Dx (ty1, ty2)) = v at call
 have HV := zh hv
 clear hv
 by_cases hle : v ≤ 0
 all_goals
   go_enter Tryz.func80, Tryz.ntmps80
   go_wp2
   first
     | go_region_held3 (fun w' => w'.cell? ⟨b, ro + (N - 1) * 2, none⟩ = some (.int .i64 tx1) ∧ w'.cell? ⟨b, ro + (N - 1) * 2 + 1, none⟩ = some (.pointer tx2) ∧
         w'.cell? ⟨b', ro', none⟩ = some (.int .i64 ty1) ∧ w'.cell? ⟨b', ro' + 1, none⟩ = some (.pointer ty2)) (first | (go_keep; done) | ((try dsimp only); refine ⟨?_, ?_, ?_, ?_⟩ <;> (go_keep; done)))
       (first
       | (go_at_call 50; refine (call _ (by first | exact (zb).drew | exact zb)).mono ?_; rintro e1 w1 ⟨rfl, hmem⟩
          have hmem1 := hmem.after ((zb).drew)
          have kp := hmem1.keeps
          have g1 := (kp.cell _ hbl nF).trans x1
          have g2 := (kp.cell _ hbl nF).trans x2
          have g3 := (kp.cell _ hbl' nF').trans y1
          have g4 := (kp.cell _ hbl' nF').trans y2
          clear hmem kp
          have HM := zh hmem1
          clear hmem1))
     | fail
 · obtain ⟨F1, G1, m1, i1, st1, gg1⟩ := HM.out
   obtain ⟨hm, hi, hbx, hf, hS, hrx, hry, hkx, hky, hsx, hsy, hXL, hY0, hNx, hMy⟩ := HX.out
   have hc := Zkt (w := w1) (by have := Za8; omega) (hrx.step (st1.hot H)).1 (hry.step (st1.hot H)).1 (Zbo xs) (Zbo ys)
   have HY := zh (zi m1 (zi i1 (zi st1 gg1)))
   clear m1 i1 st1 gg1 hm hi hbx hf hS hrx hry hkx hky hsx hsy hXL hY0 hNx hMy
   go_wp2_with (first
     | (go_at_call 96; refine hc.mono ?_; rintro e2 w2 ⟨v', rfl, ho, hb⟩))
   go_ret
   obtain ⟨m1, i1, st1, gg1⟩ := HY.out
   obtain ⟨hm, hi, hbx, hf, hS, hrx, hry, hkx, hky, hsx, hsy, hXL, hY0, hNx, hMy⟩ := HX.out
   have s2 := Step.of_below F1 hb
   refine ⟨v', xs ++ ys, F1, G1, rfl, by rw [Za7, List.length_append, hNx, hMy]; exact Zah ho st1.keeps.size, List.Perm.refl _, hsx.append hsy (fun a b ha hb => ?_), m1.below hb, (i1.shrink Zee).step (s2.hot H), st1.trans s2, gg1⟩
   rw [List.getLast?_eq_getElem?, hNx] at ha
   rw [hXL] at ha
   rw [hY0] at hb
   cases ha
   cases hb
   have h := HV.out
   unfold sgn at h
   split at h <;> (try split at h) <;> omega
 · obtain ⟨i0, hi0, hz0, hz1, hz2⟩ := info_parts infoeN
   go_wp2_with (first
     | (at_make; refine wpList_make_own _ rfl _ _ 30 rfl w.heap.size 28 i0 zN 2 Tryz.underlying30 hi0 hz0 hz1 .i64 .i64 _ (N + M) rfl rfl (by omega) (by rw [hz2]; omega) (by unfold maxLen; omega) (HM.out.keeps.size) ?_; intro w0 hown0 hgrow0))
   have hO : OutM w sb F H D K G 28 2 w0 (.slice (some ⟨w1.heap.size, 0, none⟩) 0 (N + M)) 0 [] := by
     obtain ⟨F1, G1, m1, i1, st1, gg1⟩ := HM.out
     have hb0 : Below w1.heap.size w1 w0 := (zb).grown hgrow0 (zl) (by simp)
     have s0 := Step.of_below F1 hb0
     refine ⟨F1, G1, hown0, m1.below hb0, ?_, st1.trans s0, gg1⟩
     exact i1.step (s0.hot _)
   obtain ⟨hm, hi, hbx, hf, hS, hrx, hry, hkx, hky, hsx, hsy, hXL, hY0, hNx, hMy⟩ := HX.out
   have hrel0 : ∃ (outs xr yr : List NV) (ax ay : Option Addr) (nx ny : Nat), Value.slice (some ⟨b, ro, none⟩) N cx = .slice ax xr.length nx ∧ Value.slice (some ⟨b', ro', none⟩) M cy = .slice ay yr.length ny ∧ RowF w (hot H F) 2 (.slice ax xr.length nx) xr.length (flatN xr) ∧ RowF w (hot H F) 2 (.slice ay yr.length ny) yr.length (flatN yr) ∧
       OutM w sb F H D K G 28 2 w0 (.slice (some ⟨w1.heap.size, 0, none⟩) 0 (N + M)) outs.length (flatN outs) ∧ MrgS (rankN Dx) (xs ++ ys) outs xr yr ∧ (∀ t ∈ xr, knownN Dx t) ∧ (∀ t ∈ yr, knownN Dx t) :=
     ⟨[], xs, ys, some ⟨b, ro, none⟩, some ⟨b', ro', none⟩, cx, cy, by rw [hNx], by rw [hMy], by rw [hNx]; exact hrx, by rw [hMy]; exact hry, hO, MrgS.start hsx hsy, hkx, hky⟩
   have hpos : 0 < w.heap.size := by have := hm.lt; have := hm.pos; omega
   have HB := zh hpos
   clear hm hi hbx hf hS hrx hry hkx hky hsx hsy hXL hY0 hNx hMy hO call g1 g2 g3 g4 x1 x2 y1 y2 hpos hcx hcy hmx hmy hidx hw1 hw2 hw3 hw4
   have HR0 := zh hrel0
   clear hrel0
   have HI := zh (zi hi0 (zi hz0 (zi hz1 hz2)))
   clear hi0 hz0 hz1 hz2 hown0 hgrow0
   go_loopw [0, 1, 7] (fun x y o wr => ∃ (outs xr yr : List NV) (ax ay : Option Addr) (nx ny : Nat), x = .slice ax xr.length nx ∧ y = .slice ay yr.length ny ∧ RowF w (hot H F) 2 (.slice ax xr.length nx) xr.length (flatN xr) ∧ RowF w (hot H F) 2 (.slice ay yr.length ny) yr.length (flatN yr) ∧
       OutM w sb F H D K G 28 2 wr o outs.length (flatN outs) ∧ MrgS (rankN Dx) (xs ++ ys) outs xr yr ∧ (∀ t ∈ xr, knownN Dx t) ∧ (∀ t ∈ yr, knownN Dx t)) (fun x y _ _ => lenV x + lenV y)
   case atStart => exact HR0.out
   case round =>
     obtain ⟨outs, xr, yr, ax, ay, nx, ny, rfl, rfl, rx, ry, hO, hM, kx, ky⟩ := hrel
     clear HR0
     cases xr with
     | nil =>
       have hMe := hM.ends (.inl rfl)
       have hol : outs.length + (([] : List NV)).length + (yr).length ≤ 60000 := by
         have := hM.perm.length_eq
         have hNM := HX.out.2.2.2.2.2.2.2.2.2.2.2.2.2
         simp only [List.length_append] at this ⊢
         omega
       have rxv := hO.row rx
       have ryv := fun W o' n' cs' (h : OutM w sb F H D K G 28 2 W o' n' cs') => h.row ry
       have hle := hO.le
       have ex : flatN (([] : List NV)) = flatN (([] : List NV)) := rfl
       obtain ⟨hi0, hz0, hz1, hz2⟩ := HI.out
       have hown := hO.own
       have HQ := zh (zi hO hMe)
       have one1 := Zbo (([] : List NV))
       have one2 := Zbo (yr)
       have HL := zh hol
       have hA1 : outs.length + (([] : List NV)).length ≤ maxLen := by unfold maxLen; omega
       have hA2 : outs.length + (([] : List NV)).length + (yr).length ≤ maxLen := by unfold maxLen; omega
       have hB1 : (outs.length + (([] : List NV)).length) * 16 ≤ 140737488355328 := by omega
       have hB2 : (outs.length + (([] : List NV)).length + (yr).length) * 16 ≤ 140737488355328 := by omega
       simp only [List.length_nil] at *
       clear rx ry hM kx ky hO hMe hol
       go_wp2_with (first
         | (have hown3' := hown3
            at_builtin; refine Zaf rfl _ _ 30 rfl w.heap.size 28 i0 _ 2 16 Tryz.underlying30 hi0 hz0 hz1 hz2 rfl (by decide) _ _ _ rfl hown3 _ _ _ rfl (ryv _ _ _ _ hO3.out) one2 hA2 hB2 hO3.out.le ?_; intro v4 w4 hown4 hg4)
         | (at_builtin; refine Zaf rfl _ _ 30 rfl w.heap.size 28 i0 _ 2 16 Tryz.underlying30 hi0 hz0 hz1 hz2 rfl (by decide) _ _ _ rfl hown _ _ _ rfl rxv one1 hA1 hB1 hle ?_; intro v3 w3 hown3 hg3
            have hO3 := zh (HQ.out.1.append (by decide) (by decide) (by decide) HB.out hown3 hg3)))
       go_ret
       have hO4 := hO3.out.append (by decide) (by decide) (by decide) HB.out hown4 hg4
       obtain ⟨Fr, Gr, q1, q2, q3, q4, q5⟩ := hO4
       exact ⟨_, _, Fr, Gr, rfl, by simpa [Zed, Za7, List.length_append, Nat.add_assoc, List.append_assoc, List.length_cons, List.length_nil] using q1, HQ.out.2.1, HQ.out.2.2, q2, q3.shrink Zee, q4, q5⟩
     | cons a xr =>
       cases yr with
       | nil =>
         have hMe := hM.ends (.inr rfl)
         have hol : outs.length + (a :: xr).length + (([] : List NV)).length ≤ 60000 := by
           have := hM.perm.length_eq
           have hNM := HX.out.2.2.2.2.2.2.2.2.2.2.2.2.2
           simp only [List.length_append] at this ⊢
           omega
         have rxv := hO.row rx
         have ryv := fun W o' n' cs' (h : OutM w sb F H D K G 28 2 W o' n' cs') => h.row ry
         have hle := hO.le
         have ex : flatN (a :: xr) = flatN (a :: xr) := rfl
         obtain ⟨hi0, hz0, hz1, hz2⟩ := HI.out
         have hown := hO.own
         have HQ := zh (zi hO hMe)
         have one1 := Zbo (a :: xr)
         have one2 := Zbo (([] : List NV))
         have HL := zh hol
         have hA1 : outs.length + (a :: xr).length ≤ maxLen := by unfold maxLen; omega
         have hA2 : outs.length + (a :: xr).length + (([] : List NV)).length ≤ maxLen := by unfold maxLen; omega
         have hB1 : (outs.length + (a :: xr).length) * 16 ≤ 140737488355328 := by omega
         have hB2 : (outs.length + (a :: xr).length + (([] : List NV)).length) * 16 ≤ 140737488355328 := by omega
         simp only [List.length_nil, List.length_cons] at *
         clear rx ry hM kx ky hO hMe hol
         go_wp2_with (first
           | (have hown3' := hown3
              at_builtin; refine Zaf rfl _ _ 30 rfl w.heap.size 28 i0 _ 2 16 Tryz.underlying30 hi0 hz0 hz1 hz2 rfl (by decide) _ _ _ rfl hown3 _ _ _ rfl (ryv _ _ _ _ hO3.out) one2 hA2 hB2 hO3.out.le ?_; intro v4 w4 hown4 hg4)
           | (at_builtin; refine Zaf rfl _ _ 30 rfl w.heap.size 28 i0 _ 2 16 Tryz.underlying30 hi0 hz0 hz1 hz2 rfl (by decide) _ _ _ rfl hown _ _ _ rfl rxv one1 hA1 hB1 hle ?_; intro v3 w3 hown3 hg3
              have hO3 := zh (HQ.out.1.append (by decide) (by decide) (by decide) HB.out hown3 hg3)))
         go_ret
         have hO4 := hO3.out.append (by decide) (by decide) (by decide) HB.out hown4 hg4
         obtain ⟨Fr, Gr, q1, q2, q3, q4, q5⟩ := hO4
         exact ⟨_, _, Fr, Gr, rfl, by simpa [Zed, Za7, List.length_append, Nat.add_assoc, List.append_assoc, List.length_cons, List.length_nil] using q1, HQ.out.2.1, HQ.out.2.2, q2, q3.shrink Zee, q4, q5⟩
       | cons c yr =>
         obtain ⟨bx, ox, rfl⟩ : ∃ bx ox, ax = some ⟨bx, ox, none⟩ := by
           rcases rx.1.2 with ⟨e, h0⟩ | ⟨b1, off1, cap1, e1, p1, p2, p3, p4⟩
           · simp at h0
           · cases e1; exact ⟨_, _, rfl⟩
         obtain ⟨by', oy, rfl⟩ : ∃ bx ox, ay = some ⟨bx, ox, none⟩ := by
           rcases ry.1.2 with ⟨e, h0⟩ | ⟨b1, off1, cap1, e1, p1, p2, p3, p4⟩
           · simp at h0
           · cases e1; exact ⟨_, _, rfl⟩
         obtain ⟨hm, hi, hbx, hf, hS, _⟩ := HX.out
         have cX : ∀ W o' n' cs', OutM w sb F H D K G 28 2 W o' n' cs' → W.cell? ⟨bx, ox, none⟩ = some (.int .i64 a.1) ∧ W.cell? ⟨bx, ox + 1, none⟩ = some (.pointer a.2) := fun W o' n' cs' h => by
           have := RowC.num (h.row rx).rowC 0 (by simp)
           simpa using this
         have cY : ∀ W o' n' cs', OutM w sb F H D K G 28 2 W o' n' cs' → W.cell? ⟨by', oy, none⟩ = some (.int .i64 c.1) ∧ W.cell? ⟨by', oy + 1, none⟩ = some (.pointer c.2) := fun W o' n' cs' h => by
           have := RowC.num (h.row ry).rowC 0 (by simp)
           simpa using this
         have call := OutM.callN hbig hf hS (by decide) (by decide) (hO.below ((zb).drew)) a c (kx a (by simp)) (ky c (by simp))
         have hM1 := fun h => hM.left h
         have hM2 := fun h => hM.right h
         have hcap : (xr.length + 1 ≤ nx ∧ nx ≤ maxLen) ∧ (yr.length + 1 ≤ ny ∧ ny ≤ maxLen) := by
           rcases rx.1.2 with ⟨e, h0⟩ | ⟨b1, off1, cap1, e1, p1, p2, p3, p4⟩
           · simp at h0
           · rcases ry.1.2 with ⟨e, h0⟩ | ⟨b2, off2, cap2, e2, q1, q2, q3, q4⟩
             · simp at h0
             · cases e1; cases e2; exact ⟨⟨p1, p2⟩, q1, q2⟩
         have hol : outs.length + (xr.length + 1) + (yr.length + 1) ≤ 60000 := by
           have := hM.perm.length_eq
           simp at this
           omega
         obtain ⟨x1, x2⟩ := cX _ _ _ _ hO
         obtain ⟨y1, y2⟩ := cY _ _ _ _ hO
         generalize hvv : sgn (rankN Dx a - rankN Dx c) = v2 at call
         obtain ⟨a1, a2⟩ := a
         obtain ⟨c1, c2⟩ := c
         simp only at call x1 x2 y1 y2 cX cY
         have HVV := zh hvv
         have HQ := zh (zi rx (zi ry (zi kx (zi ky (zi hM1 (zi hM2 hO))))))
         clear rx ry hM kx ky hM1 hM2 hO hm hi hbx hf hS hvv
         have hg0 : (0 : Int) < (xr.length : Int) + 1 := by omega
         have hg1 : (0 : Int) < (yr.length : Int) + 1 := by omega
         simp only [List.length_cons] at *
         by_cases hle2 : v2 ≤ 0
         all_goals
           go_wp2
           first
             | go_region_held3 (fun w' => w'.cell? ⟨bx, ox, none⟩ = some (.int .i64 a1) ∧ w'.cell? ⟨bx, ox + 1, none⟩ = some (.pointer a2) ∧
                 w'.cell? ⟨by', oy, none⟩ = some (.int .i64 c1) ∧ w'.cell? ⟨by', oy + 1, none⟩ = some (.pointer c2)) (first | (go_keep; done) | ((try dsimp only); refine ⟨?_, ?_, ?_, ?_⟩ <;> (go_keep; done)))
               (first
               | (go_at_call 50; refine call.mono ?_; rintro e2 w2 ⟨rfl, hO2⟩
                  obtain ⟨g1, g2⟩ := cX _ _ _ _ hO2
                  obtain ⟨g3, g4⟩ := cY _ _ _ _ hO2
                  have HO2 := zh hO2
                  clear hO2))
             | fail
         · obtain ⟨hi0, hz0, hz1, hz2⟩ := HI.out
           have hsz2 := HO2.out.le
           go_wp2_with (first
             | (at_builtin; refine wpList_append_own _ rfl _ _ 30 rfl w.heap.size 28 i0 zN 2 16 Tryz.underlying30 hi0 hz0 hz1 hz2 rfl (by decide) _ _ _ rfl (HO2.out.own.alloc _) ⟨w2.heap.size, 0, none⟩ 1 1 (cellsN (a1, a2)) rfl rfl (Zaj w2 _ _ _) (by simp [cellsN, Value.oneCell']) (by unfold maxLen; omega) (by omega) (by simp; omega) ?_; intro v3 w3 hown3 hg3 _))
           obtain ⟨rx, ry, kx, ky, hM1, hM2, hO⟩ := HQ.out
           have hsg : rankN Dx (a1, a2) ≤ rankN Dx (c1, c2) := by
             have h := HVV.out
             unfold sgn at h
             split at h <;> (try split at h) <;> omega
           refine ⟨⟨outs ++ [(a1, a2)], xr, (c1, c2) :: yr, _, _, _, _, rfl, rfl, rx.tail rfl, ry, ?_, hM1 hsg, fun t ht => kx t (by simp [ht]), ky⟩, by simp [lenV]⟩
           rw [List.length_append, Za7]
           exact ((HO2.out.below ((zb).alloc (zl) _)).append (by decide) (by decide) (by decide) HB.out hown3 hg3)
         · obtain ⟨hi0, hz0, hz1, hz2⟩ := HI.out
           have hsz2 := HO2.out.le
           go_wp2_with (first
             | (at_builtin; refine wpList_append_own _ rfl _ _ 30 rfl w.heap.size 28 i0 zN 2 16 Tryz.underlying30 hi0 hz0 hz1 hz2 rfl (by decide) _ _ _ rfl (HO2.out.own.alloc _) ⟨w2.heap.size, 0, none⟩ 1 1 (cellsN (c1, c2)) rfl rfl (Zaj w2 _ _ _) (by simp [cellsN, Value.oneCell']) (by unfold maxLen; omega) (by omega) (by simp; omega) ?_; intro v3 w3 hown3 hg3 _))
           obtain ⟨rx, ry, kx, ky, hM1, hM2, hO⟩ := HQ.out
           have hsg : ¬ rankN Dx (a1, a2) ≤ rankN Dx (c1, c2) := by
             have h := HVV.out
             unfold sgn at h
             split at h <;> (try split at h) <;> omega
           refine ⟨⟨outs ++ [(c1, c2)], (a1, a2) :: xr, yr, _, _, _, _, rfl, rfl, rx, ry.tail rfl, ?_, hM2 (by omega), kx, fun t ht => ky t (by simp [ht])⟩, by simp [lenV]⟩
           rw [List.length_append, Za7]
           exact ((HO2.out.below ((zb).alloc (zl) _)).append (by decide) (by decide) (by decide) HB.out hown3 hg3)
end
end Go.Proofs.YtlkmgclbckojgaaGreatDoor

