import Derived.Test.YtlkmgclbckojgaaGreatDoorY5
set_option linter.unusedVariables false
set_option linter.unusedSimpArgs false
set_option maxHeartbeats 4000000
set_option maxRecDepth 100000
namespace Go.Proofs.YtlkmgclbckojgaaGreatDoor
section
open Go.RowKit
theorem Zjr {sb : Nat} {D : Addr → Option Int} {K : List Addr} (hbig : K.length ≤ big) {H F : Nat → Prop} {w : World} {G : StG} (hm : StMem w sb F G) (hi : StInv w (hot H F) D K G) {Dx : Addr → Option Int} (hf : Forest w (hot H F) Dx) (hS : ∀ p z, Dx p = some z → p ∈ K) {xs ys : List NV} {vx vy : Value}
   (hrx : RowF w (hot H F) 2 vx xs.length (flatN xs)) (hry : RowF w (hot H F) 2 vy ys.length (flatN ys)) (hkx : ∀ t ∈ xs, knownN Dx t) (hky : ∀ t ∈ ys, knownN Dx t) (hsx : Srt (rankN Dx) xs) (hsy : Srt (rankN Dx) ys) (hlen : xs.length + ys.length ≤ 60000) :
   Calls Tryz.prog 80 #[vx, vy, .func (.func 50) #[.pointer (some ⟨sb, 0, none⟩)] #[]] w fun e w' => ∃ (v' : Value) (zs : List NV) (F' : Nat → Prop) (G' : StG),
     e = .returned v' ∧ w'.ownsRow w.heap.size 28 2 v' zs.length (flatN zs) ∧ zs.Perm (xs ++ ys) ∧ Srt (rankN Dx) zs ∧ StMem w' sb F' G' ∧ StInv w' (hot H F') D K G' ∧ Step w w' F F' ∧ Grown2 D D K K G G' := by
 have hl := Za8
 obtain ⟨ax, nx, rfl⟩ := hrx.1.shape
 obtain ⟨ay, ny, rfl⟩ := hry.1.shape
 by_cases hx0 : xs.length = 0
 · obtain rfl := List.length_eq_zero_iff.1 hx0
   refine (Zph w sb ax ay 0 ys.length nx ny (by simp at hlen; omega) hrx.1 hry.1 (Zbo []) (Zbo ys)).mono ?_
   rintro e w' ⟨v', rfl, ho, hb⟩
   have s := Step.of_below F hb
   exact ⟨v', ys, F, G, rfl, by simpa [Zed] using ho, by simp, hsy, hm.below hb, hi.step (s.hot H), s, Grown2.refl _ _ _⟩
 by_cases hy0 : ys.length = 0
 · obtain rfl := List.length_eq_zero_iff.1 hy0
   refine (Zpi w sb ax ay xs.length 0 nx ny (by omega) (by simp at hlen; omega) hrx.1 hry.1 (Zbo xs) (Zbo [])).mono ?_
   rintro e w' ⟨v', rfl, ho, hb⟩
   have s := Step.of_below F hb
   exact ⟨v', xs, F, G, rfl, by simpa [Zed] using ho, by simp, hsx, hm.below hb, hi.step (s.hot H), s, Grown2.refl _ _ _⟩
 rcases hrx.1.2 with ⟨e, h0⟩ | ⟨b1, off1, cap1, e1, p1, p2, p3, p4⟩
 · omega
 rcases hry.1.2 with ⟨e, h0⟩ | ⟨b2, off2, cap2, e2, q1, q2, q3, q4⟩
 · omega
 cases e1
 cases e2
 exact Zku hbig hm hi hf hS rfl rfl p1 q1 p2 q2 hrx hry (by omega) (by omega) hkx hky hsx hsy hlen
def OrdCN (sb : Nat) (H : Nat → Prop) (D : Addr → Option Int) (K : List Addr) (Dx : Addr → Option Int) (N : Nat) : Prop :=
 ∀ (w : World) (F : Nat → Prop) (G : StG) (hm : StMem w sb F G) (hi : StInv w (hot H F) D K G) (hH : ∀ k, H k → k < w.heap.size) (hf : Forest w (hot H F) Dx) (hS : ∀ p z, Dx p = some z → p ∈ K) (xs : List NV) (v : Value)
   (hr : RowF w (hot H F) 2 v xs.length (flatN xs)) (hk : ∀ t ∈ xs, knownN Dx t) (hlen : xs.length ≤ 60000) (hN : xs.length < N),
   Calls Tryz.prog 53 #[v, .func (.func 50) #[.pointer (some ⟨sb, 0, none⟩)] #[]] w fun e w' => ∃ (v' : Value) (zs : List NV) (F' : Nat → Prop) (G' : StG),
     e = .returned v' ∧ w'.ownsRow w.heap.size 28 2 v' zs.length (flatN zs) ∧ zs.Perm xs ∧ Srt (rankN Dx) zs ∧ StMem w' sb F' G' ∧ StInv w' (hot H F') D K G' ∧ Step w w' F F' ∧ Grown2 D D K K G G'
theorem Zjs {sb : Nat} {H : Nat → Prop} {D : Addr → Option Int} {K : List Addr} (hbig : K.length ≤ big) {Dx : Addr → Option Int} {N : Nat} (ih : OrdCN sb H D K Dx N) : OrdCN sb H D K Dx (N + 1) := by
 intro w F G hm hi hH hf hS xs v hr hk hlen hN
 have hl := Za8
 obtain ⟨ax, nx, rfl⟩ := hr.1.shape
 by_cases h2 : xs.length < 2
 · have hc := Zka _ xs.length _ w hr.1 (Zbo xs) (by omega)
   have h2' : (xs.length : Int) < 2 := by omega
   have HX := zh (zi hm (zi hi hr))
   clear hm hi hf hS hk hr hH
   go_enter Tryz.func53, Tryz.ntmps53
   go_wp2_with (first
     | (go_at_call 79; refine hc.mono ?_; rintro e w1 ⟨v', rfl, ho, hb⟩))
   go_ret
   obtain ⟨hm, hi, hr⟩ := HX.out
   have s := Step.of_below F hb
   refine ⟨v', xs, F, G, rfl, ho, List.Perm.refl _, ?_, hm.below hb, hi.step (s.hot H), s, Grown2.refl _ _ _⟩
   unfold Srt
   cases xs with
   | nil => simp
   | cons a l =>
     cases l with
     | nil => simp
     | cons b l => simp only [List.length_cons] at h2; omega
 · obtain ⟨b, o, rfl⟩ : ∃ bx ox, ax = some ⟨bx, ox, none⟩ := by
     rcases hr.1.2 with ⟨e, h0⟩ | ⟨b1, off1, cap1, e1, p1, p2, p3, p4⟩
     · omega
     · cases e1; exact ⟨_, _, rfl⟩
   have hcap : xs.length ≤ nx ∧ nx ≤ maxLen := by
     rcases hr.1.2 with ⟨e, h0⟩ | ⟨b1, off1, cap1, e1, p1, p2, p3, p4⟩
     · cases e
     · cases e1; exact ⟨p1, p2⟩
   have h2' : ¬ (xs.length : Int) < 2 := by omega
   obtain ⟨md, hmd⟩ : ∃ md : Nat, md = xs.length / 2 := ⟨_, rfl⟩
   have hmdi : (xs.length : Int) / 2 = (md : Int) := by omega
   have hb1 : (0 : Int) ≤ (md : Int) := by omega
   have hb2 : (md : Int) ≤ (xs.length : Int) := by omega
   have hb3 : (md : Int) ≤ (nx : Int) := by omega
   have hb4 : (xs.length : Int) ≤ (nx : Int) := by omega
   have hne : ¬ nx = md := by omega
   have hsp : flatN xs = flatN (xs.take md) ++ flatN (xs.drop md) := by rw [← Za7, List.take_append_drop]
   have hlt : (xs.take md).length = md := by rw [List.length_take]; omega
   have hld : (xs.drop md).length = xs.length - md := by rw [List.length_drop]
   have hr2 := hr
   rw [hsp] at hr2
   have rowA := hr2.takeR (m := md) (by rw [Zho, hlt]) (by omega)
   have rowB := hr2.dropR (m := md) (by rw [Zho, hlt]) (by omega)
   rw [if_neg hne] at rowB
   have call1 : ∀ W, Below w.heap.size w W → Calls Tryz.prog 53 #[.slice (some ⟨b, o, none⟩) md nx, .func (.func 50) #[.pointer (some ⟨sb, 0, none⟩)] #[]] W fun e w' => ∃ (v' : Value) (zs : List NV) (F' : Nat → Prop) (G' : StG),
       e = .returned v' ∧ w'.ownsRow w.heap.size 28 2 v' zs.length (flatN zs) ∧ zs.Perm (xs.take md) ∧ Srt (rankN Dx) zs ∧ StMem w' sb F' G' ∧ StInv w' (hot H F') D K G' ∧ Step w w' F F' ∧ Grown2 D D K K G G' := by
     intro W hW
     have sW := Step.of_below F hW
     have := ih W F G (hm.below hW) (hi.step (sW.hot H)) (fun k hk => Nat.lt_of_lt_of_le (hH k hk) hW.size) (hf.step (sW.hot H)) hS (xs.take md) (.slice (some ⟨b, o, none⟩) md nx) (by rw [hlt]; exact rowA.step (sW.hot H)) (fun t ht => hk t (List.mem_of_mem_take ht)) (by omega) (by omega)
     refine this.mono ?_
     rintro e w' ⟨v', zs, F', G', rfl, o1, p1, s1, m1, i1, st1, gg1⟩
     exact ⟨v', zs, F', G', rfl, Zah o1 hW.size, p1, s1, m1, i1, sW.trans st1, gg1⟩
   have HMD := zh (zi hmdi hmd)
   clear hmdi hmd
   have HX := zh (zi hm (zi hi (zi hH (zi hf (zi hS (zi hk (zi rowA (zi rowB (zi hlt hld)))))))))
   clear hm hi hf hS hk hr hH hr2 hsp rowA rowB hlt hld
   go_enter Tryz.func53, Tryz.ntmps53
   go_wp2
   rw [HMD.out.1]
   first
     | go_region_held3 (fun w' => w.heap.size ≤ w'.heap.size) (first | (go_keep; done) | (simp; omega) | omega)
       (first
       | (have g2 := HR2
          go_at_call 80; refine g2.out.2.2.2.2.2.mono ?_; rintro e3 w3 ⟨v3, z3, F3, G3, rfl, o3, p3, s3, m3, i3, st3, gg3⟩
          obtain ⟨a3, k3, rfl⟩ := (RowV.of_own o3).shape
          have hs3 := Nat.le_trans hs2 st3.keeps.size)
       | (have g1 := HR1
          go_at_call 53; refine g1.out.2.2.2.2.2.mono ?_; rintro e2 w2 ⟨v2, z2, F2, G2, rfl, o2, p2, s2, m2, i2, st2, gg2⟩
          obtain ⟨a2, k2, rfl⟩ := (RowV.of_own o2).shape
          obtain ⟨hm, hi, hH, hf, hS, hk, rowA, rowB, hlt, hld⟩ := HX.out
          obtain ⟨⟨o1, m1, i1⟩, p1, s1, st1, gg1, _⟩ := g1.out
          have hs2 := Nat.le_trans st1.keeps.size st2.keeps.size
          have o12 := Zag o1 st2.keeps (m1.own o1 (by decide) (by decide))
          have r1 : RowF w2 (hot H F2) 2 (.slice a1 z1.length k1) z1.length (flatN z1) := ⟨RowV.of_own o12, fun k hk1 hh => by
            rcases hh with x | x
            · have := hH k x; have := (o1.lt k hk1).1; omega
            · exact m2.own o12 (by decide) (by decide) k hk1 x⟩
          have r2 : RowF w2 (hot H F2) 2 (.slice a2 z2.length k2) z2.length (flatN z2) := ⟨RowV.of_own o2, fun k hk1 hh => by
            rcases hh with x | x
            · have := hH k x; have := (o2.lt k hk1).1; have := st1.keeps.size; omega
            · exact m2.own o2 (by decide) (by decide) k hk1 x⟩
          have s12 := st1.trans st2
          have hl1 := p1.length_eq
          have hl2 := p2.length_eq
          have HR2 := zh (zi p2 (zi s2 (zi s12 (zi gg1 (zi gg2 (Zjr hbig m2 i2 (hf.step (s12.hot H)) hS r1 r2 (fun t ht => hk t (List.mem_of_mem_take (p1.mem_iff.1 ht))) (fun t ht => hk t (List.mem_of_mem_drop (p2.mem_iff.1 ht))) s1 s2 (by omega)))))))
          clear o2 p2 s2 m2 i2 st2 gg2 hm hi hH hf hS hk rowA rowB hlt hld o1 m1 i1 p1 s1 st1 gg1 o12 r1 r2 s12 hl1 hl2)
       | (go_at_call 53; refine (call1 _ (by first | exact (zb).drew | exact zb)).mono ?_; rintro e1 w1 ⟨v1, z1, F1, G1, rfl, o1, p1, s1, m1, i1, st1, gg1⟩
          obtain ⟨a1, k1, rfl⟩ := (RowV.of_own o1).shape
          obtain ⟨hm, hi, hH, hf, hS, hk, rowA, rowB, hlt, hld⟩ := HX.out
          have hmd2 := HMD.out.2
          have hs1 := st1.keeps.size
          have c2 := ih w1 F1 G1 m1 i1 (fun k hk => Nat.lt_of_lt_of_le (hH k hk) st1.keeps.size) (hf.step (st1.hot H)) hS (xs.drop md) (.slice (some ⟨b, o + md * 2, none⟩) (xs.length - md) (nx - md)) (by rw [hld]; exact rowB.step (st1.hot H)) (fun t ht => hk t (List.mem_of_mem_drop ht)) (by omega) (by omega)
          have HR1 := zh (zi (zi o1 (zi m1 i1)) (zi p1 (zi s1 (zi st1 (zi gg1 c2)))))
          clear o1 p1 s1 m1 i1 st1 gg1 hm hi hH hf hS hk rowA rowB hlt hld c2 hmd2))
     | fail
   go_wp2
   go_ret
   have hp1 := HR1.out.2.1
   obtain ⟨hp2, _, s12, gg1, gg2, _⟩ := HR2.out
   refine ⟨_, z3, F3, G3, rfl, Zah o3 s12.keeps.size, ?_, s3, m3, i3, s12.trans st3, (gg1.trans gg2).trans gg3⟩
   have := hp1.append hp2
   rw [List.take_append_drop] at this
   exact p3.trans this
theorem Zh2 {sb : Nat} {H : Nat → Prop} {D : Addr → Option Int} {K : List Addr} (hbig : K.length ≤ big) {Dx : Addr → Option Int} : ∀ N, OrdCN sb H D K Dx N := by
 intro N
 induction N with
 | zero => intro w F G hm hi hH hf hS xs v hr hk hlen hN; omega
 | succ N ih => exact Zjs hbig ih
end
section
open Go.RowKit
theorem Zl0 (w : World) (X : Obj) (row : Option Nat) : w.grownBy (w.alloc X) row := ⟨rfl, rfl, rfl, by simp, fun k hk _ => Below.heap_alloc _ _ _ hk⟩
def twoB (m : Nat) : List Value := [.int .u8 ((m : Int) / 256 % 256), .int .u8 ((m : Int) % 256)]
end
end Go.Proofs.YtlkmgclbckojgaaGreatDoor

