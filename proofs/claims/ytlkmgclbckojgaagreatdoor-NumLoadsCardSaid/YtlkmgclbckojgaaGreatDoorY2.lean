import Derived.Test.YtlkmgclbckojgaaGreatDoorD4
set_option linter.unusedVariables false
set_option linter.unusedSimpArgs false
set_option maxHeartbeats 4000000
set_option maxRecDepth 100000
namespace Go.Proofs.YtlkmgclbckojgaaGreatDoor
section
open Go.RowKit
theorem Zjp {sb : Nat} {D : Addr → Option Int} {K : List Addr} (hbig : K.length ≤ big) {H F : Nat → Prop} {w : World} {G : StG} (hm : StMem w sb F G) (hi : StInv w (hot H F) D K G) {cs : Nat} (hbx : Box w cs sb)
   {Dx : Addr → Option Int} (hf : Forest w (hot H F) Dx) (hS : ∀ p z, Dx p = some z → p ∈ K) {xs ys : List TV} {vx vy : Value}
   (hrx : RowF w (hot H F) 3 vx xs.length (flatT xs)) (hry : RowF w (hot H F) 3 vy ys.length (flatT ys)) (hkx : ∀ t ∈ xs, knownT Dx t) (hky : ∀ t ∈ ys, knownT Dx t) (hsx : Srt (keyT Dx) xs) (hsy : Srt (keyT Dx) ys) (hlen : xs.length + ys.length ≤ 60000) :
   Calls Tryz.prog 104 #[vx, vy, .func (.func 91) #[] #[.pointer (some ⟨cs, 0, none⟩)]] w fun e w' => ∃ (v' : Value) (zs : List TV) (F' : Nat → Prop) (G' : StG),
     e = .returned v' ∧ w'.ownsRow w.heap.size 62 3 v' zs.length (flatT zs) ∧ zs.Perm (xs ++ ys) ∧ Srt (keyT Dx) zs ∧ StMem w' sb F' G' ∧ StInv w' (hot H F') D K G' ∧ Step w w' F F' ∧ Grown2 D D K K G G' := by
 have hl := Za8
 obtain ⟨ax, nx, rfl⟩ := hrx.1.shape
 obtain ⟨ay, ny, rfl⟩ := hry.1.shape
 by_cases hx0 : xs.length = 0
 · obtain rfl := List.length_eq_zero_iff.1 hx0
   refine (Znz w cs ax ay 0 ys.length nx ny (by simp at hlen; omega) hrx.1 hry.1 (Zaw []) (Zaw ys)).mono ?_
   rintro e w' ⟨v', rfl, ho, hb⟩
   have s := Step.of_below F hb
   exact ⟨v', ys, F, G, rfl, by simpa [Zcb] using ho, by simp, hsy, hm.below hb, hi.step (s.hot H), s, Grown2.refl _ _ _⟩
 by_cases hy0 : ys.length = 0
 · obtain rfl := List.length_eq_zero_iff.1 hy0
   refine (Zn0 w cs ax ay xs.length 0 nx ny (by omega) (by simp at hlen; omega) hrx.1 hry.1 (Zaw xs) (Zaw [])).mono ?_
   rintro e w' ⟨v', rfl, ho, hb⟩
   have s := Step.of_below F hb
   exact ⟨v', xs, F, G, rfl, by simpa [Zcb] using ho, by simp, hsx, hm.below hb, hi.step (s.hot H), s, Grown2.refl _ _ _⟩
 rcases hrx.1.2 with ⟨e, h0⟩ | ⟨b1, off1, cap1, e1, p1, p2, p3, p4⟩
 · omega
 rcases hry.1.2 with ⟨e, h0⟩ | ⟨b2, off2, cap2, e2, q1, q2, q3, q4⟩
 · omega
 cases e1
 cases e2
 exact Zjz hbig hm hi hbx hf hS rfl rfl p1 q1 p2 q2 hrx hry (by omega) (by omega) hkx hky hsx hsy hlen
end
section
open Go.RowKit
theorem RowF.takeR {w : World} {F : Nat → Prop} {size b o n c m : Nat} {x ys : List Value} (h : RowF w F size (.slice (some ⟨b, o, none⟩) n c) n (x ++ ys)) (hx : x.length = m * size) (hm : m ≤ n) :
   RowF w F size (.slice (some ⟨b, o, none⟩) m c) m x := by
 obtain ⟨⟨h1, h2⟩, h3⟩ := h
 rcases h2 with ⟨e, _⟩ | ⟨b1, off1, cap1, e1, p1, p2, p3, p4⟩
 · cases e
 · cases e1
   refine ⟨⟨hx, .inr ⟨b, o, c, rfl, by omega, p2, p3, fun j u hj => p4 j u ?_⟩⟩, fun k hk => h3 k hk⟩
   rw [List.getElem?_append_left]
   · exact hj
   · rcases Nat.lt_or_ge j x.length with y | y
     · exact y
     · simp [List.getElem?_eq_none y] at hj
theorem RowF.dropR {w : World} {F : Nat → Prop} {size b o n c m : Nat} {x ys : List Value} (h : RowF w F size (.slice (some ⟨b, o, none⟩) n c) n (x ++ ys)) (hx : x.length = m * size) (hm : m ≤ n) :
   RowF w F size (.slice (if c = m then some ⟨b, o, none⟩ else some ⟨b, o + m * size, none⟩) (n - m) (c - m)) (n - m) ys := by
 obtain ⟨⟨h1, h2⟩, h3⟩ := h
 have hl : ys.length = (n - m) * size := by
   rw [List.length_append, hx] at h1
   rw [Nat.sub_mul]; omega
 rcases h2 with ⟨e, _⟩ | ⟨b1, off1, cap1, e1, p1, p2, p3, p4⟩
 · cases e
 · cases e1
   by_cases hc : c = m
   · have hn : n - m = 0 := by omega
     rw [hn] at hl ⊢
     have hy : ys = [] := List.length_eq_zero_iff.1 (by simpa using hl)
     subst hy
     rw [if_pos hc]
     exact ⟨⟨hl, .inr ⟨b, o, c - m, rfl, by omega, by omega, p3, fun j u hj => by simp at hj⟩⟩, fun k hk => h3 k hk⟩
   · rw [if_neg hc]
     refine ⟨⟨hl, .inr ⟨b, o + m * size, c - m, rfl, by omega, by omega, p3, fun j u hj => ?_⟩⟩, fun k hk => h3 k hk⟩
     have := p4 (m * size + j) u (by rw [List.getElem?_append_right (by omega)]; rw [hx, Nat.add_sub_cancel_left]; exact hj)
     rw [← Nat.add_assoc] at this
     exact this
theorem Box.keeps {W W' : World} {sb cs : Nat} {F : Nat → Prop} {G : StG} (m : StMem W sb F G) (k : Keeps F W W') (h : Box W cs sb) : Box W' cs sb := Own.kept m k h (by decide) (by decide) (by decide)
def OrdCT (sb cs : Nat) (H : Nat → Prop) (D : Addr → Option Int) (K : List Addr) (Dx : Addr → Option Int) (N : Nat) : Prop :=
 ∀ (w : World) (F : Nat → Prop) (G : StG) (hm : StMem w sb F G) (hi : StInv w (hot H F) D K G) (hH : ∀ k, H k → k < w.heap.size) (hbx : Box w cs sb) (hf : Forest w (hot H F) Dx) (hS : ∀ p z, Dx p = some z → p ∈ K) (xs : List TV) (v : Value)
   (hr : RowF w (hot H F) 3 v xs.length (flatT xs)) (hk : ∀ t ∈ xs, knownT Dx t) (hlen : xs.length ≤ 60000) (hN : xs.length < N),
   Calls Tryz.prog 93 #[v, .func (.func 91) #[] #[.pointer (some ⟨cs, 0, none⟩)]] w fun e w' => ∃ (v' : Value) (zs : List TV) (F' : Nat → Prop) (G' : StG),
     e = .returned v' ∧ w'.ownsRow w.heap.size 62 3 v' zs.length (flatT zs) ∧ zs.Perm xs ∧ Srt (keyT Dx) zs ∧ StMem w' sb F' G' ∧ StInv w' (hot H F') D K G' ∧ Step w w' F F' ∧ Grown2 D D K K G G'
theorem Zjq {sb cs : Nat} {H : Nat → Prop} {D : Addr → Option Int} {K : List Addr} (hbig : K.length ≤ big) {Dx : Addr → Option Int} {N : Nat} (ih : OrdCT sb cs H D K Dx N) : OrdCT sb cs H D K Dx (N + 1) := by
 intro w F G hm hi hH hbx hf hS xs v hr hk hlen hN
 have hl := Za8
 obtain ⟨ax, nx, rfl⟩ := hr.1.shape
 by_cases h2 : xs.length < 2
 · have hc := Zbv _ xs.length _ w hr.1 (Zaw xs) (by omega)
   have h2' : (xs.length : Int) < 2 := by omega
   have HX := zh (zi hm (zi hi hr))
   clear hm hi hf hS hk hbx hr hH
   go_enter Tryz.func93, Tryz.ntmps93
   go_wp2_with (first
     | (go_at_call 65; refine hc.mono ?_; rintro e w1 ⟨v', rfl, ho, hb⟩))
   go_ret
   obtain ⟨hm, hi, hr⟩ := HX.out
   have s := Step.of_below F hb
   refine ⟨v', xs, F, G, rfl, ho, List.Perm.refl _, ?_, hm.below hb, hi.step (s.hot H), s, Grown2.refl _ _ _⟩
   unfold Srt
   cases xs with
   | nil => simp
   | cons a l =>
     cases l with
     | nil => simp
     | cons b l => simp only [List.length_cons] at h2; omega
 · obtain ⟨b, o, rfl⟩ : ∃ bx ox, ax = some ⟨bx, ox, none⟩ := by
     rcases hr.1.2 with ⟨e, h0⟩ | ⟨b1, off1, cap1, e1, p1, p2, p3, p4⟩
     · omega
     · cases e1; exact ⟨_, _, rfl⟩
   have hcap : xs.length ≤ nx ∧ nx ≤ maxLen := by
     rcases hr.1.2 with ⟨e, h0⟩ | ⟨b1, off1, cap1, e1, p1, p2, p3, p4⟩
     · cases e
     · cases e1; exact ⟨p1, p2⟩
   have h2' : ¬ (xs.length : Int) < 2 := by omega
   obtain ⟨md, hmd⟩ : ∃ md : Nat, md = xs.length / 2 := ⟨_, rfl⟩
   have hmdi : (xs.length : Int) / 2 = (md : Int) := by omega
   have hb1 : (0 : Int) ≤ (md : Int) := by omega
   have hb2 : (md : Int) ≤ (xs.length : Int) := by omega
   have hb3 : (md : Int) ≤ (nx : Int) := by omega
   have hb4 : (xs.length : Int) ≤ (nx : Int) := by omega
   have hne : ¬ nx = md := by omega
   have hsp : flatT xs = flatT (xs.take md) ++ flatT (xs.drop md) := by rw [← Zas, List.take_append_drop]
   have hlt : (xs.take md).length = md := by rw [List.length_take]; omega
   have hld : (xs.drop md).length = xs.length - md := by rw [List.length_drop]
   have hr2 := hr
   rw [hsp] at hr2
   have rowA := hr2.takeR (m := md) (by rw [Zd2, hlt]) (by omega)
   have rowB := hr2.dropR (m := md) (by rw [Zd2, hlt]) (by omega)
   rw [if_neg hne] at rowB
   have call1 : ∀ W, Below w.heap.size w W → Calls Tryz.prog 93 #[.slice (some ⟨b, o, none⟩) md nx, .func (.func 91) #[] #[.pointer (some ⟨cs, 0, none⟩)]] W fun e w' => ∃ (v' : Value) (zs : List TV) (F' : Nat → Prop) (G' : StG),
       e = .returned v' ∧ w'.ownsRow w.heap.size 62 3 v' zs.length (flatT zs) ∧ zs.Perm (xs.take md) ∧ Srt (keyT Dx) zs ∧ StMem w' sb F' G' ∧ StInv w' (hot H F') D K G' ∧ Step w w' F F' ∧ Grown2 D D K K G G' := by
     intro W hW
     have sW := Step.of_below F hW
     have := ih W F G (hm.below hW) (hi.step (sW.hot H)) (fun k hk => Nat.lt_of_lt_of_le (hH k hk) hW.size) (hbx.keeps hm sW.keeps) (hf.step (sW.hot H)) hS (xs.take md) (.slice (some ⟨b, o, none⟩) md nx) (by rw [hlt]; exact rowA.step (sW.hot H)) (fun t ht => hk t (List.mem_of_mem_take ht)) (by omega) (by omega)
     refine this.mono ?_
     rintro e w' ⟨v', zs, F', G', rfl, o1, p1, s1, m1, i1, st1, gg1⟩
     exact ⟨v', zs, F', G', rfl, Zah o1 hW.size, p1, s1, m1, i1, sW.trans st1, gg1⟩
   have HMD := zh (zi hmdi hmd)
   clear hmdi hmd
   have HX := zh (zi hm (zi hi (zi hH (zi hbx (zi hf (zi hS (zi hk (zi rowA (zi rowB (zi hlt hld))))))))))
   clear hm hi hf hS hk hbx hr hH hr2 hsp rowA rowB hlt hld
   go_enter Tryz.func93, Tryz.ntmps93
   go_wp2
   rw [HMD.out.1]
   first
     | go_region_held3 (fun w' => w.heap.size ≤ w'.heap.size) (first | (go_keep; done) | (simp; omega) | omega)
       (first
       | (have g2 := HR2
          go_at_call 104; refine g2.out.2.2.2.2.2.mono ?_; rintro e3 w3 ⟨v3, z3, F3, G3, rfl, o3, p3, s3, m3, i3, st3, gg3⟩
          obtain ⟨a3, k3, rfl⟩ := (RowV.of_own o3).shape
          have hs3 := Nat.le_trans hs2 st3.keeps.size)
       | (have g1 := HR1
          go_at_call 93; refine g1.out.2.2.2.2.2.mono ?_; rintro e2 w2 ⟨v2, z2, F2, G2, rfl, o2, p2, s2, m2, i2, st2, gg2⟩
          obtain ⟨a2, k2, rfl⟩ := (RowV.of_own o2).shape
          obtain ⟨hm, hi, hH, hbx, hf, hS, hk, rowA, rowB, hlt, hld⟩ := HX.out
          obtain ⟨⟨o1, m1, i1⟩, p1, s1, st1, gg1, _⟩ := g1.out
          have hs2 := Nat.le_trans st1.keeps.size st2.keeps.size
          have o12 := Zag o1 st2.keeps (m1.own o1 (by decide) (by decide))
          have r1 : RowF w2 (hot H F2) 3 (.slice a1 z1.length k1) z1.length (flatT z1) := ⟨RowV.of_own o12, fun k hk1 hh => by
            rcases hh with x | x
            · have := hH k x; have := (o1.lt k hk1).1; omega
            · exact m2.own o12 (by decide) (by decide) k hk1 x⟩
          have r2 : RowF w2 (hot H F2) 3 (.slice a2 z2.length k2) z2.length (flatT z2) := ⟨RowV.of_own o2, fun k hk1 hh => by
            rcases hh with x | x
            · have := hH k x; have := (o2.lt k hk1).1; have := st1.keeps.size; omega
            · exact m2.own o2 (by decide) (by decide) k hk1 x⟩
          have s12 := st1.trans st2
          have hl1 := p1.length_eq
          have hl2 := p2.length_eq
          have HR2 := zh (zi p2 (zi s2 (zi s12 (zi gg1 (zi gg2 (Zjp hbig m2 i2 (hbx.keeps hm s12.keeps) (hf.step (s12.hot H)) hS r1 r2 (fun t ht => hk t (List.mem_of_mem_take (p1.mem_iff.1 ht))) (fun t ht => hk t (List.mem_of_mem_drop (p2.mem_iff.1 ht))) s1 s2 (by omega)))))))
          clear o2 p2 s2 m2 i2 st2 gg2 hm hi hH hbx hf hS hk rowA rowB hlt hld o1 m1 i1 p1 s1 st1 gg1 o12 r1 r2 s12 hl1 hl2)
       | (go_at_call 93; refine (call1 _ (by first | exact (zb).drew | exact zb)).mono ?_; rintro e1 w1 ⟨v1, z1, F1, G1, rfl, o1, p1, s1, m1, i1, st1, gg1⟩
          obtain ⟨a1, k1, rfl⟩ := (RowV.of_own o1).shape
          obtain ⟨hm, hi, hH, hbx, hf, hS, hk, rowA, rowB, hlt, hld⟩ := HX.out
          have hmd2 := HMD.out.2
          have hs1 := st1.keeps.size
          have c2 := ih w1 F1 G1 m1 i1 (fun k hk => Nat.lt_of_lt_of_le (hH k hk) st1.keeps.size) (hbx.keeps hm st1.keeps) (hf.step (st1.hot H)) hS (xs.drop md) (.slice (some ⟨b, o + md * 3, none⟩) (xs.length - md) (nx - md)) (by rw [hld]; exact rowB.step (st1.hot H)) (fun t ht => hk t (List.mem_of_mem_drop ht)) (by omega) (by omega)
          have HR1 := zh (zi (zi o1 (zi m1 i1)) (zi p1 (zi s1 (zi st1 (zi gg1 c2)))))
          clear o1 p1 s1 m1 i1 st1 gg1 hm hi hH hbx hf hS hk rowA rowB hlt hld c2 hmd2))
     | fail
   go_wp2
   go_ret
   have hp1 := HR1.out.2.1
   obtain ⟨hp2, _, s12, gg1, gg2, _⟩ := HR2.out
   refine ⟨_, z3, F3, G3, rfl, Zah o3 s12.keeps.size, ?_, s3, m3, i3, s12.trans st3, (gg1.trans gg2).trans gg3⟩
   have := hp1.append hp2
   rw [List.take_append_drop] at this
   exact p3.trans this
theorem Zh1 {sb cs : Nat} {H : Nat → Prop} {D : Addr → Option Int} {K : List Addr} (hbig : K.length ≤ big) {Dx : Addr → Option Int} : ∀ N, OrdCT sb cs H D K Dx N := by
 intro N
 induction N with
 | zero => intro w F G hm hi hH hbx hf hS xs v hr hk hlen hN; omega
 | succ N ih => exact Zjq hbig ih
end
section
open Go.RowKit
def emptyG (c : Array Value) (t : TypeId) : StG :=
 { c := c, t := t, m0 := none, m1 := none, m2 := none, m3 := none, m4 := none, fp := fun _ => none, np := 0, ft := fun _ => none, nt := 0, fa := fun _ => none, na := 0, fo := fun _ => none, no := 0, fn := fun _ => none, nn := 0 }
theorem StMem.empty {w : World} {sb : Nat} {c : Array Value} {t : TypeId} (hs : w.heap[sb]? = some (.cells c t (0, 0))) (tt : t = 87 ∨ t = 102)
   (h0 : c[0]? = some (.map none)) (h1 : c[1]? = some (.map none)) (h2 : c[2]? = some (.map none)) (h3 : c[3]? = some (.map none)) (h4 : c[4]? = some (.map none)) (tab : Tab w) (pos : 0 < sb) : StMem w sb (fun k => k = sb) (emptyG c t) where
 hs := hs
 tt := tt
 i0 := h0
 i1 := h1
 i2 := h2
 i3 := h3
 i4 := h4
 mp := ⟨rfl, rfl⟩
 mt := ⟨rfl, rfl⟩
 ma := ⟨rfl, rfl⟩
 mo := ⟨rfl, rfl⟩
 mn := ⟨rfl, rfl⟩
 hF := fun k => by simp [emptyG]
 d01 := fun r h => by simp [emptyG] at h
 d02 := fun r h => by simp [emptyG] at h
 d03 := fun r h => by simp [emptyG] at h
 d04 := fun r h => by simp [emptyG] at h
 d12 := fun r h => by simp [emptyG] at h
 d13 := fun r h => by simp [emptyG] at h
 d14 := fun r h => by simp [emptyG] at h
 d23 := fun r h => by simp [emptyG] at h
 d24 := fun r h => by simp [emptyG] at h
 d34 := fun r h => by simp [emptyG] at h
 tab := tab
 pos := pos
 f0 := by omega
theorem StInv.empty (w : World) (F : Nat → Prop) (K : List Addr) (c : Array Value) (t : TypeId) : StInv w F (fun _ => none) K (emptyG c t) where
 forest := Zg3 w F
 kd := fun p z h => by simp at h
 plv := fun g v h => by simp [emptyG] at h
 pli := fun g g' v h => by simp [emptyG] at h
 pls := fun k h => by simp [emptyG] at h
 tk := fun g v h => by simp [emptyG] at h
 al := fun key v h => by simp [emptyG] at h
 la := fun p z h => by simp at h
 od := fun ij v h => by simp [emptyG] at h
 af := fun k v h => by simp [emptyG] at h
def Num (w : World) (F : Nat → Prop) (L : Nat) (s : Int) (g : Option Addr) (z : Int) : Prop := ∃ (D : Addr → Option Int) (S : List Addr), Forest w F D ∧ (∀ p y, D p = some y → p ∈ S) ∧ S.length ≤ L ∧ ValD D s g z
theorem Num.isN {w : World} {F : Nat → Prop} {L : Nat} {s : Int} {g : Option Addr} {z : Int} (h : Num w F L s g z) : IsN w F s g z := by
 obtain ⟨D, S, h1, h2, h3, h4⟩ := h
 exact ⟨D, h1, h4⟩
theorem Num.keeps {w w' : World} {F : Nat → Prop} {L : Nat} {s : Int} {g : Option Addr} {z : Int} (h : Num w F L s g z) (hk : Keeps F w w') : Num w' F L s g z := by
 obtain ⟨D, S, h1, h2, h3, h4⟩ := h
 exact ⟨D, S, h1.keeps hk, h2, h3, h4⟩
theorem Num.grow {w W : World} {F F' : Nat → Prop} {L : Nat} {s : Int} {g : Option Addr} {z : Int} (h : Num w F L s g z) (hW : w.heap.size ≤ W.heap.size) (hF : ∀ i, F' i → F i ∨ W.heap.size ≤ i) : Num w F' L s g z := by
 obtain ⟨D, S, h1, h2, h3, h4⟩ := h
 exact ⟨D, S, h1.grow hW hF, h2, h3, h4⟩
theorem Num.small (w : World) (F : Nat → Prop) {z : Int} (h : i64 z) : Num w F 0 z none z := ⟨fun _ => none, [], Zg3 w F, by simp, by simp, rfl, h⟩
theorem Num.more {w : World} {F : Nat → Prop} {L L' : Nat} {s : Int} {g : Option Addr} {z : Int} (h : Num w F L s g z) (hL : L ≤ L') : Num w F L' s g z := by
 obtain ⟨D, S, h1, h2, h3, h4⟩ := h
 exact ⟨D, S, h1, h2, by omega, h4⟩
end
section
open Go.RowKit
def cold : Nat → Prop := fun _ => False
theorem Zfm {w W : World} {c : Array Value} (hW : Below w.heap.size w W) (hc : c = #[.map none, .map none, .map none, .map none, .map none]) (tab : Tab w) (h0 : 0 < w.heap.size) :
   StMem (W.alloc (.cells c 87)) W.heap.size (fun k => k = W.heap.size) (emptyG c 87) ∧ Below w.heap.size w (W.alloc (.cells c 87)) ∧ (∀ i, hot cold (fun k => k = W.heap.size) i → cold i ∨ w.heap.size ≤ i) := by
 have hb := hW.alloc hW.size (.cells c 87)
 have hs := hW.size
 refine ⟨StMem.empty (heap_alloc_new W _) (.inl rfl) (by rw [hc]; rfl) (by rw [hc]; rfl) (by rw [hc]; rfl) (by rw [hc]; rfl) (by rw [hc]; rfl) (Zbd tab (hb.block 0 h0)) (by omega), hb, ?_⟩
 rintro i (x | x)
 · exact .inl x
 · exact .inr (by omega)
theorem Num.new {w W : World} {B : Nat → Prop} {L : Nat} {s : Int} {g : Option Addr} {z : Int} (h : Num w B L s g z) (hb : Below w.heap.size w W) {F : Nat → Prop} (hF : ∀ i, F i → B i ∨ w.heap.size ≤ i) : Num W F L s g z :=
 (h.grow (zl) hF).keeps ⟨hb.os, hb.tape, hb.output, hb.size, fun k hk _ => hb.block k hk⟩
theorem Zpg {w : World} {L L' : Nat} {s s' : Int} {g g' : Option Addr} {z z' : Int} (hx : Num w cold L s g z) (hy : Num w cold L' s' g' z') (hL : L + L' ≤ big) (tab : Tab w) (h0 : 0 < w.heap.size) :
   Calls Tryz.prog 15 #[.agg #[.int .i64 s, .pointer g], .agg #[.int .i64 s', .pointer g']] w fun x w' => x = .returned (.int .i64 (sgn (z - z'))) ∧ Below w.heap.size w w' := by
 have hb2 : Below w.heap.size w ((w.alloc (.cells #[.int .i64 s, .pointer g] 28)).alloc (.cells #[.int .i64 s', .pointer g'] 28)) := ((zb).alloc (zl) _).alloc (by simp) _
 obtain ⟨m, hb, hF⟩ := Zfm hb2 rfl tab h0
 have hz : ((w.alloc (.cells #[.int .i64 s, .pointer g] 28)).alloc (.cells #[.int .i64 s', .pointer g'] 28)).heap.size = w.heap.size + 1 + 1 := by simp
 rw [hz] at m hF
 obtain ⟨Dx, Sx, fx, kx, lx, vx⟩ := hx.new hb hF
 obtain ⟨Dy, Sy, fy, ky, ly, vy⟩ := hy.new hb hF
 have call := Ze0 (K := Sx ++ Sy) (by rw [List.length_append]; omega) (z.natAbs + 1) cold _ _ _ m (StInv.empty _ _ _ _ _) Dx Dy fx fy (fun p y h => List.mem_append_left _ (kx p y h)) (fun p y h => List.mem_append_right _ (ky p y h)) s g z s' g' z' vx vy (by omega)
 have HB := zh hb
 clear hb hb2 m hF fx kx lx vx fy ky ly vy hx hy tab
 go_enter Tryz.func15, Tryz.ntmps15
 go_wp2_with (first
   | (go_at_call 50; refine call.mono ?_; rintro x1 w1 ⟨rfl, hp⟩))
 go_ret
 refine ⟨rfl, HB.out.trans (hp.keeps.below ?_ (by simp; omega))⟩
 intro i hi
 omega
end
end Go.Proofs.YtlkmgclbckojgaaGreatDoor

