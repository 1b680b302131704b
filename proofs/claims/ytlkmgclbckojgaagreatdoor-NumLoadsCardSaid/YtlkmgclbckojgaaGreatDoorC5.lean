import Derived.Test.YtlkmgclbckojgaaGreatDoorC1
set_option linter.unusedVariables false
set_option linter.unusedSimpArgs false
set_option maxHeartbeats 4000000
set_option maxRecDepth 100000
namespace Go.Proofs.YtlkmgclbckojgaaGreatDoor
section
open Go.RowKit
theorem Zhs {l m : List Tm} {k : Nat} (h1 : k < l.length) (h2 : k < m.length) (h : cmpT l[k] m[k] = 0) : cmpL (l.drop k) (m.drop k) = cmpL (l.drop (k + 1)) (m.drop (k + 1)) := by
 rw [List.drop_eq_getElem_cons h1, List.drop_eq_getElem_cons h2, cmpL, if_neg (by simp [h])]
theorem Zjv {l m : List Tm} {k : Nat} (h1 : k < l.length) (h2 : k < m.length) (h : cmpT l[k] m[k] ≠ 0) : cmpL (l.drop k) (m.drop k) = cmpT l[k] m[k] := by
 rw [List.drop_eq_getElem_cons h1, List.drop_eq_getElem_cons h2, cmpL, if_pos h]
theorem Zht {l m : List Tm} {k : Nat} (h1 : k < l.length) (h2 : m.length ≤ k) : cmpL (l.drop k) (m.drop k) = sg l[k].1 := by
 rw [List.drop_eq_getElem_cons h1, List.drop_eq_nil_of_le h2, cmpL]
theorem Zgt {l m : List Tm} {k : Nat} (h1 : l.length ≤ k) (h2 : k < m.length) : cmpL (l.drop k) (m.drop k) = -sg m[k].1 := by
 rw [List.drop_eq_getElem_cons h2, List.drop_eq_nil_of_le h1, cmpL]
theorem Zit {l m : List Tm} {k : Nat} (h1 : l.length ≤ k) (h2 : m.length ≤ k) : cmpL (l.drop k) (m.drop k) = 0 := by
 rw [List.drop_eq_nil_of_le h2, List.drop_eq_nil_of_le h1, cmpL]
theorem Zez {sb : Nat} {H : Nat → Prop} {D : Addr → Option Int} {K : List Addr} {n : Nat} (ih : CmpC sb H D K n) {F : Nat → Prop} {w : World} {G : StG} (hm : StMem w sb F G) (hi : StInv w (hot H F) D K G)
   {Dx Dy : Addr → Option Int} (hfx : Forest w (hot H F) Dx) (hfy : Forest w (hot H F) Dy) (hSx : ∀ p z, Dx p = some z → p ∈ K) (hSy : ∀ p z, Dy p = some z → p ∈ K)
   {vx vy : Value} {ts us : List TV} {l m : List Tm} (hrx : RowF w (hot H F) 3 vx ts.length (flatT ts)) (hry : RowF w (hot H F) 3 vy us.length (flatT us)) (htx : TVals Dx ts l) (hty : TVals Dy us m)
   (hlx : ts.length ≤ 30000) (hly : us.length ≤ 30000) (hn : ∀ t ∈ l, t.2 < n) :
   Calls Tryz.prog 75 #[vx, vy, .func (.func 76) #[.pointer (some ⟨sb, 0, none⟩)] #[], .func (.func 71) #[] #[]] w (CmpPost w sb F H D K G (cmpL l m)) := by
 obtain ⟨a, cp, rfl⟩ := hrx.1.shape
 obtain ⟨b, cq, rfl⟩ := hry.1.shape
 have hn1 : (ts.length : Int) ≤ 9223372036854775807 := by omega
 have hn2 : (us.length : Int) ≤ 9223372036854775807 := by omega
 have start := CmpMem.start hm hi
 have HX := zh (zi hfx (zi hfy (zi hrx (zi hry (zi htx (zi hty hn))))))
 clear hm hi hfx hfy hrx hry htx hty hn
 go_enter Tryz.func75, Tryz.ntmps75
 go_wp2
 go_loopw [16] (fun i wr => ∃ k : Nat, k ≤ ts.length ∧ k ≤ us.length ∧ i = .int .i64 k ∧ CmpMem w sb F H D K G wr ∧ cmpL l m = cmpL (l.drop k) (m.drop k)) (fun i _ => ts.length - (intOf i).toNat)
 case atStart => exact ⟨0, by omega, by omega, rfl, start, by simp⟩
 case round =>
   obtain ⟨k, hk1, hk2, rfl, hmem, hcl⟩ := hrel
   obtain ⟨hfx, hfy, hrx, hry, htx, hty, hn⟩ := HX.out
   obtain ⟨F', G', m', i', st', gg'⟩ := hmem
   have hx0 := htx.len
   have hy0 := hty.len
   have rx := hrx.step (st'.hot H)
   have ry := hry.step (st'.hot H)
   by_cases hlt : k < ts.length ∧ k < us.length
   · obtain ⟨hl1, hl2⟩ := hlt
     have hc : (k : Int) < min (ts.length : Int) us.length := by omega
     rcases rx.1.2 with ⟨_, e⟩ | ⟨b1, off1, cap1, e1, p1, p2, p3, p4⟩
     · omega
     rcases ry.1.2 with ⟨_, e⟩ | ⟨b2, off2, cap2, e2, q1, q2, q3, q4⟩
     · omega
     simp only [Value.slice.injEq, true_and] at e1 e2
     obtain ⟨rfl, rfl⟩ := e1
     obtain ⟨rfl, rfl⟩ := e2
     obtain ⟨x1, x2, x3⟩ := RowC.term p4 k hl1
     obtain ⟨y1, y2, y3⟩ := RowC.term q4 k hl2
     have hgx := htx.get k hl1 (by omega)
     have hgy := hty.get k hl2 (by omega)
     have hnk := hn _ (List.getElem_mem (l := l) (n := k) (by omega))
     have hz0 := Zhs (l := l) (m := m) (k := k) (by omega) (by omega)
     have hz1 := Zjv (l := l) (m := m) (k := k) (by omega) (by omega)
     generalize l[k]'(by omega) = lk at *
     generalize m[k]'(by omega) = mk at *
     generalize ts[k] = tk at *
     generalize us[k] = uk at *
     obtain ⟨t1, t2, t3⟩ := tk
     obtain ⟨u1, u2, u3⟩ := uk
     obtain ⟨l1, l2⟩ := lk
     obtain ⟨m1, m2⟩ := mk
     simp only at x1 x2 x3 y1 y2 y3 hgx hgy hnk
     obtain ⟨rfl, vx⟩ := hgx
     obtain ⟨rfl, vy⟩ := hgy
     have call : ∀ W, Below wr.heap.size wr W → Calls Tryz.prog 76 #[.pointer (some ⟨sb, 0, none⟩), .agg #[.bool t1, .int .i64 t2, .pointer t3], .agg #[.bool u1, .int .i64 u2, .pointer u3]] W fun e w' =>
         ∃ v, e = .returned (.int .i64 v) ∧ v = cmpT (t1, l2) (u1, m2) ∧ CmpMem w sb F H D K G w' := by
       intro W hW
       have sW := Step.of_below F' hW
       have sA := st'.trans sW
       refine (Zhr ih (m'.below hW) (i'.step (sW.hot H)) (hfx.step (sA.hot H)) (hfy.step (sA.hot H)) hSx hSy t1 u1 t2 u2 t3 u3 l2 m2 vx vy hnk).mono ?_
       rintro e w' ⟨rfl, F2, G2, m2, i2, st2, gg2⟩
       exact ⟨_, rfl, rfl, F2, G2, m2, i2, sA.trans st2, gg'.trans gg2⟩
     have HH := zh (zi hx0 (zi hy0 (zi hz0 hz1)))
     clear hx0 hy0 hz0 hz1 hfx hfy hrx hry htx hty hn rx ry m' i' st' gg' vx vy hnk HX ih hSx hSy
     by_cases hz : cmpT (t1, l2) (u1, m2) = 0
     all_goals (
       go_wp2
       first
         | go_region_with (first
           | (go_at_call 76; refine (call _ (zb).drew).mono ?_; rintro e w2 ⟨v, rfl, hv, hmem2⟩; subst hv))
         | fail
       all_goals go_wp2)
     all_goals first
       | (refine ⟨⟨k + 1, by omega, by omega, by go_num, hmem2, ?_⟩, by simp [intOf]; omega⟩
          rw [hcl]
          exact HH.out.2.2.1 hz)
       | (refine bodyPost_ret (v := .int .i64 (cmpT (t1, l2) (u1, m2))) (by simp [results, Tryz.results75, go_sem]) rfl ?_
          refine ⟨?_, hmem2⟩
          rw [hcl, HH.out.2.2.2 hz])
   · have start := CmpMem.start m' i'
     have memT : ∀ W, CmpMem wr sb F' H D K G' W → CmpMem w sb F H D K G W := fun W ⟨F2, G2, m2, i2, st2, gg2⟩ => ⟨F2, G2, m2, i2, st'.trans st2, gg'.trans gg2⟩
     have hc : ¬ (k : Int) < min (ts.length : Int) us.length := by omega
     rcases Nat.lt_trichotomy ts.length us.length with h | h | h
     · have hk : k = ts.length := by omega
       subst hk
       rcases ry.1.2 with ⟨_, e⟩ | ⟨b2, off2, cap2, e2, q1, q2, q3, q4⟩
       · omega
       simp only [Value.slice.injEq, true_and] at e2
       obtain ⟨rfl, rfl⟩ := e2
       obtain ⟨y1, y2, y3⟩ := RowC.term q4 ts.length h
       have hgy := hty.get ts.length h (by omega)
       have hz := Zgt (l := l) (m := m) (k := ts.length) (by omega) (by omega)
       rw [hz] at hcl
       generalize m[ts.length]'(by omega) = mk at *
       generalize us[ts.length] = uk at *
       obtain ⟨u1, u2, u3⟩ := uk
       obtain ⟨m1, m2⟩ := mk
       simp only at y1 y2 y3 hgy
       obtain ⟨rfl, vy⟩ := hgy
       clear hfx hfy hrx hry htx hty hn rx ry m' i' st' gg' vy HX ih hSx hSy hx0 hy0
       go_wp2_with (first
         | (go_at_call 71; refine (Zbk _ _ _ _).mono ?_; rintro e w1 ⟨rfl, hb1⟩))
       have hsg : wrap64 (-sg u1) = -sg u1 := by unfold wrap64 sg; split <;> omega
       refine bodyPost_ret (v := .int .i64 (-sg u1)) (by simp [results, Tryz.results75, go_sem, hsg]) rfl ?_
       exact ⟨by rw [hcl], memT _ (start.below hb1)⟩
     · have hk : k = ts.length := by omega
       subst hk
       have hz := Zit (l := l) (m := m) (k := ts.length) (by omega) (by omega)
       rw [hz] at hcl
       clear hfx hfy hrx hry htx hty hn rx ry m' i' st' gg' HX ih hSx hSy hx0 hy0
       go_wp2
       refine bodyPost_ret (v := .int .i64 0) (by simp [results, Tryz.results75, go_sem]) rfl ?_
       exact ⟨by first | rfl | rw [hcl], memT _ start⟩
     · have hk : k = us.length := by omega
       subst hk
       rcases rx.1.2 with ⟨_, e⟩ | ⟨b2, off2, cap2, e2, q1, q2, q3, q4⟩
       · omega
       simp only [Value.slice.injEq, true_and] at e2
       obtain ⟨rfl, rfl⟩ := e2
       obtain ⟨y1, y2, y3⟩ := RowC.term q4 us.length h
       have hgy := htx.get us.length h (by omega)
       have hz := Zht (l := l) (m := m) (k := us.length) (by omega) (by omega)
       rw [hz] at hcl
       generalize l[us.length]'(by omega) = mk at *
       generalize ts[us.length] = uk at *
       obtain ⟨u1, u2, u3⟩ := uk
       obtain ⟨m1, m2⟩ := mk
       simp only at y1 y2 y3 hgy
       obtain ⟨rfl, vy⟩ := hgy
       clear hfx hfy hrx hry htx hty hn rx ry m' i' st' gg' vy HX ih hSx hSy hx0 hy0
       go_wp2_with (first
         | (go_at_call 71; refine (Zbk _ _ _ _).mono ?_; rintro e w1 ⟨rfl, hb1⟩))
       refine bodyPost_ret (v := .int .i64 (sg u1)) (by simp [results, Tryz.results75, go_sem]) rfl ?_
       exact ⟨by rw [hcl], memT _ (start.below hb1)⟩
end
section
open Go.RowKit
theorem StInv.order {w : World} {F : Nat → Prop} {D : Addr → Option Int} {K : List Addr} {G : StG} (h : StInv w F D K G) {p q : Addr} {zp zq k1 k2 : Int} (hp : GreatV w F p zp) (hq : GreatV w F q zq)
   (h1 : G.fp (some p) = some (.int .i64 k1)) (h2 : G.fp (some q) = some (.int .i64 k2)) (c : Array Value) (m : Option Nat) (n : Nat) :
   StInv w F D K { G with c := c, m3 := m, fo := upd G.fo (k1, k2) (.int .i64 (sgn (zp - zq))), no := n } := by
 refine { h with od := ?_ }
 intro ij v hv
 simp only [upd] at hv
 split at hv
 · rename_i e
   subst e
   exact ⟨p, q, zp, zq, h1, h2, hp, hq, (Option.some.inj hv).symm⟩
 · exact h.od ij v hv
def MemQ (w : World) (sb : Nat) (F H : Nat → Prop) (D : Addr → Option Int) (K : List Addr) (G : StG) (Q : StG → Prop) (W : World) : Prop :=
 ∃ (F' : Nat → Prop) (G' : StG), StMem W sb F' G' ∧ StInv W (hot H F') D K G' ∧ Step w W F F' ∧ Grown2 D D K K G G' ∧ Q G'
def Own (W : World) (x : Nat) : Prop := ∃ c t fr, W.heap[x]? = some (.cells c t fr) ∧ t ≠ 87 ∧ t ≠ 102 ∧ t ≠ 113
theorem StMem.notF {w : World} {sb : Nat} {F : Nat → Prop} {G : StG} (h : StMem w sb F G) {x : Nat} (hx : Own w x) : ¬ F x := by
 obtain ⟨c, t, fr, hh, h1, h2, _⟩ := hx
 intro hF
 have hmap : ∀ (m : Option Nat), (∀ r, m = some r → ∃ es cl, w.heap[r]? = some (.map es cl)) → m ≠ some x := by
   intro m hm e
   obtain ⟨es, cl, y⟩ := hm x e
   rw [hh] at y; cases y
 rcases (h.hF x).1 hF with rfl | y | y | y | y | y
 · have := h.hs.symm.trans hh
   simp only [Option.some.injEq, Obj.cells.injEq] at this
   rcases h.tt with y | y
   · exact h1 (this.2.1.symm.trans y)
   · exact h2 (this.2.1.symm.trans y)
 · exact hmap _ h.mp.map' y
 · exact hmap _ h.mt.map' y
 · exact hmap _ h.ma.map' y
 · exact hmap _ h.mo.map' y
 · exact hmap _ h.mn.map' y
section
variable {w : World} {sb : Nat} {F H : Nat → Prop} {D : Addr → Option Int} {K : List Addr} {G : StG} {Q : StG → Prop} {W W' : World}
theorem MemQ.start (hm : StMem w sb F G) (hi : StInv w (hot H F) D K G) (hq : Q G) : MemQ w sb F H D K G Q w := ⟨F, G, hm, hi, Step.refl _ _, Grown2.refl _ _ _, hq⟩
theorem MemQ.below (h : MemQ w sb F H D K G Q W) (hb : Below W.heap.size W W') : MemQ w sb F H D K G Q W' := by
 obtain ⟨F', G', m', i', st', gg', q'⟩ := h
 have s' := Step.of_below F' hb
 exact ⟨F', G', m'.below hb, i'.step (s'.hot H), st'.trans s', gg', q'⟩
theorem MemQ.alloc (h : MemQ w sb F H D K G Q W) (o : Obj) : MemQ w sb F H D K G Q (W.alloc o) := h.below ((zb).alloc (zl) _)
theorem MemQ.drew (h : MemQ w sb F H D K G Q W) : MemQ w sb F H D K G Q W.drew := h.below ((zb).drew)
theorem MemQ.set (h : MemQ w sb F H D K G Q W) {x : Nat} (i : Nat) (v : Value) (h0 : 0 < x) (hx : w.heap.size ≤ x) (hH : H x) (ho : Own W x) : MemQ w sb F H D K G Q (W.setCell ⟨x, i, none⟩ v) := by
 obtain ⟨F', G', m', i', st', gg', q'⟩ := h
 refine ⟨F', G', m'.set v (m'.notF ho) h0 ?_, i'.keeps (Zal v (.inl hH)), ⟨Zav st'.keeps v hx, st'.grow, st'.mono⟩, gg', q'⟩
 intro c t fr hh
 obtain ⟨c', t', fr', hh', _, _, h3⟩ := ho
 rw [hh'] at hh
 cases hh
 exact h3
end
theorem Own.of {W : World} {x : Nat} {c : Array Value} {t : TypeId} {fr : Nat × Nat} (h : W.heap[x]? = some (.cells c t fr)) (h1 : t ≠ 87) (h2 : t ≠ 102) (h3 : t ≠ 113) : Own W x := ⟨c, t, fr, h, h1, h2, h3⟩
theorem Own.lt {W : World} {x : Nat} (h : Own W x) : x < W.heap.size := by
 obtain ⟨c, t, fr, hh, _⟩ := h
 rcases Nat.lt_or_ge x W.heap.size with y | y
 · exact y
 · simp [Array.getElem?_eq_none y] at hh
theorem Own.kept {W W' : World} {sb : Nat} {F : Nat → Prop} {G : StG} (m : StMem W sb F G) (k : Keeps F W W') {x : Nat} {c : Array Value} {t : TypeId} {fr : Nat × Nat} (h : W.heap[x]? = some (.cells c t fr))
   (h1 : t ≠ 87) (h2 : t ≠ 102) (h3 : t ≠ 113) : W'.heap[x]? = some (.cells c t fr) :=
 (k.block x (Own.of h h1 h2 h3).lt (m.notF (Own.of h h1 h2 h3))).trans h
def Others (W W' : World) : Prop := ∀ (x : Nat) (c : Array Value) (t : TypeId) (fr : Nat × Nat), W.heap[x]? = some (.cells c t fr) → t ≠ 87 → t ≠ 102 → t ≠ 113 → W'.heap[x]? = some (.cells c t fr)
theorem placeQ {w : World} {sb : Nat} {F H : Nat → Prop} {D : Addr → Option Int} {K : List Addr} {G : StG} {Q : StG → Prop} (hbig : K.length ≤ big) {p : Addr} {z : Int} (hp : GreatV w (hot H F) p z) (hK : p ∈ K)
   (hQ : ∀ G1 G2, Q G1 → Grown2 D D K K G1 G2 → Q G2) (W : World) (h : MemQ w sb F H D K G Q W) :
   Calls Tryz.prog 74 #[.pointer (some ⟨sb, 0, none⟩), .pointer (some p)] W fun e W' => ∃ k : Int, e = .returned (.int .i64 k) ∧ MemQ w sb F H D K G (fun G' => Q G' ∧ G'.fp (some p) = some (.int .i64 k)) W' ∧ Others W W' ∧ W.heap.size ≤ W'.heap.size := by
 obtain ⟨F1, G1, m1, i1, st1, gg1, q1⟩ := h
 refine (Zev H m1 i1 (hp.step (st1.hot H)) hK hbig).mono ?_
 rintro e w2 ⟨k, F2, G2, rfl, _, _, hfp, m2, i2, st2, gg2, _⟩
 exact ⟨k, rfl, ⟨F2, G2, m2, i2, st1.trans st2, gg1.trans gg2, hQ _ _ q1 gg2, hfp⟩, fun x c t fr hx h1 h2 h3 => Own.kept m1 st2.keeps hx h1 h2 h3, st2.keeps.size⟩
end
section
open Go.RowKit
theorem Zh4 {w : World} {g : Option Addr} (A B : Obj) (h : PtrOk w g) : PtrOk ((w.alloc A).alloc B) g := h.keep (((Below.refl w.heap.size w).alloc (zl) A).alloc (by simp) B).block
theorem Zgu (w : World) (A B : Obj) (g g' : Option Addr) (h : PtrOk w g) (h' : PtrOk w g') : (Op.equalIn 9999 26 (.pointer g) (.pointer g')).run Tryz.prog ((w.alloc A).alloc B) = .ok (g == g') ((w.alloc A).alloc B) :=
 Zf3 _ 9998 g g' (Zh4 A B h) (Zh4 A B h')
theorem Zjw (sb : Nat) (s : Int) (g : Option Addr) (w : World) (h : PtrOk w g) :
   Calls Tryz.prog 50 #[.pointer (some ⟨sb, 0, none⟩), .agg #[.int .i64 s, .pointer g], .agg #[.int .i64 s, .pointer g]] w fun e w' => e = .returned (.int .i64 0) ∧ Below w.heap.size w w' := by
 have hq := Zgu w (.cells #[.int .i64 s, .pointer g] 28) (.cells #[.int .i64 s, .pointer g] 28) g g h h
 rw [show (g == g) = true by simp] at hq
 go_enter Tryz.func50, Tryz.ntmps50
 go_wp2
 go_ret
 exact ⟨rfl, ((zb).alloc (zl) _).alloc (by simp) _⟩
theorem Ziu (sb : Nat) (s s' : Int) (w : World) (hne : s ≠ s') :
   Calls Tryz.prog 50 #[.pointer (some ⟨sb, 0, none⟩), .agg #[.int .i64 s, .pointer none], .agg #[.int .i64 s', .pointer none]] w fun e w' => e = .returned (.int .i64 (sgn (s - s'))) ∧ Below w.heap.size w w' := by
 have hq := Zgu w (.cells #[.int .i64 s, .pointer none] 28) (.cells #[.int .i64 s', .pointer none] 28) none none (.inl rfl) (.inl rfl)
 have h1 : ¬ s = s' := hne
 go_enter Tryz.func50, Tryz.ntmps50
 go_wp2_with (go_at_call 73; refine (Zi8 _ _ _).mono ?_; rintro e w1 ⟨rfl, rfl⟩)
 go_ret
 exact ⟨rfl, ((zb).alloc (zl) _).alloc (by simp) _⟩
theorem Zjx (sb : Nat) {F : Nat → Prop} (s s' : Int) (q : Addr) (z' : Int) (w : World) (hy : IsN w F s' (some q) z') (hp : PtrOk w (some q)) :
   Calls Tryz.prog 50 #[.pointer (some ⟨sb, 0, none⟩), .agg #[.int .i64 s, .pointer none], .agg #[.int .i64 s', .pointer (some q)]] w fun e w' => e = .returned (.int .i64 (-sgn z')) ∧ Below w.heap.size w w' := by
 have hq := Zgu w (.cells #[.int .i64 s, .pointer none] 28) (.cells #[.int .i64 s', .pointer (some q)] 28) none (some q) (.inl rfl) hp
 rw [show ((none : Option Addr) == some q) = false by rfl] at hq
 have hb : Below w.heap.size w ((w.alloc (.cells #[.int .i64 s, .pointer none] 28)).alloc (.cells #[.int .i64 s', .pointer (some q)] 28)) := ((zb).alloc (zl) _).alloc (by simp) _
 have HY := zh (hy.keeps (.of_below hb (zl)))
 have hsg : wrap64 (-sgn z') = -sgn z' := by unfold wrap64 sgn; split <;> (try split) <;> omega
 clear hy hb
 go_enter Tryz.func50, Tryz.ntmps50
 go_wp2_with (go_at_call 34; refine (Zcn _ _ _ _ HY.out).mono ?_; rintro e w1 ⟨rfl, hb1⟩)
 go_ret
 exact ⟨congrArg (fun x => Ending.returned (Value.int IntKind.i64 x)) hsg, (((zb).alloc (zl) _).alloc (by simp) _).trans (hb1.mono (by simp; omega))⟩
theorem Ziv (sb : Nat) {F : Nat → Prop} (s s' : Int) (q : Addr) (z' : Int) (w : World) (hy : IsN w F s (some q) z') (hp : PtrOk w (some q)) :
   Calls Tryz.prog 50 #[.pointer (some ⟨sb, 0, none⟩), .agg #[.int .i64 s, .pointer (some q)], .agg #[.int .i64 s', .pointer none]] w fun e w' => e = .returned (.int .i64 (sgn z')) ∧ Below w.heap.size w w' := by
 have hq := Zgu w (.cells #[.int .i64 s, .pointer (some q)] 28) (.cells #[.int .i64 s', .pointer none] 28) (some q) none hp (.inl rfl)
 rw [show (some q == (none : Option Addr)) = false by rfl] at hq
 have hb : Below w.heap.size w ((w.alloc (.cells #[.int .i64 s, .pointer (some q)] 28)).alloc (.cells #[.int .i64 s', .pointer none] 28)) := ((zb).alloc (zl) _).alloc (by simp) _
 have HY := zh (hy.keeps (.of_below hb (zl)))
 clear hy hb
 go_enter Tryz.func50, Tryz.ntmps50
 go_wp2_with (go_at_call 34; refine (Zcn _ _ _ _ HY.out).mono ?_; rintro e w1 ⟨rfl, hb1⟩)
 go_ret
 exact ⟨rfl, (((zb).alloc (zl) _).alloc (by simp) _).trans (hb1.mono (by simp; omega))⟩
end
section
open Go.RowKit
theorem Zcy {w : World} {F H : Nat → Prop} : ∀ i, hot (fun k => H k ∨ w.heap.size ≤ k) F i → hot H F i ∨ w.heap.size ≤ i := by
 rintro i ((x | x) | x)
 · exact .inl (.inl x)
 · exact .inr x
 · exact .inl (.inr x)
theorem Zpr {W : World} {m : Nat} {o : Obj} (h : W.heap.size = m) : (W.alloc o).heap[m]? = some o := by subst h; exact heap_alloc_new W o
theorem Ziw {W : World} {m : Nat} {o : Obj} (h : W.heap.size = m) : (W.alloc o).drew.heap[m]? = some o := by subst h; exact heap_alloc_new W o
theorem Zck {W : World} {x : Nat} {a b : Value} {t : TypeId} (h : W.heap[x]? = some (.cells #[a, b] t (0, 0))) :
   W.cell? ⟨x, 0, none⟩ = some a ∧ W.cell? ⟨x, 1, none⟩ = some b ∧ W.frozen? ⟨x, 0, none⟩ = false ∧ W.frozen? ⟨x, 1, none⟩ = false := by
 refine ⟨?_, ?_, ?_, ?_⟩ <;> simp [World.cell?, World.frozen?, h]
def CmpR (w : World) (sb : Nat) (F H : Nat → Prop) (D : Addr → Option Int) (K : List Addr) (G : StG) (p q : Addr) (Q : StG → Prop) (W : World) : Prop :=
 MemQ w sb F H D K G Q W ∧ W.heap[w.heap.size]? = some (.cells #[.int .i64 0, .pointer (some p)] 28) ∧ W.heap[w.heap.size + 1]? = some (.cells #[.int .i64 0, .pointer (some q)] 28) ∧ w.heap.size + 1 < W.heap.size
section
variable {w : World} {sb : Nat} {F H : Nat → Prop} {D : Addr → Option Int} {K : List Addr} {G : StG} {p q : Addr} {Q : StG → Prop} {W W' : World}
theorem CmpR.alloc (h : CmpR w sb F H D K G p q Q W) (o : Obj) : CmpR w sb F H D K G p q Q (W.alloc o) :=
 ⟨h.1.alloc o, (Below.heap_alloc _ _ _ (by have := h.2.2.2; omega)).trans h.2.1, (Below.heap_alloc _ _ _ h.2.2.2).trans h.2.2.1, by have := h.2.2.2; simp; omega⟩
theorem CmpR.drew (h : CmpR w sb F H D K G p q Q W) : CmpR w sb F H D K G p q Q W.drew := ⟨h.1.drew, h.2.1, h.2.2.1, h.2.2.2⟩
theorem CmpR.start (hm : StMem w sb F G) (hi : StInv w (hot H F) D K G) (hq : Q G) : CmpR w sb F H D K G p q Q ((w.alloc (.cells #[.int .i64 0, .pointer (some p)] 28)).alloc (.cells #[.int .i64 0, .pointer (some q)] 28)) := by
 obtain ⟨a, b⟩ := Za0 w (.cells #[.int .i64 0, .pointer (some p)] 28) (.cells #[.int .i64 0, .pointer (some q)] 28)
 exact ⟨((MemQ.start hm hi hq).alloc _).alloc _, a, b, by simp⟩
theorem CmpR.cells (h : CmpR w sb F H D K G p q Q W) : W.cell? ⟨w.heap.size, 1, none⟩ = some (.pointer (some p)) ∧ W.cell? ⟨w.heap.size + 1, 1, none⟩ = some (.pointer (some q)) := ⟨(Zab h.2.1).2, (Zab h.2.2.1).2⟩
theorem CmpR.set2 (h : CmpR w sb F H D K G p q Q W) {x : Nat} {a b u v : Value} (hx : w.heap.size + 1 < x) (hH : H x) (hp : W.heap[x]? = some (.cells #[a, b] 118 (0, 0))) :
   CmpR w sb F H D K G p q Q ((W.setCell ⟨x, 0, none⟩ u).setCell ⟨x, 1, none⟩ v) ∧ ((W.setCell ⟨x, 0, none⟩ u).setCell ⟨x, 1, none⟩ v).heap[x]? = some (.cells #[u, v] 118 (0, 0)) := by
 have e1 := Zbz (i := 0) u hp
 have e2 := Zbz (i := 1) v e1
 have ne : ∀ k, k ≠ x → ((W.setCell ⟨x, 0, none⟩ u).setCell ⟨x, 1, none⟩ v).heap[k]? = W.heap[k]? := fun k hk => (Below.heap_setCell _ _ _ _ hk).trans (Below.heap_setCell _ _ _ _ hk)
 refine ⟨⟨(h.1.set 0 u (by omega) (by omega) hH (Own.of hp (by decide) (by decide) (by decide))).set 1 v (by omega) (by omega) hH (Own.of e1 (by decide) (by decide) (by decide)), (ne _ (by omega)).trans h.2.1, (ne _ (by omega)).trans h.2.2.1, ?_⟩, ?_⟩
 · have := h.2.2.2
   simpa [World.setCell] using this
 · rw [e2]; rfl
theorem placeR (hbig : K.length ≤ big) {r : Addr} {z : Int} (hp : GreatV w (hot H F) r z) (hK : r ∈ K)
   (hQ : ∀ G1 G2, Q G1 → Grown2 D D K K G1 G2 → Q G2) (W : World) (h : CmpR w sb F H D K G p q Q W) :
   Calls Tryz.prog 74 #[.pointer (some ⟨sb, 0, none⟩), .pointer (some r)] W fun e W' => ∃ k : Int, e = .returned (.int .i64 k) ∧ CmpR w sb F H D K G p q (fun G' => Q G' ∧ G'.fp (some r) = some (.int .i64 k)) W' ∧ Others W W' ∧ W.heap.size ≤ W'.heap.size := by
 refine (placeQ hbig hp hK hQ W h.1).mono ?_
 rintro e W' ⟨k, rfl, m, o, s⟩
 exact ⟨k, rfl, ⟨m, o _ _ _ _ h.2.1 (by decide) (by decide) (by decide), o _ _ _ _ h.2.2.1 (by decide) (by decide) (by decide), Nat.lt_of_lt_of_le h.2.2.2 s⟩, o, s⟩
end
theorem Zix {K : Act → World → Prop} {Q : Exit → Act → World → Prop} {e : Exit} {a : Act} {W : World} (T : World → Prop) (h : T W) (k : ∀ W, T W → Exit.then K Q e a W) : Exit.then K Q e a W := k W h
theorem Ziy {sb : Nat} {H : Nat → Prop} {D : Addr → Option Int} {K : List Addr} (hbig : K.length ≤ big) {n : Nat} (ih : ∀ H, CmpC sb H D K n)
   {w : World} {F : Nat → Prop} {G : StG} (hm : StMem w sb F G) (hi : StInv w (hot H F) D K G) (Dx Dy : Addr → Option Int) (hfx : Forest w (hot H F) Dx) (hfy : Forest w (hot H F) Dy)
   (hSx : ∀ p z, Dx p = some z → p ∈ K) (hSy : ∀ p z, Dy p = some z → p ∈ K) (p q : Addr) (hpq : p ≠ q) (z z' : Int) (hx : Dx p = some z) (hy : Dy q = some z') (hn : z.natAbs < n + 1) :
   Calls Tryz.prog 50 #[.pointer (some ⟨sb, 0, none⟩), .agg #[.int .i64 0, .pointer (some p)], .agg #[.int .i64 0, .pointer (some q)]] w (CmpPost w sb F H D K G (sgn (z - z'))) := by
 have hpp := ValD.ptr (s := 0) (g := some p) hfx ⟨rfl, hx⟩
 have hpq' := ValD.ptr (s := 0) (g := some q) hfy ⟨rfl, hy⟩
 have hq := Zgu w (.cells #[.int .i64 0, .pointer (some p)] 28) (.cells #[.int .i64 0, .pointer (some q)] 28) (some p) (some q) hpp hpq'
 rw [show (some p == some q) = false by simp [hpq]] at hq
 obtain ⟨H1, hH1⟩ : ∃ H1 : Nat → Prop, H1 = fun k => H k ∨ w.heap.size ≤ k := ⟨_, rfl⟩
 have hg : ∀ i, hot H1 F i → hot H F i ∨ w.heap.size ≤ i := by rw [hH1]; exact Zcy
 have i1 := hi.grow (zl) hg
 have fx1 := hfx.grow (zl) hg
 have fy1 := hfy.grow (zl) hg
 have hP : GreatV w (hot H1 F) p z := ⟨Dx, fx1, hx⟩
 have hQ : GreatV w (hot H1 F) q z' := ⟨Dy, fy1, hy⟩
 have M0 := CmpR.start (p := p) (q := q) (Q := fun _ => True) hm i1 trivial
 have callP := placeR (Q := fun _ => True) (w := w) (sb := sb) (F := F) (H := H1) (D := D) (G := G) (p := p) (q := q) hbig hP (hSx _ _ hx) (fun _ _ _ _ => trivial)
 have callQ := fun (k1 : Int) => placeR (Q := fun G' => True ∧ G'.fp (some p) = some (.int .i64 k1)) (w := w) (sb := sb) (F := F) (H := H1) (D := D) (G := G) (p := p) (q := q) hbig hQ (hSy _ _ hy) (fun _ _ h g => ⟨trivial, g.p _ _ h.2⟩)
 have HX := zh (zi hm (zi hi (zi hfx (zi hfy (zi hSx (zi hSy (zi hx (zi hy (zi hn hH1)))))))))
 obtain ⟨c01, c11⟩ := M0.cells
 have HM := zh M0
 clear hm hi hfx hfy hSx hSy hx hy hn M0 hH1 hg i1 fx1 fy1 hP hQ hpp hpq'
 have ne0 : w.heap.size + 1 + 1 ≠ w.heap.size := by omega
 have ne1 : w.heap.size + 1 + 1 ≠ w.heap.size + 1 := by omega
 have ne2 : w.heap.size ≠ w.heap.size + 1 + 1 := by omega
 have ne3 : w.heap.size + 1 ≠ w.heap.size + 1 + 1 := by omega
 go_enter Tryz.func50, Tryz.ntmps50
 go_wp2
 first
   | go_region_held3 (fun w' => w'.cell? ⟨w.heap.size, 1, none⟩ = some (.pointer (some p)) ∧ w'.cell? ⟨w.heap.size + 1, 1, none⟩ = some (.pointer (some q))) (first | (go_keep; done) | ((try dsimp only); refine ⟨?_, ?_⟩ <;> (go_keep; done)))
     (first
     | (have HMP2 := HMP
        go_at_call 74; refine (callQ _ _ (by have M1 := HMP2.out; repeat (first | with_reducible exact M1 | with_reducible refine CmpR.alloc ?_ _ | with_reducible refine CmpR.drew ?_))).mono ?_; rintro e wQ ⟨k2, rfl, MQ, OQ, SQ⟩
        obtain ⟨e01, e11⟩ := MQ.cells
        have en0 := World.new_ne wQ _ e01
        have en1 := World.new_ne wQ _ e11
        have HMQ := zh MQ
        first
          | (have hp00 := hp0
             have hp1 := OQ (w.heap.size + 1 + 1) (#[.int .i64 0, .int .i64 0]) 118 (0, 0) hp00 (by decide) (by decide) (by decide)
             obtain ⟨q1, q2, q3, q4⟩ := Zck hp1)
          | (have hp1 := OQ wP.heap.size (#[.int .i64 0, .int .i64 0]) 118 (0, 0) (by with_reducible exact Zpr rfl) (by decide) (by decide) (by decide)
             obtain ⟨q1, q2, q3, q4⟩ := Zck hp1)
          | skip
        clear MQ OQ)
     | (go_at_call 74; refine (callP _ (by have M0 := HM.out; repeat (first | with_reducible exact M0 | with_reducible refine CmpR.alloc ?_ _ | with_reducible refine CmpR.drew ?_))).mono ?_; rintro e wP ⟨k1, rfl, MP, OP, SP⟩
        obtain ⟨d01, d11⟩ := MP.cells
        have dn0 := World.new_ne wP _ d01
        have dn1 := World.new_ne wP _ d11
        have HMP := zh MP
        try have hp0 := OP (w.heap.size + 1 + 1) (#[.int .i64 0, .int .i64 0]) 118 (0, 0) (by with_reducible refine Ziw ?_; simp) (by decide) (by decide) (by decide)
        clear MP OP))
   | fail
 all_goals
   have hH1 := HX.out.2.2.2.2.2.2.2.2.2
   first
     | (have hp00 := hp0
        have T := HMQ.out.set2 (x := w.heap.size + 1 + 1) (u := .int .i64 k1) (v := .int .i64 k2) (by omega) (by rw [hH1]; exact .inr (by omega)) hp1
        refine Zix (fun W => CmpR w sb F H1 D K G p q (fun G' => (True ∧ G'.fp (some p) = some (.int .i64 k1)) ∧ G'.fp (some q) = some (.int .i64 k2)) W ∧ W.heap[w.heap.size + 1 + 1]? = some (.cells #[.int .i64 k1, .int .i64 k2] 118 (0, 0))) T ?_
        have hX : w.heap.size + 1 < w.heap.size + 1 + 1 := by omega
        generalize w.heap.size + 1 + 1 = X at hX ⊢)
     | (have hp00 := hp1
        have hX : w.heap.size + 1 < wP.heap.size := HMP.out.2.2.2
        have T := HMQ.out.set2 (x := wP.heap.size) (u := .int .i64 k1) (v := .int .i64 k2) hX (by rw [hH1]; exact .inr (by omega)) hp1
        refine Zix (fun W => CmpR w sb F H1 D K G p q (fun G' => (True ∧ G'.fp (some p) = some (.int .i64 k1)) ∧ G'.fp (some q) = some (.int .i64 k2)) W ∧ W.heap[wP.heap.size]? = some (.cells #[.int .i64 k1, .int .i64 k2] 118 (0, 0))) T ?_
        generalize wP.heap.size = X at hX ⊢)
     | (have hX : w.heap.size + 1 < wQ.heap.size := HMQ.out.2.2.2
        refine Zix (fun W => CmpR w sb F H1 D K G p q (fun G' => (True ∧ G'.fp (some p) = some (.int .i64 k1)) ∧ G'.fp (some q) = some (.int .i64 k2)) W ∧ W.heap[wQ.heap.size]? = some (.cells #[.int .i64 k1, .int .i64 k2] 118 (0, 0))) ⟨HMQ.out.alloc _, heap_alloc_new wQ _⟩ ?_
        generalize wQ.heap.size = X at hX ⊢)
 all_goals
   clear HMP HMQ HM hq callP callQ
   intro W hW
   obtain ⟨⟨⟨F3, G3, m3, i3, st3, gg3, ⟨⟨_, hfp⟩, hfq⟩⟩, hA, hB, hz⟩, hpair⟩ := hW
   obtain ⟨hm, hi, hfx, hfy, hSx, hSy, hx, hy, hn, hH1⟩ := HX.out
 all_goals
   have hg : ∀ i, hot H1 F i → hot H F i ∨ w.heap.size ≤ i := by rw [hH1]; exact Zcy
   have hsh : ∀ i, hot H F3 i → hot H1 F3 i := fun i hi => by
     rcases hi with a | a
     · exact .inl (by rw [hH1]; exact .inl a)
     · exact .inr a
   have fx := (hfx.grow (zl) hg).step (st3.hot H1)
   have fy := (hfy.grow (zl) hg).step (st3.hot H1)
   have gP : GreatV W (hot H1 F3) p z := ⟨Dx, fx, hx⟩
   have gQ : GreatV W (hot H1 F3) q z' := ⟨Dy, fy, hy⟩
   have c3 := m3.cell 3 m3.i3
   have hl := MapO.lookup keyI Tryz.underlying84 (z := .int .i64 0) (fun W => by kernel_rfl) m3.mo (k1, k2) trivial
   have hl2 := MapO.lookup keyI Tryz.underlying84 (z := .int .i64 0) (fun W => by kernel_rfl) (m3.below ((zb).drew)).mo (k1, k2) trivial
   unfold encI at hl hl2
   obtain ⟨p0, p1, _, _⟩ := Zck hpair
   have a0 := (Zab hA).2
   have b0 := (Zab hB).2
   cases h0 : G3.fo (k1, k2) with
   | some v =>
     obtain ⟨p', q', zp, zq, a1, a2, a3, a4, rfl⟩ := i3.od _ _ h0
     have e1 : p' = p := by have := i3.pli _ _ _ a1 hfp; simpa using this
     have e2 : q' = q := by have := i3.pli _ _ _ a2 hfq; simpa using this
     subst e1 e2
     have ep := a3.det gP
     have eq := a4.det gQ
     subst ep eq
     rw [h0] at hl hl2
     simp only [Option.getD_some, Option.isSome_some] at hl hl2
     have HP := zh (show CmpMem w sb F H D K G W from ⟨F3, G3, m3, i3.shrink hsh, st3, gg3⟩)
     clear hm hi hfx hfy hSx hSy hx hy hn hH1 hg hsh fx fy gP gQ m3 i3 st3 gg3 hfp hfq hA hB hz hpair h0 a1 a2 a3 a4 HX ih hX
     go_wp2
     first
       | go_region
       | fail
     go_wp2
     go_ret
     exact ⟨rfl, HP.out.below ((zb).drew)⟩
   | none =>
     rw [h0] at hl hl2
     simp only [Option.getD_none, Option.isSome_none] at hl hl2
     obtain ⟨bp, vx, tx, rfl, x1, x2, x3, x4, x5⟩ := fx.form p z hx
     obtain ⟨bq, vy, ty, rfl, y1, y2, y3, y4, y5⟩ := fy.form q z' hy
     have cx := Zat x3
     have cy := Zat y3
     have lx : tx.length ≤ 30000 := by rw [x5.len]; exact (fx.great _ _ hx).2
     have ly : ty.length ≤ 30000 := by rw [y5.len]; exact (fy.great _ _ hy).2
     have hnl : ∀ t ∈ naf z, t.2 < n := fun t ht => by have := Zbf ht; omega
     have call : ∀ W', Below W.heap.size W W' → Calls Tryz.prog 75 #[vx, vy, .func (.func 76) #[.pointer (some ⟨sb, 0, none⟩)] #[], .func (.func 71) #[] #[]] W' fun e w' =>
         ∃ v, e = .returned (.int .i64 v) ∧ v = sgn (z - z') ∧ CmpMem W sb F3 H1 D K G3 w' := by
       intro W' hW'
       have sW := Step.of_below F3 hW'
       refine (Zez (ih H1) (m3.below hW') (i3.step (sW.hot H1)) (fx.step (sW.hot H1)) (fy.step (sW.hot H1)) hSx hSy (x4.step (sW.hot H1)) (y4.step (sW.hot H1)) x5 y5 lx ly hnl).mono ?_
       rintro e w' ⟨rfl, hmem⟩
       refine ⟨_, rfl, ?_, hmem.after hW'⟩
       rw [Zgo _ _ (Za3 z) (Za3 z'), Zam, Zam]
     have HY := zh (zi m3 (zi i3 (zi st3 (zi gg3 (zi hfp (zi hfq (zi hpair (zi gP (zi gQ (zi hsh h0))))))))))
     have HA := zh (zi hA (zi hB (zi x1 (zi x2 (zi x3 (zi y1 (zi y2 y3)))))))
     clear hm hi hfx hfy hSx hSy hx hy hn hH1 hg hsh fx fy gP gQ m3 i3 st3 gg3 hfp hfq hA hB hz h0 HX ih x3 x4 x5 y3 y4 y5 lx ly hnl x2 y2
     go_wp2
     first
       | go_region
       | fail
     go_wp2
     first
       | go_region_held3 (fun w' => w'.cell? ⟨w.heap.size, 1, none⟩ = some (.pointer (some ⟨bp, 0, none⟩)) ∧ w'.cell? ⟨w.heap.size + 1, 1, none⟩ = some (.pointer (some ⟨bq, 0, none⟩)) ∧ w'.cell? ⟨bp, 0, none⟩ = some vx ∧ w'.cell? ⟨bq, 0, none⟩ = some vy) (first | (go_keep; done) | ((try dsimp only); refine ⟨?_, ?_, ?_, ?_⟩ <;> (go_keep; done)))
         (first
         | (go_at_call 75; refine (call _ (by first | exact (zb).drew.drew | exact (zb).drew)).mono ?_; rintro e4 w4 ⟨v4, rfl, rfl, F4, G4, m4, i4, st4, gg4⟩
            have s1 := (Zab (Own.kept HY.out.1 st4.keeps HA.out.1 (by decide) (by decide) (by decide))).2
            have s2 := (Zab (Own.kept HY.out.1 st4.keeps HA.out.2.1 (by decide) (by decide) (by decide))).2
            have s3 := Zat ((st4.keeps.block bp HA.out.2.2.1 (fun h => HA.out.2.2.2.1 (.inr h))).trans HA.out.2.2.2.2.1)
            have s4 := Zat ((st4.keeps.block bq HA.out.2.2.2.2.2.1 (fun h => HA.out.2.2.2.2.2.2.1 (.inr h))).trans HA.out.2.2.2.2.2.2.2)))
       | fail
     all_goals
       obtain ⟨m3, i3, st3, gg3, hfp, hfq, hpair, gP, gQ, hsh, h0⟩ := HY.out
       have pair4 := Own.kept m3 st4.keeps hpair (by decide) (by decide) (by decide)
       obtain ⟨r0, r1, _, _⟩ := Zck pair4
       have m5 := m4.below ((zb).drew)
       have HZ := zh (zi m4 (zi i4 (zi st4 gg4)))
       clear m3 i3 st3 gg3 hfp hfq hpair gP gQ hsh h0 i4 st4 gg4 pair4
       go_wp2
       first
         | go_region_held3 (fun w' => w'.cell? ⟨X, 0, none⟩ = some (.int .i64 k1) ∧ w'.cell? ⟨X, 1, none⟩ = some (.int .i64 k2)) (first | (go_keep; done) | ((try dsimp only); refine ⟨?_, ?_⟩ <;> (go_keep; done)))
           (first
           | (go_at_call 77; refine (Zki sb 3 G4.c G4.t G4.m3 G4.fo G4.no k1 k2 _ _ m5.hs m5.i3 m5.mo trivial m5.nf).mono ?_; rintro e5 w5 ⟨rfl, hn5⟩
              obtain ⟨r, m6, kp6, gr6⟩ := m5.note3 hn5
              have pair5 : w5.cell? ⟨X, 0, none⟩ = some (.int .i64 k1) ∧ w5.cell? ⟨X, 1, none⟩ = some (.int .i64 k2) := by
                have q4 := Own.kept HY.out.1 HZ.out.2.2.1.keeps HY.out.2.2.2.2.2.2.1 (by decide) (by decide) (by decide)
                obtain ⟨r0, r1, _, _⟩ := Zck (Own.kept m5 kp6 q4 (by decide) (by decide) (by decide))
                exact ⟨r0, r1⟩
              obtain ⟨r6, r7⟩ := pair5))
         | fail
     all_goals
       go_wp2
       go_ret
       obtain ⟨m3, i3, st3, gg3, hfp, hfq, hpair, gP, gQ, hsh, h0⟩ := HY.out
       obtain ⟨m4, i4, st4, gg4⟩ := HZ.out
       have s45 : Step w4 w5 F4 (fun k => F4 k ∨ k = r) := (Step.of_below F4 ((zb).drew)).trans ⟨kp6, gr6, fun k hk => .inl hk⟩
       have i6 := (i4.order (gP.step (st4.hot H1)) (gQ.step (st4.hot H1)) (gg4.p _ _ hfp) (gg4.p _ _ hfq) (G4.c.setIfInBounds 3 (.map (some r))) (some r) (cnt G4.fo (k1, k2) G4.no)).step (s45.hot H1)
       refine ⟨rfl, _, _, m6, i6.shrink (fun i hi => ?_), st3.trans (st4.trans s45), gg3.trans (gg4.trans ⟨fun _ _ h => h, fun _ h => h, fun _ _ h => h, rfl, fun i hi => Array.getElem?_setIfInBounds_ne (by omega)⟩)⟩
       rcases hi with a | a
       · exact .inl (by rw [hH1]; exact .inl a)
       · exact .inr a
theorem Ze0 {sb : Nat} {D : Addr → Option Int} {K : List Addr} (hbig : K.length ≤ big) : ∀ (n : Nat) (H : Nat → Prop), CmpC sb H D K n := by
 intro n
 induction n with
 | zero => intro H w F G hm hi Dx Dy hfx hfy hSx hSy s g z s' g' z' hx hy hn; omega
 | succ n ih =>
   intro H w F G hm hi Dx Dy hfx hfy hSx hSy s g z s' g' z' hx hy hn
   have start : ∀ W, Below w.heap.size w W → CmpMem w sb F H D K G W := fun W hb => (CmpMem.start hm hi).below hb
   have px := hx.ptr hfx
   have py := hy.ptr hfy
   by_cases he : s = s' ∧ g = g'
   · obtain ⟨rfl, rfl⟩ := he
     have hz : z = z' := IsN.det ⟨Dx, hfx, hx⟩ ⟨Dy, hfy, hy⟩
     subst hz
     refine (Zjw sb s g w px).mono ?_
     rintro e w1 ⟨rfl, hb⟩
     exact ⟨by rw [Int.sub_self]; rfl, start _ hb⟩
   · cases g with
     | none =>
       obtain ⟨rfl, h64⟩ := hx
       cases g' with
       | none =>
         obtain ⟨rfl, h64'⟩ := hy
         refine (Ziu sb s s' w (fun h => he ⟨h, rfl⟩)).mono ?_
         rintro e w1 ⟨rfl, hb⟩
         exact ⟨rfl, start _ hb⟩
       | some q =>
         have hng := (hfy.great _ _ hy.2).1
         refine (Zjx sb s s' q z' w ⟨Dy, hfy, hy⟩ py).mono ?_
         rintro e w1 ⟨rfl, hb⟩
         refine ⟨?_, start _ hb⟩
         have : -sgn z' = sgn (s - z') := by
           rw [← Zov]
           unfold i64 at h64 hng
           unfold sgn
           split <;> (try split) <;> (try split) <;> (try split) <;> omega
         rw [this]
     | some p =>
       have hng := (hfx.great _ _ hx.2).1
       cases g' with
       | none =>
         obtain ⟨rfl, h64'⟩ := hy
         refine (Ziv sb s s' p z w ⟨Dx, hfx, hx⟩ px).mono ?_
         rintro e w1 ⟨rfl, hb⟩
         refine ⟨?_, start _ hb⟩
         have : sgn z = sgn (z - s') := by
           unfold i64 at h64' hng
           unfold sgn
           split <;> (try split) <;> (try split) <;> (try split) <;> omega
         rw [this]
       | some q =>
         obtain ⟨rfl, hx⟩ := hx
         obtain ⟨rfl, hy⟩ := hy
         exact Ziy hbig ih hm hi Dx Dy hfx hfy hSx hSy p q (fun h => he ⟨rfl, by rw [h]⟩) z z' hx hy hn
end
end Go.Proofs.YtlkmgclbckojgaaGreatDoor

