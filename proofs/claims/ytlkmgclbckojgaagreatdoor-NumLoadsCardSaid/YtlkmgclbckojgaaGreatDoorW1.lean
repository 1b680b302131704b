import Derived.Test.YtlkmgclbckojgaaGreatDoorS4
import Derived.Test.YtlkmgclbckojgaaGreatDoorL6
set_option linter.unusedVariables false
set_option linter.unusedSimpArgs false
set_option maxHeartbeats 6000000
set_option maxRecDepth 100000
namespace Go.Proofs.YtlkmgclbckojgaaGreatDoor
open Go.RowKit
def untaken (S : List Addr) (G : StG) : Nat := S.countP (fun p => (G.ft (some p)).isNone)
theorem Zkp {S : List Addr} {G G' : StG} (h : ∀ g v, G.ft g = some v → G'.ft g = some v) : untaken S G' ≤ untaken S G := by
 unfold untaken
 refine List.countP_mono_left fun p _ hp => ?_
 cases h0 : G.ft (some p) with
 | none => rfl
 | some v => rw [h _ _ h0] at hp; cases hp
theorem Zir {G G' : StG} (h : ∀ g v, G.ft g = some v → G'.ft g = some v) {p : Addr} (h0 : G.ft (some p) = none) {v : Value} (h1 : G'.ft (some p) = some v) : ∀ {S : List Addr}, p ∈ S → untaken S G' + 1 ≤ untaken S G
 | q :: S, hp => by
   unfold untaken
   rw [List.countP_cons, List.countP_cons]
   have hm : S.countP (fun p => (G'.ft (some p)).isNone) ≤ S.countP (fun p => (G.ft (some p)).isNone) := Zkp (S := S) h
   rcases List.mem_cons.1 hp with rfl | hp
   · simp [h0, h1]; omega
   · have := Zir h h0 h1 hp
     unfold untaken at this
     have h2 : (if (G'.ft (some q)).isNone = true then 1 else 0) ≤ (if (G.ft (some q)).isNone = true then 1 else 0) := by
       cases h0 : G.ft (some q) with
       | none => split <;> simp
       | some v => rw [h _ _ h0]; simp
     omega
structure Grown3 (D D' : Addr → Option Int) (K K' : List Addr) (G G' : StG) : Prop where
 d : ∀ p z, D p = some z → D' p = some z
 k : ∀ p, p ∈ K → p ∈ K'
 p : ∀ g v, G.fp g = some v → G'.fp g = some v
 t : ∀ g v, G.ft g = some v → G'.ft g = some v
theorem Grown3.refl (D : Addr → Option Int) (K : List Addr) (G : StG) : Grown3 D D K K G G := ⟨fun _ _ h => h, fun _ h => h, fun _ _ h => h, fun _ _ h => h⟩
theorem Grown3.trans {D D' D'' : Addr → Option Int} {K K' K'' : List Addr} {G G' G'' : StG} (h : Grown3 D D' K K' G G') (k : Grown3 D' D'' K' K'' G' G'') : Grown3 D D'' K K'' G G'' :=
 ⟨fun p z x => k.d p z (h.d p z x), fun p x => k.k p (h.k p x), fun g v x => k.p g v (h.p g v x), fun g v x => k.t g v (h.t g v x)⟩
theorem StInv.take {w : World} {F : Nat → Prop} {D : Addr → Option Int} {K : List Addr} {G : StG} (h : StInv w F D K G) {p : Addr} {z s : Int} {y : Option Addr} (hp : GreatV w F p z) (hy : ValD D s y z) (c : Array Value) (m : Option Nat) (n : Nat) :
   StInv w F D K { G with c := c, m1 := m, ft := upd G.ft (some p) (.agg #[.int .i64 s, .pointer y]), nt := n } := by
 refine { h with tk := ?_ }
 intro g v hv
 simp only [upd] at hv
 split at hv
 · rename_i hg
   exact ⟨p, z, s, y, hg, hp, (Option.some.inj hv).symm, hy⟩
 · exact h.tk g v hv
structure Boxes (w : World) (F : Nat → Prop) (sb cs cw : Nat) : Prop where
 c1 : w.cell? ⟨cs, 0, none⟩ = some (.pointer (some ⟨sb, 0, none⟩))
 c2 : w.cell? ⟨cw, 0, none⟩ = some (.func (.func 84) #[] #[.pointer (some ⟨cs, 0, none⟩), .pointer (some ⟨cw, 0, none⟩)])
 n1 : ¬ F cs
 n2 : ¬ F cw
theorem Boxes.step {w w' : World} {F F' : Nat → Prop} {sb cs cw : Nat} (h : Boxes w F sb cs cw) (hs : Step w w' F F') : Boxes w' F' sb cs cw := by
 have l1 := World.block_lt_of_cell? _ _ h.c1
 have l2 := World.block_lt_of_cell? _ _ h.c2
 refine ⟨(hs.keeps.cell 0 l1 h.n1).trans h.c1, (hs.keeps.cell 0 l2 h.n2).trans h.c2, fun hf => ?_, fun hf => ?_⟩
 · rcases hs.grow _ hf with x | x
   · exact h.n1 x
   · simp at l1; omega
 · rcases hs.grow _ hf with x | x
   · exact h.n2 x
   · simp at l2; omega
theorem Zfk {α : Type} {l : List α} {i : Nat} {x : α} (h : l[i]? = some x) : l.set i x = l := by
 refine List.ext_getElem? fun j => ?_
 rw [List.getElem?_set]
 split
 · rename_i e
   subst e
   obtain ⟨h1, h2⟩ := List.getElem?_eq_some_iff.1 h
   rw [if_pos h1, h]
 · rfl
theorem Zds {α : Type} {l : List α} {i : Nat} {x : α} (h : i < l.length) : (l.set i x).take (i + 1) = l.take i ++ [x] := by
 rw [List.take_succ_eq_append_getElem (by simpa using h), List.take_set_of_le (zl)]
 simp
theorem Zlx {w : World} {base g n cap : Nat} {xs : List Value} (h : w.ownsRow base 62 3 (.slice (some ⟨g, 0, none⟩) n cap) n xs) : ∀ c t fr, w.heap[g]? = some (.cells c t fr) → t ≠ 113 := by
 intro c t fr hx
 obtain ⟨_, h2⟩ := h
 rcases h2 with ⟨e, _⟩ | ⟨g', cap', cur, ev, _, hh, _⟩
 · cases e
 · cases ev
   rw [hx] at hh
   cases hh; decide
theorem Zew {w : World} {x i : Nat} {v : Value} (ht : ∀ c t fr, w.heap[x]? = some (.cells c t fr) → t ≠ 113) : ∀ c t fr, (w.setCell ⟨x, i, none⟩ v).heap[x]? = some (.cells c t fr) → t ≠ 113 := by
 intro c t fr h
 simp only [World.setCell, Array.getElem?_modify, if_true] at h
 cases hh : w.heap[x]? with
 | none => simp [hh] at h
 | some o =>
   rw [hh] at h
   cases o with
   | cells c' t' fr' => simp only [Option.map_some, Option.some.injEq, Obj.cells.injEq] at h; rw [← h.2.1]; exact ht _ _ _ hh
   | _ => simp at h
def TakeRel (w wc : World) (sb : Nat) (F Hp : Nat → Prop) (D : Addr → Option Int) (K : List Addr) (G : StG) (Dx : Addr → Option Int) (S : List Addr) (z : Int) (ts : List TV) (base : Nat) (v : Value) (wr : World) (k : Nat) : Prop :=
 ∃ (Fr : Nat → Prop) (Dr : Addr → Option Int) (Kr : List Addr) (Gr : StG) (cur : List TV),
   wr.ownsRow base 62 3 v ts.length (flatT cur) ∧ cur.length = ts.length ∧ TVals Dr (cur.take k) ((naf z).take k) ∧ cur.drop k = ts.drop k ∧
   StMem wr sb Fr Gr ∧ StInv wr (hot Hp Fr) Dr Kr Gr ∧ Keeps (fun k => F k ∨ v.ownBlock = some k) wc wr ∧ (∀ k, Fr k → F k ∨ wc.heap.size ≤ k) ∧ (∀ k, F k → Fr k) ∧
   Grown3 D Dr K Kr G Gr ∧ Kr.length + untaken S Gr ≤ K.length + untaken S G ∧ (∀ h v, Gr.ft h = some v → G.ft h = some v ∨ ∃ q y, h = some q ∧ Dx q = some y ∧ y.natAbs < z.natAbs)
theorem Zhm (w : World) (A B C : Obj) : (((w.alloc A).alloc B).alloc C).drew.heap[w.heap.size]? = some A ∧ (((w.alloc A).alloc B).alloc C).drew.heap[w.heap.size + 1]? = some B := by
 constructor
 · show (((w.alloc A).alloc B).alloc C).heap[w.heap.size]? = some A
   rw [Below.heap_alloc _ _ _ (by simp; omega), Below.heap_alloc _ _ _ (by simp), heap_alloc_new]
 · show (((w.alloc A).alloc B).alloc C).heap[w.heap.size + 1]? = some B
   rw [Below.heap_alloc _ _ _ (by simp)]
   have := heap_alloc_new (w.alloc A) B
   simpa using this
theorem Zly (cs cw sb : Nat) : ∀ (n : Nat) (w : World) (F H : Nat → Prop) (D : Addr → Option Int) (K : List Addr) (G : StG) (hm : StMem w sb F G) (hi : StInv w (hot H F) D K G) (hHlt : ∀ k, H k → k < w.heap.size) (hbx : Boxes w F sb cs cw)
   (Dx : Addr → Option Int) (S : List Addr) (hf : Forest w (hot H F) Dx) (hS : ∀ p z, Dx p = some z → p ∈ S) (s : Int) (g : Option Addr) (z : Int) (hv : ValD Dx s g z) (hn : z.natAbs < n) (hbig : K.length + untaken S G ≤ big),
   Calls Tryz.prog 84 #[.agg #[.int .i64 s, .pointer g], .pointer (some ⟨cs, 0, none⟩), .pointer (some ⟨cw, 0, none⟩)] w fun e w' => ∃ (s' : Int) (g' : Option Addr) (F' : Nat → Prop) (D' : Addr → Option Int) (K' : List Addr) (G' : StG),
     e = .returned (.agg #[.int .i64 s', .pointer g']) ∧ ValD D' s' g' z ∧ StMem w' sb F' G' ∧ StInv w' (hot H F') D' K' G' ∧ Step w w' F F' ∧ Grown3 D D' K K' G G' ∧ K'.length + untaken S G' ≤ K.length + untaken S G ∧
     (∀ h v, G'.ft h = some v → G.ft h = some v ∨ ∃ q y, h = some q ∧ Dx q = some y ∧ y.natAbs ≤ z.natAbs) := by
 intro n
 induction n with
 | zero => intro w F H D K G hm hi hHlt hbx Dx S hf hS s g z hv hn hbig; omega
 | succ n ih =>
   intro w F H D K G hm hi hHlt hbx Dx S hf hS s g z hv hn hbig
   cases g with
   | none =>
     have hb2 : Below w.heap.size w ((w.alloc (.cells #[.int .i64 s, .pointer none] 28)).alloc (.cells #[.int .i64 s, .pointer none] 28)) := ((zb).alloc (zl) _).alloc (by simp) _
     go_enter Tryz.func84, Tryz.ntmps84
     go_wp2
     refine bodyPost_ret (v := .agg #[.int .i64 s, .pointer none]) (by simp [results, Tryz.results84, go_sem, *]) rfl ?_
     have hst := Step.of_below F hb2
     exact ⟨s, none, F, D, K, G, rfl, hv, hm.below hb2, hi.step (hst.hot H), hst, Grown3.refl _ _ _, zl, fun h v x => .inl x⟩
   | some p =>
     obtain ⟨rfl, hp⟩ := hv
     have hpg : GreatV w (hot H F) p z := ⟨Dx, hf, hp⟩
     obtain ⟨w1, hw1⟩ : ∃ w1, w1 = (w.alloc (.cells #[.int .i64 0, .pointer (some p)] 28)).alloc (.cells #[.int .i64 0, .pointer none] 28) := ⟨_, rfl⟩
     have hb1 : Below w.heap.size w w1 := by rw [hw1]; exact ((zb).alloc (zl) _).alloc (by simp) _
     have s01 := Step.of_below F hb1
     have m1 := hm.below hb1
     have i1 := hi.step (s01.hot H)
     have bx1 := hbx.step s01
     have p1 := hpg.step (s01.hot H)
     have hz1 : w1.heap.size = w.heap.size + 1 + 1 := by rw [hw1]; simp
     have lk : ∀ W, Below w1.heap.size w1 W → (Instr.lookup 82 (.map G.m1) (.pointer (some p)) true).run Tryz.prog W = .ok (.tuple #[(G.ft (some p)).getD (.agg #[.int .i64 0, .pointer none]), .bool (G.ft (some p)).isSome]) W := by
       intro W hW
       have := MapO.lookup keyP Tryz.underlying82 (z := .agg #[.int .i64 0, .pointer none]) (fun W => by kernel_rfl) (m1.below hW).mt (some p) (Zbr hW _ p1.ptr)
       unfold encP at this
       exact this
     have lk1 := lk _ (zb).drew
     have lk2 := lk _ ((zb).alloc (zl) (.cells #[.int .i64 0, .pointer none] 28)).drew
     have c1 := bx1.c1
     have c2 := bx1.c2
     have c3 := m1.cell 1 m1.i1
     have d1 : (w1.alloc (.cells #[.int .i64 0, .pointer none] 28)).cell? ⟨cs, 0, none⟩ = _ := Zar _ (World.block_lt_of_cell? _ _ c1) c1
     have d3 : (w1.alloc (.cells #[.int .i64 0, .pointer none] 28)).cell? ⟨sb, 1, none⟩ = _ := Zar _ (World.block_lt_of_cell? _ _ c3) c3
     have e1 : w1.cell? ⟨w.heap.size, 1, none⟩ = some (.pointer (some p)) := by rw [hw1]; simp
     have HM := zh hm
     have HI := zh hi
     clear lk
     cases ht : G.ft (some p) with
     | some v =>
       obtain ⟨p', z', s', y, e0, hp', rfl, hy⟩ := hi.tk _ _ ht
       cases e0
       obtain rfl := hp'.det hpg
       rw [ht] at lk1 lk2
       simp only [Option.getD_some, Option.isSome_some] at lk1 lk2
       subst hw1
       go_enter Tryz.func84, Tryz.ntmps84
       go_wp2
       go_region
       all_goals go_wp2
       all_goals refine bodyPost_ret (v := .agg #[.int .i64 s', .pointer y]) (by simp [results, Tryz.results84, go_sem, *]) rfl ?_
       all_goals (
         have hb2 : Below w.heap.size w (((w.alloc (.cells #[.int .i64 0, .pointer (some p)] 28)).alloc (.cells #[.int .i64 s', .pointer y] 28)).alloc (.cells #[.int .i64 s', .pointer y] 28)).drew := by
           repeat (first | exact zb | refine Below.alloc ?_ (by simp <;> omega) _ | refine Below.drew ?_)
         have hst := Step.of_below F hb2
         exact ⟨s', y, F, D, K, G, rfl, hy, HM.out.below hb2, HI.out.step (hst.hot H), hst, Grown3.refl _ _ _, zl, fun h v x => .inl x⟩)
     | none =>
       rw [ht] at lk1 lk2
       simp only [Option.getD_none, Option.isSome_none] at lk1 lk2
       obtain ⟨b, v, ts, rfl, hbl, hbF, hh, hrow, htv⟩ := hf.form p z hp
       have hl : ts.length ≤ lim := by
         have := (hf.great _ _ hp).2
         unfold wide wt at this
         rw [← htv.len] at this
         have := Za8
         omega
       have x1 := (Zar (.cells #[.int .i64 0, .pointer none] 28) (by simp; omega) (Zar (.cells #[.int .i64 0, .pointer (some ⟨b, 0, none⟩)] 28) hbl (Zat hh)))
       have x2 := Zar (.cells #[.int .i64 0, .pointer none] 28) (by simp; omega) x1
       subst hw1
       go_enter Tryz.func84, Tryz.ntmps84
       go_wp2
       go_region
       all_goals (
         generalize hwA : (((w.alloc (.cells #[.int .i64 0, .pointer (some ⟨b, 0, none⟩)] 28)).alloc (.cells #[.int .i64 0, .pointer none] 28)).alloc (.cells #[.int .i64 0, .pointer none] 28)).drew = wA at *
         have hbA : Below w.heap.size w wA := by
           rw [← hwA]; repeat (first | exact zb | refine Below.alloc ?_ (by simp <;> omega) _ | refine Below.drew ?_)
         have hzA : wA.heap.size = w.heap.size + 1 + 1 + 1 := by rw [← hwA]; simp
         have sA := Step.of_below F hbA
         have rA := hrow.step (sA.hot H)
         have hA0 : wA.heap[w.heap.size]? = some (.cells #[.int .i64 0, .pointer (some ⟨b, 0, none⟩)] 28) := by rw [← hwA]; exact (Zhm w _ _ _).1
         have hA1 : wA.heap[w.heap.size + 1]? = some (.cells #[.int .i64 0, .pointer none] 28) := by rw [← hwA]; exact (Zhm w _ _ _).2
         have y1 : wA.cell? ⟨w.heap.size, 1, none⟩ = some (.pointer (some ⟨b, 0, none⟩)) := by simp [World.cell?, hA0]
         have y2 : wA.cell? ⟨b, 0, none⟩ = some v := Zat ((hbA.block b hbl).trans hh)
         have hl9 : (ts.length : Int) ≤ 16777216 := by have := Za8; omega
         go_wp2_with (first
           | (go_at_call 65; refine (Zbv _ _ _ _ rA.1 (Zaw _) hl).mono ?_; rintro e wc ⟨vc, rfl, hownc, hbc⟩
              obtain ⟨a, cp, rfl⟩ := (RowV.of_own hownc).shape))
         obtain ⟨Hp, hHp⟩ : ∃ Hp : Nat → Prop, Hp = fun k => H k ∨ (w.heap.size ≤ k ∧ k < wc.heap.size) := ⟨_, rfl⟩
         have hpu : ∀ F0 : Nat → Prop, ∀ i, hot Hp F0 i → hot H F0 i ∨ w.heap.size ≤ i := by
           intro F0 i hx
           rcases hx with x | x
           · rw [hHp] at x
             rcases x with x | x
             · exact .inl (.inl x)
             · exact .inr x.1
           · exact .inl (.inr x)
         have hzc := hbc.size
         have hc0 := (hbc.block _ (by omega)).trans hA0
         have hc1 := (hbc.block _ (by omega)).trans hA1
         have sc := Step.of_below F (hbA.trans (hbc.mono (by omega)))
         have start : TakeRel w wc sb F Hp D K G Dx S z ts wA.heap.size (.slice a ts.length cp) wc 0 := ⟨F, D, K, G, ts, hownc, rfl, trivial, rfl, hm.below (hbA.trans (hbc.mono (by omega))), (hi.grow (zl) (hpu F)).keeps (sc.hot Hp).keeps, .refl _ _, fun k hk => .inl hk, fun k hk => hk, .refl _ _ _, zl, fun h v x => .inl x⟩
         have hrow0 : ∀ x, (Value.slice a ts.length cp).ownBlock = some x → w.heap.size + 3 ≤ x ∧ x < wc.heap.size := fun x hx => by have := hownc.lt x hx; omega
         have HX := zh (zi hm (zi hi (zi hHlt (zi hbx (zi hf (zi hS (zi hbig hpg)))))))
         have HY := zh (zi hc0 (zi hc1 (zi hpu (zi hHp (zi hzc (zi sc hrow0))))))
         clear hm hi hHlt hbx hf hS hbig hpg hc0 hc1 hpu hHp hzc sc hrow0 hrow hh x1 x2 lk1 lk2 c1 c2 c3 d1 d3 e1 m1 i1 bx1 p1
         go_loopw [34] (fun i wr => ∃ k : Nat, k ≤ ts.length ∧ i = .int .i64 k ∧ TakeRel w wc sb F Hp D K G Dx S z ts wA.heap.size (.slice a ts.length cp) wr k) (fun i _ => ts.length - (intOf i).toNat)
         case atStart => exact ⟨0, by omega, rfl, start⟩
         case round =>
           obtain ⟨k, hk, rfl, Fr, Dr, Kr, Gr, cur, hown, hcl, htk, hdk, hmr, hir, kp, gr, mo, g3, hcost, hnew⟩ := hrel
           obtain ⟨hm, hi, hHlt, hbx, hf, hS, hbig, hpg⟩ := HX.out
           obtain ⟨hc0, hc1, hpu, hHp, hzc, sc, hrow0⟩ := HY.out
           have hFlt := hm.flt
           have s0r : Step w wr F Fr := ⟨sc.keeps.trans kp (fun i hi => by
             rcases hi with x | x
             · exact .inl x
             · exact .inr (by have := (hrow0 i x).1; omega)), fun i hi => by
             rcases gr i hi with x | x
             · exact .inl x
             · exact .inr (by omega), mo⟩
           have hrowF : ∀ x, (Value.slice a ts.length cp).ownBlock = some x → ¬ Fr x := by
             intro x hx hfx
             have h1 := hrow0 x hx
             rcases gr x hfx with y | y
             · have := hFlt x y; omega
             · omega
           by_cases hlt : k < ts.length
           · obtain ⟨c, rfl⟩ : ∃ c, a = some ⟨c, 0, none⟩ := by
               obtain ⟨_, h2⟩ := hown
               rcases h2 with ⟨_, h0⟩ | ⟨g, cap, cur, ev, _⟩
               · omega
               · cases ev; exact ⟨g, rfl⟩
             have hrc := hrow0 c rfl
             have hFc := hrowF c rfl
             have hget : cur[k]? = ts[k]? := by have := congrArg (fun l : List TV => l[0]?) hdk; simpa using this
             have hkz : k < (naf z).length := by rw [← htv.len]; exact hlt
             have hvk := (htv.get k hlt hkz).2
             have hek := Zbf (List.getElem_mem hkz)
             have hbk := (htv.get k hlt hkz).1
             obtain ⟨x0, x1, x2⟩ := Zbi cur k (by omega)
             have hgk : cur[k]'(by omega) = ts[k] := by
               rw [List.getElem?_eq_getElem (by omega), List.getElem?_eq_getElem hlt] at hget
               exact Option.some.inj hget
             rw [hgk] at x0 x1 x2
             have z1 := (hown.cellAt (k * 3 + 1) (by omega)).trans x1
             have z2 := (hown.cellAt (k * 3 + 2) (by omega)).trans x2
             have bxr := hbx.step s0r
             have q2 := bxr.c2
             have HZ := zh (zi x0 (zi x1 (zi x2 (zi hget hbk))))
             clear x0 x1 x2 hget hgk hbk
             generalize ts[k] = tk at *
             obtain ⟨mi, s1, g1⟩ := tk
             simp only at z1 z2 hvk
             have hbd : Below wr.heap.size wr wr.drew := (zb).drew
             have sd := Step.of_below Fr hbd
             have ihk := ih wr.drew Fr Hp Dr Kr Gr (hmr.below hbd) (hir.step (sd.hot Hp)) (by
               intro j hj
               rw [hHp] at hj
               have h1 := kp.size
               rcases hj with x | x
               · have := hHlt j x; show j < wr.heap.size; omega
               · show j < wr.heap.size; omega) (bxr.step sd) Dx S (((hf.grow (zl) (hpu F)).step (s0r.hot Hp)).step (sd.hot Hp)) hS s1 g1 _ hvk (by omega) (by omega)
             have HQ := zh (zi hown (zi hmr (zi hir (zi kp (zi gr (zi mo (zi g3 (zi hcost (zi hnew (zi htk (zi hdk (zi hcl s0r))))))))))))
             have hownd : wr.drew.ownsRow wA.heap.size 62 3 (.slice (some ⟨c, 0, none⟩) ts.length cp) ts.length (flatT cur) := Zf0 hown
             clear hown hmr hir kp gr mo g3 hcost hnew htk hdk hcl s0r hm hi hHlt hbx hf hS hbig hpg hc0 hc1 hpu hHp hzc sc hrow0 bxr
             go_wp2
             first
               | go_region_with (first
                 | (go_at_call 84; refine ihk.mono ?_; rintro e w2 ⟨s2, g2, F2, D2, K2, G2, rfl, hv2, m2, i2, st2, gg2, hcost2, hnew2⟩
                    have hown2 := Zag hownd st2.keeps hrowF
                    have e1 : w2.cell? ⟨c, k * 3 + 1, none⟩ = some (.int .i64 s1) := (hown2.cellAt (k * 3 + 1) (by omega)).trans HZ.out.2.1
                    have e2 : w2.cell? ⟨c, k * 3 + 2, none⟩ = some (.pointer g1) := (hown2.cellAt (k * 3 + 2) (by omega)).trans HZ.out.2.2.1
                    have f1 := hown2.frozenAt (k * 3 + 1)
                    have f2 := hown2.frozenAt (k * 3 + 2)))
               | fail
             all_goals (
               go_wp2
               go_roundw
               case rel =>
                 obtain ⟨hown, hmr, hir, kp, gr, mo, g3, hcost, hnew, htk, hdk, hcl, s0r⟩ := HQ.out
                 obtain ⟨hc0, hc1, hpu, hHp, hzc, sc, hrow0⟩ := HY.out
                 have hkp := kp.size
                 have h2s := st2.keeps.size
                 have hdz : wr.drew.heap.size = wr.heap.size := rfl
                 have hF2c : ¬ F2 c := fun hx => by
                   rcases st2.grow c hx with y | y
                   · exact hFc y
                   · have := hrc.2; omega
                 have hpc : Hp c := by rw [hHp]; exact .inr (by omega)
                 have hnf := Zlx hown2
                 have t1 := hown2.stored (k * 3 + 1) (.int .i64 s2)
                 have t2 := t1.1.stored (k * 3 + 2) (.pointer g2)
                 have hs := Zcu cur k (mi, s2, g2)
                 rw [Zfk HZ.out.1] at hs
                 refine ⟨k + 1, by omega, by go_num, F2, D2, K2, G2, cur.set k (mi, s2, g2), by rw [← hs]; exact t2.1, by simpa using hcl, ?_, ?_, (m2.set _ hF2c (by omega) hnf).set _ hF2c (by omega) (Zew hnf), (i2.keeps (Zal _ (.inl hpc))).keeps (Zal _ (.inl hpc)), ?_, ?_, fun j hj => st2.mono j (mo j hj), g3.trans gg2, by omega, ?_⟩
                 · rw [List.take_succ_eq_append_getElem hkz, Zds (by omega)]
                   exact TVals.append (htk.mono gg2.d) ⟨⟨HZ.out.2.2.2.2, hv2⟩, trivial⟩
                 · rw [List.drop_set_of_lt (by omega)]
                   have := congrArg (fun l : List TV => l.drop 1) hdk
                   simpa using this
                 · refine ((kp.trans (sd.keeps.trans st2.keeps (fun i h => .inl h)) (fun i hi => by
                     rcases gr i hi with y | y
                     · exact .inl (.inl y)
                     · exact .inr y)).trans (Zal (x := c) (i := k * 3 + 1) (.int .i64 s2) (.inr rfl)) (fun i hi => .inl hi)).trans (Zal (x := c) (i := k * 3 + 2) (.pointer g2) (.inr rfl)) (fun i hi => .inl hi)
                 · intro j hj
                   rcases st2.grow j hj with y | y
                   · exact gr j y
                   · exact .inr (by omega)
                 · intro h v hv
                   rcases hnew2 h v hv with y | ⟨q, y, y1, y2, y3⟩
                   · exact hnew h v y
                   · exact .inr ⟨q, y, y1, y2, by omega⟩
               case measure => simp [intOf]; omega)
           · have hkn : k = ts.length := by omega
             subst hkn
             have hcur : cur.take ts.length = cur := by rw [← hcl]; exact List.take_length
             have hzt : (naf z).take ts.length = naf z := by rw [htv.len]; exact List.take_length
             rw [hcur, hzt] at htk
             obtain ⟨Hq, hHq⟩ : ∃ Hq : Nat → Prop, Hq = fun k => H k ∨ k = w.heap.size + 1 := ⟨_, rfl⟩
             have hqp : ∀ F0 : Nat → Prop, ∀ i, hot Hq F0 i → hot Hp F0 i := by
               intro F0 i hx
               rcases hx with x | x
               · rw [hHq] at x
                 rcases x with x | x
                 · exact .inl (by rw [hHp]; exact .inl x)
                 · exact .inl (by rw [hHp]; exact .inr (by omega))
               · exact .inr x
             have hrowq : RowF wr (hot Hq Fr) 3 (.slice a ts.length cp) cur.length (flatT cur) := ⟨by rw [hcl]; exact RowV.of_own hown, fun x hx hh => by
               have h1 := hrow0 x hx
               rcases hh with y | y
               · rw [hHq] at y
                 rcases y with y | y
                 · have := hHlt x y; omega
                 · omega
               · exact hrowF x hx y⟩
             have kc := kp.size
             have k4 := kp.cell (b := w.heap.size) 1 (by omega) (by rintro (x | x); exact absurd (hFlt _ x) (by omega); have := hrow0 _ x; omega)
             have hkeep := Zeh Hq hmr (hir.shrink (hqp Fr)) (by
               intro j hj
               rw [hHq] at hj
               rcases hj with x | x
               · have := hHlt j x; omega
               · omega) hrowq (by have := (hf.great _ _ hp).2; unfold wide wt at this; rw [← htv.len] at this; omega) htk (Za3 z) (by omega)
             rw [Zam] at hkeep
             have b3 := (kp.block w.heap.size (by omega) (by rintro (x | x); exact absurd (hFlt _ x) (by omega); have := hrow0 _ x; omega)).trans hc0
             have b4 := (kp.block (w.heap.size + 1) (by omega) (by rintro (x | x); exact absurd (hFlt _ x) (by omega); have := hrow0 _ x; omega)).trans hc1
             have nF0 : ¬ Fr w.heap.size := fun hx => by
               rcases gr _ hx with y | y
               · have := hFlt _ y; omega
               · omega
             have nF1 : ¬ Fr (w.heap.size + 1) := fun hx => by
               rcases gr _ hx with y | y
               · have := hFlt _ y; omega
               · omega
             have l1 : w.heap.size < wr.heap.size := by omega
             have l2 : w.heap.size + 1 < wr.heap.size := by omega
             have bxr := hbx.step s0r
             have pgr : GreatV wr (hot Hq Fr) ⟨b, 0, none⟩ z := (hpg.grow (zl) (fun i hx => hpu F i (hqp F i hx))).step (s0r.hot Hq)
             have HPG := zh pgr
             have HT := zh (zi hmr (zi hir (zi gr (zi mo (zi g3 (zi hcost (zi hnew (zi s0r (zi hHq (zi hqp (zi pgr hHp)))))))))))
             clear hown hmr hir kp gr mo g3 hcost hnew htk hdk hcl s0r hm hi hHlt hbx hf hS hbig hpg hc0 hc1 hpu hzc sc hrow0 hrowq hrowF k4 hcur hzt hHq hqp pgr
             have c1r := bxr.c1
             go_wp2_with (first
               | (go_at_call 68; refine hkeep.mono ?_; rintro e w2 ⟨s3, g3, F3, D3, K3, G3, rfl, hv3, m2, i2, st2, gg2, hcost2⟩
                  have bx2 := bxr.step st2
                  have b32 := (st2.keeps.block _ l1 nF0).trans b3
                  have b42 := (st2.keeps.block _ l2 nF1).trans b4
                  have l1' := Nat.lt_of_lt_of_le l1 st2.keeps.size
                  have l2' := Nat.lt_of_lt_of_le l2 st2.keeps.size
                  have h3 : Below w2.heap.size w2 (w2.alloc (.cells #[.int .i64 s3, .pointer g3] 28)).drew := ((zb).alloc (zl) _).drew
                  have s23 := Step.of_below F3 h3
                  have m3 := m2.below h3
                  have p1 := Zar (.cells #[.int .i64 s3, .pointer g3] 28) (World.block_lt_of_cell? _ _ bx2.c1) bx2.c1
                  have p2 : (w2.alloc (.cells #[.int .i64 s3, .pointer g3] 28)).cell? ⟨w.heap.size, 1, none⟩ = some (.pointer (some ⟨b, 0, none⟩)) := Zar _ l1' (by simp [World.cell?, b32]))
               | fail)
             first
               | go_region_with (first
                 | (go_at_call 85; refine (Zkh sb 1 G3.c G3.t G3.m1 G3.ft G3.nt (some ⟨b, 0, none⟩) s3 g3 _ m3.hs m3.i1 m3.mt (((HPG.out.step (st2.hot Hq)).step (s23.hot Hq)).ptr) m3.nf).mono ?_; rintro e w4 ⟨rfl, hn4⟩
                    obtain ⟨r, m4, kp4, gr4⟩ := m3.note1 hn4))
               | fail
             all_goals (
               have nF3 : ¬ F3 w2.heap.size := fun hx => by have := m2.flt _ hx; omega
               have nG1 : ¬ F3 (w.heap.size + 1) := fun hx => by
                 rcases st2.grow _ hx with y | y
                 · exact nF1 y
                 · omega
               have hz3 : (w2.alloc (.cells #[.int .i64 s3, .pointer g3] 28)).drew.heap.size = w2.heap.size + 1 := by
                 show (w2.alloc (.cells #[.int .i64 s3, .pointer g3] 28)).heap.size = _
                 simp
               have b9 : w4.heap[w2.heap.size]? = some (.cells #[.int .i64 s3, .pointer g3] 28) := (kp4.block _ (by omega) nF3).trans (heap_alloc_new w2 _)
               have b4' := (kp4.block _ (by omega) nG1).trans ((h3.block _ l2').trans b42)
               have t1 : w4.cell? ⟨w2.heap.size, 0, none⟩ = some (.int .i64 s3) := by simp [World.cell?, b9]
               have t2 : w4.cell? ⟨w2.heap.size, 1, none⟩ = some (.pointer g3) := by simp [World.cell?, b9]
               have t3 : w4.cell? ⟨w.heap.size + 1, 0, none⟩ = some (.int .i64 0) := by simp [World.cell?, b4']
               have t4 : w4.cell? ⟨w.heap.size + 1, 1, none⟩ = some (.pointer none) := by simp [World.cell?, b4']
               have t5 : w4.frozen? ⟨w.heap.size + 1, 0, none⟩ = false := by simp [World.frozen?, b4']
               have t6 : w4.frozen? ⟨w.heap.size + 1, 1, none⟩ = false := by simp [World.frozen?, b4']
               go_wp2
               refine bodyPost_ret (v := .agg #[.int .i64 s3, .pointer g3]) (by simp [results, Tryz.results84, go_sem, *]) rfl ?_
               obtain ⟨hmr, hir, gr, mo, g3', hcost, hnew, s0r, hHq, hqp, pgr, hHp⟩ := HT.out
               obtain ⟨hm, hi, hHlt, hbx, hf, hS, hbig, hpg⟩ := HX.out
               have s34 : Step (w2.alloc (.cells #[.int .i64 s3, .pointer g3] 28)).drew w4 F3 (fun k => F3 k ∨ k = r) := ⟨kp4, gr4, fun k hk => .inl hk⟩
               have s24 := s23.trans s34
               have s04 := s0r.trans (st2.trans s24)
               have i4 := (i2.step (s24.hot Hq)).take (((pgr.step (st2.hot Hq)).step (s24.hot Hq))) hv3 (G3.c.setIfInBounds 1 (.map (some r))) (some r) (cnt G3.ft (some ⟨b, 0, none⟩) G3.nt)
               have hlw := hm.lt
               have nG4 : ¬ (F3 (w.heap.size + 1) ∨ w.heap.size + 1 = r) := fun hx => by
                 rcases gr4 _ hx with y | y
                 · exact nG1 y
                 · omega
               have hnf : ∀ c t fr, w4.heap[w.heap.size + 1]? = some (.cells c t fr) → t ≠ 113 := by
                 intro c t fr h; rw [b4'] at h; cases h; decide
               have hq1 : Hq (w.heap.size + 1) := by rw [hHq]; exact .inr rfl
               have h0r : Gr.ft (some ⟨b, 0, none⟩) = none := by
                 cases hx : Gr.ft (some ⟨b, 0, none⟩) with
                 | none => rfl
                 | some u =>
                   rcases hnew _ _ hx with y | ⟨q, y, y1, y2, y3⟩
                   · rw [ht] at y; cases y
                   · cases y1; rw [hp] at y2; cases y2; omega
               have h03 : G3.ft (some ⟨b, 0, none⟩) = none := by rw [gg2.t]; exact h0r
               have hmono : ∀ h u, Gr.ft h = some u → upd G3.ft (some ⟨b, 0, none⟩) (.agg #[.int .i64 s3, .pointer g3]) h = some u := by
                 intro h u hu
                 unfold upd
                 rw [if_neg (by rintro rfl; rw [h0r] at hu; cases hu), gg2.t]; exact hu
               have hun := Zir (G := Gr) (G' := { G3 with c := G3.c.setIfInBounds 1 (.map (some r)), m1 := some r, ft := upd G3.ft (some ⟨b, 0, none⟩) (.agg #[.int .i64 s3, .pointer g3]), nt := cnt G3.ft (some ⟨b, 0, none⟩) G3.nt }) hmono h0r (v := .agg #[.int .i64 s3, .pointer g3]) (by simp [upd]) (hS _ _ hp)
               refine ⟨s3, g3, _, D3, K3, _, rfl, hv3, (m4.set (i := 0) (.int .i64 s3) nG4 (by omega) hnf).set (i := 1) (.pointer g3) nG4 (by omega) (Zew hnf), ?_, ⟨Zav (Zav s04.keeps _ (by omega)) _ (by omega), s04.grow, s04.mono⟩, g3'.trans ⟨gg2.d, gg2.k, gg2.p, hmono⟩, by omega, ?_⟩
               · refine ((i4.keeps (Zal (i := 0) _ (.inl hq1))).keeps (Zal (i := 1) _ (.inl hq1))).shrink (fun i hx => ?_)
                 rcases hx with x | x
                 · exact .inl (by rw [hHq]; exact .inl x)
                 · exact .inr x
               · intro h u hu
                 simp only [upd] at hu
                 split at hu
                 · rename_i e
                   exact .inr ⟨_, z, e, hp, zl⟩
                 · rw [gg2.t] at hu
                   rcases hnew _ _ hu with y | ⟨q, y, y1, y2, y3⟩
                   · exact .inl y
                   · exact .inr ⟨q, y, y1, y2, by omega⟩))
end Go.Proofs.YtlkmgclbckojgaaGreatDoor

