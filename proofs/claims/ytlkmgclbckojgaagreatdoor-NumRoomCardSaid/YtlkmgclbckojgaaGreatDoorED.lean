import Derived.Test.YtlkmgclbckojgaaGreatDoorEC
import Derived.Test.YtlkmgclbckojgaaGreatDoorB3
import Derived.Test.YtlkmgclbckojgaaGreatDoorK7
set_option linter.unusedVariables false
set_option linter.unusedSimpArgs false
namespace Go.Proofs.YtlkmgclbckojgaaGreatDoor
open Go.RowKit
set_option linter.unusedVariables false
variable {W W' W1 W2 : World} {p n n' : Nat} {fv fv' fv1 : Value} {vs vs' vs1 G : List Int}
set_option maxRecDepth 100000 in
set_option maxHeartbeats 2000000 in
theorem two_calls (m : Nat) (w : World) : Calls Tryz.prog 56 #[.int .i64 (m : Int)] w fun e w' => ∃ (a : Option Addr) (c : Nat), e = .returned (.slice a 2 c) ∧ w'.ownsRow w.heap.size 5 1 (.slice a 2 c) 2 (byV (twoN m)) ∧ Below w.heap.size w w' := by
 have hb : Below w.heap.size w (w.alloc (.cells #[.int .u8 ((m : Int) / 256 % 256), .int .u8 ((m : Int) % 256)] 5)) := (Below.refl _ _).alloc (Nat.le_refl _) _
 have ho : (w.alloc (.cells #[.int .u8 ((m : Int) / 256 % 256), .int .u8 ((m : Int) % 256)] 5)).ownsRow w.heap.size 5 1 (.slice (some ⟨w.heap.size, 0, none⟩) 2 2) 2 (twoB m) := World.ownsRow_lit w _ 2 (Nat.le_refl _) (by decide) rfl
 go_enter Tryz.func56, Tryz.ntmps56
 go_wp2
 go_ret
 exact ⟨_, _, rfl, by rw [byV_two]; exact ho, hb⟩
theorem idxOf_le_get : ∀ {l : List Nat} {a k : Nat}, l[k]? = some a → l.idxOf a ≤ k
 | [], a, k, h => by simp at h
 | x :: l, a, 0, h => by
   simp only [List.getElem?_cons_zero, Option.some.injEq] at h
   subst h
   simp
 | x :: l, a, k + 1, h => by
   simp only [List.getElem?_cons_succ] at h
   have := idxOf_le_get h
   rw [List.idxOf_cons]
   by_cases e : x = a
   · subst e; simp
   · rw [show (x == a) = false by simp [e]]
     simp; omega
set_option maxRecDepth 100000 in
set_option maxHeartbeats 4000000 in
theorem wplace_calls {v : Value} {ps : List Nat} {q : Nat} {w : World} (hr : RowV w 1 v ps.length (natV ps)) (hq : q ∈ ps) (hl : ps.length ≤ 1000000000000) : Calls Tryz.prog 57 #[v, .int .i64 (q : Int)] w fun e w' => e = .returned (.int .i64 ((ps.idxOf q : Nat) : Int)) ∧ Below w.heap.size w w' := by
 obtain ⟨a, c, rfl⟩ := hr.shape
 have hi := List.idxOf_lt_length_of_mem hq
 obtain ⟨L, hL⟩ : ∃ L, L = ps.length := ⟨_, rfl⟩
 have hL2 : (L : Int) ≤ 1000000000000 := by omega
 rw [← hL] at hr hi ⊢
 have HX := Lib.hid (And.intro hr (And.intro hi hL))
 clear hr hi hL hl
 go_enter Tryz.func57, Tryz.ntmps57
 go_upto_region 2 with fail
 go_loopw [5] (fun i wl => ∃ k : Nat, i = .int .i64 (k : Int) ∧ k ≤ ps.idxOf q ∧ Below w.heap.size w wl) (fun i _ => L - (intOf i).toNat)
 case atStart => exact ⟨0, rfl, Nat.zero_le _, Below.refl _ _⟩
 case round =>
   obtain ⟨k, rfl, hk, hB⟩ := hrel
   obtain ⟨hr, hi, hL⟩ := HX.out
   have hkL : k < L := by omega
   have hk' : (k : Int) < (L : Int) := by omega
   obtain ⟨r, hr2⟩ : ∃ r, ps[k]? = some r := ⟨_, List.getElem?_eq_getElem (by omega)⟩
   obtain ⟨b, off, hab, hc0⟩ : ∃ b off, a = some ⟨b, off, none⟩ ∧ wr.cell? ⟨b, off + k, none⟩ = some (.int .i64 (r : Int)) := by
     obtain ⟨_, h2⟩ := hr.below hB (Nat.le_refl _)
     rcases h2 with ⟨e, h0⟩ | ⟨b, off, cap, e, _, _, _, h4⟩
     · omega
     · cases e; exact ⟨b, off, rfl, h4 k _ (natV_get hr2)⟩
   subst hab
   by_cases he : k = ps.idxOf q
   · have hrq : r = q := by
       have h1 := List.getElem_idxOf (show ps.idxOf q < ps.length by omega)
       rw [he] at hr2
       rw [List.getElem?_eq_getElem (by omega), h1] at hr2
       exact (Option.some.inj hr2).symm
     subst hrq
     have HS := Lib.hid (And.intro he hB)
     clear hr hi hL hk hB hr2 he
     go_wp2
     refine bodyPost_ret (v := .int .i64 (k : Int)) (by simp [results, Tryz.results57, go_sem]) rfl ⟨by rw [HS.out.1], HS.out.2⟩
   · have hne : ((r : Int) == (q : Int)) = false := by
       rw [beq_eq_false_iff_ne]
       intro h
       have hrq : r = q := by omega
       rw [hrq] at hr2
       have := idxOf_le_get hr2
       omega
     have HS := Lib.hid (And.intro (show k + 1 ≤ ps.idxOf q by omega) hB)
     clear hr hi hL hk hB hr2 he
     go_wp2
     exact ⟨⟨k + 1, by go_num, HS.out.1, HS.out.2⟩, by simp [intOf]; omega⟩
end Go.Proofs.YtlkmgclbckojgaaGreatDoor
namespace Go.Proofs.YtlkmgclbckojgaaGreatDoor
open Go.RowKit
set_option linter.unusedVariables false
variable {W W' W1 W2 : World} {p n n' : Nat} {fv fv' fv1 : Value} {vs vs' vs1 G : List Int}
theorem idx_map (hn : vs.Nodup) : ∀ {ps : List Nat} {q : Nat}, (∀ r ∈ ps, r < vs.length) → q < vs.length → (ps.map (vAt vs)).idxOf (vAt vs q) = ps.idxOf q
 | [], q, _, _ => rfl
 | r :: ps, q, h, hq => by
   rw [List.map_cons, List.idxOf_cons, List.idxOf_cons, idx_map hn (fun s hs => h s (List.mem_cons_of_mem _ hs)) hq]
   have hr := h r (List.mem_cons_self ..)
   by_cases e : r = q
   · subst e; simp
   · have : vAt vs r ≠ vAt vs q := fun e2 => by
       have h1 := List.getElem?_eq_getElem hr
       have h2 := List.getElem?_eq_getElem hq
       rw [vAt_of h1, vAt_of h2] at e2
       rw [e2] at h1
       exact e (one_place hn h1 h2)
     rw [show (vAt vs r == vAt vs q) = false by simp [this], show (r == q) = false by simp [e]]
theorem rowV_b {w : World} {b s : Nat} (h : w.heap[b]? = some (.cells #[.int .u8 (s : Int)] 5 (0, 0))) : RowV w 1 (.slice (some ⟨b, 0, none⟩) 1 1) 1 (byV [s]) := by
 refine ⟨rfl, .inr ⟨b, 0, 1, rfl, Nat.le_refl _, by decide, (Array.getElem?_eq_some_iff.1 h).1, fun j u hj => ?_⟩⟩
 rw [cell_of_row w b _ _ _ _ h]
 simpa [byV] using hj
structure BY (W w : World) (vo : Value) (no : Nat) (bs : List Nat) (vp : Value) (ps : List Nat) : Prop where
 blw : Below W.heap.size W w
 out : w.ownsRow W.heap.size 5 1 vo no (byV bs)
 parts : w.ownsRow W.heap.size 3 1 vp ps.length (natV ps)
section
variable {w w1 w2 : World} {vo v2 vp : Value} {no n2 : Nat} {bs b2 : List Nat} {ps : List Nat}
theorem BY.below (h : BY W w vo no bs vp ps) (hb : Below w.heap.size w w1) : BY W w1 vo no bs vp ps := ⟨h.blw.trans (hb.mono h.blw.size), ownsRow_belowAll h.out hb, ownsRow_belowAll h.parts hb⟩
theorem BY.grow (h : BY W w vo no bs vp ps) (hb : Below w.heap.size w w1) (hg : w1.grownBy w2 vo.ownBlock) (ho : w2.ownsRow W.heap.size 5 1 v2 n2 (byV b2)) : BY W w2 v2 n2 b2 vp ps := by
 have h1 := h.below hb
 refine ⟨h1.blw.grown hg h1.blw.size (fun k hk => (h1.out.lt k hk).1), ho, World.ownsRow.kept h1.parts hg ?_⟩
 rcases hv : vp.ownBlock with _ | k
 · exact .inl rfl
 · refine .inr fun hk => ?_
   obtain ⟨c1, e1⟩ := typeOf_own h1.parts k hv
   obtain ⟨c2, e2⟩ := typeOf_own h1.out k hk.symm
   rw [e1] at e2; cases e2
end
set_option maxRecDepth 100000 in
set_option maxHeartbeats 40000000 in
theorem wBytes_calls (h : WL W p fv vs n) {x : Nat} {z : Int} (hx : vs[x]? = some z) (hz : allowedZ z) : Calls Tryz.prog 19 #[.pointer (some ⟨p, 0, none⟩), .int .i64 (x : Int)] W fun r w' => ∃ (a : Option Addr) (c : Nat), r = .returned (.slice a (bytesZ z).length c) ∧ w'.ownsRow W.heap.size 5 1 (.slice a (bytesZ z).length c) (bytesZ z).length (byV (bytesZ z)) ∧ Below W.heap.size W w' := by
 have HP := Lib.hid (wParts_calls h hx)
 have HX := Lib.hid (And.intro h (And.intro hx hz))
 obtain ⟨i8, hi0, hi1, hi2, hi3⟩ := info_parts infoe8
 have H8 := Lib.hid (And.intro hi0 (And.intro hi1 (And.intro hi2 hi3)))
 clear h hx hz hi0 hi1 hi2 hi3
 go_enter Tryz.func19, Tryz.ntmps19
 go_upto_region 2 with (first
   | (go_at_call 47; refine (HP.out).mono ?_; rintro e5 w5 ⟨a5, c5, ps, rfl, ho, hm, hv, hb⟩
      have H5 := Lib.hid (And.intro ho (And.intro hm (And.intro hv hb)))
      clear ho hm hv hb))
 obtain ⟨h, hx, hz⟩ := HX.out
 obtain ⟨L, hL⟩ : ∃ L, L = ps.length := ⟨_, rfl⟩
 have hLw : L = (listZ z).length := by
   have h1 := congrArg List.length H5.out.2.1
   rw [List.length_map] at h1
   omega
 have hL2 : L ≤ 2000 := by rw [hLw, listZ_len]; exact hz.1
 have hLI : (L : Int) ≤ 2000 := by omega
 have hwt : ∀ y ∈ listZ z, wt y ≤ 300 := fun y hy => hz.2.2 y (mem_listZ.1 hy)
 obtain ⟨Z, hZ⟩ : ∃ Z, Z = listZ z := ⟨_, rfl⟩
 rw [← hZ] at hLw hwt
 have hpos : 0 < ps.length := by
   have := partsZ_length_pos z
   rw [← listZ_len, ← hZ, ← hLw, hL] at this
   exact this
 obtain ⟨bp, cp, ep⟩ := Go.Joins.ownsRow_form H5.out.1 hpos
 cases ep
 have HZ := Lib.hid (And.intro hZ (And.intro hLw (And.intro hwt hL)))
 rw [← hL]
 clear hpos
 clear h hx hz hZ hLw hwt hL
 go_upto_region 4 with (first
   | (go_at_call 56; refine (two_calls L _).mono ?_; rintro e6 w6 ⟨aT, cT, rfl, ht6, hb6⟩
      have hby : BY W w6 (.slice aT 2 cT) 2 (twoN L) (.slice (some ⟨bp, 0, none⟩) ps.length c5) ps := ⟨H5.out.2.2.2.trans (hb6.mono H5.out.2.2.2.size), ownsRow_base ht6 H5.out.2.2.2.size, ownsRow_belowAll H5.out.1 hb6⟩
      rw [← HZ.out.2.2.2] at hby
      have HBY := Lib.hid hby
      clear ht6 hb6 hby))
 go_loopw [6, 7] (fun o i wl => ∃ (k : Nat) (a : Option Addr) (c : Nat) (no : Nat) (bs : List Nat), k ≤ L ∧ i = .int .i64 (k : Int) ∧ o = .slice a no c ∧ no = bs.length ∧ no ≤ 2 + k * 902 ∧ bs = twoN L ++ (Z.take k).flatMap (partBy Z) ∧ BY W wl (.slice a no c) no bs (.slice (some ⟨bp, 0, none⟩) L c5) ps) (fun _ i _ => L - (intOf i).toNat)
 case atStart => exact ⟨0, aT, cT, 2, twoN L, Nat.zero_le _, rfl, rfl, rfl, by omega, by simp, HBY.out⟩
 case round =>
   obtain ⟨k, a, c, no, bs, hkL, rfl, rfl, hno, hnb, hbs, hBY⟩ := hrel
   obtain ⟨h, hx, hz⟩ := HX.out
   obtain ⟨hZ, hLw, hwt, hL⟩ := HZ.out
   by_cases hk : k < L
   · have hk' : (k : Int) < (L : Int) := by omega
     obtain ⟨q, hq⟩ : ∃ q, ps[k]? = some q := ⟨_, List.getElem?_eq_getElem (by omega)⟩
     have hqv := H5.out.2.2.1 q (List.mem_of_getElem? hq)
     obtain ⟨y, hy⟩ : ∃ y, vs[q]? = some y := ⟨_, List.getElem?_eq_getElem hqv⟩
     have hZk : Z[k]? = some y := by
       rw [hZ, ← H5.out.2.1, List.getElem?_map, hq]
       simp [vAt_of hy]
     have hyw := hwt y (List.mem_of_getElem? hZk)
     obtain ⟨bw, cw, v, f, efv, hcb, hrf, htf, hpl, hw⟩ := h.form hy
     obtain ⟨x0, _⟩ := h.cell
     have hpW := h.plt
     subst efv
     have hqN : (q : Int) < (vs.length : Int) := by omega
     have hc := h.count
     unfold gMax at hc
     obtain ⟨NN, hNN⟩ : ∃ NN, NN = vs.length := ⟨_, rfl⟩
     rw [← hNN] at hqN hc x0
     have hNN2 : (NN : Int) ≤ 1000000000000 := by omega
     obtain ⟨aF, cF, rfl⟩ := (RowV.of_own hrf).shape
     have hfl : f.length = (naf y).length := htf.len
     obtain ⟨F, hF⟩ : ∃ F, F = (naf y).length := ⟨_, rfl⟩
     rw [← hF] at hfl
     rw [hfl] at hcb
     have hF3 : F ≤ 300 := by unfold wt at hyw; omega
     have hF4 : (F : Int) ≤ 300 := by omega
     have hq0 : (0 : Int) ≤ (q : Int) := by omega
     have hBYp := hBY.parts
     rw [hL] at hBYp
     have r0 := (hBYp.cellAt k (by omega)).trans (natV_get hq)
     have x1 := (hBY.blw.cell (p := ⟨p, 0, none⟩) hpW).trans x0
     have hcb1 := (hBY.blw.cell (p := ⟨bw, q, none⟩) (World.block_lt_of_cell? _ _ hcb)).trans hcb
     have hplen : ((ps.length : Nat) : Int) = (L : Int) := by omega
     have hnd := h.nd
     have hahead := h.ahead
     have hps9 : ps.length ≤ 1000000000000 := by omega
     have hidx : ∀ t ∈ naf y, ∀ q2, vs[q2]? = some (t.2 : Int) → q2 ∈ ps ∧ Z.idxOf (t.2 : Int) = ps.idxOf q2 := by
       intro t ht q2 hq2
       have hm : (t.2 : Int) ∈ Z := by
         have h1 := partsZ_closed z y (mem_listZ.1 (by rw [← hZ]; exact List.mem_of_getElem? hZk)) t ht
         rw [hZ]; exact mem_listZ.2 h1
       have hm2 := hm
       rw [hZ, ← H5.out.2.1] at hm2
       obtain ⟨r, hr, he⟩ := List.mem_map.1 hm2
       have hrl := H5.out.2.2.1 r hr
       have hrv := List.getElem?_eq_getElem hrl
       rw [vAt_of hrv] at he
       rw [he] at hrv
       have hrq := one_place hnd hrv hq2
       subst hrq
       refine ⟨hr, ?_⟩
       have := idx_map hnd (ps := ps) (q := r) (fun s hs => H5.out.2.2.1 s hs) hrl
       rw [vAt_of hrv, H5.out.2.1, ← hZ] at this
       exact this
     have HQ := Lib.hid (And.intro hBY (And.intro hno (And.intro hnb (And.intro hbs (And.intro hZk (And.intro hrf (And.intro htf (And.intro hidx (And.intro hF hfl)))))))))
     have HN9 := Lib.hid (And.intro hps9 hplen)
     clear h hx hz hZ hLw hwt hL hkL hk hno hnb hbs hBY hq hqv hy hZk hyw hrf htf hpl hw hpW hBYp hc hNN hfl hF x0 hcb hnd hahead hidx hps9 hplen
     go_upto_region 6 with fail
     go_quiet (fail)
     obtain ⟨wq, hwq⟩ : ∃ wq, wq = wr.drewN nq := ⟨_, rfl⟩
     have hBYq : BY W wq (.slice a no c) no bs (.slice (some ⟨bp, 0, none⟩) L c5) ps := by rw [hwq]; exact HQ.out.1.below (below_drewN (Below.refl _ _) _)
     rw [← hwq]
     have HBY := Lib.hid hBYq
     clear hwq hBYq x1 hcb1 r0
     have hno9 : no ≤ 2000000 := by have := HQ.out.2.2.1; omega
     go_upto_region 9 with (first
       | (go_at_call 56; refine (two_calls F _).mono ?_; rintro e6 w6 ⟨aT, cT, rfl, ht6, hb6⟩
          have HBY := Lib.hid (HBY.out.below hb6)
          have HT := Lib.hid ht6
          clear ht6 hb6)
       | (at_builtin; refine wpList_append_v rfl _ _ 50 rfl W.heap.size 5 i8 (.int .u8 0) 1 1 Tryz.underlying50 H8.out.1 H8.out.2.1 H8.out.2.2.1 H8.out.2.2.2 rfl (by decide) _ no _ rfl HBY.out.out _ 2 (byV (twoN F)) rfl (RowV.of_own HT.out) (byV_one _) (by unfold maxLen; omega) (by omega) HBY.out.blw.size ?_; intro v7 w7 hown7 hg7
          obtain ⟨a7, c7, rfl⟩ := (RowV.of_own hown7).shape
          have hby7 := HBY.out.grow (b2 := bs ++ twoN F) (Below.refl _ _) hg7 (by rw [byV_append]; exact hown7)
          have HBY := Lib.hid hby7
          clear hown7 hg7 hby7))
     go_loopw [6, 9] (fun o i wl => ∃ (j : Nat) (a : Option Addr) (c : Nat) (n2 : Nat) (bs2 : List Nat), j ≤ F ∧ i = .int .i64 (j : Int) ∧ o = .slice a n2 c ∧ n2 = no + 2 + j * 3 ∧ bs2 = bs ++ twoN F ++ termsBy Z ((naf y).take j) ∧ BY W wl (.slice a n2 c) n2 bs2 (.slice (some ⟨bp, 0, none⟩) L c5) ps) (fun _ i _ => F - (intOf i).toNat)
     case atStart => exact ⟨0, a7, c7, no + 2, _, Nat.zero_le _, rfl, rfl, by omega, by simp [termsBy], HBY.out⟩
     case round =>
       obtain ⟨j, a2, c2, n2, bs2, hjF, rfl, rfl, hn2, hbs2, hBY2⟩ := hrel
       by_cases hj : j < F
       · have hj' : (j : Int) < (F : Int) := by omega
         obtain ⟨hBY, hno, hnb, hbs, hZk, hrf, htf, hidx, hF, hfl⟩ := HQ.out
         obtain ⟨b2, cf2, e2, u0, u1⟩ := rowW_cells (n := j) hrf (by omega)
         rw [hfl] at e2
         cases e2
         obtain ⟨m2, q2, hm2⟩ : ∃ m q, f[j]? = some (m, q) := ⟨_, _, List.getElem?_eq_getElem (by omega)⟩
         have hjn : j < (naf y).length := by omega
         obtain ⟨g0, g1⟩ := htf.get j (by omega) hjn
         rw [(List.getElem?_eq_some_iff.1 hm2).2] at u0 u1 g0 g1
         simp only at u0 u1 g0 g1
         obtain ⟨hq2, hix⟩ := hidx _ (List.getElem_mem hjn) q2 g1
         obtain ⟨m3, e, he⟩ : ∃ m e, (naf y)[j] = (m, e) := ⟨_, _, rfl⟩
         rw [he] at g0 hix
         simp only at g0 hix
         subst g0
         obtain ⟨ix, hixe⟩ : ∃ ix, ix = ps.idxOf q2 := ⟨_, rfl⟩
         have hpl9 := HN9.out.1
         have hu0 := fun W' (hW : Below W.heap.size W W') => (hW.cell (p := ⟨b2, j * 2, none⟩) (World.block_lt_of_cell? _ _ u0)).trans u0
         have hu1 := fun W' (hW : Below W.heap.size W W') => (hW.cell (p := ⟨b2, j * 2 + 1, none⟩) (World.block_lt_of_cell? _ _ u1)).trans u1
         have HS4 := Lib.hid hu1
         have v0 := hu0 _ hBY2.blw
         have htl : termsBy Z ((naf y).take (j + 1)) = termsBy Z ((naf y).take j) ++ ((if m2 then 1 else 0) :: twoN ix) := by
           rw [List.take_succ_eq_append_getElem hjn, he]
           unfold termsBy
           rw [List.flatMap_append]
           simp [termBy, hix, hixe]
         have hPC := fun W' (hW : Below wr.heap.size wr W') => wplace_calls (RowV.of_own (hBY2.below hW).parts) hq2 hpl9
         rw [← hixe] at hPC
         have HPC := Lib.hid hPC
         have HQ2 := Lib.hid hq2
         have HIX := Lib.hid hixe
         have HBY := Lib.hid hBY2
         have HN := Lib.hid hBY2.blw
         have HTL := Lib.hid (And.intro htl (And.intro hbs2 hn2))
         have hn9 : n2 ≤ 2010000 := by omega
         clear hBY hno hnb hbs hZk hrf htf hidx hF hfl u0 u1 hm2 hjn g1 hq2 hix he hixe hu0 hu1 htl hPC hBY2 hbs2 hn2 hpl9 hj hjF hno9
         cases m2
         · go_upto_region 14 with fail
           clear v0
           first
             | go_region_held3 (fun W' => W'.cell? ⟨b2, j * 2 + 1, none⟩ = some (.int .i64 (q2 : Int))) (exact HS4.out _ (by repeat (first | with_reducible exact HN.out | with_reducible exact Below.refl _ _ | with_reducible refine Below.drew ?_ | with_reducible refine below_drewN ?_ _ | with_reducible refine Below.alloc ?_ (by have := HN.out.size; first | omega | (simp; omega)) _)))
                 (first
                   | (have g := H7
                      refine step_append_v _ (by rfl) _ _ _ (by rfl) W.heap.size 5 i8 (.int .u8 0) 1 1 Tryz.underlying50 H8.out.1 H8.out.2.1 H8.out.2.2.1 H8.out.2.2.2 (by rfl) (by decide) _ _ _ (by rfl) (HBY.out.below (by repeat (first | with_reducible exact Below.refl _ _ | with_reducible refine Below.drew ?_ | with_reducible refine below_drewN ?_ _ | with_reducible refine Below.alloc ?_ (by simp) _))).out _ 2 (byV (twoN ix)) (by rfl) ((RowV.of_own HT.out.1).below (by repeat (first | with_reducible exact Below.refl _ _ | with_reducible refine Below.drew ?_ | with_reducible refine below_drewN ?_ _ | with_reducible refine Below.alloc ?_ (by simp) _)) (Nat.le_refl _)) (byV_one _) (by unfold maxLen; omega) (by omega) (HBY.out.below (by repeat (first | with_reducible exact Below.refl _ _ | with_reducible refine Below.drew ?_ | with_reducible refine below_drewN ?_ _ | with_reducible refine Below.alloc ?_ (by simp) _))).blw.size ?_; intro a9 c9 w9 hown9 hg9
                      have hby9 := HBY.out.grow (b2 := bs2 ++ [0] ++ twoN ix) (by repeat (first | with_reducible exact Below.refl _ _ | with_reducible refine Below.drew ?_ | with_reducible refine below_drewN ?_ _ | with_reducible refine Below.alloc ?_ (by simp) _)) hg9 (by rw [byV_append]; exact hown9)
                      have H9 := Lib.hid hby9
                      have HN := Lib.hid hby9.blw
                      clear hown9 hg9 hby9)
                   | (refine step_append_v _ (by rfl) _ _ _ (by rfl) W.heap.size 5 i8 (.int .u8 0) 1 1 Tryz.underlying50 H8.out.1 H8.out.2.1 H8.out.2.2.1 H8.out.2.2.2 (by rfl) (by decide) _ _ _ (by rfl) (HBY.out.below (by repeat (first | with_reducible exact Below.refl _ _ | with_reducible refine Below.drew ?_ | with_reducible refine below_drewN ?_ _ | with_reducible refine Below.alloc ?_ (by simp) _))).out _ 1 (byV [0]) (by rfl) (rowV_b (by first | exact HE.out | exact heap_alloc_new _ _)) (byV_one _) (by unfold maxLen; omega) (by omega) (HBY.out.below (by repeat (first | with_reducible exact Below.refl _ _ | with_reducible refine Below.drew ?_ | with_reducible refine below_drewN ?_ _ | with_reducible refine Below.alloc ?_ (by simp) _))).blw.size ?_; intro a7 c7 w7 hown7 hg7
                      have hby7 := HBY.out.grow (b2 := bs2 ++ [0]) (by repeat (first | with_reducible exact Below.refl _ _ | with_reducible refine Below.drew ?_ | with_reducible refine below_drewN ?_ _ | with_reducible refine Below.alloc ?_ (by simp) _)) hg7 (by rw [byV_append]; exact hown7)
                      (first
                        | (have ht7 := HBY.out.keep (by repeat (first | with_reducible exact Below.refl _ _ | with_reducible refine Below.drew ?_ | with_reducible refine below_drewN ?_ _ | with_reducible refine Below.alloc ?_ (by simp) _)) hg7 HT.out.1 HT.out.2
                           have HT := Lib.hid (And.intro ht7 True.intro)
                           clear ht7)
                        | skip)
                      have H7 := Lib.hid True.intro
                      have HBY := Lib.hid hby7
                      have HN := Lib.hid hby7.blw
                      have hPC := fun W' (hW : Below w7.heap.size w7 W') => wplace_calls (RowV.of_own (hby7.below hW).parts) HQ2.out HN9.out.1
                      rw [← HIX.out] at hPC
                      have HPC := Lib.hid hPC
                      clear hown7 hg7 hby7 hPC)
                   | (go_at_call 57; refine (HPC.out _ (by repeat (first | with_reducible exact Below.refl _ _ | with_reducible refine Below.drew ?_ | with_reducible refine below_drewN ?_ _ | with_reducible refine Below.alloc ?_ (by simp) _))).mono ?_; rintro e5 w5 ⟨rfl, hb5⟩
                      have hby5 := HBY.out.below (Below.trans (by repeat (first | with_reducible exact Below.refl _ _ | with_reducible refine Below.drew ?_ | with_reducible refine below_drewN ?_ _ | with_reducible refine Below.alloc ?_ (by simp) _)) (hb5.mono (by first | exact Nat.le_refl _ | (simp; done) | (simp; omega))))
                      (first
                        | (have he := (hb5.block _ (by simp)).trans (heap_alloc_new _ _)
                           have HE := Lib.hid he
                           clear he)
                        | skip)
                      have HBY := Lib.hid hby5
                      have HN := Lib.hid hby5.blw
                      clear hb5 hby5)
                   | (go_at_call 56; refine (two_calls ix _).mono ?_; rintro e6 w6 ⟨aT, cT, rfl, ht6, hb6⟩
                      have hby6 := HBY.out.below (Below.trans (by repeat (first | with_reducible exact Below.refl _ _ | with_reducible refine Below.drew ?_ | with_reducible refine below_drewN ?_ _ | with_reducible refine Below.alloc ?_ (by simp) _)) (hb6.mono (by first | exact Nat.le_refl _ | (simp; done) | (simp; omega))))
                      have hne6 := fun k (hk : (Value.slice aT 2 cT).ownBlock = some k) (hv : _ = some k) => Nat.lt_irrefl k (Nat.lt_of_lt_of_le (HBY.out.out.lt k hv).2 (Nat.le_trans (by first | exact Nat.le_refl _ | (simp; done) | (simp; omega)) (ht6.lt k hk).1))
                      (first
                        | (have he := (hb6.block _ (by simp)).trans (heap_alloc_new _ _)
                           have HE := Lib.hid he
                           clear he)
                        | (have he := (hb6.block _ (Array.getElem?_eq_some_iff.1 HE.out).1).trans HE.out
                           have HE := Lib.hid he
                           clear he)
                        | skip)
                      have HT := Lib.hid (And.intro ht6 hne6)
                      have HBY := Lib.hid hby6
                      have HN := Lib.hid hby6.blw
                      clear ht6 hb6 hby6 hne6))
             | fail
           all_goals
             (try go_wp2)
             refine ⟨⟨j + 1, a9, c9, n2 + 1 + 2, bs2 ++ [0] ++ twoN ix, by omega, by go_num, rfl, ?_, ?_, H9.out⟩, by first | (simp [intOf]; done) | (simp [intOf]; omega)⟩
             · have := HTL.out.2.2; omega
             · rw [HTL.out.1, HTL.out.2.1]
               simp
         · go_upto_region 14 with fail
           clear v0
           first
             | go_region_held3 (fun W' => W'.cell? ⟨b2, j * 2 + 1, none⟩ = some (.int .i64 (q2 : Int))) (exact HS4.out _ (by repeat (first | with_reducible exact HN.out | with_reducible exact Below.refl _ _ | with_reducible refine Below.drew ?_ | with_reducible refine below_drewN ?_ _ | with_reducible refine Below.alloc ?_ (by have := HN.out.size; first | omega | (simp; omega)) _)))
                 (first
                   | (have g := H7
                      refine step_append_v _ (by rfl) _ _ _ (by rfl) W.heap.size 5 i8 (.int .u8 0) 1 1 Tryz.underlying50 H8.out.1 H8.out.2.1 H8.out.2.2.1 H8.out.2.2.2 (by rfl) (by decide) _ _ _ (by rfl) (HBY.out.below (by repeat (first | with_reducible exact Below.refl _ _ | with_reducible refine Below.drew ?_ | with_reducible refine below_drewN ?_ _ | with_reducible refine Below.alloc ?_ (by simp) _))).out _ 2 (byV (twoN ix)) (by rfl) ((RowV.of_own HT.out.1).below (by repeat (first | with_reducible exact Below.refl _ _ | with_reducible refine Below.drew ?_ | with_reducible refine below_drewN ?_ _ | with_reducible refine Below.alloc ?_ (by simp) _)) (Nat.le_refl _)) (byV_one _) (by unfold maxLen; omega) (by omega) (HBY.out.below (by repeat (first | with_reducible exact Below.refl _ _ | with_reducible refine Below.drew ?_ | with_reducible refine below_drewN ?_ _ | with_reducible refine Below.alloc ?_ (by simp) _))).blw.size ?_; intro a9 c9 w9 hown9 hg9
                      have hby9 := HBY.out.grow (b2 := bs2 ++ [1] ++ twoN ix) (by repeat (first | with_reducible exact Below.refl _ _ | with_reducible refine Below.drew ?_ | with_reducible refine below_drewN ?_ _ | with_reducible refine Below.alloc ?_ (by simp) _)) hg9 (by rw [byV_append]; exact hown9)
                      have H9 := Lib.hid hby9
                      have HN := Lib.hid hby9.blw
                      clear hown9 hg9 hby9)
                   | (refine step_append_v _ (by rfl) _ _ _ (by rfl) W.heap.size 5 i8 (.int .u8 0) 1 1 Tryz.underlying50 H8.out.1 H8.out.2.1 H8.out.2.2.1 H8.out.2.2.2 (by rfl) (by decide) _ _ _ (by rfl) (HBY.out.below (by repeat (first | with_reducible exact Below.refl _ _ | with_reducible refine Below.drew ?_ | with_reducible refine below_drewN ?_ _ | with_reducible refine Below.alloc ?_ (by simp) _))).out _ 1 (byV [1]) (by rfl) (rowV_b (by first | exact HE.out | exact heap_alloc_new _ _)) (byV_one _) (by unfold maxLen; omega) (by omega) (HBY.out.below (by repeat (first | with_reducible exact Below.refl _ _ | with_reducible refine Below.drew ?_ | with_reducible refine below_drewN ?_ _ | with_reducible refine Below.alloc ?_ (by simp) _))).blw.size ?_; intro a7 c7 w7 hown7 hg7
                      have hby7 := HBY.out.grow (b2 := bs2 ++ [1]) (by repeat (first | with_reducible exact Below.refl _ _ | with_reducible refine Below.drew ?_ | with_reducible refine below_drewN ?_ _ | with_reducible refine Below.alloc ?_ (by simp) _)) hg7 (by rw [byV_append]; exact hown7)
                      (first
                        | (have ht7 := HBY.out.keep (by repeat (first | with_reducible exact Below.refl _ _ | with_reducible refine Below.drew ?_ | with_reducible refine below_drewN ?_ _ | with_reducible refine Below.alloc ?_ (by simp) _)) hg7 HT.out.1 HT.out.2
                           have HT := Lib.hid (And.intro ht7 True.intro)
                           clear ht7)
                        | skip)
                      have H7 := Lib.hid True.intro
                      have HBY := Lib.hid hby7
                      have HN := Lib.hid hby7.blw
                      have hPC := fun W' (hW : Below w7.heap.size w7 W') => wplace_calls (RowV.of_own (hby7.below hW).parts) HQ2.out HN9.out.1
                      rw [← HIX.out] at hPC
                      have HPC := Lib.hid hPC
                      clear hown7 hg7 hby7 hPC)
                   | (go_at_call 57; refine (HPC.out _ (by repeat (first | with_reducible exact Below.refl _ _ | with_reducible refine Below.drew ?_ | with_reducible refine below_drewN ?_ _ | with_reducible refine Below.alloc ?_ (by simp) _))).mono ?_; rintro e5 w5 ⟨rfl, hb5⟩
                      have hby5 := HBY.out.below (Below.trans (by repeat (first | with_reducible exact Below.refl _ _ | with_reducible refine Below.drew ?_ | with_reducible refine below_drewN ?_ _ | with_reducible refine Below.alloc ?_ (by simp) _)) (hb5.mono (by first | exact Nat.le_refl _ | (simp; done) | (simp; omega))))
                      (first
                        | (have he := (hb5.block _ (by simp)).trans (heap_alloc_new _ _)
                           have HE := Lib.hid he
                           clear he)
                        | skip)
                      have HBY := Lib.hid hby5
                      have HN := Lib.hid hby5.blw
                      clear hb5 hby5)
                   | (go_at_call 56; refine (two_calls ix _).mono ?_; rintro e6 w6 ⟨aT, cT, rfl, ht6, hb6⟩
                      have hby6 := HBY.out.below (Below.trans (by repeat (first | with_reducible exact Below.refl _ _ | with_reducible refine Below.drew ?_ | with_reducible refine below_drewN ?_ _ | with_reducible refine Below.alloc ?_ (by simp) _)) (hb6.mono (by first | exact Nat.le_refl _ | (simp; done) | (simp; omega))))
                      have hne6 := fun k (hk : (Value.slice aT 2 cT).ownBlock = some k) (hv : _ = some k) => Nat.lt_irrefl k (Nat.lt_of_lt_of_le (HBY.out.out.lt k hv).2 (Nat.le_trans (by first | exact Nat.le_refl _ | (simp; done) | (simp; omega)) (ht6.lt k hk).1))
                      (first
                        | (have he := (hb6.block _ (by simp)).trans (heap_alloc_new _ _)
                           have HE := Lib.hid he
                           clear he)
                        | (have he := (hb6.block _ (Array.getElem?_eq_some_iff.1 HE.out).1).trans HE.out
                           have HE := Lib.hid he
                           clear he)
                        | skip)
                      have HT := Lib.hid (And.intro ht6 hne6)
                      have HBY := Lib.hid hby6
                      have HN := Lib.hid hby6.blw
                      clear ht6 hb6 hby6 hne6))
             | fail
           all_goals
             (try go_wp2)
             refine ⟨⟨j + 1, a9, c9, n2 + 1 + 2, bs2 ++ [1] ++ twoN ix, by omega, by go_num, rfl, ?_, ?_, H9.out⟩, by first | (simp [intOf]; done) | (simp [intOf]; omega)⟩
             · have := HTL.out.2.2; omega
             · rw [HTL.out.1, HTL.out.2.1]
               simp
       · have hjn : j = F := by omega
         have hj' : ¬ (j : Int) < (F : Int) := by omega
         have HS := Lib.hid (And.intro hn2 (And.intro hbs2 (And.intro hBY2 hjn)))
         clear hn2 hbs2 hBY2 hjn hj hjF
         go_wp2
         obtain ⟨hn2, hbs2, hBY2, hjn⟩ := HS.out
         obtain ⟨hBY, hno, hnb, hbs, hZk, hrf, htf, hidx, hF, hfl⟩ := HQ.out
         have htl : (Z.take (k + 1)).flatMap (partBy Z) = (Z.take k).flatMap (partBy Z) ++ partBy Z y := by
           rw [List.take_add_one, hZk]
           simp
         have hfull : (naf y).take j = naf y := List.take_of_length_le (by omega)
         rw [hfull] at hbs2
         have hpb : partBy Z y = twoN F ++ termsBy Z (naf y) := by unfold partBy; rw [hF]
         refine ⟨⟨k + 1, a2, c2, n2, bs2, by omega, by go_num, rfl, ?_, by omega, ?_, hBY2⟩, by first | (simp [intOf]; done) | (simp [intOf]; omega)⟩
         · rw [hbs2, hn2, hno]
           simp only [List.length_append]
           rw [termsBy_len, ← hF, hjn]
           simp [twoN]; omega
         · rw [htl, hpb, hbs2, hbs]
           simp
   · have hkn : k = L := by omega
     have hk' : ¬ (k : Int) < (L : Int) := by omega
     have hfin : bs = bytesZ z := by
       rw [hbs, hkn, List.take_of_length_le (by omega)]
       unfold bytesZ
       rw [← hZ, hLw]
     have HS := Lib.hid (And.intro hfin (And.intro hno hBY))
     clear h hx hz hZ hLw hwt hL hkL hk hno hnb hbs hBY hfin hkn
     go_wp2
     refine bodyPost_ret (v := .slice a no c) (by simp [results, Tryz.results19, go_sem]) rfl ?_
     obtain ⟨hfin, hno, hBY⟩ := HS.out
     have h1 := hBY.out
     rw [hfin] at h1 hno
     rw [hno] at h1 ⊢
     exact ⟨_, _, rfl, h1, hBY.blw⟩
end Go.Proofs.YtlkmgclbckojgaaGreatDoor
namespace Go.Proofs.YtlkmgclbckojgaaGreatDoor
open Go.RowKit
set_option linter.unusedVariables false
variable {W W' W1 W2 : World} {p n n' : Nat} {fv fv' fv1 : Value} {vs vs' vs1 G : List Int}
def gZero : List Int := (List.range 60011).map (fun i : Nat => (i : Int)) ++ [(2 : Int) ^ 63, -(2 : Int) ^ 63]
theorem gZero_len : gZero.length = 60013 := by simp [gZero]
theorem gZero_ok : GOK gZero := by
 refine ⟨by rw [gZero_len]; unfold gMax; omega, fun g hg => ?_, fun i hi => List.mem_append_left _ (List.mem_map.2 ⟨i, List.mem_range.2 (by omega), rfl⟩), ⟨List.mem_append_right _ (by simp), List.mem_append_right _ (by simp)⟩⟩
 rcases List.mem_append.1 hg with a | a
 · obtain ⟨i, hi, rfl⟩ := List.mem_map.1 a
   have := List.mem_range.1 hi
   have := wt_small_nat (k := i) (by omega)
   omega
 · have h1 : wt ((2 : Int) ^ 63) = 1 := wt_pow1 63
   rcases List.mem_cons.1 a with rfl | a
   · omega
   · rw [List.mem_singleton.1 a]
     have : wt (-(2 : Int) ^ 63) = wt ((2 : Int) ^ 63) := by unfold wt; rw [naf_neg, List.length_map]
     omega
theorem WL.new (W : World) : WL ((W.alloc (.cells #[.slice none 0 0] 41)).alloc (.cells #[.slice (some ⟨W.heap.size, 0, none⟩) 1 1] 44)) (W.heap.size + 1) (.slice (some ⟨W.heap.size, 0, none⟩) 1 1) [0] 60013 := by
 obtain ⟨a0, a1⟩ := heap_two W (.cells #[.slice none 0 0] 41) (.cells #[.slice (some ⟨W.heap.size, 0, none⟩) 1 1] 44)
 refine ⟨gZero, ⟨[.slice none 0 0], [[]], ⟨a1, ?_, rfl, fun i f hf => ?_⟩, ⟨rfl, by simp, rfl, fun i f hf => ?_, fun z hz => ?_⟩, gZero_ok⟩, by rw [gZero_len]; exact Nat.le_refl _⟩
 · have := World.ownsRow_lit W #[.slice none 0 0] 1 (Nat.zero_le _) (by decide) rfl (e := 41) (size := 1) (base := 0)
   exact this.alloc _
 · rcases i with _ | i
   · simp at hf
     subst hf
     exact ⟨_, rfl, World.ownsRow_nil _ _ _ _⟩
   · simp at hf
 · rcases i with _ | i
   · simp at hf
     subst hf
     exact ⟨0, rfl, by rw [naf_zero]; trivial, by simp⟩
   · simp at hf
 · rw [List.mem_singleton.1 hz]
   exact gZero_ok.low 0 (by omega)
set_option maxRecDepth 100000 in
set_option maxHeartbeats 2000000 in
theorem wNew_calls (W : World) : Calls Tryz.prog 7 #[] W fun r w' => ∃ (p : Nat) (fv : Value), r = .returned (.pointer (some ⟨p, 0, none⟩)) ∧ WL w' p fv [0] 60013 ∧ (∀ k, wB p fv k → W.heap.size ≤ k) ∧ Below W.heap.size W w' := by
 have h := WL.new W
 have hb : Below W.heap.size W ((W.alloc (.cells #[.slice none 0 0] 41)).alloc (.cells #[.slice (some ⟨W.heap.size, 0, none⟩) 1 1] 44)) := ((Below.refl _ _).alloc (Nat.le_refl _) _).alloc (by simp) _
 have H := Lib.hid (And.intro h hb)
 clear h hb
 go_enter Tryz.func7, Tryz.ntmps7
 go_wp2
 go_ret
 refine ⟨_, _, rfl, H.out.1, fun k hk => ?_, H.out.2⟩
 rcases hk with rfl | hk
 · omega
 · simp only [Value.ownBlock, Option.some.injEq] at hk
   omega
end Go.Proofs.YtlkmgclbckojgaaGreatDoor
namespace Go.Proofs.YtlkmgclbckojgaaGreatDoor
open Go.RowKit
set_option linter.unusedVariables false
variable {W W' W1 W2 : World} {p n n' : Nat} {fv fv' fv1 : Value} {vs vs' vs1 G : List Int}
structure LW (W : World) (p : Nat) (fv : Value) (vs : List Int) (n : Nat) : Prop where
 wl : WL W p fv vs n
 law : LawW W
 far : ∀ k, wB p fv k → 0 < k
theorem LW.grow (h : LW W p fv vs n) (k : GrowL W p fv vs fv' vs' W' n') : LW W' p fv' vs' n' := by
 obtain ⟨t1, t2⟩ := h.law W (Below.refl _ _)
 have hk := k.2.2.1
 have htab : Tab W' := tab_keep t1 (hk.block 0 t2 (fun hb => Nat.lt_irrefl _ (h.far _ hb)))
 have hsz : 0 < W'.heap.size := Nat.lt_of_lt_of_le t2 hk.size
 refine ⟨k.1, LawW.of htab hsz (Below.refl _ _), fun i hi => ?_⟩
 rcases hi with rfl | hi
 · exact h.far _ (.inl rfl)
 · rcases k.2.2.2.1 i hi with c | c
   · exact h.far i (.inr c)
   · omega
theorem LW.below (h : LW W p fv vs n) (hb : Below W.heap.size W W') : LW W' p fv vs n := ⟨h.wl.below hb, h.law.on hb, h.far⟩
theorem LW.more (h : LW W p fv vs n) (hn : n ≤ n') : LW W p fv vs n' := ⟨h.wl.more hn, h.law, h.far⟩
theorem NumA.world {s z : Int} {g : Option Addr} (h : NumA (wB p fv) W s g z) (k : GrowL W p fv vs fv' vs' W' n') : NumA (wB p fv') W' s g z := by
 have h1 : NumA (orA (wB p fv) (fun k => W.heap.size ≤ k)) W s g z := h.grow (fun i hi => hi)
 have hk := k.2.2.1
 have h2 := h1.2.keeps (w' := W') ⟨hk.os, hk.tape, hk.output, hk.size, fun j a b => hk.block j a (fun e => b (.inl e))⟩
 refine ⟨h.1, h2.shrink (fun i hi => ?_)⟩
 rcases hi with rfl | hi
 · exact .inl (.inl rfl)
 · rcases k.2.2.2.1 i hi with c | c
   · exact .inl (.inr c)
   · exact .inr c
theorem WL.blt (h : WL W p fv vs n) : ∀ k, wB p fv k → k < W.heap.size := by
 obtain ⟨G, ⟨rows, fs, hs, hg, _⟩, _⟩ := h
 intro k hk
 rcases hk with rfl | hk
 · exact (Array.getElem?_eq_some_iff.1 hs.box).1
 · exact (hs.forms.lt k hk).2
theorem wInt_calls (h : WL W p fv vs n) {x : Nat} {z : Int} (hx : vs[x]? = some z) : Calls Tryz.prog 48 #[.pointer (some ⟨p, 0, none⟩), .int .i64 (x : Int)] W fun r w' => ∃ (fv' : Value) (vs' : List Int), r = .returned (.tuple #[.int .i64 (smallZ z), .bool (decide (i64 z))]) ∧ GrowL W p fv vs fv' vs' w' n := by
 obtain ⟨G, hM, hn⟩ := h
 refine (wInt_G _ z (Nat.lt_succ_self _) hM x hx).mono ?_
 rintro r w' ⟨f, s, rfl, hg⟩
 exact ⟨f, s, rfl, hg.L hn⟩
theorem FitsV.later {B : Nat → Prop} {w W : World} : ∀ {ts : List TV} {vs : List (Bool × Int)}, FitsV B w ts vs → Below w.heap.size w W → FitsV B W ts vs
 | [], [], _, _ => trivial
 | t :: ts, p :: vs, h, hb => ⟨⟨h.1.1, h.1.2.below hb⟩, h.2.later hb⟩
 | [], _ :: _, h, _ => h.elim
 | _ :: _, [], h, _ => h.elim
theorem wSign_L (h : WL W p fv vs n) {x : Nat} {z : Int} (hx : vs[x]? = some z) : Calls Tryz.prog 46 #[.pointer (some ⟨p, 0, none⟩), .int .i64 (x : Int)] W fun e w' => e = .returned (.int .i64 (sgn z)) ∧ Below W.heap.size W w' := by
 obtain ⟨G, hM, _⟩ := h
 exact wSign_calls hM hx
set_option maxRecDepth 100000 in
set_option maxHeartbeats 40000000 in
theorem tells_calls (h : LW W p fv vs n) {s z : Int} {g : Option Addr} (hn : NumA (wB p fv) W s g z) {x : Nat} (hx : vs[x]? = some z) :
   Calls Tryz.prog 14 #[.agg #[.int .i64 s, .pointer g], .pointer (some ⟨p, 0, none⟩), .int .i64 (x : Int)] W fun r w' => r = .returned (.bool true) ∧ ∃ (fv' : Value) (vs' : List Int), GrowL W p fv vs fv' vs' w' n := by
 obtain ⟨W0, hW0⟩ : ∃ W0, W0 = W.alloc (.cells #[.int .i64 s, .pointer g] 28) := ⟨_, rfl⟩
 have hb0 : Below W.heap.size W W0 := by rw [hW0]; exact (Below.refl _ _).alloc (Nat.le_refl _) _
 have hp0 : W0.heap[W.heap.size]? = some (.cells #[.int .i64 s, .pointer g] 28 (0, 0)) := by rw [hW0]; exact heap_alloc_new W _
 obtain ⟨bx, hbx⟩ : ∃ bx, bx = W.heap.size := ⟨_, rfl⟩
 rw [← hbx] at hp0
 have HX := Lib.hid (And.intro h (And.intro hn (And.intro hx (And.intro hb0 hp0))))
 have hl0 := h.below hb0
 have hn0 := hn.below hb0
 obtain ⟨y0, y1⟩ := num_cells hp0
 have HI1 := Lib.hid (Int_num (W := W0) hn0)
 have HWI := Lib.hid (fun W' (hW : Below W0.heap.size W0 W') => wInt_calls (hl0.wl.below hW) hx)
 clear h hn hx hb0 hp0 hl0 hn0
 go_enter Tryz.func14, Tryz.ntmps14
 go_upto_region 1 with fail
 rw [← hW0, ← hbx]
 clear hW0 hbx
 go_upto_region 3 with (first
   | (go_at_call 29; refine (HI1.out).mono ?_; rintro e5 w5 ⟨rfl, hb5⟩
      have HB5 := Lib.hid hb5
      clear hb5)
   | (go_at_call 48; refine (HWI.out _ HB5.out).mono ?_; rintro e6 w6 ⟨f6, s6, rfl, hg6⟩
      have hg0 := ((GrowL.refl HX.out.1.wl).below HX.out.2.2.2.1).below HB5.out
      have hg7 := hg0.trans hg6
      have hl6 := HX.out.1.grow hg7
      have hn6 := HX.out.2.1.world hg7
      have hp6 : w6.heap[bx]? = some (.cells #[.int .i64 s, .pointer g] 28 (0, 0)) := by
        have hp5 := (HB5.out.block _ (Array.getElem?_eq_some_iff.1 HX.out.2.2.2.2).1).trans HX.out.2.2.2.2
        have hw5 : WL w5 p fv vs n := (HX.out.1.wl.below HX.out.2.2.2.1).below HB5.out
        exact (hg6.2.2.1.block bx (Array.getElem?_eq_some_iff.1 hp5).1 (hw5.not hp5 (by decide) (by decide))).trans hp5
      have H6 := Lib.hid (And.intro hg7 (And.intro hl6 (And.intro hn6 (And.intro hp6 (pre_get hg6.2.1 HX.out.2.2.1)))))
      clear hg0 hg6 hg7 hl6 hn6 hp6))
 obtain ⟨hg7, hl6, hn6, hp6, hx6⟩ := H6.out
 obtain ⟨wq, hwq⟩ : ∃ wq, wq = w6 := ⟨_, rfl⟩
 subst hwq
 obtain ⟨b, c, v, f, efv, hcb, hrf, htf, hpl, hw⟩ := hl6.wl.form hx6
 obtain ⟨x0, _⟩ := hl6.wl.cell
 subst efv
 have hxN : (x : Int) < (s6.length : Int) := by have := (List.getElem?_eq_some_iff.1 hx6).1; omega
 have hc := hl6.wl.count
 unfold gMax at hc
 obtain ⟨NN, hNN⟩ : ∃ NN, NN = s6.length := ⟨_, rfl⟩
 rw [← hNN] at hxN hc x0
 have hNN2 : (NN : Int) ≤ 1000000000000 := by omega
 obtain ⟨aF, cF, rfl⟩ := (RowV.of_own hrf).shape
 have hfl : f.length = wt z := htf.len
 obtain ⟨F, hF⟩ : ∃ F, F = wt z := ⟨_, rfl⟩
 rw [← hF] at hfl
 rw [hfl] at hcb
 have hF3 : F ≤ 300 := by rw [hF]; exact hn6.wt
 have hF4 : (F : Int) ≤ 300 := by omega
 have hxx0 : (0 : Int) ≤ (x : Int) := by omega
 obtain ⟨y0, y1⟩ := num_cells hp6
 have hS := fun W' (hW : Below wq.heap.size wq W') => And.intro ((hW.cell (p := ⟨bx, 0, none⟩) (World.block_lt_of_cell? _ _ y0)).trans y0) (And.intro ((hW.cell (p := ⟨bx, 1, none⟩) (World.block_lt_of_cell? _ _ y1)).trans y1) (And.intro ((hW.cell (p := ⟨p, 0, none⟩) hl6.wl.plt).trans x0) ((hW.cell (p := ⟨b, x, none⟩) (World.block_lt_of_cell? _ _ hcb)).trans hcb)))
 have HS := Lib.hid hS
 have hT := hl6.law.terms0 hn6
 have HT := Lib.hid hT
 have HN := Lib.hid (Below.refl wq.heap.size wq)
 have HQ := Lib.hid (And.intro hl6 (And.intro hn6 (And.intro hx6 (And.intro hrf (And.intro htf (And.intro hF (And.intro hfl hg7)))))))
 clear hg7 hl6 hn6 hp6 hx6 hcb hrf htf hpl hw x0 hc hNN hfl hF y0 y1 hS hT H6 HB5
 go_cut [11, 12] from 25 to 33 (fun v11 v12 wx => ∃ (a : Option Addr) (c1 : Nat) (ts : List TV), v11 = .slice a F c1 ∧ v12 = .slice aF F cF ∧ ts.length = F ∧ wx.ownsRow wq.heap.size 62 3 (.slice a F c1) F (flatT ts) ∧ FitsV cold wq ts ((naf z).map ofT) ∧ Below wq.heap.size wq wx)
 case first =>
   as_aux_lemma =>
     first
       | go_region_held3 (fun W => W.cell? ⟨bx, 0, none⟩ = some (.int .i64 s) ∧ W.cell? ⟨bx, 1, none⟩ = some (.pointer g) ∧ W.cell? ⟨p, 0, none⟩ = some (.slice (some ⟨b, 0, none⟩) NN c) ∧ W.cell? ⟨b, x, none⟩ = some (.slice aF F cF)) (exact HS.out _ (by repeat (first | with_reducible exact HN.out | with_reducible exact Below.refl _ _ | with_reducible refine Below.drew ?_ | with_reducible refine below_drewN ?_ _ | with_reducible refine Below.alloc ?_ (by simp) _)))
           (first
           | (go_at_call 32; refine (HT.out _ (by repeat (first | with_reducible exact HN.out | with_reducible exact Below.refl _ _ | with_reducible refine Below.drew ?_ | with_reducible refine below_drewN ?_ _ | with_reducible refine Below.alloc ?_ (by simp) _))).mono ?_; rintro e5 w5 ⟨a5, c5, ts, rfl, hlt, ho5, hfit, hb5⟩
              have hb6 : Below wq.heap.size wq w5 := Below.trans (by repeat (first | with_reducible exact HN.out | with_reducible exact Below.refl _ _ | with_reducible refine Below.drew ?_ | with_reducible refine below_drewN ?_ _ | with_reducible refine Below.alloc ?_ (by simp) _)) (hb5.mono (by first | exact Nat.le_refl _ | exact HN.out.size))
              have hltF : ts.length = F := by rw [hlt, HQ.out.2.2.2.2.2.1]
              rw [hltF] at ho5
              have HD := Lib.hid (And.intro hltF (And.intro ho5 hfit))
              have HN := Lib.hid hb6
              clear hb5 hb6 hlt ho5 hfit hltF))
       | fail
     all_goals
       (try go_wp2)
       go_meet
       exact ⟨_, _, ts, by rw [HD.out.1], rfl, HD.out.1, ownsRow_base HD.out.2.1 (by first | exact Nat.le_refl _ | exact HN.out.size), HD.out.2.2, HN.out⟩
 obtain ⟨a, c1, ts, rfl, rfl, hlt, ho, hfit, hB⟩ := hcut
 obtain ⟨wd, hwd⟩ : ∃ wd, wd = wc := ⟨_, rfl⟩
 subst hwd
 have HD := Lib.hid (And.intro hlt (And.intro ho (hfit.later hB)))
 have hQ := HQ.out
 have HQ := Lib.hid (And.intro (hQ.1.below hB) (And.intro (hQ.2.1.below hB) (And.intro hQ.2.2.1 (And.intro (hQ.2.2.2.1.below hB) (And.intro hQ.2.2.2.2.1 (And.intro hQ.2.2.2.2.2.1 (And.intro hQ.2.2.2.2.2.2.1 (hQ.2.2.2.2.2.2.2.below hB))))))))
 have hS := fun W' (hW : Below wd.heap.size wd W') => HS.out _ (hB.trans (hW.mono hB.size))
 have HS := Lib.hid hS
 have HN := Lib.hid (Below.refl wd.heap.size wd)
 obtain ⟨y0, y1, x0, hcb⟩ := HS.out _ (Below.refl wd.heap.size wd)
 clear hlt ho hfit hB HT hQ hS
 generalize smallZ z = sz
 generalize decide (i64 z) = di
 go_upto_region 7 with (first
 | (go_at_call 34; refine (HQ.out.1.law.sign HQ.out.2.1 _ HN.out).mono ?_; rintro e5 w5 ⟨rfl, hb5⟩
    have HN := Lib.hid hb5
    clear hb5
    obtain ⟨y0, y1, _, _⟩ := HS.out _ HN.out)
 | (go_at_call 46; refine (wSign_L (HQ.out.1.wl.below HN.out) HQ.out.2.2.1).mono ?_; rintro e5 w5 ⟨rfl, hb5⟩
    have HN := Lib.hid (HN.out.trans (hb5.mono HN.out.size))
    clear hb5
    obtain ⟨y0, y1, _, _⟩ := HS.out _ HN.out)
 | (go_at_call 30; refine (HQ.out.1.law.weight HQ.out.2.1 _ HN.out).mono ?_; rintro e5 w5 ⟨rfl, hb5⟩
    have HN := Lib.hid hb5
    clear hb5
    obtain ⟨y0, y1, _, _⟩ := HS.out _ HN.out)
 | (go_at_call 13; refine (wWeight_calls (HQ.out.1.wl.below HN.out) HQ.out.2.2.1).mono ?_; rintro e5 w5 ⟨rfl, hb5⟩
    have HN := Lib.hid (HN.out.trans (hb5.mono HN.out.size))
    clear hb5
    obtain ⟨y0, y1, _, _⟩ := HS.out _ HN.out)
 | (go_at_call 31; refine (HQ.out.1.law.height HQ.out.2.1 _ HN.out).mono ?_; rintro e5 w5 ⟨rfl, hb5⟩
    have HN := Lib.hid hb5
    clear hb5
    obtain ⟨y0, y1, _, _⟩ := HS.out _ HN.out)
 | (go_at_call 49; refine (wHeight_calls (HQ.out.1.wl.below HN.out) HQ.out.2.2.1).mono ?_; rintro e5 w5 ⟨rfl, hb5⟩
    have HN := Lib.hid (HN.out.trans (hb5.mono HN.out.size))
    clear hb5
    obtain ⟨y0, y1, _, _⟩ := HS.out _ HN.out))
 clear y0 y1 x0 hcb
 have HW := HN
 go_loopw [13] (fun i wl => ∃ k : Nat, k ≤ F ∧ i = .int .i64 (k : Int) ∧ Below wd.heap.size wd wl) (fun i _ => F - (intOf i).toNat)
 case atStart => exact ⟨0, Nat.zero_le _, rfl, HW.out⟩
 case round =>
   obtain ⟨k, hkF, rfl, hB⟩ := hrel
   have HB := Lib.hid hB
   by_cases hk : k < F
   · have hk' : (k : Int) < (F : Int) := by omega
     obtain ⟨hlw, hnx, hx9, hrf, htf, hF, hfl, _⟩ := HQ.out
     have hkn : k < (naf z).length := by unfold wt at hF; omega
     obtain ⟨ho1, ho2, ho3⟩ := HD.out
     obtain ⟨f0, f1⟩ := ho3.get k (by omega) (by simpa using hkn)
     rw [List.getElem_map] at f0 f1
     obtain ⟨tb, ts', tg, htk⟩ : ∃ m s g, ts[k]? = some (m, s, g) := ⟨_, _, _, List.getElem?_eq_getElem (by omega)⟩
     rw [(List.getElem?_eq_some_iff.1 htk).2] at f0 f1
     simp only [ofT] at f0 f1
     obtain ⟨m2, e, he⟩ : ∃ m e, (naf z)[k] = (m, e) := ⟨_, _, rfl⟩
     rw [he] at f0 f1
     simp only at f0 f1
     subst f0
     obtain ⟨bl, cl, el⟩ := Go.Joins.ownsRow_form ho2 (by omega)
     cases el
     obtain ⟨q0, q1, q2⟩ := flatT_get ts k (by omega)
     rw [(List.getElem?_eq_some_iff.1 htk).2] at q0 q1 q2
     obtain ⟨b2, c2, e2, u0, u1⟩ := rowW_cells (n := k) hrf (by omega)
     rw [hfl] at e2
     cases e2
     obtain ⟨m3, q3, hm3⟩ : ∃ m q, f[k]? = some (m, q) := ⟨_, _, List.getElem?_eq_getElem (by omega)⟩
     obtain ⟨g0, g1⟩ := htf.get k (by omega) hkn
     rw [(List.getElem?_eq_some_iff.1 hm3).2] at u0 u1 g0 g1
     rw [he] at g0 g1
     simp only at u0 u1 g0 g1
     subst g0
     have hae : allowedZ (e : Int) := allowed_exp hnx.1 (u := (m3, e)) (by rw [← he]; exact List.getElem_mem _)
     have hS9 := fun W' (hW : Below wd.heap.size wd W') => And.intro ((ownsRow_belowAll ho2 hW).cellAt (k * 3) (by omega)) (And.intro ((ownsRow_belowAll ho2 hW).cellAt (k * 3 + 1) (by omega)) (And.intro ((ownsRow_belowAll ho2 hW).cellAt (k * 3 + 2) (by omega)) (And.intro ((hW.cell (p := ⟨b2, k * 2, none⟩) (World.block_lt_of_cell? _ _ u0)).trans u0) ((hW.cell (p := ⟨b2, k * 2 + 1, none⟩) (World.block_lt_of_cell? _ _ u1)).trans u1))))
     rw [q0, q1, q2] at hS9
     have HS9 := Lib.hid hS9
     have hBN := fun W' (hW : Below wd.heap.size wd W') => hlw.law.bytes f1 W' hW
     have hBW := fun W' (hW : Below wd.heap.size wd W') => wBytes_calls (hlw.wl.below hW) g1 hae
     have HBN := Lib.hid hBN
     have HBW := Lib.hid hBW
     have HN := Lib.hid hB
     clear hlw hnx hx9 hrf htf hF hfl ho1 ho2 ho3 f1 htk q0 q1 q2 he hm3 g1 hae hS9 hBN hBW u0 u1 hkn hB
     go_upto_region 9 with fail
     first
       | go_region_held3 (fun W => W.cell? ⟨bl, k * 3, none⟩ = some (.bool m3) ∧ W.cell? ⟨bl, k * 3 + 1, none⟩ = some (.int .i64 ts') ∧ W.cell? ⟨bl, k * 3 + 2, none⟩ = some (.pointer tg) ∧ W.cell? ⟨b2, k * 2, none⟩ = some (.bool m3) ∧ W.cell? ⟨b2, k * 2 + 1, none⟩ = some (.int .i64 (q3 : Int))) (exact HS9.out _ (by repeat (first | with_reducible exact HN.out | with_reducible exact Below.refl _ _ | with_reducible refine Below.drew ?_ | with_reducible refine below_drewN ?_ _ | with_reducible refine Below.alloc ?_ (by simp) _)))
           (first
           | (go_at_call 18; refine (HBN.out _ (by repeat (first | with_reducible exact HN.out | with_reducible exact Below.refl _ _ | with_reducible refine Below.drew ?_ | with_reducible refine below_drewN ?_ _ | with_reducible refine Below.alloc ?_ (by simp) _))).mono ?_; rintro e5 w5 ⟨a5, c5, rfl, ho5, hb5⟩
              have hb6 : Below wd.heap.size wd w5 := Below.trans (by repeat (first | with_reducible exact HN.out | with_reducible exact Below.refl _ _ | with_reducible refine Below.drew ?_ | with_reducible refine below_drewN ?_ _ | with_reducible refine Below.alloc ?_ (by simp) _)) (hb5.mono (by first | exact Nat.le_refl _ | exact HN.out.size))
              have HN := Lib.hid hb6
              have HO5 := Lib.hid ho5
              have HL5 := Lib.hid (Below.refl w5.heap.size w5)
              clear hb5 hb6 ho5)
           | (go_at_call 19; refine (HBW.out _ (by repeat (first | with_reducible exact HN.out | with_reducible exact Below.refl _ _ | with_reducible refine Below.drew ?_ | with_reducible refine below_drewN ?_ _ | with_reducible refine Below.alloc ?_ (by simp) _))).mono ?_; rintro e5 w6 ⟨a6, c6, rfl, ho6, hb5⟩
              have hb6 : Below wd.heap.size wd w6 := Below.trans (by repeat (first | with_reducible exact HN.out | with_reducible exact Below.refl _ _ | with_reducible refine Below.drew ?_ | with_reducible refine below_drewN ?_ _ | with_reducible refine Below.alloc ?_ (by simp) _)) (hb5.mono (by first | exact Nat.le_refl _ | exact HN.out.size))
              have HN := Lib.hid hb6
              have HSM := Lib.hid (Same_calls (RowV.of_own (ownsRow_belowAll HO5.out hb5)) (RowV.of_own ho6) (byteL_bytesZ _) (byteL_bytesZ _))
              clear hb5 hb6 ho6)
           | (go_at_call 17; refine (HSM.out).mono ?_; rintro e7 w7 ⟨rfl, rfl⟩))
       | fail
     all_goals
       (try go_wp2)
       exact ⟨⟨k + 1, by omega, by go_num, HN.out⟩, by first | (simp [intOf]; done) | (simp [intOf]; omega)⟩
   · have hk' : ¬ (k : Int) < (F : Int) := by omega
     obtain ⟨y0, y1, _, _⟩ := HS.out _ HB.out
     have hBN := HQ.out.1.law.bytes HQ.out.2.1 _ HB.out
     have hBW := fun W' (hW : Below wd.heap.size wd W') => wBytes_calls (HQ.out.1.wl.below hW) HQ.out.2.2.1 HQ.out.2.1.1
     have HBN := Lib.hid hBN
     have HBW := Lib.hid hBW
     clear hBN hBW hB hk hkF
     go_wp2_with (first
       | (go_at_call 18; refine (HBN.out).mono ?_; rintro e5 w5 ⟨a5, c5, rfl, ho5, hb5⟩
          have HN := Lib.hid (HB.out.trans (hb5.mono HB.out.size))
          have HO5 := Lib.hid ho5
          clear hb5 ho5)
       | (go_at_call 19; refine (HBW.out _ HN.out).mono ?_; rintro e5 w6 ⟨a6, c6, rfl, ho6, hb5⟩
          have hb6 : Below wd.heap.size wd w6 := HN.out.trans (hb5.mono HN.out.size)
          have HN := Lib.hid hb6
          have HSM := Lib.hid (Same_calls (RowV.of_own (ownsRow_belowAll HO5.out hb5)) (RowV.of_own ho6) (byteL_bytesZ _) (byteL_bytesZ _))
          clear hb5 hb6 ho6)
       | (go_at_call 17; refine (HSM.out).mono ?_; rintro e7 w7 ⟨rfl, rfl⟩))
     refine bodyPost_ret (v := .bool true) (by simp [results, Tryz.results14, go_sem]) rfl ?_
     exact ⟨rfl, _, _, HQ.out.2.2.2.2.2.2.2.below HN.out⟩
end Go.Proofs.YtlkmgclbckojgaaGreatDoor
namespace Go.Proofs.YtlkmgclbckojgaaGreatDoor
open Go.RowKit
set_option linter.unusedVariables false
variable {W W' W1 W2 : World} {p n n' : Nat} {fv fv' fv1 : Value} {vs vs' vs1 G : List Int}
end Go.Proofs.YtlkmgclbckojgaaGreatDoor
namespace Go.Proofs.YtlkmgclbckojgaaGreatDoor
open Go.RowKit
set_option linter.unusedVariables false
end Go.Proofs.YtlkmgclbckojgaaGreatDoor
namespace Go.Proofs.YtlkmgclbckojgaaGreatDoor
open Go.RowKit
set_option linter.unusedVariables false
variable {W W' W1 W2 : World} {p n n' : Nat} {fv fv' fv1 : Value} {vs vs' vs1 G : List Int}
theorem PO.stepL {base m : Nat} {vo fk fk' : Value} {vk vk' : List Int} {f : List Wt} (h : PO base W fk vk vo m f) (hM : WL W p fk vk n) (k : GrowL W p fk vk fk' vk' W' n') : PO base W' fk' vk' vo m f :=
 ⟨hM.own h.own (by decide) (by decide) k.2.2.1, fun b hb => k.2.2.2.2 b (h.own.lt b hb).2 (h.off b hb)⟩
theorem PO.notL {base m b : Nat} {vo fk : Value} {vk : List Int} {f : List Wt} (h : PO base W fk vk vo m f) (hM : WL W p fk vk n) (hb : vo.ownBlock = some b) : ¬ wB p fk b := by
 obtain ⟨c, hc⟩ := typeOf_own h.own b hb
 exact hM.not hc (by decide) (by decide)
end Go.Proofs.YtlkmgclbckojgaaGreatDoor
namespace Go.Proofs.YtlkmgclbckojgaaGreatDoor
open Go.RowKit
set_option linter.unusedVariables false
variable {B B' : Nat → Prop} {W W' W1 W2 : World} {p n n' : Nat} {fv fv' fv1 : Value} {vs vs' vs1 G : List Int}
theorem NumA.keepsB {s z : Int} {g : Option Addr} (h : NumA B W s g z) (hk : Keeps B W W') (hB : ∀ i, B' i → B i ∨ W.heap.size ≤ i) : NumA B' W' s g z := by
 have h1 : NumA (orA B (fun k => W.heap.size ≤ k)) W s g z := h.grow (fun i hi => hi)
 have h2 := h1.2.keeps (w' := W') ⟨hk.os, hk.tape, hk.output, hk.size, fun k a b => hk.block k a (fun e => b (.inl e))⟩
 exact ⟨h.1, h2.shrink (fun i hi => hB i hi)⟩
theorem FitsV.imp (hm : ∀ s g z, NumA B W s g z → NumA B' W' s g z) : ∀ {ts : List TV} {us : List (Bool × Int)}, FitsV B W ts us → FitsV B' W' ts us
 | [], [], _ => trivial
 | t :: ts, u :: us, h => ⟨⟨h.1.1, hm _ _ _ h.1.2⟩, FitsV.imp hm h.2⟩
 | [], _ :: _, h => h.elim
 | _ :: _, [], h => h.elim
theorem FitsV.snoc {t : TV} {u : Bool × Int} (h2 : t.1 = u.1 ∧ NumA B W t.2.1 t.2.2 u.2) : ∀ {ts : List TV} {us : List (Bool × Int)}, FitsV B W ts us → FitsV B W (ts ++ [t]) (us ++ [u])
 | [], [], _ => ⟨h2, trivial⟩
 | t' :: ts, u' :: us, h => ⟨h.1, FitsV.snoc h2 h.2⟩
 | [], _ :: _, h => h.elim
 | _ :: _, [], h => h.elim
theorem Keeps.wide {F : Nat → Prop} (h : Keeps F W W') (hF : ∀ i, F i → B i) : Keeps B W W' := ⟨h.os, h.tape, h.output, h.size, fun k a b => h.block k a (fun e => b (hF k e))⟩
theorem WL.offT {e : TypeId} {c : Array Value} {b : Nat} (h : WL W p fv vs n) (hb : W.heap[b]? = some (.cells c e (0, 0))) (h1 : e ≠ 64) : Off W fv vs.length b := fun g i c' v ev hi hc hk => by
 obtain ⟨z, hz⟩ : ∃ z, vs[i]? = some z := ⟨_, List.getElem?_eq_getElem hi⟩
 obtain ⟨b0, c0, v0, f0, x1, x2, x3, _⟩ := h.form hz
 rw [ev] at x1
 simp only [Value.slice.injEq, Option.some.injEq, Addr.mk.injEq, and_true] at x1
 obtain ⟨rfl, _, _⟩ := x1
 rw [hc] at x2
 cases x2
 obtain ⟨c2, h2⟩ := typeOf_own x3 b hk
 rw [hb] at h2
 cases h2
 exact h1 rfl
theorem WL.grown {o : Option Nat} (h : WL W p fv vs n) (hg : W.grownBy W' o) (ho : ∀ b, o = some b → ¬ wB p fv b ∧ Off W fv vs.length b) : WL W' p fv vs n := by
 obtain ⟨G, ⟨rows, fs, hs, hgg, hk⟩, hn⟩ := h
 have hpl := (Array.getElem?_eq_some_iff.1 hs.box).1
 have hfo : fv.ownBlock = none ∨ fv.ownBlock ≠ o := by
   rcases hv : fv.ownBlock with _ | k
   · exact .inl rfl
   · exact .inr fun e => (ho k e.symm).1 (.inr hv)
 refine ⟨G, ⟨rows, fs, ⟨(hg.block p hpl (fun e => (ho p e.symm).1 (.inl rfl))).trans hs.box, World.ownsRow.kept hs.forms hg ?_, hs.len, fun i f hf => ?_⟩, hgg, hk⟩, hn⟩
 · rcases hfo with e | e
   · exact .inl e
   · exact .inr (fun e2 => e e2)
 · obtain ⟨v, h1, h2⟩ := hs.row i f hf
   have hil := (List.getElem?_eq_some_iff.1 hf).1
   obtain ⟨b0, cap, e0⟩ := Go.Joins.ownsRow_form hs.forms (by omega)
   have hff := hs.forms
   rw [e0] at hff
   refine ⟨v, h1, World.ownsRow.kept h2 hg ?_⟩
   rcases hv : v.ownBlock with _ | k
   · exact .inl rfl
   · refine .inr fun e => ?_
     exact (ho k e.symm).2 b0 i cap v (by rw [e0, hgg.len]) (by rw [hgg.len]; exact hil) ((hff.cellAt i (by omega)).trans h1) hv
theorem Off.grown {o : Option Nat} {b N : Nat} (h : Off W fv N b) (hw : ∀ k, fv.ownBlock = some k → k < W.heap.size ∧ o ≠ some k) (hg : W.grownBy W' o) : Off W' fv N b := fun g i c v e hi hc => by
 have hk := hw g (by rw [e]; rfl)
 refine h g i c v e hi ?_
 rw [World.cell?_of_block (w := W) (hg.block g hk.1 (fun e => hk.2 e.symm))] at hc
 exact hc
theorem WL.flt (h : WL W p fv vs n) : ∀ k, fv.ownBlock = some k → k < W.heap.size := fun k hk => h.blt k (.inr hk)
def roomB (p : Nat) (fv va vb : Value) : Nat → Prop := fun k => wB p fv k ∨ va.ownBlock = some k ∨ vb.ownBlock = some k
structure Rm (w0 : World) (p : Nat) (fv : Value) (vs : List Int) (n : Nat) (va vb : Value) (ts : List TV) (us : List (Bool × Int)) (f : List Wt) (ls : List Tm) (wl : World) : Prop where
 low : Below w0.heap.size w0 wl
 lw : LW wl p fv vs n
 new : ∀ k, wB p fv k → w0.heap.size ≤ k
 row : wl.ownsRow w0.heap.size 62 3 va ts.length (flatT ts)
 fits : FitsV (roomB p fv va vb) wl ts us
 po : PO w0.heap.size wl fv vs vb f.length f
 tms : TMs vs f ls
variable {w0 wl w7 : World} {va vb va' vb' : Value} {ts : List TV} {us : List (Bool × Int)} {f : List Wt} {ls : List Tm}
theorem Rm.below (h : Rm w0 p fv vs n va vb ts us f ls wl) (hb : Below wl.heap.size wl W) : Rm w0 p fv vs n va vb ts us f ls W :=
 ⟨h.low.trans (hb.mono h.low.size), h.lw.below hb, h.new, ownsRow_belowAll h.row hb, h.fits.later hb, h.po.stepL h.lw.wl ((GrowL.refl h.lw.wl).below hb), h.tms⟩
theorem Rm.more (h : Rm w0 p fv vs n va vb ts us f ls wl) (hn : n ≤ n') : Rm w0 p fv vs n' va vb ts us f ls wl := ⟨h.low, h.lw.more hn, h.new, h.row, h.fits, h.po, h.tms⟩
theorem Rm.lt (h : Rm w0 p fv vs n va vb ts us f ls wl) : ∀ k, roomB p fv va vb k → k < wl.heap.size := fun k hk => by
 rcases hk with e | e | e
 · exact h.lw.wl.blt k e
 · exact (h.row.lt k e).2
 · exact (h.po.own.lt k e).2
theorem NumA.roomW {s z : Int} {g : Option Addr} (h : NumA (roomB p fv va vb) wl s g z) (k : GrowL wl p fv vs fv' vs' W n') : NumA (roomB p fv' va vb) W s g z :=
 h.keepsB (k.2.2.1.wide (fun i hi => .inl hi)) (fun i hi => by
   rcases hi with (e | e) | e
   · exact .inl (.inl (.inl e))
   · rcases k.2.2.2.1 i e with c | c
     · exact .inl (.inl (.inr c))
     · exact .inr c
   · exact .inl (.inr e))
theorem Rm.world (h : Rm w0 p fv vs n va vb ts us f ls wl) (k : GrowL wl p fv vs fv' vs' W n') : Rm w0 p fv' vs' n' va vb ts us f ls W :=
 ⟨h.low.trans (k.2.2.1.below (fun i hi => h.new i hi) h.low.size), h.lw.grow k, fun i hi => by
   rcases hi with e | e
   · exact h.new i (.inl e)
   · rcases k.2.2.2.1 i e with c | c
     · exact h.new i (.inr c)
     · exact Nat.le_trans h.low.size c, h.lw.wl.own h.row (by decide) (by decide) k.2.2.1, h.fits.imp (fun s g z hz => hz.roomW k), h.po.stepL h.lw.wl k, h.tms.mono k.2.1⟩
theorem LW.grown {o : Option Nat} (h : LW W p fv vs n) (hg : W.grownBy W' o) (ho : ∀ b, o = some b → (¬ wB p fv b ∧ Off W fv vs.length b) ∧ 0 < b) : LW W' p fv vs n := by
 obtain ⟨t1, t2⟩ := h.law W (Below.refl _ _)
 have htab : Tab W' := tab_keep t1 (hg.block 0 t2 (fun hb => Nat.lt_irrefl _ (ho _ hb.symm).2))
 exact ⟨h.wl.grown hg (fun b hb => (ho b hb).1), LawW.of htab (Nat.lt_of_lt_of_le t2 hg.size) (Below.refl _ _), h.far⟩
theorem NumA.roomG {s z : Int} {g : Option Addr} (h : NumA (roomB p fv va vb) W s g z) {o : Option Nat} (hg : W.grownBy w7 o) (ho : ∀ k, o = some k → roomB p fv va vb k) (hB : ∀ k, roomB p fv va' vb' k → roomB p fv va vb k ∨ W.heap.size ≤ k) : NumA (roomB p fv va' vb') w7 s g z := h.keepsB ⟨hg.os, hg.tape, hg.output, hg.size, fun k a b => hg.block k a (fun e => b (ho k e.symm))⟩ hB
theorem Rm.pushA {t : TV} {u : Bool × Int} (h : Rm w0 p fv vs n va vb ts us f ls wl) (hp0 : 0 < w0.heap.size) (hW : Below wl.heap.size wl W) (hn : t.1 = u.1 ∧ NumA (roomB p fv va vb) wl t.2.1 t.2.2 u.2) (ho : w7.ownsRow w0.heap.size 62 3 va' (ts.length + 1) (flatT ts ++ cellsT t)) (hg : W.grownBy w7 va.ownBlock) (hat : ∀ k, va'.ownBlock = some k → va.ownBlock = some k ∨ W.heap.size ≤ k) : Rm w0 p fv vs n va' vb (ts ++ [t]) (us ++ [u]) f ls w7 := by
 have hh := h.below hW
 have hat2 : ∀ k, roomB p fv va' vb k → roomB p fv va vb k ∨ W.heap.size ≤ k := fun k hk => by
   rcases hk with e | e | e
   · exact .inl (.inl e)
   · rcases hat k e with x | x
     · exact .inl (.inr (.inl x))
     · exact .inr x
   · exact .inl (.inr (.inr e))
 have hkind : ∀ b, va.ownBlock = some b → ¬ wB p fv b ∧ Off W fv vs.length b := fun b hb => by
   obtain ⟨c, hc⟩ := typeOf_own hh.row b hb
   exact ⟨hh.lw.wl.not hc (by decide) (by decide), hh.lw.wl.offT hc (by decide)⟩
 refine ⟨hh.low.grown hg hh.low.size (fun j hj => (hh.row.lt j hj).1), hh.lw.grown hg (fun b hb => ⟨hkind b hb, Nat.lt_of_lt_of_le hp0 (hh.row.lt b hb).1⟩), hh.new, ?_, ?_, ⟨?_, fun k hk => ?_⟩, hh.tms⟩
 · rw [flatT_append, List.length_append]; exact ho
 · refine (FitsV.snoc (t := t) (u := u) ⟨hn.1, hn.2.below hW⟩ hh.fits).imp (fun s g z hz => hz.roomG hg (fun k hk => .inr (.inl hk)) hat2)
 · refine hh.po.own.kept hg ?_
   rcases hvb : vb.ownBlock with _ | j
   · exact .inl rfl
   · refine .inr fun e => ?_
     obtain ⟨c, hc⟩ := typeOf_own hh.row j e.symm
     obtain ⟨c2, hc2⟩ := typeOf_own hh.po.own j hvb
     rw [hc] at hc2
     cases hc2
 · exact (hh.po.off k hk).grown (fun q hq => ⟨hh.lw.wl.flt q hq, fun e => (hkind q e).1 (.inr hq)⟩) hg
theorem Rm.pushB {m : Bool} {x e : Nat} (h : Rm w0 p fv vs n va vb ts us f ls wl) (hp0 : 0 < w0.heap.size) (hW : Below wl.heap.size wl W) (hx : vs[x]? = some (e : Int)) (ho : w7.ownsRow w0.heap.size 64 2 vb' (f.length + 1) (flatW f ++ cellsW (m, x))) (hg : W.grownBy w7 vb.ownBlock) (hat : ∀ k, vb'.ownBlock = some k → vb.ownBlock = some k ∨ W.heap.size ≤ k) : Rm w0 p fv vs n va vb' ts us (f ++ [(m, x)]) (ls ++ [(m, e)]) w7 := by
 have hh := h.below hW
 have hat2 : ∀ k, roomB p fv va vb' k → roomB p fv va vb k ∨ W.heap.size ≤ k := fun k hk => by
   rcases hk with e | e | e
   · exact .inl (.inl e)
   · exact .inl (.inr (.inl e))
   · rcases hat k e with x | x
     · exact .inl (.inr (.inr x))
     · exact .inr x
 have hkind : ∀ b, vb.ownBlock = some b → ¬ wB p fv b ∧ Off W fv vs.length b := fun b hb => ⟨hh.po.notL hh.lw.wl hb, hh.po.off b hb⟩
 refine ⟨hh.low.grown hg hh.low.size (fun j hj => (hh.po.own.lt j hj).1), hh.lw.grown hg (fun b hb => ⟨hkind b hb, Nat.lt_of_lt_of_le hp0 (hh.po.own.lt b hb).1⟩), hh.new, ?_, ?_, ⟨?_, fun k hk => ?_⟩, ?_⟩
 · refine hh.row.kept hg ?_
   rcases hva : va.ownBlock with _ | j
   · exact .inl rfl
   · refine .inr fun e => ?_
     obtain ⟨c, hc⟩ := typeOf_own hh.po.own j e.symm
     obtain ⟨c2, hc2⟩ := typeOf_own hh.row j hva
     rw [hc] at hc2
     cases hc2
 · exact hh.fits.imp (fun s g z hz => hz.roomG hg (fun k hk => .inr (.inr hk)) hat2)
 · rw [flatW_app, List.length_append]
   simpa [flatW] using ho
 · have hoff : Off W fv vs.length k := by
     rcases hat k hk with e | e
     · exact hh.po.off k e
     · exact hh.lw.wl.off e
   exact hoff.grown (fun q hq => ⟨hh.lw.wl.flt q hq, fun e => (hkind q e).1 (.inr hq)⟩) hg
 · exact hh.tms.append (us := [(m, x)]) (m := [(m, e)]) ⟨⟨rfl, hx⟩, trivial⟩
theorem NumA.set1 {x j : Nat} {s : Int} {g : Option Addr} {z : Int} (h : NumA B W s g z) {i : Int} {q : Option Addr} (hx : W.heap[x]? = some (.cells #[.int .i64 i, .pointer q] 28 (0, 0))) (u : Value) : NumA B (W.setCell ⟨x, j, Option.none⟩ u) s g z := by
 obtain ⟨ha, D, S, h1, h2, h3, h4⟩ := h
 have hN : Num W (orA (fun k => k = x) B) 2000 s g z := ⟨D, S, h1.apart hx, h2, h3, h4⟩
 exact ⟨ha, (hN.keeps (keeps_set u (.inl rfl))).shrink (fun i hi => .inr hi)⟩
theorem Rm.set {bx j : Nat} {i : Int} {q : Option Addr} (h : Rm w0 p fv vs n va vb ts us f ls wl) (hp0 : 0 < w0.heap.size) (hb : wl.heap[bx]? = some (.cells #[.int .i64 i, .pointer q] 28 (0, 0))) (hbl : w0.heap.size ≤ bx) (u : Value) : Rm w0 p fv vs n va vb ts us f ls (wl.setCell ⟨bx, j, none⟩ u) := by
 have hnw : ¬ wB p fv bx := h.lw.wl.not hb (by decide) (by decide)
 have hoff : Off wl fv vs.length bx := h.lw.wl.offT hb (by decide)
 obtain ⟨t1, t2⟩ := h.lw.law wl (Below.refl _ _)
 have hG := (GrowL.refl (n := n) h.lw.wl)
 have hwl : WL (wl.setCell ⟨bx, j, none⟩ u) p fv vs n := by
   obtain ⟨G, h1, h2⟩ := h.lw.wl
   exact ⟨G, h1.set u hnw hoff, h2⟩
 have htab : Tab (wl.setCell ⟨bx, j, none⟩ u) := tab_keep t1 (Below.heap_setCell _ _ _ _ (by show 0 ≠ bx; omega))
 have hva : va.ownBlock ≠ some bx := fun e => by
   obtain ⟨c1, e1⟩ := typeOf_own h.row bx e
   rw [hb] at e1; cases e1
 have hvb : vb.ownBlock ≠ some bx := fun e => by
   obtain ⟨c1, e1⟩ := typeOf_own h.po.own bx e
   rw [hb] at e1; cases e1
 refine ⟨h.low.setCell (p := ⟨bx, j, none⟩) hbl u, ⟨hwl, LawW.of htab (by simpa [World.setCell] using t2) (Below.refl _ _), h.lw.far⟩, h.new, ownsRow_setCell_other h.row (a := ⟨bx, j, none⟩) hva u, h.fits.imp (fun s g z hz => hz.set1 hb u), ⟨ownsRow_setCell_other h.po.own (a := ⟨bx, j, none⟩) hvb u, fun k hk => ?_⟩, h.tms⟩
 intro g' i c' v e hi hc
 refine h.po.off k hk g' i c' v e hi ?_
 have hne : g' ≠ bx := fun e2 => hnw (.inr (by rw [e, e2]; rfl))
 have : (wl.setCell ⟨bx, j, none⟩ u).heap[g']? = wl.heap[g']? := Below.heap_setCell _ _ _ _ hne
 unfold World.cell? at hc ⊢
 rw [this] at hc
 exact hc
theorem Rm.put {bx : Nat} {i s : Int} {q g : Option Addr} (h : Rm w0 p fv vs n va vb ts us f ls wl) (hp0 : 0 < w0.heap.size) (hb : wl.heap[bx]? = some (.cells #[.int .i64 i, .pointer q] 28 (0, 0))) (hbl : w0.heap.size ≤ bx) : Rm w0 p fv vs n va vb ts us f ls ((wl.setCell ⟨bx, 0, none⟩ (.int .i64 s)).setCell ⟨bx, 1, none⟩ (.pointer g)) := by
 have hb2 : (wl.setCell ⟨bx, 0, none⟩ (.int .i64 s)).heap[bx]? = some (.cells #[.int .i64 s, .pointer q] 28 (0, 0)) := by simp [World.setCell, Array.getElem?_modify, hb]
 exact (h.set hp0 hb hbl _).set hp0 hb2 hbl _
end Go.Proofs.YtlkmgclbckojgaaGreatDoor
namespace Go.Proofs.YtlkmgclbckojgaaGreatDoor
end Go.Proofs.YtlkmgclbckojgaaGreatDoor
