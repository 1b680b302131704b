import Derived.Test.YtlkmgclbckojgaaGreatDoorEC
import Derived.Test.YtlkmgclbckojgaaGreatDoorB3
import Derived.Test.YtlkmgclbckojgaaGreatDoorK7
set_option linter.unusedVariables false
set_option linter.unusedSimpArgs false
set_option maxHeartbeats 40000000
set_option maxRecDepth 100000
namespace Go.Proofs.YtlkmgclbckojgaaGreatDoor
section
open Go.RowKit
variable {W W' W1 W2 : World} {p n n' : Nat} {fv fv' fv1 : Value} {vs vs' vs1 G : List Int}
theorem Ze6 (m : Nat) (w : World) : Calls Tryz.prog 56 #[.int .i64 (m : Int)] w fun e w' => ∃ (a : Option Addr) (c : Nat), e = .returned (.slice a 2 c) ∧ w'.ownsRow w.heap.size 5 1 (.slice a 2 c) 2 (byV (twoN m)) ∧ Below w.heap.size w w' := by
 have hb : Below w.heap.size w (w.alloc (.cells #[.int .u8 ((m : Int) / 256 % 256), .int .u8 ((m : Int) % 256)] 5)) := (zb).alloc (zl) _
 have ho : (w.alloc (.cells #[.int .u8 ((m : Int) / 256 % 256), .int .u8 ((m : Int) % 256)] 5)).ownsRow w.heap.size 5 1 (.slice (some ⟨w.heap.size, 0, none⟩) 2 2) 2 (twoB m) := World.ownsRow_lit w _ 2 (zl) (by decide) rfl
 go_enter Tryz.func56, Tryz.ntmps56
 go_wp2
 go_ret
 exact ⟨_, _, rfl, by rw [Zgq]; exact ho, hb⟩
theorem Zfy : ∀ {l : List Nat} {a k : Nat}, l[k]? = some a → l.idxOf a ≤ k
 | [], a, k, h => by simp at h
 | x :: l, a, 0, h => by
   simp only [List.getElem?_cons_zero, Option.some.injEq] at h
   subst h
   simp
 | x :: l, a, k + 1, h => by
   simp only [List.getElem?_cons_succ] at h
   have := Zfy h
   rw [List.idxOf_cons]
   by_cases e : x = a
   · subst e; simp
   · rw [show (x == a) = false by simp [e]]
     simp; omega
theorem Zdz {v : Value} {ps : List Nat} {q : Nat} {w : World} (hr : RowV w 1 v ps.length (natV ps)) (hq : q ∈ ps) (hl : ps.length ≤ 1000000000000) : Calls Tryz.prog 57 #[v, .int .i64 (q : Int)] w fun e w' => e = .returned (.int .i64 ((ps.idxOf q : Nat) : Int)) ∧ Below w.heap.size w w' := by
 obtain ⟨a, c, rfl⟩ := hr.shape
 have hi := List.idxOf_lt_length_of_mem hq
 obtain ⟨L, hL⟩ : ∃ L, L = ps.length := ⟨_, rfl⟩
 have hL2 : (L : Int) ≤ 1000000000000 := by omega
 rw [← hL] at hr hi ⊢
 have HX := zh (zi hr (zi hi hL))
 clear hr hi hL hl
 go_enter Tryz.func57, Tryz.ntmps57
 go_upto_region 2 with fail
 go_loopw [5] (fun i wl => ∃ k : Nat, i = .int .i64 (k : Int) ∧ k ≤ ps.idxOf q ∧ Below w.heap.size w wl) (fun i _ => L - (intOf i).toNat)
 case atStart => exact ⟨0, rfl, Nat.zero_le _, zb⟩
 case round =>
   obtain ⟨k, rfl, hk, hB⟩ := hrel
   obtain ⟨hr, hi, hL⟩ := HX.out
   have hkL : k < L := by omega
   have hk' : (k : Int) < (L : Int) := by omega
   obtain ⟨r, hr2⟩ : ∃ r, ps[k]? = some r := ⟨_, List.getElem?_eq_getElem (by omega)⟩
   obtain ⟨b, off, hab, hc0⟩ : ∃ b off, a = some ⟨b, off, none⟩ ∧ wr.cell? ⟨b, off + k, none⟩ = some (.int .i64 (r : Int)) := by
     obtain ⟨_, h2⟩ := hr.below hB (zl)
     rcases h2 with ⟨e, h0⟩ | ⟨b, off, cap, e, _, _, _, h4⟩
     · omega
     · cases e; exact ⟨b, off, rfl, h4 k _ (Zc1 hr2)⟩
   subst hab
   by_cases he : k = ps.idxOf q
   · have hrq : r = q := by
       have h1 := List.getElem_idxOf (show ps.idxOf q < ps.length by omega)
       rw [he] at hr2
       rw [List.getElem?_eq_getElem (by omega), h1] at hr2
       exact (Option.some.inj hr2).symm
     subst hrq
     have HS := zh (zi he hB)
     clear hr hi hL hk hB hr2 he
     go_wp2
     refine bodyPost_ret (v := .int .i64 (k : Int)) (by simp [results, Tryz.results57, go_sem]) rfl ⟨by rw [HS.out.1], HS.out.2⟩
   · have hne : ((r : Int) == (q : Int)) = false := by
       rw [beq_eq_false_iff_ne]
       intro h
       have hrq : r = q := by omega
       rw [hrq] at hr2
       have := Zfy hr2
       omega
     have HS := zh (zi (show k + 1 ≤ ps.idxOf q by omega) hB)
     clear hr hi hL hk hB hr2 he
     go_wp2
     exact ⟨⟨k + 1, by go_num, HS.out.1, HS.out.2⟩, by simp [intOf]; omega⟩
end
section
open Go.RowKit
variable {W W' W1 W2 : World} {p n n' : Nat} {fv fv' fv1 : Value} {vs vs' vs1 G : List Int}
theorem Zof (hn : vs.Nodup) : ∀ {ps : List Nat} {q : Nat}, (∀ r ∈ ps, r < vs.length) → q < vs.length → (ps.map (vAt vs)).idxOf (vAt vs q) = ps.idxOf q
 | [], q, _, _ => rfl
 | r :: ps, q, h, hq => by
   rw [List.map_cons, List.idxOf_cons, List.idxOf_cons, Zof hn (fun s hs => h s (List.mem_cons_of_mem _ hs)) hq]
   have hr := h r (List.mem_cons_self ..)
   by_cases e : r = q
   · subst e; simp
   · have : vAt vs r ≠ vAt vs q := fun e2 => by
       have h1 := List.getElem?_eq_getElem hr
       have h2 := List.getElem?_eq_getElem hq
       rw [Zc0 h1, Zc0 h2] at e2
       rw [e2] at h1
       exact e (Zbj hn h1 h2)
     rw [show (vAt vs r == vAt vs q) = false by simp [this], show (r == q) = false by simp [e]]
theorem Zqk {w : World} {b s : Nat} (h : w.heap[b]? = some (.cells #[.int .u8 (s : Int)] 5 (0, 0))) : RowV w 1 (.slice (some ⟨b, 0, none⟩) 1 1) 1 (byV [s]) := by
 refine ⟨rfl, .inr ⟨b, 0, 1, rfl, zl, by decide, (Array.getElem?_eq_some_iff.1 h).1, fun j u hj => ?_⟩⟩
 rw [cell_of_row w b _ _ _ _ h]
 simpa [byV] using hj
structure BY (W w : World) (vo : Value) (no : Nat) (bs : List Nat) (vp : Value) (ps : List Nat) : Prop where
 blw : Below W.heap.size W w
 out : w.ownsRow W.heap.size 5 1 vo no (byV bs)
 parts : w.ownsRow W.heap.size 3 1 vp ps.length (natV ps)
section
variable {w w1 w2 : World} {vo v2 vp : Value} {no n2 : Nat} {bs b2 : List Nat} {ps : List Nat}
theorem BY.below (h : BY W w vo no bs vp ps) (hb : Below w.heap.size w w1) : BY W w1 vo no bs vp ps := ⟨h.blw.trans (hb.mono h.blw.size), Zac h.out hb, Zac h.parts hb⟩
theorem BY.grow (h : BY W w vo no bs vp ps) (hb : Below w.heap.size w w1) (hg : w1.grownBy w2 vo.ownBlock) (ho : w2.ownsRow W.heap.size 5 1 v2 n2 (byV b2)) : BY W w2 v2 n2 b2 vp ps := by
 have h1 := h.below hb
 refine ⟨h1.blw.grown hg h1.blw.size (fun k hk => (h1.out.lt k hk).1), ho, World.ownsRow.kept h1.parts hg ?_⟩
 rcases hv : vp.ownBlock with _ | k
 · exact .inl rfl
 · refine .inr fun hk => ?_
   obtain ⟨c1, e1⟩ := Zau h1.parts k hv
   obtain ⟨c2, e2⟩ := Zau h1.out k hk.symm
   rw [e1] at e2; cases e2
end
theorem Zd0 (h : WL W p fv vs n) {x : Nat} {z : Int} (hx : vs[x]? = some z) (hz : allowedZ z) : Calls Tryz.prog 19 #[.pointer (some ⟨p, 0, none⟩), .int .i64 (x : Int)] W fun r w' => ∃ (a : Option Addr) (c : Nat), r = .returned (.slice a (bytesZ z).length c) ∧ w'.ownsRow W.heap.size 5 1 (.slice a (bytesZ z).length c) (bytesZ z).length (byV (bytesZ z)) ∧ Below W.heap.size W w' := by
 have HP := zh (Zdx h hx)
 have HX := zh (zi h (zi hx hz))
 obtain ⟨i8, hi0, hi1, hi2, hi3⟩ := info_parts infoe8
 have H8 := zh (zi hi0 (zi hi1 (zi hi2 hi3)))
 clear h hx hz hi0 hi1 hi2 hi3
 go_enter Tryz.func19, Tryz.ntmps19
 go_upto_region 2 with (first
   | (go_at_call 47; refine (HP.out).mono ?_; rintro e5 w5 ⟨a5, c5, ps, rfl, ho, hm, hv, hb⟩
      have H5 := zh (zi ho (zi hm (zi hv hb)))
      clear ho hm hv hb))
 obtain ⟨h, hx, hz⟩ := HX.out
 obtain ⟨L, hL⟩ : ∃ L, L = ps.length := ⟨_, rfl⟩
 have hLw : L = (listZ z).length := by
   have h1 := congrArg List.length H5.out.2.1
   rw [List.length_map] at h1
   omega
 have hL2 : L ≤ 2000 := by rw [hLw, Zce]; exact hz.1
 have hLI : (L : Int) ≤ 2000 := by omega
 have hwt : ∀ y ∈ listZ z, wt y ≤ 300 := fun y hy => hz.2.2 y (Zb0.1 hy)
 obtain ⟨Z, hZ⟩ : ∃ Z, Z = listZ z := ⟨_, rfl⟩
 rw [← hZ] at hLw hwt
 have hpos : 0 < ps.length := by
   have := Zb7 z
   rw [← Zce, ← hZ, ← hLw, hL] at this
   exact this
 obtain ⟨bp, cp, ep⟩ := Go.Joins.ownsRow_form H5.out.1 hpos
 cases ep
 have HZ := zh (zi hZ (zi hLw (zi hwt hL)))
 rw [← hL]
 clear hpos
 clear h hx hz hZ hLw hwt hL
 go_upto_region 4 with (first
   | (go_at_call 56; refine (Ze6 L _).mono ?_; rintro e6 w6 ⟨aT, cT, rfl, ht6, hb6⟩
      have hby : BY W w6 (.slice aT 2 cT) 2 (twoN L) (.slice (some ⟨bp, 0, none⟩) ps.length c5) ps := ⟨H5.out.2.2.2.trans (hb6.mono H5.out.2.2.2.size), Zah ht6 H5.out.2.2.2.size, Zac H5.out.1 hb6⟩
      rw [← HZ.out.2.2.2] at hby
      have HBY := zh hby
      clear ht6 hb6 hby))
 go_loopw [6, 7] (fun o i wl => ∃ (k : Nat) (a : Option Addr) (c : Nat) (no : Nat) (bs : List Nat), k ≤ L ∧ i = .int .i64 (k : Int) ∧ o = .slice a no c ∧ no = bs.length ∧ no ≤ 2 + k * 902 ∧ bs = twoN L ++ (Z.take k).flatMap (partBy Z) ∧ BY W wl (.slice a no c) no bs (.slice (some ⟨bp, 0, none⟩) L c5) ps) (fun _ i _ => L - (intOf i).toNat)
 case atStart => exact ⟨0, aT, cT, 2, twoN L, Nat.zero_le _, rfl, rfl, rfl, by omega, by simp, HBY.out⟩
 case round =>
   obtain ⟨k, a, c, no, bs, hkL, rfl, rfl, hno, hnb, hbs, hBY⟩ := hrel
   obtain ⟨h, hx, hz⟩ := HX.out
   obtain ⟨hZ, hLw, hwt, hL⟩ := HZ.out
   by_cases hk : k < L
   · have hk' : (k : Int) < (L : Int) := by omega
     obtain ⟨q, hq⟩ : ∃ q, ps[k]? = some q := ⟨_, List.getElem?_eq_getElem (by omega)⟩
     have hqv := H5.out.2.2.1 q (List.mem_of_getElem? hq)
     obtain ⟨y, hy⟩ : ∃ y, vs[q]? = some y := ⟨_, List.getElem?_eq_getElem hqv⟩
     have hZk : Z[k]? = some y := by
       rw [hZ, ← H5.out.2.1, List.getElem?_map, hq]
       simp [Zc0 hy]
     have hyw := hwt y (List.mem_of_getElem? hZk)
     obtain ⟨bw, cw, v, f, efv, hcb, hrf, htf, hpl, hw⟩ := h.form hy
     obtain ⟨x0, _⟩ := h.cell
     have hpW := h.plt
     subst efv
     have hqN : (q : Int) < (vs.length : Int) := by omega
     have hc := h.count
     unfold gMax at hc
     obtain ⟨NN, hNN⟩ : ∃ NN, NN = vs.length := ⟨_, rfl⟩
     rw [← hNN] at hqN hc x0
     have hNN2 : (NN : Int) ≤ 1000000000000 := by omega
     obtain ⟨aF, cF, rfl⟩ := (RowV.of_own hrf).shape
     have hfl : f.length = (naf y).length := htf.len
     obtain ⟨F, hF⟩ : ∃ F, F = (naf y).length := ⟨_, rfl⟩
     rw [← hF] at hfl
     rw [hfl] at hcb
     have hF3 : F ≤ 300 := by unfold wt at hyw; omega
     have hF4 : (F : Int) ≤ 300 := by omega
     have hq0 : (0 : Int) ≤ (q : Int) := by omega
     have hBYp := hBY.parts
     rw [hL] at hBYp
     have r0 := (hBYp.cellAt k (by omega)).trans (Zc1 hq)
     have x1 := (hBY.blw.cell (p := ⟨p, 0, none⟩) hpW).trans x0
     have hcb1 := (hBY.blw.cell (p := ⟨bw, q, none⟩) (World.block_lt_of_cell? _ _ hcb)).trans hcb
     have hplen : ((ps.length : Nat) : Int) = (L : Int) := by omega
     have hnd := h.nd
     have hahead := h.ahead
     have hps9 : ps.length ≤ 1000000000000 := by omega
     have hidx : ∀ t ∈ naf y, ∀ q2, vs[q2]? = some (t.2 : Int) → q2 ∈ ps ∧ Z.idxOf (t.2 : Int) = ps.idxOf q2 := by
       intro t ht q2 hq2
       have hm : (t.2 : Int) ∈ Z := by
         have h1 := Zaz z y (Zb0.1 (by rw [← hZ]; exact List.mem_of_getElem? hZk)) t ht
         rw [hZ]; exact Zb0.2 h1
       have hm2 := hm
       rw [hZ, ← H5.out.2.1] at hm2
       obtain ⟨r, hr, he⟩ := List.mem_map.1 hm2
       have hrl := H5.out.2.2.1 r hr
       have hrv := List.getElem?_eq_getElem hrl
       rw [Zc0 hrv] at he
       rw [he] at hrv
       have hrq := Zbj hnd hrv hq2
       subst hrq
       refine ⟨hr, ?_⟩
       have := Zof hnd (ps := ps) (q := r) (fun s hs => H5.out.2.2.1 s hs) hrl
       rw [Zc0 hrv, H5.out.2.1, ← hZ] at this
       exact this
     have HQ := zh (zi hBY (zi hno (zi hnb (zi hbs (zi hZk (zi hrf (zi htf (zi hidx (zi hF hfl)))))))))
     have HN9 := zh (zi hps9 hplen)
     clear h hx hz hZ hLw hwt hL hkL hk hno hnb hbs hBY hq hqv hy hZk hyw hrf htf hpl hw hpW hBYp hc hNN hfl hF x0 hcb hnd hahead hidx hps9 hplen
     go_upto_region 6 with fail
     go_quiet (fail)
     obtain ⟨wq, hwq⟩ : ∃ wq, wq = wr.drewN nq := ⟨_, rfl⟩
     have hBYq : BY W wq (.slice a no c) no bs (.slice (some ⟨bp, 0, none⟩) L c5) ps := by rw [hwq]; exact HQ.out.1.below (Zaa (zb) _)
     rw [← hwq]
     have HBY := zh hBYq
     clear hwq hBYq x1 hcb1 r0
     have hno9 : no ≤ 2000000 := by have := HQ.out.2.2.1; omega
     go_upto_region 9 with (first
       | (go_at_call 56; refine (Ze6 F _).mono ?_; rintro e6 w6 ⟨aT, cT, rfl, ht6, hb6⟩
          have HBY := zh (HBY.out.below hb6)
          have HT := zh ht6
          clear ht6 hb6)
       | (at_builtin; refine Zaf rfl _ _ 50 rfl W.heap.size 5 i8 (.int .u8 0) 1 1 Tryz.underlying50 H8.out.1 H8.out.2.1 H8.out.2.2.1 H8.out.2.2.2 rfl (by decide) _ no _ rfl HBY.out.out _ 2 (byV (twoN F)) rfl (RowV.of_own HT.out) (Zfn _) (by unfold maxLen; omega) (by omega) HBY.out.blw.size ?_; intro v7 w7 hown7 hg7
          obtain ⟨a7, c7, rfl⟩ := (RowV.of_own hown7).shape
          have hby7 := HBY.out.grow (b2 := bs ++ twoN F) (zb) hg7 (by rw [Zbb]; exact hown7)
          have HBY := zh hby7
          clear hown7 hg7 hby7))
     go_loopw [6, 9] (fun o i wl => ∃ (j : Nat) (a : Option Addr) (c : Nat) (n2 : Nat) (bs2 : List Nat), j ≤ F ∧ i = .int .i64 (j : Int) ∧ o = .slice a n2 c ∧ n2 = no + 2 + j * 3 ∧ bs2 = bs ++ twoN F ++ termsBy Z ((naf y).take j) ∧ BY W wl (.slice a n2 c) n2 bs2 (.slice (some ⟨bp, 0, none⟩) L c5) ps) (fun _ i _ => F - (intOf i).toNat)
     case atStart => exact ⟨0, a7, c7, no + 2, _, Nat.zero_le _, rfl, rfl, by omega, by simp [termsBy], HBY.out⟩
     case round =>
       obtain ⟨j, a2, c2, n2, bs2, hjF, rfl, rfl, hn2, hbs2, hBY2⟩ := hrel
       by_cases hj : j < F
       · have hj' : (j : Int) < (F : Int) := by omega
         obtain ⟨hBY, hno, hnb, hbs, hZk, hrf, htf, hidx, hF, hfl⟩ := HQ.out
         obtain ⟨b2, cf2, e2, u0, u1⟩ := Zao (n := j) hrf (by omega)
         rw [hfl] at e2
         cases e2
         obtain ⟨m2, q2, hm2⟩ : ∃ m q, f[j]? = some (m, q) := ⟨_, _, List.getElem?_eq_getElem (by omega)⟩
         have hjn : j < (naf y).length := by omega
         obtain ⟨g0, g1⟩ := htf.get j (by omega) hjn
         rw [(List.getElem?_eq_some_iff.1 hm2).2] at u0 u1 g0 g1
         simp only at u0 u1 g0 g1
         obtain ⟨hq2, hix⟩ := hidx _ (List.getElem_mem hjn) q2 g1
         obtain ⟨m3, e, he⟩ : ∃ m e, (naf y)[j] = (m, e) := ⟨_, _, rfl⟩
         rw [he] at g0 hix
         simp only at g0 hix
         subst g0
         obtain ⟨ix, hixe⟩ : ∃ ix, ix = ps.idxOf q2 := ⟨_, rfl⟩
         have hpl9 := HN9.out.1
         have hu0 := fun W' (hW : Below W.heap.size W W') => (hW.cell (p := ⟨b2, j * 2, none⟩) (World.block_lt_of_cell? _ _ u0)).trans u0
         have hu1 := fun W' (hW : Below W.heap.size W W') => (hW.cell (p := ⟨b2, j * 2 + 1, none⟩) (World.block_lt_of_cell? _ _ u1)).trans u1
         have HS4 := zh hu1
         have v0 := hu0 _ hBY2.blw
         have htl : termsBy Z ((naf y).take (j + 1)) = termsBy Z ((naf y).take j) ++ ((if m2 then 1 else 0) :: twoN ix) := by
           rw [List.take_succ_eq_append_getElem hjn, he]
           unfold termsBy
           rw [List.flatMap_append]
           simp [termBy, hix, hixe]
         have hPC := fun W' (hW : Below wr.heap.size wr W') => Zdz (RowV.of_own (hBY2.below hW).parts) hq2 hpl9
         rw [← hixe] at hPC
         have HPC := zh hPC
         have HQ2 := zh hq2
         have HIX := zh hixe
         have HBY := zh hBY2
         have HN := zh hBY2.blw
         have HTL := zh (zi htl (zi hbs2 hn2))
         have hn9 : n2 ≤ 2010000 := by omega
         clear hBY hno hnb hbs hZk hrf htf hidx hF hfl u0 u1 hm2 hjn g1 hq2 hix he hixe hu0 hu1 htl hPC hBY2 hbs2 hn2 hpl9 hj hjF hno9
         cases m2
         · go_upto_region 14 with fail
           clear v0
           first
             | go_region_held3 (fun W' => W'.cell? ⟨b2, j * 2 + 1, none⟩ = some (.int .i64 (q2 : Int))) (exact HS4.out _ (by repeat (first | with_reducible exact HN.out | with_reducible exact zb | with_reducible refine Below.drew ?_ | with_reducible refine Zaa ?_ _ | with_reducible refine Below.alloc ?_ (by have := HN.out.size; first | omega | (simp; omega)) _)))
                 (first
                   | (have g := H7
                      refine Za6 _ (by rfl) _ _ _ (by rfl) W.heap.size 5 i8 (.int .u8 0) 1 1 Tryz.underlying50 H8.out.1 H8.out.2.1 H8.out.2.2.1 H8.out.2.2.2 (by rfl) (by decide) _ _ _ (by rfl) (HBY.out.below (by repeat (first | with_reducible exact zb | with_reducible refine Below.drew ?_ | with_reducible refine Zaa ?_ _ | with_reducible refine Below.alloc ?_ (by simp) _))).out _ 2 (byV (twoN ix)) (by rfl) ((RowV.of_own HT.out.1).below (by repeat (first | with_reducible exact zb | with_reducible refine Below.drew ?_ | with_reducible refine Zaa ?_ _ | with_reducible refine Below.alloc ?_ (by simp) _)) (zl)) (Zfn _) (by unfold maxLen; omega) (by omega) (HBY.out.below (by repeat (first | with_reducible exact zb | with_reducible refine Below.drew ?_ | with_reducible refine Zaa ?_ _ | with_reducible refine Below.alloc ?_ (by simp) _))).blw.size ?_; intro a9 c9 w9 hown9 hg9
                      have hby9 := HBY.out.grow (b2 := bs2 ++ [0] ++ twoN ix) (by repeat (first | with_reducible exact zb | with_reducible refine Below.drew ?_ | with_reducible refine Zaa ?_ _ | with_reducible refine Below.alloc ?_ (by simp) _)) hg9 (by rw [Zbb]; exact hown9)
                      have H9 := zh hby9
                      have HN := zh hby9.blw
                      clear hown9 hg9 hby9)
                   | (refine Za6 _ (by rfl) _ _ _ (by rfl) W.heap.size 5 i8 (.int .u8 0) 1 1 Tryz.underlying50 H8.out.1 H8.out.2.1 H8.out.2.2.1 H8.out.2.2.2 (by rfl) (by decide) _ _ _ (by rfl) (HBY.out.below (by repeat (first | with_reducible exact zb | with_reducible refine Below.drew ?_ | with_reducible refine Zaa ?_ _ | with_reducible refine Below.alloc ?_ (by simp) _))).out _ 1 (byV [0]) (by rfl) (Zqk (by first | exact HE.out | exact heap_alloc_new _ _)) (Zfn _) (by unfold maxLen; omega) (by omega) (HBY.out.below (by repeat (first | with_reducible exact zb | with_reducible refine Below.drew ?_ | with_reducible refine Zaa ?_ _ | with_reducible refine Below.alloc ?_ (by simp) _))).blw.size ?_; intro a7 c7 w7 hown7 hg7
                      have hby7 := HBY.out.grow (b2 := bs2 ++ [0]) (by repeat (first | with_reducible exact zb | with_reducible refine Below.drew ?_ | with_reducible refine Zaa ?_ _ | with_reducible refine Below.alloc ?_ (by simp) _)) hg7 (by rw [Zbb]; exact hown7)
                      (first
                        | (have ht7 := HBY.out.keep (by repeat (first | with_reducible exact zb | with_reducible refine Below.drew ?_ | with_reducible refine Zaa ?_ _ | with_reducible refine Below.alloc ?_ (by simp) _)) hg7 HT.out.1 HT.out.2
                           have HT := zh (zi ht7 True.intro)
                           clear ht7)
                        | skip)
                      have H7 := zh True.intro
                      have HBY := zh hby7
                      have HN := zh hby7.blw
                      have hPC := fun W' (hW : Below w7.heap.size w7 W') => Zdz (RowV.of_own (hby7.below hW).parts) HQ2.out HN9.out.1
                      rw [← HIX.out] at hPC
                      have HPC := zh hPC
                      clear hown7 hg7 hby7 hPC)
                   | (go_at_call 57; refine (HPC.out _ (by repeat (first | with_reducible exact zb | with_reducible refine Below.drew ?_ | with_reducible refine Zaa ?_ _ | with_reducible refine Below.alloc ?_ (by simp) _))).mono ?_; rintro e5 w5 ⟨rfl, hb5⟩
                      have hby5 := HBY.out.below (Below.trans (by repeat (first | with_reducible exact zb | with_reducible refine Below.drew ?_ | with_reducible refine Zaa ?_ _ | with_reducible refine Below.alloc ?_ (by simp) _)) (hb5.mono (by first | exact zl | (simp; done) | (simp; omega))))
                      (first
                        | (have he := (hb5.block _ (by simp)).trans (heap_alloc_new _ _)
                           have HE := zh he
                           clear he)
                        | skip)
                      have HBY := zh hby5
                      have HN := zh hby5.blw
                      clear hb5 hby5)
                   | (go_at_call 56; refine (Ze6 ix _).mono ?_; rintro e6 w6 ⟨aT, cT, rfl, ht6, hb6⟩
                      have hby6 := HBY.out.below (Below.trans (by repeat (first | with_reducible exact zb | with_reducible refine Below.drew ?_ | with_reducible refine Zaa ?_ _ | with_reducible refine Below.alloc ?_ (by simp) _)) (hb6.mono (by first | exact zl | (simp; done) | (simp; omega))))
                      have hne6 := fun k (hk : (Value.slice aT 2 cT).ownBlock = some k) (hv : _ = some k) => Nat.lt_irrefl k (Nat.lt_of_lt_of_le (HBY.out.out.lt k hv).2 (Nat.le_trans (by first | exact zl | (simp; done) | (simp; omega)) (ht6.lt k hk).1))
                      (first
                        | (have he := (hb6.block _ (by simp)).trans (heap_alloc_new _ _)
                           have HE := zh he
                           clear he)
                        | (have he := (hb6.block _ (Array.getElem?_eq_some_iff.1 HE.out).1).trans HE.out
                           have HE := zh he
                           clear he)
                        | skip)
                      have HT := zh (zi ht6 hne6)
                      have HBY := zh hby6
                      have HN := zh hby6.blw
                      clear ht6 hb6 hby6 hne6))
             | fail
           all_goals
             (try go_wp2)
             refine ⟨⟨j + 1, a9, c9, n2 + 1 + 2, bs2 ++ [0] ++ twoN ix, by omega, by go_num, rfl, ?_, ?_, H9.out⟩, by first | (simp [intOf]; done) | (simp [intOf]; omega)⟩
             · have := HTL.out.2.2; omega
             · rw [HTL.out.1, HTL.out.2.1]
               simp
         · go_upto_region 14 with fail
           clear v0
           first
             | go_region_held3 (fun W' => W'.cell? ⟨b2, j * 2 + 1, none⟩ = some (.int .i64 (q2 : Int))) (exact HS4.out _ (by repeat (first | with_reducible exact HN.out | with_reducible exact zb | with_reducible refine Below.drew ?_ | with_reducible refine Zaa ?_ _ | with_reducible refine Below.alloc ?_ (by have := HN.out.size; first | omega | (simp; omega)) _)))
                 (first
                   | (have g := H7
                      refine Za6 _ (by rfl) _ _ _ (by rfl) W.heap.size 5 i8 (.int .u8 0) 1 1 Tryz.underlying50 H8.out.1 H8.out.2.1 H8.out.2.2.1 H8.out.2.2.2 (by rfl) (by decide) _ _ _ (by rfl) (HBY.out.below (by repeat (first | with_reducible exact zb | with_reducible refine Below.drew ?_ | with_reducible refine Zaa ?_ _ | with_reducible refine Below.alloc ?_ (by simp) _))).out _ 2 (byV (twoN ix)) (by rfl) ((RowV.of_own HT.out.1).below (by repeat (first | with_reducible exact zb | with_reducible refine Below.drew ?_ | with_reducible refine Zaa ?_ _ | with_reducible refine Below.alloc ?_ (by simp) _)) (zl)) (Zfn _) (by unfold maxLen; omega) (by omega) (HBY.out.below (by repeat (first | with_reducible exact zb | with_reducible refine Below.drew ?_ | with_reducible refine Zaa ?_ _ | with_reducible refine Below.alloc ?_ (by simp) _))).blw.size ?_; intro a9 c9 w9 hown9 hg9
                      have hby9 := HBY.out.grow (b2 := bs2 ++ [1] ++ twoN ix) (by repeat (first | with_reducible exact zb | with_reducible refine Below.drew ?_ | with_reducible refine Zaa ?_ _ | with_reducible refine Below.alloc ?_ (by simp) _)) hg9 (by rw [Zbb]; exact hown9)
                      have H9 := zh hby9
                      have HN := zh hby9.blw
                      clear hown9 hg9 hby9)
                   | (refine Za6 _ (by rfl) _ _ _ (by rfl) W.heap.size 5 i8 (.int .u8 0) 1 1 Tryz.underlying50 H8.out.1 H8.out.2.1 H8.out.2.2.1 H8.out.2.2.2 (by rfl) (by decide) _ _ _ (by rfl) (HBY.out.below (by repeat (first | with_reducible exact zb | with_reducible refine Below.drew ?_ | with_reducible refine Zaa ?_ _ | with_reducible refine Below.alloc ?_ (by simp) _))).out _ 1 (byV [1]) (by rfl) (Zqk (by first | exact HE.out | exact heap_alloc_new _ _)) (Zfn _) (by unfold maxLen; omega) (by omega) (HBY.out.below (by repeat (first | with_reducible exact zb | with_reducible refine Below.drew ?_ | with_reducible refine Zaa ?_ _ | with_reducible refine Below.alloc ?_ (by simp) _))).blw.size ?_; intro a7 c7 w7 hown7 hg7
                      have hby7 := HBY.out.grow (b2 := bs2 ++ [1]) (by repeat (first | with_reducible exact zb | with_reducible refine Below.drew ?_ | with_reducible refine Zaa ?_ _ | with_reducible refine Below.alloc ?_ (by simp) _)) hg7 (by rw [Zbb]; exact hown7)
                      (first
                        | (have ht7 := HBY.out.keep (by repeat (first | with_reducible exact zb | with_reducible refine Below.drew ?_ | with_reducible refine Zaa ?_ _ | with_reducible refine Below.alloc ?_ (by simp) _)) hg7 HT.out.1 HT.out.2
                           have HT := zh (zi ht7 True.intro)
                           clear ht7)
                        | skip)
                      have H7 := zh True.intro
                      have HBY := zh hby7
                      have HN := zh hby7.blw
                      have hPC := fun W' (hW : Below w7.heap.size w7 W') => Zdz (RowV.of_own (hby7.below hW).parts) HQ2.out HN9.out.1
                      rw [← HIX.out] at hPC
                      have HPC := zh hPC
                      clear hown7 hg7 hby7 hPC)
                   | (go_at_call 57; refine (HPC.out _ (by repeat (first | with_reducible exact zb | with_reducible refine Below.drew ?_ | with_reducible refine Zaa ?_ _ | with_reducible refine Below.alloc ?_ (by simp) _))).mono ?_; rintro e5 w5 ⟨rfl, hb5⟩
                      have hby5 := HBY.out.below (Below.trans (by repeat (first | with_reducible exact zb | with_reducible refine Below.drew ?_ | with_reducible refine Zaa ?_ _ | with_reducible refine Below.alloc ?_ (by simp) _)) (hb5.mono (by first | exact zl | (simp; done) | (simp; omega))))
                      (first
                        | (have he := (hb5.block _ (by simp)).trans (heap_alloc_new _ _)
                           have HE := zh he
                           clear he)
                        | skip)
                      have HBY := zh hby5
                      have HN := zh hby5.blw
                      clear hb5 hby5)
                   | (go_at_call 56; refine (Ze6 ix _).mono ?_; rintro e6 w6 ⟨aT, cT, rfl, ht6, hb6⟩
                      have hby6 := HBY.out.below (Below.trans (by repeat (first | with_reducible exact zb | with_reducible refine Below.drew ?_ | with_reducible refine Zaa ?_ _ | with_reducible refine Below.alloc ?_ (by simp) _)) (hb6.mono (by first | exact zl | (simp; done) | (simp; omega))))
                      have hne6 := fun k (hk : (Value.slice aT 2 cT).ownBlock = some k) (hv : _ = some k) => Nat.lt_irrefl k (Nat.lt_of_lt_of_le (HBY.out.out.lt k hv).2 (Nat.le_trans (by first | exact zl | (simp; done) | (simp; omega)) (ht6.lt k hk).1))
                      (first
                        | (have he := (hb6.block _ (by simp)).trans (heap_alloc_new _ _)
                           have HE := zh he
                           clear he)
                        | (have he := (hb6.block _ (Array.getElem?_eq_some_iff.1 HE.out).1).trans HE.out
                           have HE := zh he
                           clear he)
                        | skip)
                      have HT := zh (zi ht6 hne6)
                      have HBY := zh hby6
                      have HN := zh hby6.blw
                      clear ht6 hb6 hby6 hne6))
             | fail
           all_goals
             (try go_wp2)
             refine ⟨⟨j + 1, a9, c9, n2 + 1 + 2, bs2 ++ [1] ++ twoN ix, by omega, by go_num, rfl, ?_, ?_, H9.out⟩, by first | (simp [intOf]; done) | (simp [intOf]; omega)⟩
             · have := HTL.out.2.2; omega
             · rw [HTL.out.1, HTL.out.2.1]
               simp
       · have hjn : j = F := by omega
         have hj' : ¬ (j : Int) < (F : Int) := by omega
         have HS := zh (zi hn2 (zi hbs2 (zi hBY2 hjn)))
         clear hn2 hbs2 hBY2 hjn hj hjF
         go_wp2
         obtain ⟨hn2, hbs2, hBY2, hjn⟩ := HS.out
         obtain ⟨hBY, hno, hnb, hbs, hZk, hrf, htf, hidx, hF, hfl⟩ := HQ.out
         have htl : (Z.take (k + 1)).flatMap (partBy Z) = (Z.take k).flatMap (partBy Z) ++ partBy Z y := by
           rw [List.take_add_one, hZk]
           simp
         have hfull : (naf y).take j = naf y := List.take_of_length_le (by omega)
         rw [hfull] at hbs2
         have hpb : partBy Z y = twoN F ++ termsBy Z (naf y) := by unfold partBy; rw [hF]
         refine ⟨⟨k + 1, a2, c2, n2, bs2, by omega, by go_num, rfl, ?_, by omega, ?_, hBY2⟩, by first | (simp [intOf]; done) | (simp [intOf]; omega)⟩
         · rw [hbs2, hn2, hno]
           simp only [List.length_append]
           rw [Zhh, ← hF, hjn]
           simp [twoN]; omega
         · rw [htl, hpb, hbs2, hbs]
           simp
   · have hkn : k = L := by omega
     have hk' : ¬ (k : Int) < (L : Int) := by omega
     have hfin : bs = bytesZ z := by
       rw [hbs, hkn, List.take_of_length_le (by omega)]
       unfold bytesZ
       rw [← hZ, hLw]
     have HS := zh (zi hfin (zi hno hBY))
     clear h hx hz hZ hLw hwt hL hkL hk hno hnb hbs hBY hfin hkn
     go_wp2
     refine bodyPost_ret (v := .slice a no c) (by simp [results, Tryz.results19, go_sem]) rfl ?_
     obtain ⟨hfin, hno, hBY⟩ := HS.out
     have h1 := hBY.out
     rw [hfin] at h1 hno
     rw [hno] at h1 ⊢
     exact ⟨_, _, rfl, h1, hBY.blw⟩
end
section
open Go.RowKit
variable {W W' W1 W2 : World} {p n n' : Nat} {fv fv' fv1 : Value} {vs vs' vs1 G : List Int}
def gZero : List Int := (List.range 60011).map (fun i : Nat => (i : Int)) ++ [(2 : Int) ^ 63, -(2 : Int) ^ 63]
theorem Zj5 : gZero.length = 60013 := by simp [gZero]
theorem Zmd : GOK gZero := by
 refine ⟨by rw [Zj5]; unfold gMax; omega, fun g hg => ?_, fun i hi => List.mem_append_left _ (List.mem_map.2 ⟨i, List.mem_range.2 (by omega), rfl⟩), ⟨List.mem_append_right _ (by simp), List.mem_append_right _ (by simp)⟩⟩
 rcases List.mem_append.1 hg with a | a
 · obtain ⟨i, hi, rfl⟩ := List.mem_map.1 a
   have := List.mem_range.1 hi
   have := Zf5 (k := i) (by omega)
   omega
 · have h1 : wt ((2 : Int) ^ 63) = 1 := Zo5 63
   rcases List.mem_cons.1 a with rfl | a
   · omega
   · rw [List.mem_singleton.1 a]
     have : wt (-(2 : Int) ^ 63) = wt ((2 : Int) ^ 63) := by unfold wt; rw [Zd3, List.length_map]
     omega
theorem WL.new (W : World) : WL ((W.alloc (.cells #[.slice none 0 0] 41)).alloc (.cells #[.slice (some ⟨W.heap.size, 0, none⟩) 1 1] 44)) (W.heap.size + 1) (.slice (some ⟨W.heap.size, 0, none⟩) 1 1) [0] 60013 := by
 obtain ⟨a0, a1⟩ := Ze4 W (.cells #[.slice none 0 0] 41) (.cells #[.slice (some ⟨W.heap.size, 0, none⟩) 1 1] 44)
 refine ⟨gZero, ⟨[.slice none 0 0], [[]], ⟨a1, ?_, rfl, fun i f hf => ?_⟩, ⟨rfl, by simp, rfl, fun i f hf => ?_, fun z hz => ?_⟩, Zmd⟩, by rw [Zj5]; exact zl⟩
 · have := World.ownsRow_lit W #[.slice none 0 0] 1 (Nat.zero_le _) (by decide) rfl (e := 41) (size := 1) (base := 0)
   exact this.alloc _
 · rcases i with _ | i
   · simp at hf
     subst hf
     exact ⟨_, rfl, World.ownsRow_nil _ _ _ _⟩
   · simp at hf
 · rcases i with _ | i
   · simp at hf
     subst hf
     exact ⟨0, rfl, by rw [Zef]; trivial, by simp⟩
   · simp at hf
 · rw [List.mem_singleton.1 hz]
   exact Zmd.low 0 (by omega)
theorem Zmz (W : World) : Calls Tryz.prog 7 #[] W fun r w' => ∃ (p : Nat) (fv : Value), r = .returned (.pointer (some ⟨p, 0, none⟩)) ∧ WL w' p fv [0] 60013 ∧ (∀ k, wB p fv k → W.heap.size ≤ k) ∧ Below W.heap.size W w' := by
 have h := WL.new W
 have hb : Below W.heap.size W ((W.alloc (.cells #[.slice none 0 0] 41)).alloc (.cells #[.slice (some ⟨W.heap.size, 0, none⟩) 1 1] 44)) := ((zb).alloc (zl) _).alloc (by simp) _
 have H := zh (zi h hb)
 clear h hb
 go_enter Tryz.func7, Tryz.ntmps7
 go_wp2
 go_ret
 refine ⟨_, _, rfl, H.out.1, fun k hk => ?_, H.out.2⟩
 rcases hk with rfl | hk
 · omega
 · simp only [Value.ownBlock, Option.some.injEq] at hk
   omega
end
section
open Go.RowKit
variable {W W' W1 W2 : World} {p n n' : Nat} {fv fv' fv1 : Value} {vs vs' vs1 G : List Int}
structure LW (W : World) (p : Nat) (fv : Value) (vs : List Int) (n : Nat) : Prop where
 wl : WL W p fv vs n
 law : LawW W
 far : ∀ k, wB p fv k → 0 < k
theorem LW.grow (h : LW W p fv vs n) (k : GrowL W p fv vs fv' vs' W' n') : LW W' p fv' vs' n' := by
 obtain ⟨t1, t2⟩ := h.law W (zb)
 have hk := k.2.2.1
 have htab : Tab W' := Zbd t1 (hk.block 0 t2 (fun hb => Nat.lt_irrefl _ (h.far _ hb)))
 have hsz : 0 < W'.heap.size := Nat.lt_of_lt_of_le t2 hk.size
 refine ⟨k.1, LawW.of htab hsz (zb), fun i hi => ?_⟩
 rcases hi with rfl | hi
 · exact h.far _ (.inl rfl)
 · rcases k.2.2.2.1 i hi with c | c
   · exact h.far i (.inr c)
   · omega
theorem LW.below (h : LW W p fv vs n) (hb : Below W.heap.size W W') : LW W' p fv vs n := ⟨h.wl.below hb, h.law.on hb, h.far⟩
theorem NumA.world {s z : Int} {g : Option Addr} (h : NumA (wB p fv) W s g z) (k : GrowL W p fv vs fv' vs' W' n') : NumA (wB p fv') W' s g z := by
 have h1 : NumA (orA (wB p fv) (fun k => W.heap.size ≤ k)) W s g z := h.grow (fun i hi => hi)
 have hk := k.2.2.1
 have h2 := h1.2.keeps (w' := W') ⟨hk.os, hk.tape, hk.output, hk.size, fun j a b => hk.block j a (fun e => b (.inl e))⟩
 refine ⟨h.1, h2.shrink (fun i hi => ?_)⟩
 rcases hi with rfl | hi
 · exact .inl (.inl rfl)
 · rcases k.2.2.2.1 i hi with c | c
   · exact .inl (.inr c)
   · exact .inr c
theorem WL.blt (h : WL W p fv vs n) : ∀ k, wB p fv k → k < W.heap.size := by
 obtain ⟨G, ⟨rows, fs, hs, hg, _⟩, _⟩ := h
 intro k hk
 rcases hk with rfl | hk
 · exact (Array.getElem?_eq_some_iff.1 hs.box).1
 · exact (hs.forms.lt k hk).2
theorem Zm0 (h : WL W p fv vs n) {x : Nat} {z : Int} (hx : vs[x]? = some z) : Calls Tryz.prog 48 #[.pointer (some ⟨p, 0, none⟩), .int .i64 (x : Int)] W fun r w' => ∃ (fv' : Value) (vs' : List Int), r = .returned (.tuple #[.int .i64 (smallZ z), .bool (decide (i64 z))]) ∧ GrowL W p fv vs fv' vs' w' n := by
 obtain ⟨G, hM, hn⟩ := h
 refine (Zqj _ z (Nat.lt_succ_self _) hM x hx).mono ?_
 rintro r w' ⟨f, s, rfl, hg⟩
 exact ⟨f, s, rfl, hg.L hn⟩
theorem FitsV.later {B : Nat → Prop} {w W : World} : ∀ {ts : List TV} {vs : List (Bool × Int)}, FitsV B w ts vs → Below w.heap.size w W → FitsV B W ts vs
 | [], [], _, _ => trivial
 | t :: ts, p :: vs, h, hb => ⟨⟨h.1.1, h.1.2.below hb⟩, h.2.later hb⟩
 | [], _ :: _, h, _ => h.elim
 | _ :: _, [], h, _ => h.elim
theorem Zq2 (h : WL W p fv vs n) {x : Nat} {z : Int} (hx : vs[x]? = some z) : Calls Tryz.prog 46 #[.pointer (some ⟨p, 0, none⟩), .int .i64 (x : Int)] W fun e w' => e = .returned (.int .i64 (sgn z)) ∧ Below W.heap.size W w' := by
 obtain ⟨G, hM, _⟩ := h
 exact Zgw hM hx
theorem Zk8 (h : LW W p fv vs n) {s z : Int} {g : Option Addr} (hn : NumA (wB p fv) W s g z) {x : Nat} (hx : vs[x]? = some z) :
   Calls Tryz.prog 14 #[.agg #[.int .i64 s, .pointer g], .pointer (some ⟨p, 0, none⟩), .int .i64 (x : Int)] W fun r w' => r = .returned (.bool true) ∧ ∃ (fv' : Value) (vs' : List Int), GrowL W p fv vs fv' vs' w' n := by
 obtain ⟨W0, hW0⟩ : ∃ W0, W0 = W.alloc (.cells #[.int .i64 s, .pointer g] 28) := ⟨_, rfl⟩
 have hb0 : Below W.heap.size W W0 := by rw [hW0]; exact (zb).alloc (zl) _
 have hp0 : W0.heap[W.heap.size]? = some (.cells #[.int .i64 s, .pointer g] 28 (0, 0)) := by rw [hW0]; exact heap_alloc_new W _
 obtain ⟨bx, hbx⟩ : ∃ bx, bx = W.heap.size := ⟨_, rfl⟩
 rw [← hbx] at hp0
 have HX := zh (zi h (zi hn (zi hx (zi hb0 hp0))))
 have hl0 := h.below hb0
 have hn0 := hn.below hb0
 obtain ⟨y0, y1⟩ := Zab hp0
 have HI1 := zh (Zq7 (W := W0) hn0)
 have HWI := zh (fun W' (hW : Below W0.heap.size W0 W') => Zm0 (hl0.wl.below hW) hx)
 clear h hn hx hb0 hp0 hl0 hn0
 go_enter Tryz.func14, Tryz.ntmps14
 go_upto_region 1 with fail
 rw [← hW0, ← hbx]
 clear hW0 hbx
 go_upto_region 3 with (first
   | (go_at_call 29; refine (HI1.out).mono ?_; rintro e5 w5 ⟨rfl, hb5⟩
      have HB5 := zh hb5
      clear hb5)
   | (go_at_call 48; refine (HWI.out _ HB5.out).mono ?_; rintro e6 w6 ⟨f6, s6, rfl, hg6⟩
      have hg0 := ((GrowL.refl HX.out.1.wl).below HX.out.2.2.2.1).below HB5.out
      have hg7 := hg0.trans hg6
      have hl6 := HX.out.1.grow hg7
      have hn6 := HX.out.2.1.world hg7
      have hp6 : w6.heap[bx]? = some (.cells #[.int .i64 s, .pointer g] 28 (0, 0)) := by
        have hp5 := (HB5.out.block _ (Array.getElem?_eq_some_iff.1 HX.out.2.2.2.2).1).trans HX.out.2.2.2.2
        have hw5 : WL w5 p fv vs n := (HX.out.1.wl.below HX.out.2.2.2.1).below HB5.out
        exact (hg6.2.2.1.block bx (Array.getElem?_eq_some_iff.1 hp5).1 (hw5.not hp5 (by decide) (by decide))).trans hp5
      have H6 := zh (zi hg7 (zi hl6 (zi hn6 (zi hp6 (Zci hg6.2.1 HX.out.2.2.1)))))
      clear hg0 hg6 hg7 hl6 hn6 hp6))
 obtain ⟨hg7, hl6, hn6, hp6, hx6⟩ := H6.out
 obtain ⟨wq, hwq⟩ : ∃ wq, wq = w6 := ⟨_, rfl⟩
 subst hwq
 obtain ⟨b, c, v, f, efv, hcb, hrf, htf, hpl, hw⟩ := hl6.wl.form hx6
 obtain ⟨x0, _⟩ := hl6.wl.cell
 subst efv
 have hxN : (x : Int) < (s6.length : Int) := by have := (List.getElem?_eq_some_iff.1 hx6).1; omega
 have hc := hl6.wl.count
 unfold gMax at hc
 obtain ⟨NN, hNN⟩ : ∃ NN, NN = s6.length := ⟨_, rfl⟩
 rw [← hNN] at hxN hc x0
 have hNN2 : (NN : Int) ≤ 1000000000000 := by omega
 obtain ⟨aF, cF, rfl⟩ := (RowV.of_own hrf).shape
 have hfl : f.length = wt z := htf.len
 obtain ⟨F, hF⟩ : ∃ F, F = wt z := ⟨_, rfl⟩
 rw [← hF] at hfl
 rw [hfl] at hcb
 have hF3 : F ≤ 300 := by rw [hF]; exact hn6.wt
 have hF4 : (F : Int) ≤ 300 := by omega
 have hxx0 : (0 : Int) ≤ (x : Int) := by omega
 obtain ⟨y0, y1⟩ := Zab hp6
 have hS := fun W' (hW : Below wq.heap.size wq W') => zi ((hW.cell (p := ⟨bx, 0, none⟩) (World.block_lt_of_cell? _ _ y0)).trans y0) (zi ((hW.cell (p := ⟨bx, 1, none⟩) (World.block_lt_of_cell? _ _ y1)).trans y1) (zi ((hW.cell (p := ⟨p, 0, none⟩) hl6.wl.plt).trans x0) ((hW.cell (p := ⟨b, x, none⟩) (World.block_lt_of_cell? _ _ hcb)).trans hcb)))
 have HS := zh hS
 have hT := hl6.law.terms0 hn6
 have HT := zh hT
 have HN := zh (Below.refl wq.heap.size wq)
 have HQ := zh (zi hl6 (zi hn6 (zi hx6 (zi hrf (zi htf (zi hF (zi hfl hg7)))))))
 clear hg7 hl6 hn6 hp6 hx6 hcb hrf htf hpl hw x0 hc hNN hfl hF y0 y1 hS hT H6 HB5
 go_cut [11, 12] from 25 to 33 (fun v11 v12 wx => ∃ (a : Option Addr) (c1 : Nat) (ts : List TV), v11 = .slice a F c1 ∧ v12 = .slice aF F cF ∧ ts.length = F ∧ wx.ownsRow wq.heap.size 62 3 (.slice a F c1) F (flatT ts) ∧ FitsV cold wq ts ((naf z).map ofT) ∧ Below wq.heap.size wq wx)
 case first =>
   as_aux_lemma =>
     first
       | go_region_held3 (fun W => W.cell? ⟨bx, 0, none⟩ = some (.int .i64 s) ∧ W.cell? ⟨bx, 1, none⟩ = some (.pointer g) ∧ W.cell? ⟨p, 0, none⟩ = some (.slice (some ⟨b, 0, none⟩) NN c) ∧ W.cell? ⟨b, x, none⟩ = some (.slice aF F cF)) (exact HS.out _ (by repeat (first | with_reducible exact HN.out | with_reducible exact zb | with_reducible refine Below.drew ?_ | with_reducible refine Zaa ?_ _ | with_reducible refine Below.alloc ?_ (by simp) _)))
           (first
           | (go_at_call 32; refine (HT.out _ (by repeat (first | with_reducible exact HN.out | with_reducible exact zb | with_reducible refine Below.drew ?_ | with_reducible refine Zaa ?_ _ | with_reducible refine Below.alloc ?_ (by simp) _))).mono ?_; rintro e5 w5 ⟨a5, c5, ts, rfl, hlt, ho5, hfit, hb5⟩
              have hb6 : Below wq.heap.size wq w5 := Below.trans (by repeat (first | with_reducible exact HN.out | with_reducible exact zb | with_reducible refine Below.drew ?_ | with_reducible refine Zaa ?_ _ | with_reducible refine Below.alloc ?_ (by simp) _)) (hb5.mono (by first | exact zl | exact HN.out.size))
              have hltF : ts.length = F := by rw [hlt, HQ.out.2.2.2.2.2.1]
              rw [hltF] at ho5
              have HD := zh (zi hltF (zi ho5 hfit))
              have HN := zh hb6
              clear hb5 hb6 hlt ho5 hfit hltF))
       | fail
     all_goals
       (try go_wp2)
       go_meet
       exact ⟨_, _, ts, by rw [HD.out.1], rfl, HD.out.1, Zah HD.out.2.1 (by first | exact zl | exact HN.out.size), HD.out.2.2, HN.out⟩
 obtain ⟨a, c1, ts, rfl, rfl, hlt, ho, hfit, hB⟩ := hcut
 obtain ⟨wd, hwd⟩ : ∃ wd, wd = wc := ⟨_, rfl⟩
 subst hwd
 have HD := zh (zi hlt (zi ho (hfit.later hB)))
 have hQ := HQ.out
 have HQ := zh (zi (hQ.1.below hB) (zi (hQ.2.1.below hB) (zi hQ.2.2.1 (zi (hQ.2.2.2.1.below hB) (zi hQ.2.2.2.2.1 (zi hQ.2.2.2.2.2.1 (zi hQ.2.2.2.2.2.2.1 (hQ.2.2.2.2.2.2.2.below hB))))))))
 have hS := fun W' (hW : Below wd.heap.size wd W') => HS.out _ (hB.trans (hW.mono hB.size))
 have HS := zh hS
 have HN := zh (Below.refl wd.heap.size wd)
 obtain ⟨y0, y1, x0, hcb⟩ := HS.out _ (Below.refl wd.heap.size wd)
 clear hlt ho hfit hB HT hQ hS
 generalize smallZ z = sz
 generalize decide (i64 z) = di
 go_upto_region 7 with (first
 | (go_at_call 34; refine (HQ.out.1.law.sign HQ.out.2.1 _ HN.out).mono ?_; rintro e5 w5 ⟨rfl, hb5⟩
    have HN := zh hb5
    clear hb5
    obtain ⟨y0, y1, _, _⟩ := HS.out _ HN.out)
 | (go_at_call 46; refine (Zq2 (HQ.out.1.wl.below HN.out) HQ.out.2.2.1).mono ?_; rintro e5 w5 ⟨rfl, hb5⟩
    have HN := zh (HN.out.trans (hb5.mono HN.out.size))
    clear hb5
    obtain ⟨y0, y1, _, _⟩ := HS.out _ HN.out)
 | (go_at_call 30; refine (HQ.out.1.law.weight HQ.out.2.1 _ HN.out).mono ?_; rintro e5 w5 ⟨rfl, hb5⟩
    have HN := zh hb5
    clear hb5
    obtain ⟨y0, y1, _, _⟩ := HS.out _ HN.out)
 | (go_at_call 13; refine (Zi3 (HQ.out.1.wl.below HN.out) HQ.out.2.2.1).mono ?_; rintro e5 w5 ⟨rfl, hb5⟩
    have HN := zh (HN.out.trans (hb5.mono HN.out.size))
    clear hb5
    obtain ⟨y0, y1, _, _⟩ := HS.out _ HN.out)
 | (go_at_call 31; refine (HQ.out.1.law.height HQ.out.2.1 _ HN.out).mono ?_; rintro e5 w5 ⟨rfl, hb5⟩
    have HN := zh hb5
    clear hb5
    obtain ⟨y0, y1, _, _⟩ := HS.out _ HN.out)
 | (go_at_call 49; refine (Ze5 (HQ.out.1.wl.below HN.out) HQ.out.2.2.1).mono ?_; rintro e5 w5 ⟨rfl, hb5⟩
    have HN := zh (HN.out.trans (hb5.mono HN.out.size))
    clear hb5
    obtain ⟨y0, y1, _, _⟩ := HS.out _ HN.out))
 clear y0 y1 x0 hcb
 have HW := HN
 go_loopw [13] (fun i wl => ∃ k : Nat, k ≤ F ∧ i = .int .i64 (k : Int) ∧ Below wd.heap.size wd wl) (fun i _ => F - (intOf i).toNat)
 case atStart => exact ⟨0, Nat.zero_le _, rfl, HW.out⟩
 case round =>
   obtain ⟨k, hkF, rfl, hB⟩ := hrel
   have HB := zh hB
   by_cases hk : k < F
   · have hk' : (k : Int) < (F : Int) := by omega
     obtain ⟨hlw, hnx, hx9, hrf, htf, hF, hfl, _⟩ := HQ.out
     have hkn : k < (naf z).length := by unfold wt at hF; omega
     obtain ⟨ho1, ho2, ho3⟩ := HD.out
     obtain ⟨f0, f1⟩ := ho3.get k (by omega) (by simpa using hkn)
     rw [List.getElem_map] at f0 f1
     obtain ⟨tb, ts', tg, htk⟩ : ∃ m s g, ts[k]? = some (m, s, g) := ⟨_, _, _, List.getElem?_eq_getElem (by omega)⟩
     rw [(List.getElem?_eq_some_iff.1 htk).2] at f0 f1
     simp only [ofT] at f0 f1
     obtain ⟨m2, e, he⟩ : ∃ m e, (naf z)[k] = (m, e) := ⟨_, _, rfl⟩
     rw [he] at f0 f1
     simp only at f0 f1
     subst f0
     obtain ⟨bl, cl, el⟩ := Go.Joins.ownsRow_form ho2 (by omega)
     cases el
     obtain ⟨q0, q1, q2⟩ := Zbi ts k (by omega)
     rw [(List.getElem?_eq_some_iff.1 htk).2] at q0 q1 q2
     obtain ⟨b2, c2, e2, u0, u1⟩ := Zao (n := k) hrf (by omega)
     rw [hfl] at e2
     cases e2
     obtain ⟨m3, q3, hm3⟩ : ∃ m q, f[k]? = some (m, q) := ⟨_, _, List.getElem?_eq_getElem (by omega)⟩
     obtain ⟨g0, g1⟩ := htf.get k (by omega) hkn
     rw [(List.getElem?_eq_some_iff.1 hm3).2] at u0 u1 g0 g1
     rw [he] at g0 g1
     simp only at u0 u1 g0 g1
     subst g0
     have hae : allowedZ (e : Int) := Zes hnx.1 (u := (m3, e)) (by rw [← he]; exact List.getElem_mem _)
     have hS9 := fun W' (hW : Below wd.heap.size wd W') => zi ((Zac ho2 hW).cellAt (k * 3) (by omega)) (zi ((Zac ho2 hW).cellAt (k * 3 + 1) (by omega)) (zi ((Zac ho2 hW).cellAt (k * 3 + 2) (by omega)) (zi ((hW.cell (p := ⟨b2, k * 2, none⟩) (World.block_lt_of_cell? _ _ u0)).trans u0) ((hW.cell (p := ⟨b2, k * 2 + 1, none⟩) (World.block_lt_of_cell? _ _ u1)).trans u1))))
     rw [q0, q1, q2] at hS9
     have HS9 := zh hS9
     have hBN := fun W' (hW : Below wd.heap.size wd W') => hlw.law.bytes f1 W' hW
     have hBW := fun W' (hW : Below wd.heap.size wd W') => Zd0 (hlw.wl.below hW) g1 hae
     have HBN := zh hBN
     have HBW := zh hBW
     have HN := zh hB
     clear hlw hnx hx9 hrf htf hF hfl ho1 ho2 ho3 f1 htk q0 q1 q2 he hm3 g1 hae hS9 hBN hBW u0 u1 hkn hB
     go_upto_region 9 with fail
     first
       | go_region_held3 (fun W => W.cell? ⟨bl, k * 3, none⟩ = some (.bool m3) ∧ W.cell? ⟨bl, k * 3 + 1, none⟩ = some (.int .i64 ts') ∧ W.cell? ⟨bl, k * 3 + 2, none⟩ = some (.pointer tg) ∧ W.cell? ⟨b2, k * 2, none⟩ = some (.bool m3) ∧ W.cell? ⟨b2, k * 2 + 1, none⟩ = some (.int .i64 (q3 : Int))) (exact HS9.out _ (by repeat (first | with_reducible exact HN.out | with_reducible exact zb | with_reducible refine Below.drew ?_ | with_reducible refine Zaa ?_ _ | with_reducible refine Below.alloc ?_ (by simp) _)))
           (first
           | (go_at_call 18; refine (HBN.out _ (by repeat (first | with_reducible exact HN.out | with_reducible exact zb | with_reducible refine Below.drew ?_ | with_reducible refine Zaa ?_ _ | with_reducible refine Below.alloc ?_ (by simp) _))).mono ?_; rintro e5 w5 ⟨a5, c5, rfl, ho5, hb5⟩
              have hb6 : Below wd.heap.size wd w5 := Below.trans (by repeat (first | with_reducible exact HN.out | with_reducible exact zb | with_reducible refine Below.drew ?_ | with_reducible refine Zaa ?_ _ | with_reducible refine Below.alloc ?_ (by simp) _)) (hb5.mono (by first | exact zl | exact HN.out.size))
              have HN := zh hb6
              have HO5 := zh ho5
              have HL5 := zh (Below.refl w5.heap.size w5)
              clear hb5 hb6 ho5)
           | (go_at_call 19; refine (HBW.out _ (by repeat (first | with_reducible exact HN.out | with_reducible exact zb | with_reducible refine Below.drew ?_ | with_reducible refine Zaa ?_ _ | with_reducible refine Below.alloc ?_ (by simp) _))).mono ?_; rintro e5 w6 ⟨a6, c6, rfl, ho6, hb5⟩
              have hb6 : Below wd.heap.size wd w6 := Below.trans (by repeat (first | with_reducible exact HN.out | with_reducible exact zb | with_reducible refine Below.drew ?_ | with_reducible refine Zaa ?_ _ | with_reducible refine Below.alloc ?_ (by simp) _)) (hb5.mono (by first | exact zl | exact HN.out.size))
              have HN := zh hb6
              have HSM := zh (Zco (RowV.of_own (Zac HO5.out hb5)) (RowV.of_own ho6) (Zbc _) (Zbc _))
              clear hb5 hb6 ho6)
           | (go_at_call 17; refine (HSM.out).mono ?_; rintro e7 w7 ⟨rfl, rfl⟩))
       | fail
     all_goals
       (try go_wp2)
       exact ⟨⟨k + 1, by omega, by go_num, HN.out⟩, by first | (simp [intOf]; done) | (simp [intOf]; omega)⟩
   · have hk' : ¬ (k : Int) < (F : Int) := by omega
     obtain ⟨y0, y1, _, _⟩ := HS.out _ HB.out
     have hBN := HQ.out.1.law.bytes HQ.out.2.1 _ HB.out
     have hBW := fun W' (hW : Below wd.heap.size wd W') => Zd0 (HQ.out.1.wl.below hW) HQ.out.2.2.1 HQ.out.2.1.1
     have HBN := zh hBN
     have HBW := zh hBW
     clear hBN hBW hB hk hkF
     go_wp2_with (first
       | (go_at_call 18; refine (HBN.out).mono ?_; rintro e5 w5 ⟨a5, c5, rfl, ho5, hb5⟩
          have HN := zh (HB.out.trans (hb5.mono HB.out.size))
          have HO5 := zh ho5
          clear hb5 ho5)
       | (go_at_call 19; refine (HBW.out _ HN.out).mono ?_; rintro e5 w6 ⟨a6, c6, rfl, ho6, hb5⟩
          have hb6 : Below wd.heap.size wd w6 := HN.out.trans (hb5.mono HN.out.size)
          have HN := zh hb6
          have HSM := zh (Zco (RowV.of_own (Zac HO5.out hb5)) (RowV.of_own ho6) (Zbc _) (Zbc _))
          clear hb5 hb6 ho6)
       | (go_at_call 17; refine (HSM.out).mono ?_; rintro e7 w7 ⟨rfl, rfl⟩))
     refine bodyPost_ret (v := .bool true) (by simp [results, Tryz.results14, go_sem]) rfl ?_
     exact ⟨rfl, _, _, HQ.out.2.2.2.2.2.2.2.below HN.out⟩
end
section
open Go.RowKit
variable {W W' W1 W2 : World} {p n n' : Nat} {fv fv' fv1 : Value} {vs vs' vs1 G : List Int}
end
section
open Go.RowKit
end
section
open Go.RowKit
variable {W W' W1 W2 : World} {p n n' : Nat} {fv fv' fv1 : Value} {vs vs' vs1 G : List Int}
theorem PO.stepL {base m : Nat} {vo fk fk' : Value} {vk vk' : List Int} {f : List Wt} (h : PO base W fk vk vo m f) (hM : WL W p fk vk n) (k : GrowL W p fk vk fk' vk' W' n') : PO base W' fk' vk' vo m f :=
 ⟨hM.own h.own (by decide) (by decide) k.2.2.1, fun b hb => k.2.2.2.2 b (h.own.lt b hb).2 (h.off b hb)⟩
theorem PO.notL {base m b : Nat} {vo fk : Value} {vk : List Int} {f : List Wt} (h : PO base W fk vk vo m f) (hM : WL W p fk vk n) (hb : vo.ownBlock = some b) : ¬ wB p fk b := by
 obtain ⟨c, hc⟩ := Zau h.own b hb
 exact hM.not hc (by decide) (by decide)
end
section
open Go.RowKit
variable {B B' : Nat → Prop} {W W' W1 W2 : World} {p n n' : Nat} {fv fv' fv1 : Value} {vs vs' vs1 G : List Int}
variable {w0 wl w7 : World} {va vb va' vb' : Value} {ts : List TV} {us : List (Bool × Int)} {f : List Wt} {ls : List Tm}
end
section
end
end Go.Proofs.YtlkmgclbckojgaaGreatDoor

