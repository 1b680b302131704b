import Derived.Test.YtlkmgclbckojgaaGreatDoorT3
import Derived.ChangeSame
import Derived.OpenShut
import Derived.Carry
import Derived.Deep.Slices
import Derived.Test.YtlkmgclbckojgaaGreatDoorEE
import Derived.Test.YtlkmgclbckojgaaGreatDoorED
import Derived.Test.YtlkmgclbckojgaaGreatDoorG8
import Derived.Deep.CutRange
import Derived.Deep.RegionHeld3
import Derived.ChangeSlices
set_option linter.unusedVariables false
set_option linter.unusedSimpArgs false
set_option maxHeartbeats 16000000
set_option maxRecDepth 100000
namespace Go.Proofs.YtlkmgclbckojgaaGreatDoor
section
open Go.ChangeShapes Go.WideShapes Go.ChangeAt Go.RowKit
theorem laidOutA : laidOutB Tryz.prog = true := by kernel_rfl
theorem Zpd {H : Type} {enc : TypeId × Value → H} {P : Program} {f : Func} {s : ChangeSpec} {apart fresh handsOn : Bool} {W W' : World} {args : Array Value} {v : Value} {ds gs : List (DataW H)} {before pa : List MemPlace}
   (hW : DataW.Whole enc P f.params.toList s.vars apart W args.toList ds gs before) (hb : Below W.heap.size W W')
   (hr : ∀ (b : Nat) (sp : Nat → Bool) (hd : Bool), DataW.TrodAll enc P W' b sp hd f.resultTypes.toList (v.resultList f.resultTypes.size) (s.fn H (ds ++ gs)).results [])
   (ha : DataW.TrodAll enc P W' 0 (fun b => decide (b < W.heap.size)) true f.params.toList args.toList (s.fn H (ds ++ gs)).args pa)
   (hv : ∀ sp : Nat → Bool, DataW.TrodVars enc P W' sp s.vars (s.fn H (ds ++ gs)).vars []) : s.post enc P f apart fresh handsOn false W args v W' :=
 ⟨ds, gs, before, [], pa, [], hW, hr _ _ _, ha, hv _, World.keptBut_mono (fun p hp => by cases hp) (hb.frame (fun _ => False)), fun h => by cases h⟩
end
section
open Go.RowKit
variable {B B' : Nat → Prop}
theorem PostL.split {W : World} {p n : Nat} {fv : Value} {vs : List Int} {bs : List Nat} {e : Ending} {w' : World} (h : PostL W p fv vs n bs e w') (hb : ByteL bs) :
   ∃ (f' : Value) (s' : List Int) (i : Nat) (is : Bool), e = .returned (.tuple #[.int .i64 (i : Int), .bool is]) ∧ GrowL W p fv vs f' s' w' n ∧ (is = true → ∃ z, loadP bs = some z ∧ allowedZ z ∧ bytesZ z = bs ∧ s'[i]? = some z) ∧ (is = false → loadP bs = Option.none) := by
 obtain ⟨f', s', i, hg, ⟨z, h1, h2, h3, h4, rfl⟩ | ⟨h1, rfl⟩⟩ := h
 · exact ⟨f', s', i, true, rfl, hg, fun _ => ⟨z, (by rw [← h3]; exact Zdo h2), h2, h3, h4⟩, fun e => (by cases e)⟩
 · refine ⟨f', s', i, false, rfl, hg, fun e => (by cases e), fun _ => ?_⟩
   cases hl : loadP bs with
   | none => rfl
   | some z =>
     obtain ⟨ha, hbz⟩ := Znl hb hl
     exact absurd hbz.symm (h1 z (by rw [hbz]; exact Zk9 ha) ha)
theorem LoadRB.uni {w w' : World} {bs : List Nat} {e : Ending} (h : LoadRB B w bs e w') : ∃ (er s zz : Int) (g : Option Addr), e = .returned (.tuple #[.agg #[.int .i64 s, .pointer g], .int .i64 er]) ∧ NumA B w' s g zz ∧ Below w.heap.size w w' ∧ (∀ z, loadP bs = some z → er = 0 ∧ zz = z) ∧ (loadP bs = none → er = 2 ∧ zz = 0) := by
 obtain ⟨hb, ⟨z, s, g, h1, h2, h3⟩ | ⟨h1, h2⟩⟩ := h
 · exact ⟨0, s, z, g, h2, h3, hb, fun z' hz' => (by rw [h1] at hz'; cases hz'; exact ⟨rfl, rfl⟩), fun e => (by rw [h1] at e; cases e)⟩
 · exact ⟨2, 0, 0, none, h2, NumA.small _ i64_0, hb, fun z' hz' => (by rw [h1] at hz'; cases hz'), fun _ => ⟨rfl, rfl⟩⟩
theorem NumA.keepsC {W W' : World} {F : Nat → Prop} {s z : Int} {g : Option Addr} (h : NumA B W s g z) (hk : Keeps F W W') (hF : ∀ i, F i → B i) : NumA B W' s g z := by
 have h1 : NumA (orA B (fun k => W.heap.size ≤ k)) W s g z := h.grow (fun i hi => hi)
 have h2 := h1.2.keeps (w' := W') ⟨hk.os, hk.tape, hk.output, hk.size, fun k a b => hk.block k a (fun e => b (.inl (hF k e)))⟩
 exact ⟨h.1, h2.shrink (fun i hi => .inl hi)⟩
theorem Zh0 {w : World} {v : Value} {bs : List Nat} (hr : RowV w 1 v bs.length (byV bs)) (hb : ByteL bs) (tab : Tab w) (h0 : 0 < w.heap.size) :
   Calls Tryz.prog 4 #[v] w fun e w' => e = .returned (.bool true) ∧ Below w.heap.size w w' := by
 obtain ⟨av, cv, rfl⟩ := hr.shape
 have hL := LawW.of tab h0 (Below.refl w.heap.size w)
 have hvb : ∀ k, (Value.slice av bs.length cv).ownBlock = some k → k < w.heap.size := fun k hk => by
   rcases hr.2 with ⟨e, _⟩ | ⟨b, off, cap, e, _, _, h, _⟩
   · rw [e] at hk; simp [Value.ownBlock] at hk
   · rw [e] at hk; simp only [Value.ownBlock, Option.some.injEq] at hk; omega
 have hLm : (bs.length : Int) ≤ 9223372036854775807 := by
   rcases hr.2 with ⟨_, h⟩ | ⟨b, off, cap, e, a1, a2, _⟩
   · omega
   · unfold maxLen at a2; omega
 obtain ⟨L, hLL⟩ : ∃ L, L = bs.length := ⟨_, rfl⟩
 have HX := zh (zi hr (zi hb (zi hL (zi hvb (zi tab (zi h0 hLL))))))
 have hvb' := hvb
 rw [← hLL] at hvb'
 have HVB := zh hvb'
 rw [← hLL] at hLm ⊢
 have hawk := hL.awake
 have HAW := zh hawk
 obtain ⟨i8, hi0, hi1, hi2, hi3⟩ := info_parts infoe8
 have H8 := zh (zi hi0 (zi hi1 (zi hi2 hi3)))
 clear hr hb hL hvb hvb' tab h0 hLL hawk hi0 hi1 hi2 hi3
 by_cases hlen : L ≤ 3000
 rotate_left
 · have hgt : (3000 : Int) < (L : Int) := by omega
   have HN := zh (Below.refl w.heap.size w)
   go_enter Tryz.func4, Tryz.ntmps4
   go_wp2_with (first
     | (go_at_call 6; refine (HAW.out _ (zb)).mono ?_; rintro e5 w5 ⟨rfl, hb5⟩
        have HN := zh hb5
        clear hb5))
   refine bodyPost_ret (v := .bool true) (by simp [results, Tryz.results4, go_sem]) rfl ⟨rfl, HN.out⟩
 have hgt : ¬ (3000 : Int) < (L : Int) := by omega
 have hL3 : (L : Int) ≤ 3000 := by omega
 go_enter Tryz.func4, Tryz.ntmps4
 go_upto_region 5 with (first
   | (go_at_call 7; refine (Zmz _).mono ?_; rintro e1 w1 ⟨p, fv, rfl, hw1, hnew, hb1⟩
      obtain ⟨hr, hb, hL, hvb, tab, h0, hLL⟩ := HX.out
      have hlw1 : LW w1 p fv [0] 60013 := ⟨hw1, LawW.of tab h0 hb1, fun k hk => Nat.lt_of_lt_of_le h0 (hnew k hk)⟩
      have hvw : ∀ k, (Value.slice av bs.length cv).ownBlock = some k → k < w1.heap.size ∧ ¬ wB p fv k := fun k hk => ⟨Nat.lt_of_lt_of_le (hvb k hk) hb1.size, fun e => by have := hvb k hk; have := hnew k e; omega⟩
      have hld := Zlb hw1 (hr.below hb1 (zl)) hb (by omega) (by unfold gMax; omega) hvw
      rw [← hLL] at hld
      have HLD := zh hld
      have H1 := zh (zi hlw1 (zi hnew (zi hb1 hvw)))
      clear hr hb hL hvb tab h0 hLL hlw1 hvw hld hw1 hnew hb1)
   | (go_at_call 20; refine (HLD.out).mono ?_; intro e2 w2 hPL
      obtain ⟨f2, s2, i2, is, rfl, hg2, hyes, hnot⟩ := hPL.split HX.out.2.1
      have H2 := zh (zi hg2 (zi hyes hnot))
      clear hPL hg2 hyes hnot))
 obtain ⟨hlw1, hnew, hb1, hvw⟩ := H1.out
 obtain ⟨hg2, hyes, hnot⟩ := H2.out
 obtain ⟨hr, hb, hL, hvb, tab, h0, hLL⟩ := HX.out
 have hlw2 := hlw1.grow hg2
 have hlow2 : Below w.heap.size w w2 := hb1.trans (hg2.2.2.1.below (fun i hi => hnew i hi) hb1.size)
 have hv2 := Zd1 (hr.below hb1 (zl)) hg2.2.2.1 (fun k hk => (hvw k hk).2)
 have hnew2 : ∀ k, wB p f2 k → w.heap.size ≤ k := fun k hk => by
   rcases hk with e | e
   · exact hnew k (.inl e)
   · rcases hg2.2.2.2.1 k e with c | c
     · exact hnew k (.inr c)
     · exact Nat.le_trans hb1.size c
 rw [← hLL] at hv2
 have H2 := zh (zi hlw2 (zi hlow2 (zi hv2 (zi hnew2 (zi hyes hnot)))))
 have HH2 := zh hnew2
 clear hlw1 hnew hb1 hvw hg2 hyes hnot hr hb hL hvb tab h0 hLL hlw2 hlow2 hv2 hnew2 H1 HLD
 go_upto_region 6 with (first
   | (at_builtin; refine Zaf rfl _ _ 50 rfl w2.heap.size 5 i8 (.int .u8 0) 1 1 Tryz.underlying50 H8.out.1 H8.out.2.1 H8.out.2.2.1 H8.out.2.2.2 rfl (by decide) _ 0 [] rfl (World.ownsRow_lit w2 #[] 0 (zl) (by decide) rfl) _ L (byV bs) rfl (H2.out.2.2.1.below ((zb).alloc (zl) _) (zl)) (Zfn _) (by unfold maxLen; omega) (by omega) (by simp) ?_; intro v7 w7 hown7 hg7
      rw [Nat.zero_add, List.nil_append] at hown7
      obtain ⟨a7, c7, rfl⟩ := (RowV.of_own hown7).shape
      have hb7 : Below w2.heap.size w2 w7 := Zbq ((zb).alloc (zl) _) hg7 (zl)
      have H7 := zh (zi hown7 hb7)
      clear hown7 hg7 hb7))
 obtain ⟨hown7, hb7⟩ := H7.out
 obtain ⟨hlw2, hlow2, hv2, hnew2, hyes, hnot⟩ := H2.out
 obtain ⟨BB, hBB⟩ : ∃ BB : Nat → Prop, BB = fun k => wB p f2 k ∨ (Value.slice a7 L c7).ownBlock = some k := ⟨_, rfl⟩
 have hlw7 := hlw2.below hb7
 have hlow7 := hlow2.trans (hb7.mono hlow2.size)
 have hv7 := hv2.below hb7 (zl)
 have hBlt : ∀ k, BB k → k < w7.heap.size := fun k hk => by
   rw [hBB] at hk
   rcases hk with e | e
   · exact hlw7.wl.blt k e
   · exact (hown7.lt k e).2
 have hld := Zgy (B := BB) (a := a7) (c := c7) hBlt (by have h := RowV.of_own hown7; rw [HX.out.2.2.2.2.2.2] at h; exact h) HX.out.2.1 (hlw7.law w7 (zb)).1 (hlw7.law w7 (zb)).2
 rw [← HX.out.2.2.2.2.2.2] at hld
 have HLD := zh hld
 have H7 := zh (zi hlw7 (zi hlow7 (zi hv7 (zi hown7 (zi hnew2 (zi hBB (zi hyes (zi hnot hlow2.size))))))))
 clear hown7 hb7 hlw2 hlow2 hv2 hnew2 hyes hnot hBB hlw7 hlow7 hv7 hBlt hld H2
 go_upto_region 9 with (first
   | (go_at_call 21; refine (HLD.out).mono ?_; intro e8 w8 hres
      obtain ⟨er, sx, zz, gx, rfl, hn8, hb8, hy8, hn8'⟩ := hres.uni
      have hA8 := hb8.alloc hb8.size (.cells #[.int .i64 sx, .pointer gx] 28)
      have h1 := RowV.of_own (Zac H7.out.2.2.2.1 hA8)
      have h2 := H7.out.2.2.1.below hA8 (zl)
      have hLL := HX.out.2.2.2.2.2.2
      rw [hLL] at h1 h2
      have hsm := Zco h1 h2 HX.out.2.1 HX.out.2.1
      rw [decide_eq_true rfl, ← hLL] at hsm
      have HSM := zh hsm
      have HL8 := zh (zi hn8 (zi hA8 (zi hy8 (zi hn8' hb8.size))))
      clear hres hn8 hb8 hy8 hn8' hA8 h1 h2 hLL hsm)
   | (go_at_call 17; refine (HSM.out).mono ?_; rintro e9 w9 ⟨rfl, rfl⟩))
 obtain ⟨hn8, hA8, hy8, hn8', hb8s⟩ := HL8.out
 obtain ⟨hlw7, hlow7, hv7, hown7, hnew2, hBB, hyes, hnot, hs2⟩ := H7.out
 obtain ⟨wn, hwn⟩ : ∃ wn, wn = w8.alloc (.cells #[.int .i64 sx, .pointer gx] 28) := ⟨_, rfl⟩
 have hn9 := hn8.below ((Below.refl w8.heap.size w8).alloc (zl) (.cells #[.int .i64 sx, .pointer gx] 28))
 have p9 := heap_alloc_new w8 (.cells #[.int .i64 sx, .pointer gx] 28)
 rw [← hwn] at hA8 hn9 p9 ⊢
 obtain ⟨bx, hbx⟩ : ∃ bx, bx = w8.heap.size := ⟨_, rfl⟩
 rw [← hbx] at p9 ⊢
 obtain ⟨FF, hFF⟩ : ∃ FF : Nat → Prop, FF = fun k => (Value.slice a7 L c7).ownBlock = some k := ⟨_, rfl⟩
 have hlw9 := hlw7.below hA8
 have hlow9 := hlow7.trans (hA8.mono hlow7.size)
 have hv9 := hv7.below hA8 (zl)
 have hown9 := Zac hown7 hA8
 have hF9 : ∀ k, FF k → (¬ wB p f2 k ∧ Off wn f2 s2.length k) ∧ w2.heap.size ≤ k ∧ k ≠ bx ∧ BB k := fun k hk => by
   rw [hFF] at hk
   obtain ⟨c, hc⟩ := Zau hown9 k hk
   refine ⟨⟨hlw9.wl.not hc (by decide) (by decide), hlw9.wl.offK hc (by decide)⟩, (hown9.lt k hk).1, fun e => ?_, by rw [hBB]; exact .inr hk⟩
   rw [e, p9] at hc
   cases hc
 have HP := zh (zi hlw9 (zi hlow9 (zi hv9 (zi hn9 (zi p9 (zi hF9 (zi hs2 hBB)))))))
 have HY := zh (zi hyes (zi hnot (zi hy8 hn8')))
 have HO9 := zh (zi hown9 hFF)
 clear hn8 hA8 hy8 hn8' hlw7 hlow7 hv7 hown7 hnew2 hBB hyes hnot hs2 hwn hn9 p9 hbx hFF hlw9 hlow9 hv9 hown9 hF9 H7 HL8 HLD HSM hb8s
 go_upto_region 10 with fail
 go_loopw [9] (fun i wl => ∃ (k : Nat) (xs : List Value), k ≤ L ∧ i = .int .i64 (k : Int) ∧ Keeps FF wn wl ∧ wl.ownsRow w2.heap.size 5 1 (.slice a7 L c7) L xs ∧ ∀ j, j < L → ∃ n : Int, xs[j]? = some (.int .u8 n)) (fun i _ => L - (intOf i).toNat)
 case atStart =>
   refine ⟨0, byV bs, Nat.zero_le _, rfl, Keeps.refl _ _, HO9.out.1, fun j hj => ?_⟩
   have hLL := HX.out.2.2.2.2.2.2
   have hj2 : j < bs.length := by omega
   exact ⟨(bs[j] : Int), by simp [byV, hj2]⟩
 case round =>
   obtain ⟨k, xs, hkL, rfl, hkp, hown, hxs⟩ := hrel
   by_cases hk : k < L
   · have hk' : (k : Int) < (L : Int) := by omega
     obtain ⟨b, ca', ea⟩ := Go.Joins.ownsRow_form hown (by omega)
     cases ea
     obtain ⟨nx, hnx⟩ := hxs k hk
     have x0 := (hown.cellAt k (by omega)).trans hnx
     have f0 := hown.frozenAt k
     have HQ := zh (zi hkp (zi hown (zi hxs hk)))
     clear hkL hkp hown hxs hnx hk
     go_wp2
     obtain ⟨hkp, hown, hxs, hk⟩ := HQ.out
     refine ⟨⟨k + 1, xs.set k (.int .u8 (bits BinOp.xor IntKind.u8 nx 85)), by omega, by go_num, hkp.trans (Zal _ (F := FF) (by rw [HO9.out.2]; rfl)) (fun i hi => .inl hi), (hown.stored k _).1, fun j hj => ?_⟩, by simp only [intOf]; omega⟩
     by_cases e : j = k
     · subst e
       have := hown.1
       exact ⟨_, by rw [List.getElem?_set_self (by omega)]⟩
     · rw [List.getElem?_set_ne (fun e2 => e e2.symm)]
       exact hxs j hj
   · have hkn : k = L := by omega
     have hk' : ¬ (k : Int) < (L : Int) := by omega
     obtain ⟨hlw9, hlow9, hv9, hn9, p9, hF9, hs2, hBB⟩ := HP.out
     obtain ⟨t1, t2⟩ := hlw9.law wn (zb)
     have h0 := HX.out.2.2.2.2.2.1
     have htab : Tab wr := Zbd t1 (hkp.block 0 t2 (fun e => by have := (hF9 _ e).2.1; omega))
     have hlwr : LW wr p f2 s2 (60013 + 3000) := ⟨hlw9.wl.keepF hkp (fun b hb => (hF9 b hb).1), LawW.of htab (Nat.lt_of_lt_of_le t2 hkp.size) (zb), hlw9.far⟩
     have hlowr : Below w.heap.size w wr := hlow9.trans (hkp.below (fun i hi => Nat.le_trans hs2 (hF9 i hi).2.1) hlow9.size)
     have hnr := hn9.keepsC hkp (fun i hi => (hF9 i hi).2.2.2)
     have pr := (hkp.block bx (Zad p9) (fun e => (hF9 _ e).2.2.1 rfl)).trans p9
     have hvr := Zd1 hv9 hkp (fun q hq e => by have := HVB.out q hq; have := (hF9 q e).2.1; omega)
     have hnw : NumA (wB p f2) wr sx gx zz := hnr.grow (fun i hi => .inl (by rw [hBB]; exact .inl hi))
     obtain ⟨x0, x1⟩ := Zab pr
     have hC : ∀ W, Below wr.heap.size wr W → W.cell? ⟨bx, 0, none⟩ = some (.int .i64 sx) ∧ W.cell? ⟨bx, 1, none⟩ = some (.pointer gx) := fun W hW =>
       ⟨(hW.cell (p := ⟨bx, 0, none⟩) (Zad pr)).trans x0, (hW.cell (p := ⟨bx, 1, none⟩) (Zad pr)).trans x1⟩
     have HC := zh hC
     have HN := zh (Below.refl wr.heap.size wr)
     obtain ⟨hyes, hnot, hy8, hn8'⟩ := HY.out
     cases is with
     | false =>
       obtain ⟨rfl, rfl⟩ := hn8' (hnot rfl)
       have hZ0 := hlwr.law.same hnw (NumA.small (B := cold) wr i64_0)
       have HSM := zh hZ0
       have HOF := zh (hlwr.law.of_ 0)
       have HAW := zh hlwr.law.awake
       have HE := zh hlowr
       clear hkL hkp hown hxs hk hkn hlw9 hlow9 hv9 hn9 p9 hF9 hs2 hBB t1 t2 h0 htab hlwr hlowr hnr pr hvr hnw hC hyes hnot hy8 hn8' hZ0 HP HY HO9
       go_upto_region 14 with fail
       as_aux_lemma =>
         first
           | go_region_held3 (fun W => W.cell? ⟨bx, 0, none⟩ = some (.int .i64 sx) ∧ W.cell? ⟨bx, 1, none⟩ = some (.pointer gx)) (exact HC.out _ (by repeat (first | with_reducible exact HN.out | with_reducible exact zb | with_reducible refine Below.drew ?_ | with_reducible refine Zaa ?_ _)))
               (first
               | (go_at_call 8; refine (HOF.out _ (by repeat (first | with_reducible exact HN.out | with_reducible exact zb | with_reducible refine Below.drew ?_ | with_reducible refine Zaa ?_ _))).mono ?_; rintro e8 w8 ⟨rfl, hb8⟩
                  have HN := zh hb8
                  clear hb8)
               | (go_at_call 12; refine (HSM.out _ (by repeat (first | with_reducible exact HN.out | with_reducible exact zb | with_reducible refine Below.drew ?_ | with_reducible refine Zaa ?_ _))).mono ?_; rintro e8 w8 ⟨rfl, hb8⟩
                  have HN := zh hb8
                  clear hb8)
               | (go_at_call 6; refine (HAW.out _ (by repeat (first | with_reducible exact HN.out | with_reducible exact zb | with_reducible refine Below.drew ?_ | with_reducible refine Zaa ?_ _))).mono ?_; rintro e8 w8 ⟨rfl, hb8⟩
                  have HN := zh hb8
                  clear hb8))
           | fail
         all_goals
           (try go_wp2)
           refine bodyPost_ret (v := .bool true) (by simp [results, Tryz.results4, go_sem]) rfl ⟨rfl, HE.out.trans (HN.out.mono HE.out.size)⟩
     | true =>
       obtain ⟨z, hz1, hza, hzb, hzi⟩ := hyes rfl
       obtain ⟨rfl, rfl⟩ := hy8 z hz1
       have hTl := Zk8 hlwr hnw hzi
       have HTL := zh hTl
       have HE := zh (zi hlwr (zi hlowr (zi hnw (zi pr (zi hvr hzb)))))
       have HNW := zh (zi HVB.out HH2.out)
       clear hkL hkp hown hxs hk hkn hlw9 hlow9 hv9 hn9 p9 hF9 hs2 hBB t1 t2 h0 htab hlwr hlowr hnr pr hvr hnw hC hyes hnot hy8 hn8' hTl HP HY HO9 hz1 hza hzb hzi
       as_aux_lemma =>
         go_wp2_with (first
           | (go_at_call 14; refine (HTL.out).mono ?_; rintro e8 w8 ⟨rfl, f8, s8, hg8⟩
              obtain ⟨hlwr, hlowr, hnw, pr, hvr, hzb⟩ := HE.out
              have p8 := (hg8.2.2.1.block bx (Zad pr) (hlwr.wl.not pr (by decide) (by decide))).trans pr
              obtain ⟨z0, z1⟩ := Zab p8
              have hl8 := hlwr.grow hg8
              have hn8 := hnw.world hg8
              have hlow8 : Below w.heap.size w w8 := hlowr.trans (hg8.2.2.1.below (fun i hi => HNW.out.2 i hi) hlowr.size)
              have hv8 := Zd1 hvr hg8.2.2.1 (fun q hq e => by have := HNW.out.1 q hq; have := HNW.out.2 q e; omega)
              have HBY := zh (hl8.law.bytes hn8 w8 (zb))
              have HE8 := zh (zi hl8 (zi hlow8 (zi hv8 hzb)))
              clear hlwr hlowr hnw pr hvr hzb p8 hl8 hn8 hlow8 hv8 hg8)
           | (go_at_call 18; refine (HBY.out).mono ?_; rintro e9 w9 ⟨a9, c9, rfl, ho9, hb9⟩
              have h1 := RowV.of_own ho9
              have h2 := HE8.out.2.2.1.below hb9 (zl)
              have hLL := HX.out.2.2.2.2.2.2
              rw [hLL] at h2
              have hsm := Zco h1 h2 (Zbc _) HX.out.2.1
              rw [decide_eq_true HE8.out.2.2.2, ← hLL] at hsm
              have HSM := zh hsm
              have HN := zh hb9
              have HAW := zh (HE8.out.1.law.awake)
              clear ho9 hb9 h1 h2 hLL hsm)
           | (go_at_call 17; refine (HSM.out).mono ?_; rintro e10 w10 ⟨rfl, rfl⟩)
           | (go_at_call 6; refine (HAW.out _ (by repeat (first | with_reducible exact HN.out | with_reducible exact zb | with_reducible refine Below.drew ?_ | with_reducible refine Zaa ?_ _))).mono ?_; rintro e11 w11 ⟨rfl, hb11⟩
              have HN := zh hb11
              clear hb11))
         refine bodyPost_ret (v := .bool true) (by simp [results, Tryz.results4, go_sem]) rfl ⟨rfl, HE8.out.2.1.trans (HN.out.mono HE8.out.2.1.size)⟩
end
section
open Go.ChangeShapes Go.WideShapes Go.ChangeAt Go.RowKit
section
variable {H : Type} {enc : TypeId × Value → H} {W : World} {base : Nat}
theorem cellsU8 : Tryz.prog.cellsOf 5 = 1 := by kernel_rfl
theorem Zpe {n : Int} (h : (Lit.int .u8 n).wf = true) : 0 ≤ n ∧ n ≤ 255 := by
 have h1 : IntKind.u8.min = 0 := by decide
 have h2 : IntKind.u8.max = 255 := by decide
 simp only [Lit.wf, Bool.and_eq_true, decide_eq_true_eq] at h
 rw [h1, h2] at h
 exact h
theorem Znq {v : Value} {d : DataW H} {p : List MemPlace} (hval : Value.okWide Tryz.prog W .any base 50 v) (h : DataW.Trod enc Tryz.prog W 0 (fun _ => true) true 50 v d p) :
   ∃ bs : List Nat, RowV W 1 v bs.length (byV bs) ∧ ByteL bs := by
 obtain ⟨fuel, hf⟩ := h
 rcases open_ints Tryz.underlying50 Tryz.underlying5 cellsU8 hf with ⟨hc, _⟩ | ⟨a, len, cap, zs, hc, _, hl, hm, hz, _, hx, hw⟩
 · have hv : v = .slice none 0 0 := by
     cases v <;> simp_all [Value.cells, Value.okWide, Cell.okWide, Cell.ok, Tryz.underlying50]
   subst hv
   exact ⟨[], ⟨rfl, .inl ⟨rfl, rfl⟩⟩, fun o ho => by simp at ho⟩
 · have hv : v = .slice (some a) len cap := by
     clear hx
     cases v <;> simp_all [Value.cells, Value.okWide, Cell.okWide, Cell.ok, Tryz.underlying50]
   subst hv
   obtain ⟨b, off, spot⟩ := a
   have hok : Cell.ok Tryz.prog W .any base 50 (.slice (some ⟨b, off, spot⟩) len cap) := by
     have := hval
     unfold Value.okWide at this
     rw [Tryz.underlying50] at this
     unfold Cell.okWide at this
     rw [Tryz.underlying50] at this
     exact this
   unfold Cell.ok at hok
   rw [Tryz.underlying50] at hok
   obtain ⟨_, _, _, hspot, row, cells, hshape, _⟩ := hok
   simp only at hspot
   subst hspot
   have hbl : b < W.heap.size := by
     rcases Nat.lt_or_ge b W.heap.size with h | h
     · exact h
     · simp [World.shape?, Array.getElem?_eq_none h] at hshape
   have hzc : zs.length = cap := by rw [hz]; rfl
   have htl : ((zs.take len).map Int.toNat).length = len := by simp; omega
   refine ⟨(zs.take len).map Int.toNat, ⟨by simp [byV], .inr ⟨b, off, cap, by rw [htl], by omega, hm, hbl, fun j u hj => ?_⟩⟩, fun c hc => ?_⟩
   · have hjl : j < len := by
       have := (List.getElem?_eq_some_iff.1 hj).1
       rw [Zny, htl] at this
       exact this
     have hjz : j < zs.length := by omega
     have h1 := hx j hjz
     rw [Zbl] at h1
     have h2 := Zpe (hw zs[j] (List.getElem_mem hjz))
     have h3 : ((zs[j].toNat : Nat) : Int) = zs[j] := by omega
     rw [h1, ← hj]
     simp [byV, List.getD_eq_getElem?_getD, hjz, hjl, h3]
   · obtain ⟨z, hz1, rfl⟩ := List.mem_map.1 hc
     have := Zpe (hw z (List.mem_of_mem_take hz1))
     omega
end
theorem Zfv (H : Type) (enc : TypeId × Value → H) (W : World) (base : Nat) (args : Array Value) (ds gs : List (DataW H)) (before : List MemPlace)
   (hval : ∀ (j : Nat) t v, Tryz.f4.params[j]? = some t → args[j]? = some v → Value.okWide Tryz.prog W .any base t v)
   (hW : DataW.Whole enc Tryz.prog Tryz.f4.params.toList Rows.numLoadsSpec.vars false W args.toList ds gs before) (hL : laidMetH Tryz.prog Rows.numLoadsRow.laid W) :
   Calls Tryz.prog 4 args W fun e W' => ∃ v, e = .returned v ∧ Rows.numLoadsSpec.post enc Tryz.prog Tryz.f4 false true false false W args v W' := by
 have hW' := hW
 have hlt := hW.lt
 obtain ⟨p, q, hA0, hV, rfl, hfz, hnd⟩ := hW
 have hA : DataW.TrodAll enc Tryz.prog W 0 (fun _ => true) true Tryz.f4.params.toList args.toList ds p := hA0
 rw [Tryz.params4] at hA hval
 obtain ⟨v0, vs0, d0, ds0, p0, q0, hargs, rfl, rfl, h0, r0⟩ := trodAll_cons hA
 obtain ⟨rfl, rfl, rfl⟩ := trodAll_nil r0
 obtain rfl : args = #[v0] := by cases args; simp_all
 obtain ⟨rfl, rfl⟩ := trodVars_none hV
 have hv0 := hval 0 50 v0 rfl rfl
 obtain ⟨bs, hr, hb⟩ := Znq hv0 h0
 clear hA0 hval
 simp only [List.append_nil] at hW' hlt
 have tab : Tab W := Zqc hL
 refine (Zh0 hr hb tab (Zqd tab)).mono fun e W' ⟨he, hg⟩ => ?_
 subst he
 have g0 := Below.trod laidOutA (by kernel_rfl) (of_decide_eq_true (by kernel_rfl)) h0 hg (fun x hx => hlt x hx)
 exact ⟨_, rfl, Zpd hW' hg (fun _ _ _ => trodAll_cons_mk (shut_bool Tryz.underlying4 _) trodAll_mk0) (trodAll_cons_mk g0 trodAll_mk0) (fun _ => rfl)⟩
end
end Go.Proofs.YtlkmgclbckojgaaGreatDoor

