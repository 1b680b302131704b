import Derived.Test.YtlkmgclbckojgaaGreatDoorR4
set_option linter.unusedVariables false
set_option linter.unusedSimpArgs false
set_option maxHeartbeats 16000000
set_option maxRecDepth 100000
namespace Go.Proofs.YtlkmgclbckojgaaGreatDoor
open Go.RowKit
variable {B : Nat → Prop}
def FitsV (B : Nat → Prop) (w : World) : List TV → List (Bool × Int) → Prop
 | [], [] => True
 | t :: ts, p :: vs => (t.1 = p.1 ∧ NumA B w t.2.1 t.2.2 p.2) ∧ FitsV B w ts vs
 | _, _ => False
theorem FitsV.len {w : World} : ∀ {ts : List TV} {vs : List (Bool × Int)}, FitsV B w ts vs → ts.length = vs.length
 | [], [], _ => rfl
 | t :: ts, p :: vs, h => by simp only [List.length_cons]; rw [FitsV.len h.2]
 | [], p :: vs, h => h.elim
 | t :: ts, [], h => h.elim
theorem FitsV.get {w : World} : ∀ {ts : List TV} {vs : List (Bool × Int)}, FitsV B w ts vs → ∀ (i : Nat) (h1 : i < ts.length) (h2 : i < vs.length), ts[i].1 = vs[i].1 ∧ NumA B w ts[i].2.1 ts[i].2.2 vs[i].2
 | t :: ts, p :: vs, h, 0, _, _ => h.1
 | t :: ts, p :: vs, h, i + 1, h1, h2 => FitsV.get h.2 i (by simpa using h1) (by simpa using h2)
def tmOf (p : Bool × Int) : Tm := (p.1, p.2.toNat)
def sumZ (vs : List (Bool × Int)) : Int := val (vs.map tmOf)
def ResSum (B : Nat → Prop) (w : World) (vs : List (Bool × Int)) (e : Ending) (w' : World) : Prop :=
 Below w.heap.size w w' ∧ (((∃ p ∈ vs, p.2 < 0) ∧ e = .returned (.tuple #[.agg #[.int .i64 0, .pointer none], .int .i64 1])) ∨
   ((∀ p ∈ vs, 0 ≤ p.2) ∧ vs.length ≤ 1000 ∧ allowedZ (sumZ vs) ∧ ∃ (r : Int) (q : Option Addr), e = .returned (.tuple #[.agg #[.int .i64 r, .pointer q], .int .i64 0]) ∧ NumA B w' r q (sumZ vs)) ∨
   ((∀ p ∈ vs, 0 ≤ p.2) ∧ (1000 < vs.length ∨ ¬ allowedZ (sumZ vs)) ∧ e = .returned (.tuple #[.agg #[.int .i64 0, .pointer none], .int .i64 5])))
def SuR (B : Nat → Prop) (w : World) (sb rb : Nat) (base : Nat) (v : Value) (ts : List TV) (vs : List (Bool × Int)) (k : Nat) (wl : World) : Prop :=
 ∃ (Dr : Addr → Option Int) (cur : List TV), CallM B w sb (fun k => k = rb ∨ v.ownBlock = some k) (k * 2000) wl Dr ∧ wl.ownsRow base 62 3 v ts.length (flatT cur) ∧ cur.length = ts.length ∧ TVals Dr (cur.take k) ((vs.take k).map tmOf) ∧ cur.drop k = ts.drop k ∧
   wl.heap[rb]? = some (.cells #[.int .i64 0, .pointer none] 28 (0, 0))
theorem FitsV.mem {w : World} : ∀ {ts : List TV} {vs : List (Bool × Int)}, FitsV B w ts vs → ∀ p ∈ vs, ∃ s g, NumA B w s g p.2
 | [], [], _, p, hp => by simp at hp
 | t :: ts, q :: vs, h, p, hp => by
   rcases List.mem_cons.1 hp with rfl | hp
   · exact ⟨_, _, h.1.2⟩
   · exact FitsV.mem h.2 p hp
theorem SuR.next {w : World} {sb rb base : Nat} {c cap : Nat} {ts : List TV} {vs : List (Bool × Int)} {k : Nat} {wa : World} (h0 : 0 < w.heap.size) {Dr Da : Addr → Option Int} {cur : List TV} {r : Int} {q : Option Addr} {pk : Bool × Int} {mk : Bool}
   (hC : CallM B w sb (fun k => k = rb ∨ (Value.slice (some ⟨c, 0, none⟩) ts.length cap).ownBlock = some k) ((k + 1) * 2000) wa Da) (hown : wa.ownsRow base 62 3 (.slice (some ⟨c, 0, none⟩) ts.length cap) ts.length (flatT cur)) (hcl : cur.length = ts.length) (hk : k < ts.length)
   (htk : TVals Dr (cur.take k) ((vs.take k).map tmOf)) (hdk : cur.drop k = ts.drop k) (hmo2 : ∀ p u, Dr p = some u → Da p = some u)
   (hrb : wa.heap[rb]? = some (.cells #[.int .i64 0, .pointer none] 28 (0, 0))) (htk2 : vs.take (k + 1) = vs.take k ++ [pk]) (hv : ValD Da r q pk.2) (hp : 0 ≤ pk.2) (hbk : mk = pk.1)
   (x0 : (flatT cur)[k * 3]? = some (.bool mk)) :
   SuR B w sb rb base (.slice (some ⟨c, 0, none⟩) ts.length cap) ts vs (k + 1) ((wa.setCell ⟨c, k * 3 + 1, none⟩ (.int .i64 r)).setCell ⟨c, k * 3 + 1 + 1, none⟩ (.pointer q)) := by
 have n2 := Zo9 hown hrb
 have hCS := (hC.set h0 (.inr rfl) (k * 3 + 1) (.int .i64 r)).set h0 (.inr rfl) (k * 3 + 1 + 1) (.pointer q)
 have t1 := hown.stored (k * 3 + 1) (.int .i64 r)
 have t2 := t1.1.stored (k * 3 + 1 + 1) (.pointer q)
 have hs := Zcu cur k (mk, r, q)
 rw [Zfk x0] at hs
 refine ⟨Da, cur.set k (mk, r, q), hCS, by rw [← hs]; exact t2.1, by rw [List.length_set]; exact hcl, ?_, ?_, ?_⟩
 · rw [Zds (by omega), htk2, List.map_append]
   exact TVals.append (htk.mono hmo2) ⟨⟨hbk, by show ValD Da r q ((pk.2.toNat : Nat) : Int); rw [show ((pk.2.toNat : Nat) : Int) = pk.2 by omega]; exact hv⟩, trivial⟩
 · rw [List.drop_set_of_lt (by omega)]
   have := congrArg (fun l : List TV => l.drop 1) hdk
   simpa using this
 · rw [Below.heap_setCell _ _ _ _ n2, Below.heap_setCell _ _ _ _ n2]; exact hrb
theorem Zpb {w : World} {v : Value} {ts : List TV} {vs : List (Bool × Int)} (hr : RowV w 3 v ts.length (flatT ts)) (hv : FitsV B w ts vs) (hmax : ts.length ≤ 16000000) (tab : Tab w) (h0 : 0 < w.heap.size) (hB : ∀ k, B k → k < w.heap.size) :
   Calls Tryz.prog 24 #[v] w (ResSum B w vs) := by
 obtain ⟨ax, cx, rfl⟩ := hr.shape
 have hb1 : Below w.heap.size w (w.alloc (.cells #[.int .i64 0, .pointer none] 28)) := (zb).alloc (zl) _
 have a1 := heap_alloc_new w (.cells #[.int .i64 0, .pointer none] 28)
 have hl9 : (ts.length : Int) ≤ 16000000 := by omega
 have HX := zh (zi hr (zi hv (zi tab (zi hb1 (zi a1 hB)))))
 clear hr hv tab hb1 a1 hB
 go_enter Tryz.func24, Tryz.ntmps24
 go_wp2
 go_loopw [11] (fun i wl => ∃ k : Nat, k ≤ ts.length ∧ i = .int .i64 k ∧ Below (w.alloc (.cells #[.int .i64 0, .pointer none] 28)).heap.size (w.alloc (.cells #[.int .i64 0, .pointer none] 28)) wl ∧ ∀ (j : Nat) (p : Bool × Int), j < k → vs[j]? = some p → 0 ≤ p.2) (fun i _ => ts.length - (intOf i).toNat)
 case atStart => exact ⟨0, by omega, by simp, zb, fun j p h => by omega⟩
 case round =>
   obtain ⟨k, hkl, rfl, hbl, hall⟩ := hrel
   obtain ⟨hr, hv, tab, hb1, a1, hB⟩ := HX.out
   have hbw : Below w.heap.size w wr := hb1.trans (hbl.mono hb1.size)
   have hrw := hr.below hbw (zl)
   have r1 := (hbl.block _ (Zad a1)).trans a1
   by_cases hlt : k < ts.length
   · obtain ⟨b, o, rfl⟩ : ∃ bx ox, ax = some ⟨bx, ox, none⟩ := by
       rcases hr.2 with ⟨e, h0⟩ | ⟨b1, off1, cap1, e1, p1, p2, p3, p4⟩
       · simp only [Value.slice.injEq] at e; omega
       · cases e1; exact ⟨_, _, rfl⟩
     obtain ⟨q0, q1, q2⟩ := RowC.term hrw.rowC k hlt
     have hkv : k < vs.length := by rw [← hv.len]; exact hlt
     have hnk := (hv.get k hlt hkv).2
     have hgv : vs[k]? = some vs[k] := List.getElem?_eq_getElem hkv
     generalize vs[k] = pk at hnk hgv
     generalize ts[k] = tk at q0 q1 q2 hnk
     obtain ⟨mk, s1, g1⟩ := tk
     simp only at q0 q1 q2 hnk
     have hbT : Below wr.heap.size wr (wr.alloc (.cells #[.bool mk, .int .i64 s1, .pointer g1] 62)) := (zb).alloc (zl) _
     have hsg := Zcn s1 g1 pk.2 _ ((hnk.below hbw).below hbT).2.isN
     have rT := (hbT.block _ (Zad r1)).trans r1
     have HQ := zh (zi hbl (zi hall (zi hgv (zi hbT (zi hbw rT)))))
     have hlt' : (k : Int) < (ts.length : Int) := by omega
     clear hr hv tab hB hb1 a1 hbl hall hbw hrw r1 hnk hgv hbT rT hkv
     by_cases hng : 0 ≤ pk.2
     · have hsv : ¬ sgn pk.2 < 0 := by
         unfold sgn
         split
         · omega
         · split <;> omega
       generalize sgn pk.2 = sv at hsg hsv
       have HG := zh hng
       clear hng
       go_wp2_with (first
         | (go_at_call 34; refine hsg.mono ?_; rintro xs ws ⟨rfl, hbs⟩
            have HBS := zh hbs
            clear hbs))
       obtain ⟨hbl, hall, hgv, hbT, hbw, rT⟩ := HQ.out
       refine ⟨⟨k + 1, by omega, by go_num, hbl.trans ((hbT.trans (HBS.out.mono hbT.size)).mono hbl.size), fun j p hj hp => ?_⟩, by simp [intOf]; omega⟩
       by_cases hjk : j < k
       · exact hall j p hjk hp
       · rw [show j = k by omega, hgv] at hp
         cases hp; exact HG.out
     · have hsv : sgn pk.2 < 0 := by rw [Zf4 (by omega)]; omega
       generalize sgn pk.2 = sv at hsg hsv
       have HG := zh hng
       clear hng
       go_wp2_with (first
         | (go_at_call 34; refine hsg.mono ?_; rintro xs ws ⟨rfl, hbs⟩
            have rs := (hbs.block _ (Zad HQ.out.2.2.2.2.2)).trans HQ.out.2.2.2.2.2
            obtain ⟨y0, y1⟩ := Zab rs
            obtain ⟨y2, y3⟩ := Zae rs
            have HBS := zh hbs
            clear hbs rs))
       refine bodyPost_ret (v := .tuple #[.agg #[.int .i64 0, .pointer none], .int .i64 1]) (by simp [results, Tryz.results24, go_sem, *]) rfl ?_
       obtain ⟨hbl, hall, hgv, hbT, hbw, rT⟩ := HQ.out
       refine ⟨((hbw.trans ((hbT.trans (HBS.out.mono hbT.size)).mono hbw.size)).setCell (p := ⟨w.heap.size, 0, none⟩) (zl) _).setCell (p := ⟨w.heap.size, 1, none⟩) (zl) _, .inl ⟨⟨pk, List.mem_of_getElem? hgv, by have := HG.out; omega⟩, rfl⟩⟩
   · have hkn : k = ts.length := by omega
     subst hkn
     have hnn : ∀ p ∈ vs, 0 ≤ p.2 := fun p hp => by
       obtain ⟨j, hj⟩ := List.mem_iff_getElem?.1 hp
       refine hall j p ?_ hj
       rw [hv.len]
       rcases Nat.lt_or_ge j vs.length with x | x
       · exact x
       · rw [List.getElem?_eq_none x] at hj; cases hj
     have hlt' : ¬ ((ts.length : Int) < (ts.length : Int)) := by omega
     obtain ⟨y0, y1⟩ := Zab r1
     obtain ⟨y2, y3⟩ := Zae r1
     by_cases hbg : 1000 < ts.length
     · have hbg' : (1000 : Int) < (ts.length : Int) := by omega
       have HQ := zh (zi hnn (zi hv.len (zi hbw hbg)))
       clear hr hv tab hB hb1 a1 hbl hall hbw hrw r1 hnn hbg hkl
       go_wp2
       refine bodyPost_ret (v := .tuple #[.agg #[.int .i64 0, .pointer none], .int .i64 5]) (by simp [results, Tryz.results24, go_sem, *]) rfl ?_
       obtain ⟨hnn, hvl, hbw, hbg⟩ := HQ.out
       exact ⟨(hbw.setCell (p := ⟨w.heap.size, 0, none⟩) (zl) _).setCell (p := ⟨w.heap.size, 1, none⟩) (zl) _, .inr (.inr ⟨hnn, .inl (by omega), rfl⟩)⟩
     · have hbg' : ¬ ((1000 : Int) < (ts.length : Int)) := by omega
       obtain ⟨wq, hwq⟩ : ∃ wq, wq = wr := ⟨_, rfl⟩
       subst hwq
       have hbS : Below wq.heap.size wq (wq.alloc (.cells #[.map none, .map none, .map none, .map none, .map none] 87)) := (zb).alloc (zl) _
       have hC0 := CallM.start (A := fun k => k = w.heap.size) hbw tab h0 hB (by rintro k rfl; exact ⟨zl, Own.of r1 (by decide) (by decide) (by decide)⟩)
       have hcl := Zbv _ ts.length _ _ (hr.below (hbw.trans (hbS.mono hbw.size)) (zl)) (Zaw ts) (by have := Za8; omega)
       have rS := (hbS.block _ (Zad r1)).trans r1
       have HQ := zh (zi hnn (zi hv (zi hbw (zi hC0 (zi rS (by omega : ts.length ≤ 1000))))))
       clear hr hv tab hB hb1 a1 hbl hall hbw hrw r1 hnn hbg hkl hC0 rS hbS y0 y1 y2 y3 HX
       go_wp2_with (first
         | (go_at_call 65; refine hcl.mono ?_; rintro x8 w8 ⟨v8, rfl, ho8, hb8⟩
            obtain ⟨a8, c8, rfl⟩ := (RowV.of_own ho8).shape
            have H8 := zh (zi ho8 hb8)
            clear ho8 hb8))
       have hst : SuR B w wq.heap.size w.heap.size (wq.alloc (.cells #[.map none, .map none, .map none, .map none, .map none] 87)).heap.size (.slice a8 ts.length c8) ts vs 0 w8 := by
         obtain ⟨ho8, hb8⟩ := H8.out
         obtain ⟨hnn, hv, hbw, hC0, rS, hle⟩ := HQ.out
         have hC8 := hC0.vars hb8 (A' := fun k => k = w.heap.size ∨ (Value.slice a8 ts.length c8).ownBlock = some k) (by
           rintro k (x | x)
           · exact .inl x
           · obtain ⟨_, h2⟩ := ho8
             rcases h2 with ⟨e, _⟩ | ⟨g', cap, cur, ev, hg, hh, _⟩
             · rw [e] at x; simp [Value.ownBlock] at x
             · rw [ev] at x
               simp only [Value.ownBlock, Option.some.injEq] at x
               subst x
               exact .inr ⟨hg, Own.of hh (by decide) (by decide) (by decide)⟩)
         exact ⟨_, ts, hC8.more (by omega), ho8, rfl, by simp [TVals], rfl, (hb8.block _ (Zad rS)).trans rS⟩
       have hl1 : (ts.length : Int) ≤ 1000 := by have := HQ.out.2.2.2.2.2; omega
       have HST := zh hst
       clear hst hcl H8
       go_loopw [29] (fun i wl => ∃ k : Nat, k ≤ ts.length ∧ i = .int .i64 k ∧ SuR B w wq.heap.size w.heap.size (wq.alloc (.cells #[.map none, .map none, .map none, .map none, .map none] 87)).heap.size (.slice a8 ts.length c8) ts vs k wl) (fun i _ => ts.length - (intOf i).toNat)
       case atStart => exact ⟨0, by omega, by simp, HST.out⟩
       case round =>
         obtain ⟨k, hkl, rfl, hS⟩ := hrel
         clear HST
         obtain ⟨Dr, cur, hC, hown, hcl, htk, hdk, hrb⟩ := hS
         obtain ⟨hnn, hv, hbw, hC0, rS, hle⟩ := HQ.out
         by_cases hlt2 : k < ts.length
         · obtain ⟨c, rfl⟩ : ∃ b, a8 = some ⟨b, 0, none⟩ := by
             obtain ⟨_, h2⟩ := hown
             rcases h2 with ⟨e, _⟩ | ⟨g', cap, cur, ev, _⟩
             · simp only [Value.slice.injEq] at e; omega
             · cases ev; exact ⟨g', rfl⟩
           have hkv : k < vs.length := by rw [← hv.len]; exact hlt2
           have hget : cur[k]? = ts[k]? := by have := congrArg (fun l : List TV => l[0]?) hdk; simpa using this
           have hnk := (hv.get k hlt2 hkv).2
           have hbk := (hv.get k hlt2 hkv).1
           have hpk := hnn _ (List.getElem_mem hkv)
           obtain ⟨x0, x1, x2⟩ := Zbi cur k (by omega)
           have hgk : cur[k]'(by omega) = ts[k] := by
             rw [List.getElem?_eq_getElem (by omega), List.getElem?_eq_getElem hlt2] at hget
             exact Option.some.inj hget
           rw [hgk] at x0 x1 x2
           have z1 := (hown.cellAt (k * 3 + 1) (by omega)).trans x1
           have z2 := (hown.cellAt (k * 3 + 2) (by omega)).trans x2
           have htk2 : vs.take (k + 1) = vs.take k ++ [vs[k]] := List.take_succ_eq_append_getElem hkv
           generalize vs[k] = pk at hnk hbk htk2 hpk
           clear hget hgk
           generalize ts[k] = tk at z1 z2 hnk hbk x0 x1 x2
           obtain ⟨mk, s1, g1⟩ := tk
           simp only at z1 z2 hnk hbk x0 x1 x2
           have hT := hC.take hnk.2 (by have := Zcj; omega)
           have HZ := zh (zi hown (zi hcl (zi htk (zi hdk (zi hrb (zi htk2 (zi hpk (zi hbk x0))))))))
           have hlt' : (k : Int) < (ts.length : Int) := by omega
           have hk3 : k * 3 + 2 < ts.length * 3 := by omega
           clear hC hown hcl htk hdk hrb hnn hv hbw hC0 rS hle hkv hnk hbk hpk x0 x1 x2 htk2
           go_wp2_with (first
             | (go_at_call 64; refine hT.mono ?_; rintro xa wa ⟨ra, qa, Da, rfl, hva, hCa, hmoa, hoa⟩
                have howna := Zan HZ.out.1 hoa
                have f1 := howna.frozenAt (k * 3 + 1)
                have f2 := howna.frozenAt (k * 3 + 2)
                obtain ⟨_, y1, y2⟩ := Zbi cur k (by rw [HZ.out.2.1]; exact hlt2)
                have d1 := (howna.cellAt (k * 3 + 1) (by omega)).trans y1
                have d2 := (howna.cellAt (k * 3 + 2) (by omega)).trans y2
                have HA := zh (zi hva (zi hCa (zi hmoa (zi howna hoa))))
                clear hva hCa hmoa howna hoa y1 y2))
           obtain ⟨hown, hcl, htk, hdk, hrb, htk2, hpk, hbk, x0⟩ := HZ.out
           obtain ⟨hva, hCa, hmoa, howna, hoa⟩ := HA.out
           have hnx := SuR.next h0 (hCa.more (by omega)) howna hcl hlt2 htk hdk hmoa (hoa _ _ _ _ hrb (by decide) (by decide) (by decide)) htk2 hva hpk hbk x0
           exact ⟨⟨k + 1, by omega, by go_num, hnx⟩, by simp [intOf]; omega⟩
         · have hkn : k = ts.length := by omega
           subst hkn
           have hnl : vs.length = ts.length := hv.len.symm
           have hct : cur.take ts.length = cur := by rw [← hcl]; exact List.take_length
           have hvt : vs.take ts.length = vs := by rw [← hnl]; exact List.take_length
           rw [hct, hvt] at htk
           have hsm := (hC.less (A' := fun k => k = w.heap.size) (fun k hk => .inl hk)).sum (v := .slice a8 ts.length c8) (ts := cur) (by rw [hcl]; exact hown) (by have := hbw.size; simp; omega) (Zpa hown hrb) (by omega) htk (fun u hu => by
             obtain ⟨p, hp, rfl⟩ := List.mem_map.1 hu
             obtain ⟨s9, g9, hn9⟩ := hv.mem p hp
             have := hn9.wt
             have := hnn p hp
             simp only [tmOf]
             rw [show ((p.2.toNat : Nat) : Int) = p.2 by omega]
             omega) (by have := Zcj; omega)
           have hlt' : ¬ ((ts.length : Int) < (ts.length : Int)) := by omega
           have hsm2 : Calls Tryz.prog 69 #[.pointer (some ⟨wq.heap.size, 0, none⟩), .slice a8 ts.length c8] wr fun x w' => ∃ (r : Int) (q : Option Addr) (Dn : Addr → Option Int), x = .returned (.agg #[.int .i64 r, .pointer q]) ∧ ValD Dn r q (sumZ vs) ∧ CallM B w wq.heap.size (fun k => k = w.heap.size) 200000000 w' Dn ∧
               w'.heap[w.heap.size]? = some (.cells #[.int .i64 0, .pointer none] 28 (0, 0)) := by
             refine hsm.mono ?_
             rintro x w' ⟨r, q, Dn, rfl, h1, h2, h3, h4⟩
             exact ⟨r, q, Dn, rfl, h1, h2.more (by omega), h4 _ _ _ _ hrb (by decide) (by decide) (by decide)⟩
           clear hsm
           have HE := zh (zi hnn (hv.len))
           clear hC hown hcl htk hdk hrb hnn hv hbw hC0 rS hle hnl hct hvt hkl
           by_cases hall : allowedZ (sumZ vs)
           · have HALL := zh hall
             clear hall
             go_wp2_with (first
               | (go_at_call 69; refine hsm2.mono ?_; rintro x7 w9 ⟨r7, q7, D7, rfl, hv7, hC7, hrb7⟩
                  have hN := hC7.numA hv7
                  have hlim := Zeu (hN.shrink (fun i hi => hi.elim)) HALL.out
                  have HL := zh (zi hlim (zi hN (zi hrb7 hC7.all)))
                  clear hv7 hC7 hN hlim hrb7)
               | (go_at_call 67; refine HL.out.1.mono ?_; rintro x8 w10 ⟨rfl, hb8⟩
                  obtain ⟨hlim, hN, r7b, hbe7⟩ := HL.out
                  have r8 := (hb8.block _ (Zad r7b)).trans r7b
                  obtain ⟨y0, y1⟩ := Zab r8
                  obtain ⟨y2, y3⟩ := Zae r8
                  have H8 := zh (zi hb8 (zi hN hbe7))
                  clear hb8 r8 hlim hN r7b hbe7))
             refine bodyPost_ret (v := .tuple #[.agg #[.int .i64 r7, .pointer q7], .int .i64 0]) (by simp [results, Tryz.results24, go_sem, *]) rfl ?_
             obtain ⟨hb8, hN, hbe7⟩ := H8.out
             have hs7 := hbe7.size
             exact ⟨((hbe7.trans (hb8.mono hs7)).setCell (p := ⟨w.heap.size, 0, none⟩) (zl) (.int .i64 r7)).setCell (p := ⟨w.heap.size, 1, none⟩) (zl) (.pointer q7), .inr (.inl ⟨HE.out.1, by have h1 := HE.out.2; omega, HALL.out, r7, q7, rfl, hN.put hb8 _ _ HALL.out⟩)⟩
           · have HALL := zh hall
             clear hall
             go_wp2_with (first
               | (go_at_call 69; refine hsm2.mono ?_; rintro x7 w9 ⟨r7, q7, D7, rfl, hv7, hC7, hrb7⟩
                  have hN := hC7.numA hv7
                  have hlim := Zfu (hN.shrink (fun i hi => hi.elim)) HALL.out
                  have HL := zh (zi hlim (zi hN (zi hrb7 hC7.all)))
                  clear hv7 hC7 hN hlim hrb7)
               | (go_at_call 67; refine HL.out.1.mono ?_; rintro x8 w10 ⟨rfl, hb8⟩
                  obtain ⟨hlim, hN, r7b, hbe7⟩ := HL.out
                  have r8 := (hb8.block _ (Zad r7b)).trans r7b
                  obtain ⟨y0, y1⟩ := Zab r8
                  obtain ⟨y2, y3⟩ := Zae r8
                  have H8 := zh (zi hb8 (zi hN hbe7))
                  clear hb8 r8 hlim hN r7b hbe7))
             refine bodyPost_ret (v := .tuple #[.agg #[.int .i64 0, .pointer none], .int .i64 5]) (by simp [results, Tryz.results24, go_sem, *]) rfl ?_
             obtain ⟨hb8, hN, hbe7⟩ := H8.out
             have hs7 := hbe7.size
             exact ⟨((hbe7.trans (hb8.mono hs7)).setCell (p := ⟨w.heap.size, 0, none⟩) (zl) (.int .i64 0)).setCell (p := ⟨w.heap.size, 1, none⟩) (zl) (.pointer none), .inr (.inr ⟨HE.out.1, .inr HALL.out, rfl⟩)⟩
end Go.Proofs.YtlkmgclbckojgaaGreatDoor

