import Derived.Test.YtlkmgclbckojgaaGreatDoorQ4
import Derived.Test.YtlkmgclbckojgaaGreatDoorY7
import Derived.Deep.CutRange
import Derived.Deep.CutBlock
import Derived.Maps.AppendAt
import Derived.Deep.AppendLies
import Derived.Deep.RegionHeld3
import Derived.Deep.DrawnRows
set_option linter.unusedVariables false
set_option linter.unusedSimpArgs false
set_option maxHeartbeats 8000000
set_option maxRecDepth 100000
namespace Go.Proofs.YtlkmgclbckojgaaGreatDoor
section
open Go.RowKit
def byV (l : List Nat) : List Value := l.map (fun n : Nat => Value.int .u8 (n : Int))
theorem Zbb (l m : List Nat) : byV (l ++ m) = byV l ++ byV m := by simp [byV]
theorem Zny (l : List Nat) : (byV l).length = l.length := by simp [byV]
theorem Zfn (l : List Nat) : ∀ u ∈ byV l, u.oneCell' = true := by
 intro u hu
 obtain ⟨n, _, rfl⟩ := List.mem_map.1 hu
 rfl
theorem Zgq (m : Nat) : byV (twoN m) = twoB m := by
 simp only [byV, twoN, twoB, List.map_cons, List.map_nil]
 rw [Int.natCast_emod, Int.natCast_ediv, Int.natCast_emod]
 rfl
def placeF (qs : List NV) (k : Nat) : Int × Option Addr → Option Value := fun t => if t ∈ qs.take k then some (.int .i64 ((qs.idxOf t : Nat) : Int)) else none
theorem Zkz (qs : List NV) : placeF qs 0 = fun _ => none := by funext t; simp [placeF]
theorem Zk0 {qs : List NV} (hn : qs.Nodup) {k : Nat} (hk : k < qs.length) : (fun t => if t = qs[k] then some (Value.int .i64 (k : Int)) else placeF qs k t) = placeF qs (k + 1) := by
 funext t
 unfold placeF
 rw [List.take_succ_eq_append_getElem hk]
 by_cases ht : t = qs[k]
 · subst ht
   rw [if_pos rfl, if_pos (List.mem_append_right _ (List.mem_singleton.2 rfl)), hn.idxOf_getElem k hk]
 · rw [if_neg ht]
   have : (t ∈ qs.take k ++ [qs[k]]) ↔ t ∈ qs.take k := by rw [List.mem_append, List.mem_singleton]; exact ⟨fun h => h.resolve_right ht, .inl⟩
   simp only [this]
theorem Zk1 {qs : List NV} (hn : qs.Nodup) {k : Nat} (hk : k < qs.length) : placeF qs k qs[k] = none := by
 unfold placeF
 rw [if_neg]
 intro h
 obtain ⟨j, hj, e⟩ := List.getElem_of_mem h
 rw [List.length_take] at hj
 rw [List.getElem_take] at e
 have := (List.getElem_inj hn).1 e
 omega
theorem Zpq {w : World} {F : Nat → Prop} {D : Addr → Option Int} (hf : Forest w F D) {qs : List NV} (hk : ∀ p ∈ qs, knownN D p) (hn : (qs.map (rankN D)).Nodup) {s : Int} {g : Option Addr} {y : Int} (hv : ValD D s g y) {k : Nat} (hy : y ∈ (qs.map (rankN D)).take k) :
   placeF qs k (s, g) = some (.int .i64 (((qs.map (rankN D)).idxOf y : Nat) : Int)) := by
 have hm : y ∈ qs.map (rankN D) := List.mem_of_mem_take hy
 have hi := List.idxOf_lt_length_of_mem hm
 have hil : (qs.map (rankN D)).idxOf y < qs.length := by simpa using hi
 have hge : (qs.map (rankN D))[(qs.map (rankN D)).idxOf y] = y := List.getElem_idxOf hi
 have hq : qs[(qs.map (rankN D)).idxOf y] = (s, g) := by
   rw [List.getElem_map] at hge
   obtain ⟨x, hx⟩ := hk _ (List.getElem_mem hil)
   have : x = y := by rw [← hge]; exact hx.val.symm
   subst this
   obtain ⟨h1, h2⟩ := ValD.inj hf hx hv
   exact Prod.ext h1 h2
 have hnq : qs.Nodup := List.Pairwise.of_map (rankN D) (fun a b h e => h (congrArg _ e)) hn
 obtain ⟨h1, h2⟩ := Zlm (List.take_append_drop k (qs.map (rankN D))).symm hy
 have hlk : (qs.map (rankN D)).idxOf y < k := by rw [List.length_take] at h1; omega
 have hidx : qs.idxOf (s, g) = (qs.map (rankN D)).idxOf y := by
   rw [← hq]; exact hnq.idxOf_getElem _ hil
 unfold placeF
 rw [if_pos, hidx]
 rw [← hq, List.mem_iff_getElem?]
 exact ⟨(qs.map (rankN D)).idxOf y, by rw [List.getElem?_take, if_pos hlk, List.getElem?_eq_getElem hil]⟩
structure ByS (w0 : World) (mb : Nat) (qs : List NV) (k : Nat) (wr : World) (v : Value) (bs : List Nat) : Prop where
 bl : Below w0.heap.size w0 wr
 c : w0.heap.size ≤ mb
 mp : MapFn encN okN wr mb (placeF qs k) k
 own : wr.ownsRow w0.heap.size 5 1 v bs.length (byV bs)
section
variable {w0 : World} {mb : Nat} {qs : List NV} {k : Nat} {wr W : World} {v v' : Value} {bs bs' : List Nat}
theorem ByS.mlt (h : ByS w0 mb qs k wr v bs) : mb < wr.heap.size := by
 obtain ⟨es, cl, l, e, _⟩ := h.mp
 exact Zap e
theorem ByS.below (h : ByS w0 mb qs k wr v bs) (hb : Below wr.heap.size wr W) : ByS w0 mb qs k W v bs :=
 ⟨h.bl.trans (hb.mono h.bl.size), h.c, h.mp.keep (hb.block _ h.mlt) (Zcc hb), Zac h.own hb⟩
theorem ByS.grow (h : ByS w0 mb qs k wr v bs) (ho : W.ownsRow w0.heap.size 5 1 v' bs'.length (byV bs')) (hg : wr.grownBy W v.ownBlock) : ByS w0 mb qs k W v' bs' := by
 have hge := Zak h.own
 have hrow : ∀ j, v.ownBlock = some j → ∃ c, wr.heap[j]? = some (.cells c 5 (0, 0)) := by
   intro j hj
   obtain ⟨_, h2⟩ := h.own
   rcases h2 with ⟨rfl, _⟩ | ⟨g, cap, cur, rfl, _, hh, _⟩
   · simp [Value.ownBlock] at hj
   · simp only [Value.ownBlock, Option.some.injEq] at hj
     subst hj; exact ⟨cur, hh⟩
 refine ⟨⟨hg.os.trans h.bl.os, hg.tape.trans h.bl.tape, hg.output.trans h.bl.output, Nat.le_trans h.bl.size hg.size, fun j hj => ?_⟩, h.c, h.mp.keep ?_ ?_, ho⟩
 · exact (hg.block j (Nat.lt_of_lt_of_le hj h.bl.size) (fun e => by have := hge j e.symm; omega)).trans (h.bl.block j hj)
 · refine hg.block mb h.mlt (fun e => ?_)
   obtain ⟨c, hc⟩ := hrow mb e.symm
   obtain ⟨es, cl, l, e1, _⟩ := h.mp
   rw [e1] at hc; cases hc
 · intro t ht
   rcases ht with ht | ⟨b, u, e, hb⟩
   · exact .inl ht
   · refine .inr ⟨b, u, e, ?_⟩
     rw [hg.block b (Zap hb) (fun e' => by
       obtain ⟨c, hc⟩ := hrow b e'.symm
       rw [hc] at hb; cases hb)]
     exact hb
theorem ByS.put (h : ByS w0 mb qs k wr v bs) (hn : qs.Nodup) (hk : k < qs.length) {es : Array MapEntry} {cl : Nat} (hm : MapFn encN okN (mapW wr mb es cl) mb (fun t => if t = qs[k] then some (.int .i64 (k : Int)) else placeF qs k t) (if (placeF qs k qs[k]).isSome then k else k + 1)) :
   ByS w0 mb qs (k + 1) (mapW wr mb es cl) v bs := by
 rw [Zk0 hn hk, Zk1 hn hk] at hm
 have hc := h.c
 have hrow : v.ownBlock ≠ some mb := by
   intro e
   obtain ⟨_, h2⟩ := h.own
   obtain ⟨es1, cl1, l, e1, _⟩ := h.mp
   rcases h2 with ⟨rfl, _⟩ | ⟨g, cap, cur, rfl, _, hh, _⟩
   · simp [Value.ownBlock] at e
   · simp only [Value.ownBlock, Option.some.injEq] at e
     subst e
     rw [e1] at hh; cases hh
 have hkp : Keeps (fun j => j = mb) wr (mapW wr mb es cl) := ⟨rfl, rfl, rfl, by rw [Zbs]; exact zl, fun j _ hj => Zb2 hj⟩
 exact ⟨⟨h.bl.os, h.bl.tape, h.bl.output, by rw [Zbs]; exact h.bl.size, fun j hj => (Zb2 (by omega)).trans (h.bl.block j hj)⟩, hc, by simpa using hm, Zag h.own hkp (fun b hb e => hrow (by rw [hb, e]))⟩
end
end
section
open Go.RowKit
variable {B : Nat → Prop}
theorem listed {D : Addr → Option Int} {ps zs : List NV} {s : Int} {g : Option Addr} {z : Int} (hm : ps.map (rankN D) = partsZ z) (hp : zs.Perm (ps.take (ps.length - 1))) (hs : Srt (rankN D) zs) (hv : ValD D s g z) :
   (zs ++ [(s, g)]).map (rankN D) = listZ z := by
 have hd : (ps.take (ps.length - 1)).map (rankN D) = (partsZ z).dropLast := by
   rw [List.map_take, hm, List.dropLast_eq_take, ← hm, List.length_map]
 rw [List.map_append, List.map_singleton, show rankN D (s, g) = z from hv.val]
 unfold listZ
 congr 1
 refine Zjj ?_ ?_
 · rw [← hd]; exact hp.map _
 · exact List.pairwise_map.2 hs
theorem MapFn.lookup1 {P : Program} {t kt et : TypeId} {κ : Type} [DecidableEq κ] {enc : κ → Value} {ok : World → κ → Prop} (K : KeyT P kt enc ok) (ht : P.underlying t = some (.map kt et)) {z : Value} (hz : ∀ W, (zeroValue et).run P W = .ok z W)
   {w : World} {r : Nat} {f : κ → Option Value} {n : Nat} (h : MapFn enc ok w r f n) (k : κ) (hk : ok w k) :
   (Instr.lookup t (.map (some r)) (enc k) false).run P w = .ok ((f k).getD z) w := by
 obtain ⟨es, clock, l, h1, h2, h3, h4, h5⟩ := h
 have hf := K.find w k es.toList l hk h4 h2
 have hg : (getObj r).run P w = .ok (.map es clock) w := by simp [getObj, Sem.run, h1]
 unfold Instr.lookup
 rw [h5 k]
 cases hlk : look k l 0 with
 | none => simp [run_underlying ht, hg, K.check, hf, hlk, hz]
 | some p => simp [run_underlying ht, hg, K.check, hf, hlk]
def LisR (w : World) (D : Addr → Option Int) (z : Int) (p : Value) (wx : World) : Prop :=
 ∃ qs : List NV, RowV wx 2 p qs.length (flatN qs) ∧ qs.map (rankN D) = listZ z ∧ (∀ q ∈ qs, knownN D q) ∧ Below w.heap.size w wx
theorem Zmv {w w5 : World} {sb : Nat} {D : Addr → Option Int} {S : List Addr} (hS : ∀ p y, D p = some y → p ∈ S) (hL : S.length ≤ 2000) {ps : List NV} {b c : Nat} {F : Nat → Prop} {G : StG} (hm : StMem w5 sb F G) (hi : StInv w5 (hot cold F) (fun _ => none) S G) (hf : Forest w5 (hot cold F) D) (hb5 : Below w.heap.size w w5) (hF : ∀ k, F k → w.heap.size ≤ k)
   (ho : w5.ownsRow w.heap.size 28 2 (.slice (some ⟨b, 0, none⟩) ps.length c) ps.length (flatN ps)) (hk : ∀ p ∈ ps, knownN D p) (hl : ps.length ≤ 2000) {n : Nat} (hn : n ≤ ps.length) (W : World) (hW : Below w5.heap.size w5 W) :
   Calls Tryz.prog 53 #[.slice (some ⟨b, 0, none⟩) n c, .func (.func 50) #[.pointer (some ⟨sb, 0, none⟩)] #[]] W fun e w' => ∃ (a' : Option Addr) (c' : Nat) (zs : List NV),
     e = .returned (.slice a' zs.length c') ∧ w'.ownsRow w5.heap.size 28 2 (.slice a' zs.length c') zs.length (flatN zs) ∧ zs.Perm (ps.take n) ∧ Srt (rankN D) zs ∧ Below w.heap.size w w' ∧ Others W w' ∧ W.heap.size ≤ w'.heap.size := by
 have hsp : flatN ps = flatN (ps.take n) ++ flatN (ps.drop n) := by rw [← Za7, List.take_append_drop]
 have hlt : (ps.take n).length = n := by rw [List.length_take]; omega
 have hr : RowF w5 (hot cold F) 2 (.slice (some ⟨b, 0, none⟩) ps.length c) ps.length (flatN (ps.take n) ++ flatN (ps.drop n)) := by
   rw [← hsp]
   exact ⟨RowV.of_own ho, fun k hk1 hh => by
     rcases hh with x | x
     · exact x
     · exact hm.own ho (by decide) (by decide) k hk1 x⟩
 have hr2 := hr.takeR (m := n) (by rw [Zho, hlt]) hn
 have sW := Step.of_below F hW
 have := Zh2 (H := cold) (D := fun _ => none) (K := S) (by have := Zcj; omega) (Dx := D) (n + 1) W F G (hm.below hW) (hi.step (sW.hot cold)) (fun k hk => hk.elim) (hf.step (sW.hot cold)) hS (ps.take n) _ (by rw [hlt]; exact hr2.step (sW.hot cold)) (fun t ht => hk t (List.mem_of_mem_take ht)) (by omega) (by omega)
 refine this.mono ?_
 rintro e w' ⟨v', zs, F', G', rfl, o1, p1, s1, m1, i1, st1, gg1⟩
 obtain ⟨a', c', rfl⟩ := (RowV.of_own o1).shape
 have hbW := hb5.trans (hW.mono hb5.size)
 exact ⟨a', c', zs, rfl, Zah o1 hW.size, p1, s1, hbW.trans (st1.keeps.below (fun i hi => hF i hi) hbW.size), fun x c t fr hx h1 h3 h4 => Own.kept (hm.below hW) st1.keeps hx h1 h3 h4, st1.keeps.size⟩
theorem Zju {w : World} {base n size : Nat} {e : TypeId} {v : Value} {xs : List Value} (h : w.ownsRow base e size v n xs) : ∀ k, v.ownBlock = some k → ∃ c, w.heap[k]? = some (.cells c e (0, 0)) := by
 intro k hk
 obtain ⟨_, h2⟩ := h
 rcases h2 with ⟨rfl, _⟩ | ⟨g, cap, cur, rfl, _, hh, _⟩
 · simp [Value.ownBlock] at hk
 · simp only [Value.ownBlock, Option.some.injEq] at hk
   subst hk; exact ⟨cur, hh⟩
theorem RowF.beside {w w' : World} {v v' vt : Value} {mb size n : Nat} {xs : List Value} (h : RowF w (fun j => v.ownBlock = some j ∨ j = mb) size vt n xs) (hg : w.grownBy w' v.ownBlock) (hat : ∀ k, v'.ownBlock = some k → v.ownBlock = some k ∨ w.heap.size ≤ k) : RowF w' (fun j => v'.ownBlock = some j ∨ j = mb) size vt n xs := by
 have h2 := h.keeps (w' := w') ⟨hg.os, hg.tape, hg.output, hg.size, fun i a b => hg.block i a (fun e => b (.inl e.symm))⟩
 refine ⟨h2.1, fun j hj hh => ?_⟩
 rcases hh with x | x
 · rcases hat j x with e | e
   · exact h.2 j hj (.inl e)
   · have := h.1.lt j hj; omega
 · exact h.2 j hj (.inr x)
theorem Zcx {base : Nat} (v : Value) (n : Nat) (xs : List Value) (m : Nat) (w : World) (h : w.ownsRow base 5 1 v n xs) (hn : n ≤ 16000000) (hb : base ≤ w.heap.size) :
   Calls Tryz.prog 54 #[v, .int .i64 m] w fun e w' => ∃ v', e = .returned v' ∧ w'.ownsRow base 5 1 v' (n + 2) (xs ++ twoB m) ∧ w.grownBy w' v.ownBlock ∧ ∀ k, v'.ownBlock = some k → v.ownBlock = some k ∨ w.heap.size ≤ k := by
 obtain ⟨i0, hi, hz0, hz1, hz2⟩ := info_parts infoe8
 obtain ⟨a, cp, rfl⟩ := (RowV.of_own h).shape
 have HN := zh (zi hn hb)
 have hA : n + 2 ≤ maxLen := by unfold maxLen; omega
 have hB : (n + 2) * 1 ≤ 140737488355328 := by omega
 have hC : base ≤ (w.alloc (.cells #[.int .u8 ((m : Int) / 256 % 256), .int .u8 ((m : Int) % 256)] 5)).heap.size := by simp; omega
 have HH := zh (zi hi (zi hz0 (zi hz1 (zi hz2 (zi hA (zi hB hC))))))
 clear hn hb hi hz0 hz1 hz2 hA hB hC
 go_enter Tryz.func54, Tryz.ntmps54
 go_wp2_with (first
   | (at_builtin; refine wpList_append_own_at _ rfl _ _ 50 rfl base 5 i0 (.int .u8 0) 1 1 Tryz.underlying50 HH.out.1 HH.out.2.1 HH.out.2.2.1 HH.out.2.2.2.1 rfl (by decide) _ _ _ rfl (h.alloc _) ⟨w.heap.size, 0, none⟩ 2 2 (twoB m) rfl rfl (Zaj w _ _ _) (by simp [twoB, Value.oneCell']) HH.out.2.2.2.2.1 HH.out.2.2.2.2.2.1 HH.out.2.2.2.2.2.2 ?_; intro v2 w2 hown hg _ hat))
 go_ret
 refine ⟨v2, rfl, hown, Zbh (Zl0 _ _ _) hg, fun k hk => ?_⟩
 rcases hat with e | e
 · rw [e] at hk; exact .inl hk
 · rw [e] at hk; cases hk; exact .inr (by simp)
end
section
open Go.RowKit
variable {B : Nat → Prop}
attribute [local go_sem ↓] Go.wp_at_zero Go.wp_at_succ
theorem Zcr {w : World} {s z : Int} {g : Option Addr} (ha : allowedZ z) (hx : Num w B 2000 s g z) (tab : Tab w) (h0 : 0 < w.heap.size) :
   Calls Tryz.prog 18 #[.agg #[.int .i64 s, .pointer g]] w fun x w' => ∃ (a : Option Addr) (c : Nat), x = .returned (.slice a (bytesZ z).length c) ∧ w'.ownsRow w.heap.size 5 1 (.slice a (bytesZ z).length c) (bytesZ z).length (byV (bytesZ z)) ∧ Below w.heap.size w w' := by
 have hmf : ∀ (fn : Fn) (first cap : Array Value) (w : World), (Instr.makeFunc fn first cap).run Tryz.prog w = .ok (.func fn first cap) w := fun _ _ _ _ => rfl
 have hmk := @run_makeMap Tryz.prog
 obtain ⟨D, S, hf, hS, hL, hv⟩ := hx
 have hf := hf.shrink (F' := cold) (fun i hi => hi.elim)
 have hb1 : Below w.heap.size w (w.alloc (.cells #[.int .i64 s, .pointer g] 28)) := (zb).alloc (zl) _
 obtain ⟨m, hb2, hF⟩ := Zfm (c := #[.map none, .map none, .map none, .map none, .map none]) hb1 rfl tab h0
 have hz1 : (w.alloc (.cells #[.int .i64 s, .pointer g] 28)).heap.size = w.heap.size + 1 := by simp
 obtain ⟨a0, a1⟩ := Za0 w (.cells #[.int .i64 s, .pointer g] 28) (.cells #[.map none, .map none, .map none, .map none, .map none] 87)
 have hp := Zdq (Zbg hf hb2) hS (by omega) hv
 generalize hw2 : (w.alloc (.cells #[.int .i64 s, .pointer g] 28)).alloc (.cells #[.map none, .map none, .map none, .map none, .map none] 87) = w2 at *
 rw [hz1] at m hF
 obtain ⟨e0, e1⟩ := Zab a0
 have HX := zh (zi ha (zi hf (zi hS (zi hL (zi hv (zi m (zi hb2 (zi hF a0))))))))
 clear ha hf hS hL hv m hb2 hF a0 a1 hb1 tab
 subst hw2
 go_enter Tryz.func18, Tryz.ntmps18
 go_upto_region 4 with (first
   | (go_at_call 52; refine hp.mono ?_; rintro x5 w5 ⟨v5, ps, rfl, ho5, hk5, hm5, hb5⟩
      obtain ⟨a5, c5, rfl⟩ := (RowV.of_own ho5).shape
      have H5 := zh (zi ho5 (zi hk5 (zi hm5 hb5)))
      clear ho5 hk5 hm5 hb5))
 clear hp hf hz1 e0 e1
 obtain ⟨ha, hf, hS, hL, hv, m, hb2, hF, a0⟩ := HX.out
 obtain ⟨ho5, hk5, hm5, hb5⟩ := H5.out
 have hs2 := hb2.size
 have hb05 : Below w.heap.size w w5 := hb2.trans (hb5.mono hs2)
 have hlen : ps.length = weightZ z := by rw [← List.length_map (f := rankN D), hm5]; rfl
 have hl1 := Zb7 z
 have hl2 := ha.1
 obtain ⟨n, hn⟩ : ∃ n, ps.length = n + 1 := ⟨ps.length - 1, by omega⟩
 obtain ⟨b5, rfl⟩ : ∃ b, a5 = some ⟨b, 0, none⟩ := by
   obtain ⟨_, h2⟩ := ho5
   rcases h2 with ⟨e, _⟩ | ⟨g', cap, cur, ev, _⟩
   · simp only [Value.slice.injEq] at e; omega
   · cases ev; exact ⟨g', rfl⟩
 have hcap : ps.length ≤ c5 ∧ c5 ≤ maxLen := by
   rcases (RowV.of_own ho5).2 with ⟨e, h0⟩ | ⟨b1, off1, cap1, e1, p1, p2, p3, p4⟩
   · cases e
   · cases e1; exact ⟨p1, p2⟩
 have hf5 : Forest w5 (hot cold (fun k => k = w.heap.size + 1)) D := (hf.grow (W := w) (zl) (fun i hi => by
   rcases hi with x | x
   · exact .inl x
   · exact .inr (by omega))).keeps ⟨hb05.os, hb05.tape, hb05.output, hb05.size, fun k hk _ => hb05.block k hk⟩
 have hO := fun W hW => Zmv (w := w) (w5 := w5) (sb := w.heap.size + 1) (n := n) hS hL (m.below hb5) (StInv.empty _ _ S _ _) hf5 hb05 (fun k hk => by rw [hk]; omega) (Zah ho5 hs2) hk5 (by omega) (by omega) W hW
 have x5 : w5.heap[w.heap.size]? = some (.cells #[.int .i64 s, .pointer g] 28 (0, 0)) := (hb5.block _ (Zap a0)).trans a0
 have hO2 : ∀ W, Below w5.heap.size w5 W → Calls Tryz.prog 53 #[.slice (some ⟨b5, 0, none⟩) n c5, .func (.func 50) #[.pointer (some ⟨w.heap.size + 1, 0, none⟩)] #[]] W fun e w' => ∃ (a' : Option Addr) (c' : Nat) (zs : List NV),
     e = .returned (.slice a' zs.length c') ∧ w'.ownsRow w5.heap.size 28 2 (.slice a' zs.length c') zs.length (flatN zs) ∧ zs.Perm (ps.take n) ∧ Srt (rankN D) zs ∧ Below w.heap.size w w' ∧ w'.heap[w.heap.size]? = some (.cells #[.int .i64 s, .pointer g] 28 (0, 0)) ∧ Others W w' ∧ w5.heap.size ≤ w'.heap.size := by
   intro W hW
   refine (hO W hW).mono ?_
   rintro e w' ⟨a', c', zs, rfl, h1, h2, h3, h4, h5, h6⟩
   exact ⟨a', c', zs, rfl, h1, h2, h3, h4, h5 _ _ _ _ ((hW.block _ (Zap x5)).trans x5) (by decide) (by decide) (by decide), h5, Nat.le_trans hW.size h6⟩
 clear hO
 obtain ⟨e0, e1⟩ := Zab x5
 obtain ⟨i0, hi0, hz0, hz1, hz2⟩ := info_parts infoeN
 have HI := zh (zi hi0 (zi hz0 (zi hz1 hz2)))
 have HQ := zh (zi hb05 (zi hm5 (zi x5 (zi hv (zi hk5 hlen)))))
 have hl5 := Zap x5
 have q1 : (ps.length : Int) - 1 = (n : Int) := by omega
 have q2 : (0 : Int) ≤ (n : Int) := by omega
 have q3 : (n : Int) ≤ (c5 : Int) := by omega
 have q4 : (n : Int) ≤ (ps.length : Int) := by omega
 have q5 : n ≤ 2000 := by omega
 clear ha hf hS hL hv m hb2 hF a0 ho5 hk5 hm5 hb5 hb05 hlen hl1 hl2 hcap hf5 x5 hi0 hz0 hz1 hz2 H5
 have hw : wrap64 ((ps.length : Int) - 1) = (n : Int) := by rw [q1]; exact Za4 (by unfold Go.Proofs.YtlkmgclbckojgaaGreatDoor.i64; omega)
 rw [hw]
 clear hw
 go_cut [4] from 15 to 70 (fun p wx => LisR w D z p wx)
 case first =>
   first
     | go_region_held3 (fun w' => w'.cell? ⟨w.heap.size, 0, none⟩ = some (.int .i64 s) ∧ w'.cell? ⟨w.heap.size, 1, none⟩ = some (.pointer g)) (first | (go_keep; done) | exact ⟨y0, y1⟩)
       (first
       | (go_at_call 53; refine (hO2 _ (by repeat (first | exact zb | refine Below.drew ?_ | refine Below.alloc ?_ (by simp) _))).mono ?_; rintro e6 w6 ⟨a6, c6, zs, rfl, o6, p6, s6, hb6, x6, ot6, hz6⟩
          obtain ⟨y0, y1⟩ := Zab x6
          obtain ⟨hb05, hm5, x5, hv, hk5, hlen⟩ := HQ.out
          have hlz : zs.length ≤ 2000 := by have := p6.length_eq; rw [List.length_take] at this; omega
          have hzb := hz6
          have H6 := zh (zi o6 (zi p6 (zi s6 hb6)))
          have HX6 := zh x6
          have hlt6 := Zap x6
          (first | have HB6 := zh (ot6 w5.heap.size _ _ _ (heap_alloc_new w5 _) (by decide) (by decide) (by decide)) | skip)
          clear o6 p6 s6 hb6 ot6 x6 hb05 hm5 x5 hv hk5 hlen)
       | ((refine step_append_lies _ (by rfl) _ _ _ (by rfl) w5.heap.size 28 i0 zN 2 16 Tryz.underlying30 HI.out.1 HI.out.2.1 HI.out.2.2.1 HI.out.2.2.2 (by rfl) (by decide) _ _ _ (by rfl) (H6.out.1.alloc _) ⟨w6.heap.size, 0, none⟩ 1 1 (cellsN (s, g)) (by rfl) (by rfl) (Zaj w6 _ _ _) (by simp [cellsN, Value.oneCell']) (by decide) (by unfold maxLen; omega) (by omega) (by first | omega | (simp; omega)) _ rfl ?_; intro gq cq w7 hown7 hg7 hat7 hlt7
           have x7 := (hg7.block w.heap.size (by first | omega | (simp; omega)) (fun e => by have := (H6.out.1.lt w.heap.size e.symm).1; omega)).trans ((Below.heap_alloc w6 _ _ hlt6).trans HX6.out)
           obtain ⟨y0, y1⟩ := Zab x7
           have H7 := zh (zi hown7 hg7)
           clear hown7 hg7 hat7 x7))
       | ((refine step_append_lies _ (by rfl) _ _ _ (by rfl) w5.heap.size 28 i0 zN 2 16 Tryz.underlying30 HI.out.1 HI.out.2.1 HI.out.2.2.1 HI.out.2.2.2 (by rfl) (by decide) _ _ _ (by rfl) H6.out.1 ⟨w5.heap.size, 0, none⟩ 1 1 (cellsN (s, g)) (by rfl) (by rfl) (World.news_of_block HB6.out) (by simp [cellsN, Value.oneCell']) (by decide) (by unfold maxLen; omega) (by omega) (by first | omega | (simp; omega)) _ rfl ?_; intro gq cq w7 hown7 hg7 hat7 hlt7
           have x7 := (hg7.block w.heap.size (by first | omega | (simp; omega)) (fun e => by have := (H6.out.1.lt w.heap.size e.symm).1; omega)).trans HX6.out
           obtain ⟨y0, y1⟩ := Zab x7
           have H7 := zh (zi hown7 hg7)
           clear hown7 hg7 hat7 x7)))
     | fail
   all_goals
     (try go_wp2)
     go_meet
     obtain ⟨hb05, hm5, x5, hv, hk5, hlen⟩ := HQ.out
     obtain ⟨o6, p6, s6, hb6⟩ := H6.out
     obtain ⟨hown7, hg7⟩ := H7.out
     have hrow6 := o6.lt
     have hs5 := hb05.size
     have hb67 : Below w.heap.size w6 w7 := ⟨hg7.os, hg7.tape, hg7.output, Nat.le_trans (by first | exact zl | (simp)) hg7.size, fun i hi => (hg7.block i (by first | omega | (simp; omega)) (fun e => by have := (hrow6 i e.symm).1; omega)).trans (by first | rfl | exact Below.heap_alloc w6 _ _ (by omega))⟩
     refine ⟨zs ++ [(s, g)], ?_, listed hm5 (by rw [hn]; exact p6) s6 hv, fun q hq => ?_, hb6.trans hb67⟩
     · rw [List.length_append, List.length_singleton, Za7]
       exact RowV.of_own hown7
     · rcases List.mem_append.1 hq with y | y
       · exact hk5 q (List.mem_of_mem_take (p6.mem_iff.1 y))
       · rw [List.mem_singleton.1 y]; exact ⟨z, hv⟩
 case rest =>
   obtain ⟨qs, hr, hrk, hkn, hbw⟩ := hcut
   obtain ⟨a9, c9, rfl⟩ := hr.shape
   obtain ⟨ha, hf, hS, hL, hv, m, hb2, hF, a0⟩ := HX.out
   have hfc := Zbg hf hbw
   have hnd : (qs.map (rankN D)).Nodup := by rw [hrk]; exact Zhd z
   have hnq : qs.Nodup := List.Pairwise.of_map (rankN D) (fun a b h e => h (congrArg _ e)) hnd
   have hlq : qs.length = weightZ z := by rw [← Zce, ← hrk, List.length_map]
   have hl2 := ha.1
   have hl9 : (qs.length : Int) ≤ 2000 := by omega
   have hap := Zcx (base := wc.heap.size) (.slice none 0 0) 0 [] qs.length wc (World.ownsRow_nil _ _ _ _) (by omega) (zl)
   have HX2 := zh (zi hr (zi hrk (zi hkn (zi hbw (zi hfc (zi hnd (zi hnq (zi hlq ha))))))))
   clear hr hrk hkn hbw hfc hnd hnq hlq ha hf hS hL hv m hb2 hF a0 hl2 HX HQ HI hO2 e0 e1 q1 q2 q3 q4 q5
   go_wp2_with (first
     | (go_at_call 54; refine hap.mono ?_; rintro e1 w1 ⟨v1, rfl, ho1, hg1, _⟩
        obtain ⟨a1, c1, rfl⟩ := (RowV.of_own ho1).shape
        have H1 := zh (zi ho1 hg1)
        clear ho1 hg1))
   have hst : ByS wc w1.heap.size qs 0 (w1.alloc (.map #[] 0)) (.slice a1 2 c1) (twoN qs.length) := by
     obtain ⟨ho1, hg1⟩ := H1.out
     have hb1 : Below wc.heap.size wc w1 := ⟨hg1.os, hg1.tape, hg1.output, hg1.size, fun i hi => hg1.block i hi (fun e => by simp [Value.ownBlock] at e)⟩
     refine ⟨hb1.alloc hb1.size _, hb1.size, ?_, ?_⟩
     · rw [Zkz]; exact MapFn.empty encN okN (heap_alloc_new w1 _)
     · rw [Zgq]; exact ho1.alloc _
   have HST := zh hst
   clear hst H1 hap
   go_loopw [37, 7] (fun i o wl => ∃ (k : Nat) (bs : List Nat) (a : Option Addr) (c : Nat), k ≤ qs.length ∧ i = .int .i64 k ∧ o = .slice a bs.length c ∧ ByS wc w1.heap.size qs k wl (.slice a bs.length c) bs ∧ bs = twoN qs.length ++ ((listZ z).take k).flatMap (partBy (listZ z)) ∧ bs.length ≤ 2 + 902 * k) (fun i _ _ => qs.length - (intOf i).toNat)
   case atStart => exact ⟨0, twoN qs.length, a1, c1, by omega, by simp, rfl, HST.out, by simp, by simp [twoN]⟩
   case round =>
     obtain ⟨k, bs, a, c, hkl, rfl, rfl, hB, hbs, hbl⟩ := hrel
     obtain ⟨hr, hrk, hkn, hbw, hfc, hnd, hnq, hlq, ha⟩ := HX2.out
     by_cases hlt : k < qs.length
     · obtain ⟨b9, o9, rfl⟩ : ∃ bx ox, a9 = some ⟨bx, ox, none⟩ := by
         rcases hr.2 with ⟨e, h0⟩ | ⟨b1, off1, cap1, e1, p1, p2, p3, p4⟩
         · omega
         · cases e1; exact ⟨_, _, rfl⟩
       obtain ⟨q0, q1⟩ := RowC.num (hr.below hB.bl (zl)).rowC k hlt
       obtain ⟨y, hy⟩ := hkn qs[k] (List.getElem_mem hlt)
       have hyk : (listZ z)[k]? = some y := by rw [← hrk, List.getElem?_map, List.getElem?_eq_getElem hlt]; simp [rankN, hy.val]
       have hwy := ha.2.2 y (Zb0.1 (List.mem_of_getElem? hyk))
       have hexp := Zdn z k y hyk
       have hbT : Below wr.heap.size wr (wr.alloc (.cells #[.int .i64 qs[k].1, .pointer qs[k].2] 28)) := (zb).alloc (zl) _
       have hBT := hB.below hbT
       have hmr : ∃ es c, (wr.alloc (.cells #[.int .i64 qs[k].1, .pointer qs[k].2] 28)).heap[w1.heap.size]? = some (.map es c) := by obtain ⟨es, cl, l, e, _⟩ := hBT.mp; exact ⟨es, cl, e⟩
       obtain ⟨es, cl, hst, hmf⟩ := MapFn.store keyN Tryz.underlying94 hBT.mp qs[k] (hy.ptr (Zbg hfc hBT.bl)) (.int .i64 (k : Int)) (fun o k' hk => Zje hmr hk)
       have hBM := hBT.put hnq hlt hmf
       unfold encN at hst
       have hmb := hB.mlt
       have hpc := heap_alloc_new wr (.cells #[.int .i64 qs[k].1, .pointer qs[k].2] 28)
       have hst' : (Instr.mapUpdate 94 (.map (some w1.heap.size)) (.agg #[.int .i64 qs[k].1, .pointer qs[k].2]) (.int .i64 (k : Int))).run Tryz.prog (wr.alloc (.cells #[.int .i64 qs[k].1, .pointer qs[k].2] 28)) = .ok () (mapW (wr.alloc (.cells #[.int .i64 qs[k].1, .pointer qs[k].2] 28)) w1.heap.size es cl) := hst
       clear hst hmf hmr hBT hbT
       generalize qs[k] = pk at q0 q1 hy hpc hst' hBM
       obtain ⟨s1, g1⟩ := pk
       simp only at q0 q1 hy hpc hst' hBM
       obtain ⟨m0, m1⟩ := Zab ((Zb2 (es := es) (cl := cl) (show wr.heap.size ≠ w1.heap.size by omega)).trans hpc)
       generalize hwM : mapW (wr.alloc (.cells #[.int .i64 s1, .pointer g1] 28)) w1.heap.size es cl = wM at *
       have hge := Zak hBM.own
       have hlt9 := hBM.own.lt
       have hfF : Forest wM (fun j => (Value.slice a bs.length c).ownBlock = some j ∨ j = w1.heap.size) D := (hfc.grow (W := wc) (zl) (fun i hi => by
         rcases hi with x | x
         · exact .inr (hge i x)
         · rw [x]; exact .inr hBM.c)).keeps ⟨hBM.bl.os, hBM.bl.tape, hBM.bl.output, hBM.bl.size, fun i hi _ => hBM.bl.block i hi⟩
       have ht := Zbt s1 g1 y wM hfF hy (fun i hi => by
         rcases hi with x | x
         · exact (hlt9 i x).2
         · rw [x]; exact hBM.mlt)
       have hlt' : (k : Int) < (qs.length : Int) := by omega
       have HQ := zh (zi hBM (zi hbs (zi hbl (zi hyk (zi hwy hexp)))))
       clear hr hrk hkn hbw hfc hnd hnq hlq ha hB hbs hbl hyk hwy hexp hBM hpc hge hlt9 hfF hmb hy
       go_wp2_with (first
         | (go_at_call 55; refine ht.mono ?_; rintro e2 w2 ⟨vt, ts, rfl, hrt, htv, hb2⟩
            obtain ⟨at', ct, rfl⟩ := hrt.1.shape
            obtain ⟨hBM, hbs, hbl, hyk, hwy, hexp⟩ := HQ.out
            have hBM2 := hBM.below hb2
            have hlq9 := hl9
            have ha2 := Zcx (base := wc.heap.size) (.slice a bs.length c) bs.length (byV bs) ts.length w2 hBM2.own (by omega) hBM2.bl.size
            have hl3 : (ts.length : Int) ≤ 300 := by have := htv.len; unfold wt at hwy; omega
            have H2 := zh (zi hrt (zi htv (zi hBM2 ha2)))
            clear hrt htv hb2 hBM hbs hbl hyk hwy hexp hBM2 ha2 ht)
         | (go_at_call 54; refine H2.out.2.2.2.mono ?_; rintro e3 w3 ⟨v3, rfl, ho3, hg3, hat3⟩
            obtain ⟨a3, c3, rfl⟩ := (RowV.of_own ho3).shape
            have H3 := zh (zi ho3 (zi hg3 hat3))
            clear ho3 hg3 hat3))
       have hst2 : ByS wc w1.heap.size qs (k + 1) w3 (.slice a3 (bs ++ twoN ts.length).length c3) (bs ++ twoN ts.length) ∧ RowF w3 (fun j => (Value.slice a3 (bs ++ twoN ts.length).length c3).ownBlock = some j ∨ j = w1.heap.size) 3 (.slice at' ts.length ct) ts.length (flatT ts) := by
         obtain ⟨hrt, htv, hBM2, ha2⟩ := H2.out
         obtain ⟨ho3, hg3, hat3⟩ := H3.out
         have hlen : (bs ++ twoN ts.length).length = bs.length + 2 := by rw [List.length_append]; rfl
         rw [hlen]
         refine ⟨hBM2.grow (v' := .slice a3 (bs.length + 2) c3) (by rw [hlen, Zbb, Zgq]; exact ho3) hg3, ?_⟩
         have hrt3 := hrt.keeps (w' := w3) ⟨hg3.os, hg3.tape, hg3.output, hg3.size, fun i a b => hg3.block i a (fun e => b (.inl e.symm))⟩
         refine ⟨hrt3.1, fun j hj hh => ?_⟩
         rcases hh with x | x
         · rcases hat3 j x with e | e
           · exact hrt.2 j hj (.inl e)
           · have := hrt.1.lt j hj; omega
         · exact hrt.2 j hj (.inr x)
       have HS2 := zh hst2
       have htv := H2.out.2.1
       have HTV := zh htv
       clear hst2 htv H3
       go_loopw [53, 7] (fun i o wl => ∃ (j : Nat) (bs' : List Nat) (a : Option Addr) (c : Nat), j ≤ ts.length ∧ i = .int .i64 j ∧ o = .slice a bs'.length c ∧ ByS wc w1.heap.size qs (k + 1) wl (.slice a bs'.length c) bs' ∧ bs' = bs ++ twoN ts.length ++ termsBy (listZ z) ((naf y).take j) ∧ bs'.length ≤ 4 + 902 * k + 3 * j ∧ RowF wl (fun j => (Value.slice a bs'.length c).ownBlock = some j ∨ j = w1.heap.size) 3 (.slice at' ts.length ct) ts.length (flatT ts)) (fun i _ _ => ts.length - (intOf i).toNat)
       case atStart =>
         refine ⟨0, bs ++ twoN ts.length, a3, c3, by omega, by simp, by rw [List.length_append]; rfl, HS2.out.1, by simp [termsBy], ?_, HS2.out.2⟩
         have h1 := HQ.out.2.2.1
         rw [List.length_append, show (twoN ts.length).length = 2 from rfl]
         omega
       case round =>
         obtain ⟨j, bs', a, c, hjl, rfl, rfl, hB, hbs', hbl', hrt⟩ := hrel
         clear HS2 H2
         have htv := HTV.out
         by_cases hlt2 : j < ts.length
         · obtain ⟨bt, ot, rfl⟩ : ∃ bx ox, at' = some ⟨bx, ox, none⟩ := by
             rcases hrt.1.2 with ⟨e, h0⟩ | ⟨b1, off1, cap1, e1, p1, p2, p3, p4⟩
             · omega
             · cases e1; exact ⟨_, _, rfl⟩
           obtain ⟨x0, x1, x2⟩ := RowC.term hrt.1.rowC j hlt2
           have hjz : j < (naf y).length := by rw [← htv.len]; exact hlt2
           obtain ⟨hgm, hgv⟩ := htv.get j hlt2 hjz
           obtain ⟨hBM, hbs, hbl, hyk, hwy, hexp⟩ := HQ.out
           obtain ⟨hr, hrk, hkn, hbw, hfc, hnd, hnq, hlq, ha⟩ := HX2.out
           have hin := hexp _ (List.getElem_mem hjz)
           have htk2 : (naf y).take (j + 1) = (naf y).take j ++ [(naf y)[j]] := List.take_succ_eq_append_getElem hjz
           have hpl := Zpq hfc hkn hnd hgv (k := k + 1) (by rw [hrk]; exact List.mem_of_mem_take (i := k) (by rw [List.take_take, Nat.min_eq_left (Nat.le_succ k)]; exact hin))
           rw [hrk] at hpl
           have hpt := hgv.ptr hfc
           generalize (naf y)[j] = uj at hgm hgv hin htk2 hpl
           generalize ts[j] = tj at x0 x1 x2 hgm hgv hpl hpt
           obtain ⟨mj, sj, gj⟩ := tj
           simp only at x0 x1 x2 hgm hgv hpl hpt
           generalize hix : (listZ z).idxOf (uj.2 : Int) = ix at hpl
           have hbA : Below wr.heap.size wr (wr.alloc (.cells #[.bool mj, .int .i64 sj, .pointer gj] 62)) := (zb).alloc (zl) _
           have hta := heap_alloc_new wr (.cells #[.bool mj, .int .i64 sj, .pointer gj] 62)
           have hBA := hB.below hbA
           have hSS : ∀ W v bs'', ByS wc w1.heap.size qs (k + 1) W v bs'' → W.heap[wr.heap.size]? = some (.cells #[.bool mj, .int .i64 sj, .pointer gj] 62 (0, 0)) → W.cell? ⟨wr.heap.size, 1, none⟩ = some (.int .i64 sj) ∧ W.cell? ⟨wr.heap.size, 2, none⟩ = some (.pointer gj) ∧ (Instr.lookup 94 (.map (some w1.heap.size)) (.agg #[.int .i64 sj, .pointer gj]) false).run Tryz.prog W = .ok (.int .i64 (ix : Int)) W := by
             intro W v bs'' hBW hW
             have h1 := hBW.mp.lookup1 keyN Tryz.underlying94 (z := .int .i64 0) (fun W => by kernel_rfl) (sj, gj) (Zcc hBW.bl _ hpt)
             rw [hpl] at h1
             exact ⟨by simp [World.cell?, hW], by simp [World.cell?, hW], h1⟩
           have hSA : ∀ W, Below (wr.alloc (.cells #[.bool mj, .int .i64 sj, .pointer gj] 62)).heap.size (wr.alloc (.cells #[.bool mj, .int .i64 sj, .pointer gj] 62)) W → W.cell? ⟨wr.heap.size, 1, none⟩ = some (.int .i64 sj) ∧ W.cell? ⟨wr.heap.size, 2, none⟩ = some (.pointer gj) ∧ (Instr.lookup 94 (.map (some w1.heap.size)) (.agg #[.int .i64 sj, .pointer gj]) false).run Tryz.prog W = .ok (.int .i64 (ix : Int)) W := fun W hW =>
             hSS W _ _ (hBA.below hW) ((hW.block _ (Zap hta)).trans hta)
           have hbl9 : bs'.length ≤ 2000000 := by have := hl9; unfold wt at hwy; omega
           obtain ⟨i1, hi1, hz1, hz2, hz3⟩ := info_parts infoe8
           have HI := zh (zi hi1 (zi hz1 (zi hz2 hz3)))
           have HR := zh (zi hB (zi hbs' (zi hbl' (zi hrt (zi hgm (zi htk2 (zi hix (zi hBA (zi hSS hta)))))))))
           have hlt2' : (j : Int) < (ts.length : Int) := by omega
           have hsz := hB.bl.size
           clear hB hbs' hbl' hrt hgm hgv hin htk2 hpl hpt hix hBA hSS hta hr hrk hkn hbw hfc hnd hnq hlq ha hBM hbs hbl hyk hwy hexp htv hi1 hz1 hz2 hz3 hjz hbA
           cases mj
           · have hnw := Zaj (wr.alloc (.cells #[.bool false, .int .i64 sj, .pointer gj] 62)) [.int .u8 0] 5 (0, 0)
             rw [show (wr.alloc (.cells #[.bool false, .int .i64 sj, .pointer gj] 62)).heap.size = wr.heap.size + 1 by simp] at hnw
             have hmk7 : ∀ W, Below (wr.alloc (.cells #[.bool false, .int .i64 sj, .pointer gj] 62)).heap.size (wr.alloc (.cells #[.bool false, .int .i64 sj, .pointer gj] 62)) W → ∀ g7 c7 w7, w7.ownsRow wc.heap.size 5 1 (.slice (some ⟨g7, 0, none⟩) (bs'.length + 1) c7) (bs'.length + 1) (byV bs' ++ [.int .u8 0]) → W.grownBy w7 (Value.slice a bs'.length c).ownBlock → ((Value.slice a bs'.length c).ownBlock = some g7 ∨ g7 = W.heap.size) →
                 (w7.cell? ⟨wr.heap.size, 1, none⟩ = some (.int .i64 sj) ∧ w7.cell? ⟨wr.heap.size, 2, none⟩ = some (.pointer gj) ∧ (Instr.lookup 94 (.map (some w1.heap.size)) (.agg #[.int .i64 sj, .pointer gj]) false).run Tryz.prog w7 = .ok (.int .i64 (ix : Int)) w7) ∧
                 ByS wc w1.heap.size qs (k + 1) w7 (.slice (some ⟨g7, 0, none⟩) (bs'.length + 1) c7) (bs' ++ [0]) ∧ RowF w7 (fun i => (Value.slice (some ⟨g7, 0, none⟩) (bs'.length + 1) c7).ownBlock = some i ∨ i = w1.heap.size) 3 (.slice (some ⟨bt, ot, none⟩) ts.length ct) ts.length (flatT ts) ∧
                 w7.heap[wr.heap.size]? = some (.cells #[.bool false, .int .i64 sj, .pointer gj] 62 (0, 0)) ∧
                 Calls Tryz.prog 54 #[.slice (some ⟨g7, 0, none⟩) (bs'.length + 1) c7, .int .i64 ix] w7 fun e w' => ∃ v', e = .returned v' ∧ w'.ownsRow wc.heap.size 5 1 v' (bs'.length + 1 + 2) (byV (bs' ++ [0]) ++ twoB ix) ∧ w7.grownBy w' (Value.slice (some ⟨g7, 0, none⟩) (bs'.length + 1) c7).ownBlock ∧ ∀ k, v'.ownBlock = some k → (Value.slice (some ⟨g7, 0, none⟩) (bs'.length + 1) c7).ownBlock = some k ∨ w7.heap.size ≤ k := by
               intro W hW g7 c7 w7 hown7 hg7 hat7
               obtain ⟨hB, hbs', hbl', hrt, hgm, htk2, hix, hBA, hSS, hta⟩ := HR.out
               have hB7 := (hBA.below hW).grow (v' := .slice (some ⟨g7, 0, none⟩) (bs'.length + 1) c7) (bs' := bs' ++ [0]) (by rw [List.length_append, Zbb]; exact hown7) hg7
               have x7 := (hg7.block wr.heap.size (by have := hW.size; simp at this; omega) (fun e => by have := (hB.own.lt _ e.symm).2; omega)).trans ((hW.block _ (Zap hta)).trans hta)
               refine ⟨hSS w7 _ _ hB7 x7, hB7, ?_, x7, Zcx (base := wc.heap.size) (.slice (some ⟨g7, 0, none⟩) (bs'.length + 1) c7) (bs'.length + 1) (byV (bs' ++ [0])) ix w7 (by rw [Zbb]; exact hown7) (by omega) hB7.bl.size⟩
               refine ((hrt.keeps (w' := W) (Keeps.of_below (((zb).alloc (zl) _).trans (hW.mono (by simp))) (zl))).beside hg7) ?_
               intro i hi
               simp only [Value.ownBlock, Option.some.injEq] at hi
               subst hi
               rcases hat7 with e | e
               · exact .inl e
               · exact .inr (by rw [e]; exact zl)
             have HMK := zh hmk7
             clear hmk7
             go_wp2
             first
               | go_region_held3 (fun w' => w'.cell? ⟨wr.heap.size, 1, none⟩ = some (.int .i64 sj) ∧ w'.cell? ⟨wr.heap.size, 2, none⟩ = some (.pointer gj) ∧ (Instr.lookup 94 (.map (some w1.heap.size)) (.agg #[.int .i64 sj, .pointer gj]) false).run Tryz.prog w' = .ok (.int .i64 (ix : Int)) w') (first | exact HK8.out | exact HK7.out | exact hSA _ (by repeat (first | exact zb | refine Below.drew ?_ | refine Below.alloc ?_ (by simp) _)))
                 (first
                 | (go_at_call 54; refine H7.out.2.2.2.mono ?_; rintro e8 w8 ⟨v8, rfl, ho8, hg8, hat8⟩
                    obtain ⟨a8, c8, rfl⟩ := (RowV.of_own ho8).shape
                    obtain ⟨hB7, hr7, x7, ha8⟩ := H7.out
                    have hl8 : (bs' ++ [0] ++ twoN ix).length = bs'.length + 1 + 2 := by rw [List.length_append, List.length_append]; rfl
                    have hB8 : ByS wc w1.heap.size qs (k + 1) w8 (.slice a8 (bs'.length + 1 + 2) c8) (bs' ++ [0] ++ twoN ix) := hB7.grow (by rw [hl8, Zbb, Zgq]; exact ho8) hg8
                    have x8 := (hg8.block wr.heap.size (Zap x7) (fun e => by
                      obtain ⟨c, hc⟩ := Zju hB7.own _ e.symm
                      rw [x7] at hc; cases hc)).trans x7
                    have HK8 := zh (HR.out.2.2.2.2.2.2.2.2.1 w8 _ _ hB8 x8)
                    have hr8 := hr7.beside hg8 hat8
                    have H8 := zh (zi hl8 (zi hB8 hr8))
                    clear ho8 hg8 hat8 hl8 hB8 x8 hr8 hB7 hr7 x7 ha8)
                 | ((refine step_append_lies _ (by rfl) _ _ _ (by rfl) wc.heap.size 5 i1 (.int .u8 0) 1 1 Tryz.underlying50 HI.out.1 HI.out.2.1 HI.out.2.2.1 HI.out.2.2.2 (by rfl) (by decide) _ _ _ (by rfl) (HR.out.2.2.2.2.2.2.2.1.own.alloc _) ⟨wr.heap.size + 1, 0, none⟩ 1 1 [.int .u8 0] (by rfl) (by rfl) hnw (by simp [Value.oneCell']) (by decide) (by unfold maxLen; omega) (by omega) (by simp; omega) _ rfl ?_; intro g7 c7 w7 hown7 hg7 hat7 hlt7
                     obtain ⟨hk7, hB7, hr7, x7, ha8⟩ := HMK.out _ (by repeat (first | exact zb | refine Below.drew ?_ | refine Below.alloc ?_ (by simp) _)) g7 c7 w7 hown7 hg7 hat7
                     have HK7 := zh hk7
                     have H7 := zh (zi hB7 (zi hr7 (zi x7 ha8)))
                     clear hown7 hg7 hat7 hk7 hB7 hr7 x7 ha8)))
               | fail
             all_goals
               (try go_wp2)
               obtain ⟨hB, hbs', hbl', hrt, hgm, htk2, hix, hBA, hSS, hta⟩ := HR.out
               obtain ⟨hl8, hB8, hr8⟩ := H8.out
               refine ⟨⟨j + 1, bs' ++ [0] ++ twoN ix, a8, c8, by omega, by go_num, by rw [hl8], ?_, ?_, ?_, ?_⟩, by simp [intOf]; omega⟩
               · rw [hl8]; exact hB8
               · rw [htk2, hbs']
                 simp only [termsBy, List.flatMap_append, List.flatMap_cons, List.flatMap_nil, List.append_nil, termBy, ← hgm, hix, List.append_assoc, List.cons_append, List.nil_append]
                 rfl
               · rw [hl8]; omega
               · rw [hl8]; exact hr8
           · have hnw := Zaj (wr.alloc (.cells #[.bool true, .int .i64 sj, .pointer gj] 62)) [.int .u8 1] 5 (0, 0)
             rw [show (wr.alloc (.cells #[.bool true, .int .i64 sj, .pointer gj] 62)).heap.size = wr.heap.size + 1 by simp] at hnw
             have hmk7 : ∀ W, Below (wr.alloc (.cells #[.bool true, .int .i64 sj, .pointer gj] 62)).heap.size (wr.alloc (.cells #[.bool true, .int .i64 sj, .pointer gj] 62)) W → ∀ g7 c7 w7, w7.ownsRow wc.heap.size 5 1 (.slice (some ⟨g7, 0, none⟩) (bs'.length + 1) c7) (bs'.length + 1) (byV bs' ++ [.int .u8 1]) → W.grownBy w7 (Value.slice a bs'.length c).ownBlock → ((Value.slice a bs'.length c).ownBlock = some g7 ∨ g7 = W.heap.size) →
                 (w7.cell? ⟨wr.heap.size, 1, none⟩ = some (.int .i64 sj) ∧ w7.cell? ⟨wr.heap.size, 2, none⟩ = some (.pointer gj) ∧ (Instr.lookup 94 (.map (some w1.heap.size)) (.agg #[.int .i64 sj, .pointer gj]) false).run Tryz.prog w7 = .ok (.int .i64 (ix : Int)) w7) ∧
                 ByS wc w1.heap.size qs (k + 1) w7 (.slice (some ⟨g7, 0, none⟩) (bs'.length + 1) c7) (bs' ++ [1]) ∧ RowF w7 (fun i => (Value.slice (some ⟨g7, 0, none⟩) (bs'.length + 1) c7).ownBlock = some i ∨ i = w1.heap.size) 3 (.slice (some ⟨bt, ot, none⟩) ts.length ct) ts.length (flatT ts) ∧
                 w7.heap[wr.heap.size]? = some (.cells #[.bool true, .int .i64 sj, .pointer gj] 62 (0, 0)) ∧
                 Calls Tryz.prog 54 #[.slice (some ⟨g7, 0, none⟩) (bs'.length + 1) c7, .int .i64 ix] w7 fun e w' => ∃ v', e = .returned v' ∧ w'.ownsRow wc.heap.size 5 1 v' (bs'.length + 1 + 2) (byV (bs' ++ [1]) ++ twoB ix) ∧ w7.grownBy w' (Value.slice (some ⟨g7, 0, none⟩) (bs'.length + 1) c7).ownBlock ∧ ∀ k, v'.ownBlock = some k → (Value.slice (some ⟨g7, 0, none⟩) (bs'.length + 1) c7).ownBlock = some k ∨ w7.heap.size ≤ k := by
               intro W hW g7 c7 w7 hown7 hg7 hat7
               obtain ⟨hB, hbs', hbl', hrt, hgm, htk2, hix, hBA, hSS, hta⟩ := HR.out
               have hB7 := (hBA.below hW).grow (v' := .slice (some ⟨g7, 0, none⟩) (bs'.length + 1) c7) (bs' := bs' ++ [1]) (by rw [List.length_append, Zbb]; exact hown7) hg7
               have x7 := (hg7.block wr.heap.size (by have := hW.size; simp at this; omega) (fun e => by have := (hB.own.lt _ e.symm).2; omega)).trans ((hW.block _ (Zap hta)).trans hta)
               refine ⟨hSS w7 _ _ hB7 x7, hB7, ?_, x7, Zcx (base := wc.heap.size) (.slice (some ⟨g7, 0, none⟩) (bs'.length + 1) c7) (bs'.length + 1) (byV (bs' ++ [1])) ix w7 (by rw [Zbb]; exact hown7) (by omega) hB7.bl.size⟩
               refine ((hrt.keeps (w' := W) (Keeps.of_below (((zb).alloc (zl) _).trans (hW.mono (by simp))) (zl))).beside hg7) ?_
               intro i hi
               simp only [Value.ownBlock, Option.some.injEq] at hi
               subst hi
               rcases hat7 with e | e
               · exact .inl e
               · exact .inr (by rw [e]; exact zl)
             have HMK := zh hmk7
             clear hmk7
             go_wp2
             first
               | go_region_held3 (fun w' => w'.cell? ⟨wr.heap.size, 1, none⟩ = some (.int .i64 sj) ∧ w'.cell? ⟨wr.heap.size, 2, none⟩ = some (.pointer gj) ∧ (Instr.lookup 94 (.map (some w1.heap.size)) (.agg #[.int .i64 sj, .pointer gj]) false).run Tryz.prog w' = .ok (.int .i64 (ix : Int)) w') (first | exact HK8.out | exact HK7.out | exact hSA _ (by repeat (first | exact zb | refine Below.drew ?_ | refine Below.alloc ?_ (by simp) _)))
                 (first
                 | (go_at_call 54; refine H7.out.2.2.2.mono ?_; rintro e8 w8 ⟨v8, rfl, ho8, hg8, hat8⟩
                    obtain ⟨a8, c8, rfl⟩ := (RowV.of_own ho8).shape
                    obtain ⟨hB7, hr7, x7, ha8⟩ := H7.out
                    have hl8 : (bs' ++ [1] ++ twoN ix).length = bs'.length + 1 + 2 := by rw [List.length_append, List.length_append]; rfl
                    have hB8 : ByS wc w1.heap.size qs (k + 1) w8 (.slice a8 (bs'.length + 1 + 2) c8) (bs' ++ [1] ++ twoN ix) := hB7.grow (by rw [hl8, Zbb, Zgq]; exact ho8) hg8
                    have x8 := (hg8.block wr.heap.size (Zap x7) (fun e => by
                      obtain ⟨c, hc⟩ := Zju hB7.own _ e.symm
                      rw [x7] at hc; cases hc)).trans x7
                    have HK8 := zh (HR.out.2.2.2.2.2.2.2.2.1 w8 _ _ hB8 x8)
                    have hr8 := hr7.beside hg8 hat8
                    have H8 := zh (zi hl8 (zi hB8 hr8))
                    clear ho8 hg8 hat8 hl8 hB8 x8 hr8 hB7 hr7 x7 ha8)
                 | ((refine step_append_lies _ (by rfl) _ _ _ (by rfl) wc.heap.size 5 i1 (.int .u8 0) 1 1 Tryz.underlying50 HI.out.1 HI.out.2.1 HI.out.2.2.1 HI.out.2.2.2 (by rfl) (by decide) _ _ _ (by rfl) (HR.out.2.2.2.2.2.2.2.1.own.alloc _) ⟨wr.heap.size + 1, 0, none⟩ 1 1 [.int .u8 1] (by rfl) (by rfl) hnw (by simp [Value.oneCell']) (by decide) (by unfold maxLen; omega) (by omega) (by simp; omega) _ rfl ?_; intro g7 c7 w7 hown7 hg7 hat7 hlt7
                     obtain ⟨hk7, hB7, hr7, x7, ha8⟩ := HMK.out _ (by repeat (first | exact zb | refine Below.drew ?_ | refine Below.alloc ?_ (by simp) _)) g7 c7 w7 hown7 hg7 hat7
                     have HK7 := zh hk7
                     have H7 := zh (zi hB7 (zi hr7 (zi x7 ha8)))
                     clear hown7 hg7 hat7 hk7 hB7 hr7 x7 ha8)))
               | fail
             all_goals
               (try go_wp2)
               obtain ⟨hB, hbs', hbl', hrt, hgm, htk2, hix, hBA, hSS, hta⟩ := HR.out
               obtain ⟨hl8, hB8, hr8⟩ := H8.out
               refine ⟨⟨j + 1, bs' ++ [1] ++ twoN ix, a8, c8, by omega, by go_num, by rw [hl8], ?_, ?_, ?_, ?_⟩, by simp [intOf]; omega⟩
               · rw [hl8]; exact hB8
               · rw [htk2, hbs']
                 simp only [termsBy, List.flatMap_append, List.flatMap_cons, List.flatMap_nil, List.append_nil, termBy, ← hgm, hix, List.append_assoc, List.cons_append, List.nil_append]
                 rfl
               · rw [hl8]; omega
               · rw [hl8]; exact hr8
         · have hjn : j = ts.length := by omega
           subst hjn
           have hlt2' : ¬ ((ts.length : Int) < (ts.length : Int)) := by omega
           have htk : (naf y).take ts.length = naf y := by rw [htv.len]; exact List.take_length
           rw [htk] at hbs'
           have htl := htv.len
           have HQ2 := zh (zi hB (zi hbs' (zi hbl' htl)))
           clear hB hbs' hbl' hrt htv htk htl
           go_wp2
           obtain ⟨hB, hbs', hbl', htl⟩ := HQ2.out
           obtain ⟨hBM, hbs, hbl, hyk, hwy, hexp⟩ := HQ.out
           obtain ⟨hki, hke⟩ := List.getElem?_eq_some_iff.1 hyk
           refine ⟨⟨k + 1, bs', a, c, by omega, by go_num, rfl, hB, ?_, ?_⟩, by simp [intOf]; omega⟩
           · rw [hbs', hbs, List.take_succ_eq_append_getElem hki, List.flatMap_append, hke, htl]
             simp only [List.flatMap_cons, List.flatMap_nil, List.append_nil, partBy, List.append_assoc]
           · unfold wt at hwy; omega
     · have hkn2 : k = qs.length := by omega
       subst hkn2
       have hlt' : ¬ ((qs.length : Int) < (qs.length : Int)) := by omega
       have hfin : bs = bytesZ z := by
         rw [hbs]
         unfold bytesZ
         have h1 : (listZ z).length = qs.length := by rw [← hrk, List.length_map]
         rw [h1, ← h1, List.take_length]
       have HQ := zh (zi hB (zi hfin hbw))
       clear hr hrk hkn hbw hfc hnd hnq hlq ha hB hbs hbl hfin
       go_wp2
       go_ret
       obtain ⟨hB, hfin, hbw⟩ := HQ.out
       subst hfin
       exact ⟨a, c, rfl, Zah hB.own hbw.size, hbw.trans (hB.bl.mono hbw.size)⟩
end
end Go.Proofs.YtlkmgclbckojgaaGreatDoor

