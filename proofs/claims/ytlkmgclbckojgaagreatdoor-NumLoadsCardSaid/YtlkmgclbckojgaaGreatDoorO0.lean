import Derived.Test.YtlkmgclbckojgaaGreatDoorB3
import Derived.Test.YtlkmgclbckojgaaGreatDoorP5
import Derived.Laws.BytesArg
import Derived.Test.YtlkmgclbckojgaaGreatDoorI1
import Derived.Test.YtlkmgclbckojgaaGreatDoorR5
import Derived.Test.YtlkmgclbckojgaaGreatDoorP8
import Derived.Deep.AppendLies
import Derived.Deep.CutRange
import Derived.Deep.RegionHeld3
import Derived.Deep.DrawnRows
import Derived.Test.YtlkmgclbckojgaaGreatDoorA2
set_option linter.unusedVariables false
set_option linter.unusedSimpArgs false
set_option maxHeartbeats 4000000
set_option maxRecDepth 100000
namespace Go.Proofs.YtlkmgclbckojgaaGreatDoor
section
open Go.RowKit
def strB (bs : List Nat) : ByteArray := ⟨(bs.map (fun n => UInt8.ofNat n)).toArray⟩
theorem Zp9 {bs bs' : List Nat} (h : ByteL bs) (h' : ByteL bs') : (strB bs = strB bs') ↔ bs = bs' := by
 refine ⟨fun e => ?_, fun e => by rw [e]⟩
 unfold strB at e
 have e2 : bs.map (fun n => UInt8.ofNat n) = bs'.map (fun n => UInt8.ofNat n) := by
   have e3 := congrArg (fun s : ByteArray => s.data.toList) e
   simpa using e3
 have e4 := congrArg (List.map UInt8.toNat) e2
 rw [List.map_map, List.map_map] at e4
 have hk : ∀ l : List Nat, ByteL l → l.map (UInt8.toNat ∘ fun n => UInt8.ofNat n) = l := fun l hl => by
   conv => rhs; rw [← List.map_id l]
   exact List.map_congr_left (fun n hn => by have := hl n hn; simp; omega)
 rw [hk _ h, hk _ h'] at e4
 exact e4
theorem Zml {W : World} {v : Value} {bs : List Nat} (hr : RowV W 1 v bs.length (byV bs)) : (convert 50 9 v).run Tryz.prog W = .ok (.string (strB bs)) W := by
 obtain ⟨_, h | ⟨b, off, cap, rfl, h1, h2, h3, h4⟩⟩ := hr
 · obtain ⟨rfl, h0⟩ := h
   have : bs = [] := List.length_eq_zero_iff.1 h0
   subst this
   exact run_convert_bytes_nil W _ _ Tryz.underlying50 Tryz.underlying5 0 0 _ Tryz.underlying9
 · have h := run_convert_bytes_arg (P := Tryz.prog) W _ _ Tryz.underlying50 Tryz.underlying5 b off bs.length cap (bs.map (fun n : Nat => (n : Int))) (by simp) (fun i hi => by
     refine (h4 i _ (by unfold byV; rw [List.getElem?_map, List.getElem?_eq_getElem hi]; rfl)).trans ?_
     simp [List.getD, List.getElem?_eq_getElem hi]) 9 Tryz.underlying9
   rw [h]
   unfold strOfNums strB
   rw [List.map_map]
   rfl
theorem Zco {W : World} {v v' : Value} {bs bs' : List Nat} (hr : RowV W 1 v bs.length (byV bs)) (hr' : RowV W 1 v' bs'.length (byV bs')) (h : ByteL bs) (h' : ByteL bs') :
   Calls Tryz.prog 17 #[v, v'] W fun e w' => e = .returned (.bool (decide (bs = bs'))) ∧ W = w' := by
 have h1 := Zml hr
 have h2 := Zml hr'
 have h3 : ((strB bs).toList == (strB bs').toList) = decide (bs = bs') := by
   rw [Bool.eq_iff_iff, ByteArray.toList_eq, ByteArray.toList_eq]
   simp only [beq_iff_eq, decide_eq_true_eq]
   refine Iff.trans ⟨fun e => ?_, fun e => by rw [e]⟩ (Zp9 h h')
   exact ByteArray.ext (Array.toList_inj.1 e)
 obtain ⟨a, c, rfl⟩ := hr.shape
 obtain ⟨a', c', rfl⟩ := hr'.shape
 generalize decide (bs = bs') = r at *
 clear hr hr' h h'
 go_enter Tryz.func17, Tryz.ntmps17
 go_wp2
 go_ret
 exact ⟨by simp [h3], rfl⟩
end
section
open Go.RowKit
variable {B B' : Nat → Prop}
theorem i64_0 : i64 0 := by unfold i64; omega
theorem Znh {z y : Int} (hz : allowedZ z) (hy : allowedZ y) : (bytesZ z = bytesZ y) ↔ z = y := by
 refine ⟨fun e => ?_, fun e => by rw [e]⟩
 have h1 := Zdo hz
 rw [e, Zdo hy] at h1
 exact (Option.some.inj h1).symm
theorem NumA.grow {w : World} {s z : Int} {g : Option Addr} (h : NumA B w s g z) (hF : ∀ i, B' i → B i ∨ w.heap.size ≤ i) : NumA B' w s g z := ⟨h.1, h.2.grow (zl) hF⟩
theorem NumA.cold {w : World} {s z : Int} {g : Option Addr} (h : NumA B w s g z) : NumA Go.Proofs.YtlkmgclbckojgaaGreatDoor.cold w s g z := h.grow (fun i hi => hi.elim)
theorem Zoz (w : World) (s s' : Int) (g g' : Option Addr) : ∃ w2, w2 = (w.alloc (.cells #[.int .i64 s, .pointer g] 28)).alloc (.cells #[.int .i64 s', .pointer g'] 28) ∧ Below w.heap.size w w2 ∧ w2.heap[w.heap.size]? = some (.cells #[.int .i64 s, .pointer g] 28 (0, 0)) ∧ w2.heap[w.heap.size + 1]? = some (.cells #[.int .i64 s', .pointer g'] 28 (0, 0)) := by
 obtain ⟨a0, a1⟩ := Za0 w (.cells #[.int .i64 s, .pointer g] 28) (.cells #[.int .i64 s', .pointer g'] 28)
 exact ⟨_, rfl, by repeat (first | exact zb | refine Below.alloc ?_ (by simp <;> omega) _), a0, a1⟩
theorem Zjh {w : World} {s s' z y : Int} {g g' : Option Addr} (hx : NumA B w s g z) (hy : NumA B' w s' g' y) (tab : Tab w) (h0 : 0 < w.heap.size) :
   Calls Tryz.prog 12 #[.agg #[.int .i64 s, .pointer g], .agg #[.int .i64 s', .pointer g']] w fun e w' => e = .returned (.bool (decide (z = y))) ∧ Below w.heap.size w w' := by
 obtain ⟨w2, hw2, hb, p0, p1⟩ := Zoz w s s' g g'
 have ht := fun W (hW : Below w.heap.size w W) => (⟨Zfi tab h0 hW, by have := hW.size; omega⟩ : Tab W ∧ 0 < W.heap.size)
 have hB1 : ∀ W, Below w2.heap.size w2 W → Calls Tryz.prog 18 #[.agg #[.int .i64 s, .pointer g]] W fun x w' => ∃ (a : Option Addr) (c : Nat), x = .returned (.slice a (bytesZ z).length c) ∧ RowV w' 1 (.slice a (bytesZ z).length c) (bytesZ z).length (byV (bytesZ z)) ∧ Below w2.heap.size w2 w' := by
   intro W hW
   have hWw := hb.trans (hW.mono hb.size)
   refine (Zcr hx.1 (hx.below hWw).2 (ht _ hWw).1 (ht _ hWw).2).mono ?_
   rintro x w' ⟨a, c, rfl, h1, h2⟩
   exact ⟨a, c, rfl, RowV.of_own h1, hW.trans (h2.mono hW.size)⟩
 have hB2 : ∀ W, Below w2.heap.size w2 W → Calls Tryz.prog 18 #[.agg #[.int .i64 s', .pointer g']] W fun x w' => ∃ (a : Option Addr) (c : Nat), x = .returned (.slice a (bytesZ y).length c) ∧ RowV w' 1 (.slice a (bytesZ y).length c) (bytesZ y).length (byV (bytesZ y)) ∧ Below W.heap.size W w' := by
   intro W hW
   have hWw := hb.trans (hW.mono hb.size)
   refine (Zcr hy.1 (hy.below hWw).2 (ht _ hWw).1 (ht _ hWw).2).mono ?_
   rintro x w' ⟨a, c, rfl, h1, h2⟩
   exact ⟨a, c, rfl, RowV.of_own h1, h2⟩
 have hbi : decide (bytesZ z = bytesZ y) = decide (z = y) := by
   rw [Bool.eq_iff_iff]; simp only [decide_eq_true_eq]; exact Znh hx.1 hy.1
 obtain ⟨y0, y1⟩ := Zab p0
 obtain ⟨y2, y3⟩ := Zab p1
 have HX := zh (zi hb (zi p1 hbi))
 generalize decide (z = y) = r at *
 clear hb p0 p1 hx hy tab h0 ht hbi
 subst hw2
 go_enter Tryz.func12, Tryz.ntmps12
 go_wp2
 first
   | go_region_with (first
     | (have hq := H2
        go_at_call 17; refine (Zco hq.out.1 hq.out.2.1 (Zbc z) (Zbc y)).mono ?_; rintro x7 w7 ⟨rfl, rfl⟩
        have H3 := zh hq.out.2.2
        clear hq)
     | (have hq := H1
        go_at_call 18; refine (hB2 _ hq.out.2).mono ?_; rintro x6 w6 ⟨a6, c6, rfl, h6, hb6⟩
        have H2 := zh (zi (hq.out.1.below hb6 (zl)) (zi h6 (hq.out.2.trans (hb6.mono hq.out.2.size))))
        clear h6 hb6 hq)
     | (go_at_call 18; refine (hB1 _ (by repeat (first | exact zb | refine Below.drew ?_))).mono ?_; rintro x5 w5 ⟨a5, c5, rfl, h5, hb5⟩
        have p5 := (hb5.block _ (Zad HX.out.2.1)).trans HX.out.2.1
        obtain ⟨y4, y5⟩ := Zab p5
        have H1 := zh (zi h5 hb5)
        clear h5 hb5 p5))
   | fail
 all_goals
   (try go_wp2)
   refine bodyPost_ret (v := .bool _) (by simp [results, Tryz.results12, go_sem]; rfl) rfl ?_
   obtain ⟨hb, p1, hbi⟩ := HX.out
   exact ⟨by rw [hbi], hb.trans (H3.out.mono hb.size)⟩
end
section
open Go.RowKit
variable {B B' : Nat → Prop}
def LawW (wc : World) : Prop := ∀ W, Below wc.heap.size wc W → Tab W ∧ 0 < W.heap.size
theorem LawW.of {w wc : World} (tab : Tab w) (h0 : 0 < w.heap.size) (hb : Below w.heap.size w wc) : LawW wc := fun W hW => by
 have h := hb.trans (hW.mono hb.size)
 exact ⟨Zfi tab h0 h, by have := h.size; omega⟩
theorem LawW.on {wc W : World} (h : LawW wc) (hb : Below wc.heap.size wc W) : LawW W := fun W' hW => h W' (hb.trans (hW.mono hb.size))
section
variable {wc : World} {s s' z y : Int} {g g' : Option Addr}
theorem LawW.sign (h : LawW wc) (hx : NumA B wc s g z) : ∀ W, Below wc.heap.size wc W → Calls Tryz.prog 34 #[.agg #[.int .i64 s, .pointer g]] W fun e w' => e = .returned (.int .i64 (sgn z)) ∧ Below wc.heap.size wc w' := by
 intro W hW
 refine (Zcn s g z W (hx.below hW).2.isN).mono ?_
 rintro e w' ⟨rfl, hb⟩
 exact ⟨rfl, hW.trans (hb.mono hW.size)⟩
theorem LawW.awake (h : LawW wc) : ∀ W, Below wc.heap.size wc W → Calls Tryz.prog 6 #[] W fun e w' => e = .returned (.bool true) ∧ Below wc.heap.size wc w' := by
 intro W hW
 refine (Zky (h W hW).1 (h W hW).2).mono ?_
 rintro e w' ⟨rfl, hb⟩
 exact ⟨rfl, hW.trans (hb.mono hW.size)⟩
theorem LawW.same (h : LawW wc) (hx : NumA B wc s g z) (hy : NumA B' wc s' g' y) : ∀ W, Below wc.heap.size wc W → Calls Tryz.prog 12 #[.agg #[.int .i64 s, .pointer g], .agg #[.int .i64 s', .pointer g']] W fun e w' => e = .returned (.bool (decide (z = y))) ∧ Below wc.heap.size wc w' := by
 intro W hW
 refine (Zjh (hx.below hW) (hy.below hW) (h W hW).1 (h W hW).2).mono ?_
 rintro e w' ⟨rfl, hb⟩
 exact ⟨rfl, hW.trans (hb.mono hW.size)⟩
theorem LawW.of_ (h : LawW wc) (n : Int) : ∀ W, Below wc.heap.size wc W → Calls Tryz.prog 8 #[.int .i64 n] W fun e w' => e = .returned (.agg #[.int .i64 n, .pointer none]) ∧ Below wc.heap.size wc w' := by
 intro W hW
 refine (Zax n W).mono ?_
 rintro e w' ⟨rfl, hb⟩
 exact ⟨rfl, hW.trans (hb.mono hW.size)⟩
end
end
end Go.Proofs.YtlkmgclbckojgaaGreatDoor

