import Derived.Test.YtlkmgclbckojgaaGreatDoorW3
import Derived.Test.YtlkmgclbckojgaaGreatDoorV2
import Derived.Test.YtlkmgclbckojgaaGreatDoorG8
import Derived.Test.YtlkmgclbckojgaaGreatDoorR5
set_option linter.unusedVariables false
set_option linter.unusedSimpArgs false
set_option maxHeartbeats 2000000
namespace Go.Proofs.YtlkmgclbckojgaaGreatDoor
section
open Go.RowKit
theorem Zis (a b : Int) (ia : i64 a) (ib : i64 b) (h : i64 (a * b)) (w : World) : Calls Tryz.prog 70 #[.agg #[.int .i64 a, .pointer none], .agg #[.int .i64 b, .pointer none]] w fun e w' =>
   e = .returned (.tuple #[.agg #[.int .i64 (a * b), .pointer none], .bool true]) ∧ Below w.heap.size w w' := by
 by_cases h0 : a = 0 ∨ b = 0
 · refine (Zjo a b h0 w).mono ?_
   rintro e w' ⟨rfl, hb⟩
   have h1 : a * b = 0 := by rcases h0 with rfl | rfl <;> simp
   exact ⟨by rw [h1], hb⟩
 have ha : a ≠ 0 := by omega
 have hb : b ≠ 0 := by omega
 have ha' : (a == 0) = false := by simpa using ha
 have hb' : (b == 0) = false := by simpa using hb
 have hzz : wrap64 (a * b) = a * b := Za4 h
 have hz : wrap64 (wrap64 (a * b)) = wrap64 (a * b) := Za4 (Zc9 _)
 have hq : (IntKind.i64.wrap ((wrap64 (a * b)).tdiv b) != a) = false := by
   rw [hzz, Int.mul_tdiv_cancel _ hb, Zec, Za4 ia]; simp
 have hnot : ¬ (a = -9223372036854775808 ∧ b = -1) := by
   rintro ⟨rfl, rfl⟩
   unfold i64 at h
   omega
 generalize hqq : IntKind.i64.wrap ((wrap64 (a * b)).tdiv b) = q at *
 have HH := zh (zi hzz hnot)
 clear ha ib ia h h0 hzz hnot
 cases hA : (a == -9223372036854775808) with
 | false =>
   go_enter Tryz.func70, Tryz.ntmps70
   go_wp2
   go_big_region
   all_goals go_wp2_with (go_at_call 8; refine (Zax _ _).mono ?_; rintro e w1 ⟨rfl, hb1⟩; obtain ⟨hc, hf⟩ := bcell hb1; have hz1 := hb1.size; have k1 := hc (w.heap.size + 1 + 1) 0 (by simp); have k2 := hc (w.heap.size + 1 + 1) 1 (by simp); have k3 := hf (w.heap.size + 1 + 1) 0 (by simp); have k4 := hf (w.heap.size + 1 + 1) 1 (by simp); simp at k1 k2 k3 k4)
   all_goals refine bodyPost_ret (v := .tuple #[.agg #[.int .i64 (wrap64 (a * b)), .pointer none], .bool true]) (by simp [results, Tryz.results70, go_sem, *]) rfl ⟨by rw [HH.out.1], ?_⟩
   all_goals refine Below.setCell (Below.setCell (Below.trans ?_ (hb1.mono (by simp; omega))) (by simp; omega) _) (by simp; omega) _
   all_goals repeat (first | exact zb | refine Below.alloc ?_ (by simp <;> omega) _ | refine Below.drew ?_)
 | true =>
   have hB : (b == -1) = false := by
     cases hB : (b == -1) with
     | false => rfl
     | true => exact absurd ⟨by simpa using hA, by simpa using hB⟩ HH.out.2
   go_enter Tryz.func70, Tryz.ntmps70
   go_wp2
   go_big_region
   all_goals go_wp2_with (go_at_call 8; refine (Zax _ _).mono ?_; rintro e w1 ⟨rfl, hb1⟩; obtain ⟨hc, hf⟩ := bcell hb1; have hz1 := hb1.size; have k1 := hc (w.heap.size + 1 + 1) 0 (by simp); have k2 := hc (w.heap.size + 1 + 1) 1 (by simp); have k3 := hf (w.heap.size + 1 + 1) 0 (by simp); have k4 := hf (w.heap.size + 1 + 1) 1 (by simp); simp at k1 k2 k3 k4)
   all_goals refine bodyPost_ret (v := .tuple #[.agg #[.int .i64 (wrap64 (a * b)), .pointer none], .bool true]) (by simp [results, Tryz.results70, go_sem, *]) rfl ⟨by rw [HH.out.1], ?_⟩
   all_goals refine Below.setCell (Below.setCell (Below.trans ?_ (hb1.mono (by simp; omega))) (by simp; omega) _) (by simp; omega) _
   all_goals repeat (first | exact zb | refine Below.alloc ?_ (by simp <;> omega) _ | refine Below.drew ?_)
theorem Zpn {s s' : Int} (i1 : i64 s) (i2 : i64 s') (h : i64 (s * s')) (w : World) :
   Calls Tryz.prog 28 #[.agg #[.int .i64 s, .pointer none], .agg #[.int .i64 s', .pointer none]] w fun e w' => e = .returned (.tuple #[.agg #[.int .i64 (s * s'), .pointer none], .int .i64 0]) ∧ Below w.heap.size w w' := by
 have hb3 : Below w.heap.size w (((w.alloc (.cells #[.int .i64 s, .pointer none] 28)).alloc (.cells #[.int .i64 s', .pointer none] 28)).alloc (.cells #[.int .i64 0, .pointer none] 28)) := by repeat (first | exact zb | refine Below.alloc ?_ (by simp <;> omega) _)
 obtain ⟨a0, a1, a2, hz3⟩ := Zcq w (.cells #[.int .i64 s, .pointer none] 28) (.cells #[.int .i64 s', .pointer none] 28) (.cells #[.int .i64 0, .pointer none] 28)
 have hm := fun W => Zis s s' i1 i2 h W
 obtain ⟨e0, e1⟩ := Zab a0
 obtain ⟨e2, e3⟩ := Zab a1
 have HX := zh (zi hb3 (zi a2 hz3))
 clear hb3 a0 a1 a2 hz3 i1 i2 h
 generalize hp : s * s' = p at *
 clear hp
 go_enter Tryz.func28, Tryz.ntmps28
 go_wp2_with (first
   | (go_at_call 70; refine (hm _).mono ?_; rintro x4 w4 ⟨rfl, hb4⟩
      obtain ⟨hb3, a2, hz3⟩ := HX.out
      have hbA : Below w4.heap.size w4 (w4.alloc (.cells #[.int .i64 p, .pointer none] 28)) := (zb).alloc (zl) _
      have b2 := (hb4.block _ (Zad a2)).trans a2
      have c2 := (hbA.block _ (Zad b2)).trans b2
      obtain ⟨y0, y1⟩ := Zab c2
      obtain ⟨y2, y3⟩ := Zae c2
      have H4 := zh ((hb3.trans (hb4.mono hb3.size)).trans (hbA.mono (Nat.le_trans hb3.size hb4.size)))
      clear hb3 a2 hz3 hb4 hbA b2 c2))
 refine bodyPost_ret (v := .tuple #[.agg #[.int .i64 p, .pointer none], .int .i64 0]) (by simp [results, Tryz.results28, go_sem, *]) rfl ⟨rfl, ?_⟩
 exact (H4.out.setCell (p := ⟨w.heap.size + 1 + 1, 0, none⟩) (by show w.heap.size ≤ w.heap.size + 1 + 1; omega) _).setCell (p := ⟨w.heap.size + 1 + 1, 1, none⟩) (by show w.heap.size ≤ w.heap.size + 1 + 1; omega) _
end
section
open Go.RowKit
variable {B : Nat → Prop}
theorem Zmt : ∃ P Q : Int, shiftZ 1 100 = P ∧ shiftZ 1 P = Q ∧ reaches 1 100 ∧ reaches 1 P ∧ allowedZ P ∧ allowedZ Q ∧ allowedZ (Q + 1) ∧ P < Q := by
 have h100 : allowedZ ((100 : Nat) : Int) ∧ weightZ ((100 : Nat) : Int) ≤ 7 + 3 ∧ wt ((100 : Nat) : Int) ≤ 7 + 2 := Zea (b := 7) (by decide) (by decide) (by omega)
 have hh : hgt ((100 : Nat) : Int) ≤ 10 := Nat.le_trans (Zb1 _ _ (Nat.lt_succ_self _)) h100.2.1
 obtain ⟨E, hE⟩ : ∃ E : Nat, E = 2 ^ 100 := ⟨_, rfl⟩
 have hP : ((E : Nat) : Int) = 2 ^ 100 := by rw [hE]; norm_cast
 have aP : allowedZ (E : Int) := by rw [hP]; exact Zhg (e := 100) h100.1 (by omega) (by omega)
 have wP : weightZ (E : Int) ≤ 11 := by rw [hP]; have := Zhf 100; omega
 have gP : hgt (E : Int) ≤ 11 := Nat.le_trans (Zb1 _ _ (Nat.lt_succ_self _)) wP
 have hE2 : 2 ≤ E := by rw [hE]; decide
 clear hE
 have aQ : allowedZ ((2 : Int) ^ E) := Zhg aP (by omega) (by omega)
 have hlt : (E : Int) < 2 ^ E := by
   have := Nat.lt_two_pow_self (n := E)
   have h2 : ((2 ^ E : Nat) : Int) = (2 : Int) ^ E := by rw [Int.natCast_pow]; rfl
   omega
 have hn := Zln hE2
 have hC : ClosedL (((2 : Int) ^ E + 1) :: 0 :: partsZ (E : Int)) := by
   intro p hp t ht
   rcases List.mem_cons.1 hp with rfl | hp
   · rw [hn] at ht
     rcases List.mem_cons.1 ht with rfl | ht
     · exact List.mem_cons_of_mem _ (List.mem_cons_of_mem _ (Za5 _))
     · rw [List.mem_singleton.1 ht]; exact List.mem_cons_of_mem _ (List.mem_cons_self ..)
   · rcases List.mem_cons.1 hp with rfl | hp
     · rw [naf0] at ht; simp at ht
     · exact List.mem_cons_of_mem _ (List.mem_cons_of_mem _ (Zaz _ p hp t ht))
 have hw := Zfe hC (List.mem_cons_self ..)
 simp only [List.length_cons] at hw
 have wP' : (partsZ (E : Int)).length ≤ 11 := wP
 have aR : allowedZ ((2 : Int) ^ E + 1) := by
   refine ⟨by unfold weightZ; omega, Nat.le_trans (Zb1 _ _ (Nat.lt_succ_self _)) (by unfold weightZ; omega), fun p hp => ?_⟩
   have hm := Zb6 hC (List.mem_cons_self ..) p hp
   rcases List.mem_cons.1 hm with rfl | hm
   · unfold wt; rw [hn]; simp
   · rcases List.mem_cons.1 hm with rfl | hm
     · unfold wt; rw [naf0]; simp
     · exact aP.2.2 p hm
 refine ⟨(E : Int), (2 : Int) ^ E, ?_, ?_, Zhj 1 100, Zhj 1 E, aP, aQ, aR, hlt⟩
 · rw [show (100 : Int) = ((100 : Nat) : Int) from rfl, Zik, hP, Int.one_mul]
 · rw [Zik, Int.one_mul]
theorem Zjt {w : World} {s s' z y : Int} {g g' : Option Addr} (hx : NumA B w s g z) (hy : NumA B w s' g' y) (tab : Tab w) (h0 : 0 < w.heap.size) (hB : ∀ k, B k → k < w.heap.size) (h1 : reaches z y) (h2 : allowedZ (shiftZ z y)) :
   Calls Tryz.prog 22 #[.agg #[.int .i64 s, .pointer g], .agg #[.int .i64 s', .pointer g']] w fun e w' => ∃ (r : Int) (q : Option Addr), e = .returned (.tuple #[.agg #[.int .i64 r, .pointer q], .int .i64 0]) ∧ NumA B w' r q (shiftZ z y) ∧ Below w.heap.size w w' := by
 refine (Zlt hx hy tab h0 hB).mono ?_
 rintro e w' ⟨hb, h | h | h⟩
 · exact absurd h1 h.1
 · obtain ⟨_, _, r, q, rfl, hn⟩ := h
   exact ⟨r, q, rfl, hn, hb⟩
 · exact absurd h2 h.2.1
theorem Zpo {w : World} {s s' z y : Int} {g g' : Option Addr} (hx : NumA B w s g z) (hy : NumA B w s' g' y) (tab : Tab w) (h0 : 0 < w.heap.size) (hB : ∀ k, B k → k < w.heap.size) (h2 : allowedZ (z + y)) :
   Calls Tryz.prog 27 #[.agg #[.int .i64 s, .pointer g], .agg #[.int .i64 s', .pointer g']] w fun e w' => ∃ (r : Int) (q : Option Addr), e = .returned (.tuple #[.agg #[.int .i64 r, .pointer q], .int .i64 0]) ∧ NumA B w' r q (z + y) ∧ Below w.heap.size w w' := by
 refine (Zo7 hx hy tab h0 hB).mono ?_
 rintro e w' ⟨hb, h | h⟩
 · obtain ⟨_, r, q, rfl, hn⟩ := h
   exact ⟨r, q, rfl, hn, hb⟩
 · exact absurd h2 h.1
theorem Zqs {w : World} {v : Value} {ts : List TV} {vs : List (Bool × Int)} (hr : RowV w 3 v ts.length (flatT ts)) (hv : FitsV B w ts vs) (hmax : ts.length ≤ 1000) (tab : Tab w) (h0 : 0 < w.heap.size) (hB : ∀ k, B k → k < w.heap.size) (h1 : ∀ p ∈ vs, 0 ≤ p.2) (h2 : allowedZ (sumZ vs)) :
   Calls Tryz.prog 24 #[v] w fun e w' => ∃ (r : Int) (q : Option Addr), e = .returned (.tuple #[.agg #[.int .i64 r, .pointer q], .int .i64 0]) ∧ NumA B w' r q (sumZ vs) ∧ Below w.heap.size w w' := by
 refine (Zpb hr hv (by omega) tab h0 hB).mono ?_
 have hl := hv.len
 rintro e w' ⟨hb, h | h | h⟩
 · obtain ⟨⟨p, hp, hn⟩, _⟩ := h
   have := h1 p hp
   omega
 · obtain ⟨_, _, _, r, q, rfl, hn⟩ := h
   exact ⟨r, q, rfl, hn, hb⟩
 · rcases h.2.1 with x | x
   · omega
   · exact absurd h2 x
def NumAt (B : Nat → Prop) (wx : World) (b : Nat) (z : Int) : Prop := ∃ (s : Int) (g : Option Addr), wx.heap[b]? = some (.cells #[.int .i64 s, .pointer g] 28 (0, 0)) ∧ NumA B wx s g z
theorem NumAt.below {wx W : World} {b : Nat} {z : Int} (h : NumAt B wx b z) (hb : Below wx.heap.size wx W) : NumAt B W b z := by
 obtain ⟨s, g, h1, h2⟩ := h
 exact ⟨s, g, (hb.block _ (Zap h1)).trans h1, h2.below hb⟩
theorem NumAt.new {w : World} {s z : Int} {g : Option Addr} (h : NumA B w s g z) : NumAt B (w.alloc (.cells #[.int .i64 s, .pointer g] 28)) w.heap.size z :=
 ⟨s, g, heap_alloc_new w _, h.below ((zb).alloc (zl) _)⟩
theorem NumAt.put {w : World} {x : Nat} {s z i : Int} {g p : Option Addr} (hz : w.heap[x]? = some (.cells #[.int .i64 i, .pointer p] 28 (0, 0))) (h : NumA B w s g z) : NumAt B ((w.setCell ⟨x, 0, none⟩ (.int .i64 s)).setCell ⟨x, 1, none⟩ (.pointer g)) x z :=
 ⟨s, g, by simp [World.setCell, Array.getElem?_modify, hz], NumA.put h hz _ _⟩
theorem Zgp (n : Nat) : ByteL (twoN n) := by
 intro b hb
 simp only [twoN, List.mem_cons, List.not_mem_nil, or_false] at hb
 omega
theorem Zfx {a b : List Nat} (h : ByteL a) (k : ByteL b) : ByteL (a ++ b) := fun c hc => by
 rcases List.mem_append.1 hc with x | x
 · exact h c x
 · exact k c x
theorem Zh3 {α : Type} (f : α → List Nat) (h : ∀ a, ByteL (f a)) (l : List α) : ByteL (l.flatMap f) := fun c hc => by
 obtain ⟨a, _, ha⟩ := List.mem_flatMap.1 hc
 exact h a c ha
theorem Zbc (z : Int) : ByteL (bytesZ z) := by
 unfold bytesZ
 refine Zfx (Zgp _) (Zh3 _ (fun p => ?_) _)
 unfold partBy
 refine Zfx (Zgp _) (Zh3 _ (fun t => ?_) _)
 intro c hc
 rcases List.mem_cons.1 hc with rfl | hc
 · split <;> omega
 · exact Zgp _ c hc
theorem Zpp {w : World} {a : Option Addr} {c : Nat} {z : Int} (ha : allowedZ z) (hr : RowV w 1 (.slice a (bytesZ z).length c) (bytesZ z).length (byV (bytesZ z))) (tab : Tab w) (h0 : 0 < w.heap.size) :
   Calls Tryz.prog 21 #[.slice a (bytesZ z).length c] w fun e w' => ∃ (s : Int) (g : Option Addr), e = .returned (.tuple #[.agg #[.int .i64 s, .pointer g], .int .i64 0]) ∧ NumA cold w' s g z ∧ Below w.heap.size w w' := by
 refine (Zm8 hr (Zbc z) tab h0).mono ?_
 have hl := Zdo ha
 rintro e w' ⟨hb, h | h⟩
 · obtain ⟨y, s, g, h1, rfl, h3⟩ := h
   rw [hl] at h1
   cases h1
   exact ⟨s, g, rfl, h3, hb⟩
 · rw [hl] at h; exact absurd h.1 (by simp)
theorem Zmu (w : World) (ts : List TV) (hl : ts.length ≤ 1000) : RowV (w.alloc (.cells (flatT ts).toArray 62)) 3 (.slice (some ⟨w.heap.size, 0, none⟩) ts.length ts.length) ts.length (flatT ts) := by
 refine ⟨Zd2 ts, .inr ⟨w.heap.size, 0, ts.length, rfl, zl, by unfold maxLen; omega, by simp, fun j u hj => ?_⟩⟩
 have := Zaj w (flatT ts) 62 (0, 0) j u hj
 rw [Zbl] at this
 exact this
theorem sum54 : sumZ [(false, 5), (true, 4)] = 16 := by simp [sumZ, tmOf, val, tv, sg]
theorem Sum_54 {wc : World} (htc : ∀ W, Below wc.heap.size wc W → Tab W ∧ 0 < W.heap.size) : ∀ W, Below wc.heap.size wc W →
   Calls Tryz.prog 24 #[.slice (some ⟨W.heap.size, 0, none⟩) 2 2] (W.alloc (.cells #[.bool false, .int .i64 5, .pointer none, .bool true, .int .i64 4, .pointer none] 62)) fun e w' => ∃ (r : Int) (q : Option Addr), e = .returned (.tuple #[.agg #[.int .i64 r, .pointer q], .int .i64 0]) ∧ NumA cold w' r q 16 ∧ Below wc.heap.size wc w' := by
 intro W hW
 have hWA := hW.alloc hW.size (.cells #[.bool false, .int .i64 5, .pointer none, .bool true, .int .i64 4, .pointer none] 62)
 have hr := Zmu W [(false, 5, none), (true, 4, none)] (by decide)
 have h1 : i64 5 := by unfold i64; omega
 have h2 : i64 4 := by unfold i64; omega
 have hs := Zqs (B := cold) (vs := [(false, 5), (true, 4)]) hr ⟨⟨rfl, NumA.small _ h1⟩, ⟨rfl, NumA.small _ h2⟩, trivial⟩ (by decide) (htc _ hWA).1 (htc _ hWA).2 (fun k hk => hk.elim) (by intro p hp; simp only [List.mem_cons, List.not_mem_nil, or_false] at hp; rcases hp with rfl | rfl <;> decide) (by rw [sum54]; exact Zb8 (by omega))
 refine hs.mono ?_
 rintro e w' ⟨r, q, rfl, hn, hb⟩
 rw [sum54] at hn
 exact ⟨r, q, rfl, hn, hWA.trans (hb.mono hWA.size)⟩
end
end Go.Proofs.YtlkmgclbckojgaaGreatDoor

