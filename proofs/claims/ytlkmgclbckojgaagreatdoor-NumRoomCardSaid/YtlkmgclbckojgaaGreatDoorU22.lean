import Derived.Test.YtlkmgclbckojgaaGreatDoorED
import Derived.Deep.CutRange
import Derived.Deep.RegionHeld3
import Derived.Deep.AppendLies
import Derived.Lib.SmallJoins
import Derived.Test.YtlkmgclbckojgaaGreatDoorT3
import Derived.ChangeSame
set_option linter.unusedVariables false
set_option linter.unusedSimpArgs false
namespace Go.Proofs.YtlkmgclbckojgaaGreatDoor
open Go.RowKit
set_option linter.unusedVariables false
variable {B B' : Nat → Prop}
def twr (n : Nat) : Nat → Int
 | 0 => n
 | k + 1 => 2 ^ (twr n k).toNat
theorem twr_ok {n : Nat} (hn : n ≤ 1024) : ∀ k, k ≤ 60 → 0 ≤ twr n k ∧ allowedZ (twr n k) ∧ weightZ (twr n k) ≤ 13 + k
 | 0, _ => by
   have h := allowed_bits (z := (n : Int)) (b := 10) (by omega) (by omega) (by omega)
   exact ⟨by unfold twr; omega, h.1, by have := h.2.1; unfold twr; omega⟩
 | k + 1, hk => by
   obtain ⟨h1, h2, h3⟩ := twr_ok hn k (by omega)
   have e : ((twr n k).toNat : Int) = twr n k := by omega
   have h4 := hgt_le_weight _ (twr n k) (Nat.lt_succ_self _)
   refine ⟨?_, ?_, ?_⟩
   · unfold twr; exact Int.le_of_lt (pow_pos _)
   · unfold twr
     exact allowed_pow (by rw [e]; exact h2) (by rw [e]; omega) (by rw [e]; omega)
   · unfold twr
     rw [weightZ_pow, e]; omega
theorem shift_one {W : World} {s' y : Int} {g' : Option Addr} (h : LawW W) (hy : NumA B W s' g' y) (h0 : 0 ≤ y) (hw : weightZ y ≤ 98) (hB : ∀ k, B k → k < W.heap.size) :
   Calls Tryz.prog 22 #[.agg #[.int .i64 1, .pointer none], .agg #[.int .i64 s', .pointer g']] W fun e w' => ∃ (r : Int) (q : Option Addr), e = .returned (.tuple #[.agg #[.int .i64 r, .pointer q], .int .i64 0]) ∧ NumA B w' r q (2 ^ y.toNat) ∧ Below W.heap.size W w' := by
 obtain ⟨k, rfl⟩ := Int.eq_ofNat_of_zero_le h0
 have hs : shiftZ 1 (k : Int) = 2 ^ k := by rw [shiftZ_nat, Int.one_mul]
 have h4 := hgt_le_weight _ (k : Int) (Nat.lt_succ_self _)
 have ha : allowedZ (2 ^ k) := allowed_pow hy.1 (by omega) (by omega)
 refine (Shift_calls (NumA.small (B := B) W (show i64 1 by unfold i64; omega)) hy (h W (Below.refl _ _)).1 (h W (Below.refl _ _)).2 hB).mono ?_
 rintro e w' ⟨hb, ⟨h1, he⟩ | ⟨h1, h2, r, q, he, hn⟩ | ⟨h1, h2, he⟩⟩
 · exact absurd (reaches_nat 1 k) h1
 · exact ⟨r, q, he, by rw [hs] at hn; exact hn, hb⟩
 · rw [hs] at h2
   exact absurd ha h2
def roomU (lv le k : Nat) : List (Bool × Int) := (List.range k).map (fun i => (decide (i % 3 = 1), twr (2 * i + le) lv))
theorem roomU_succ (lv le k : Nat) : roomU lv le (k + 1) = roomU lv le k ++ [(decide (k % 3 = 1), twr (2 * k + le) lv)] := by simp [roomU, List.range_succ]
theorem roomU_len (lv le k : Nat) : (roomU lv le k).length = k := by simp [roomU]
theorem roomU_ok {lv le k : Nat} (hl : lv ≤ 60) (hk : k ≤ 310) (he : le ≤ 60) : ∀ p ∈ roomU lv le k, 0 ≤ p.2 ∧ wt p.2 ≤ 300 := by
 intro p hp
 obtain ⟨i, hi, rfl⟩ := List.mem_map.1 hp
 have hi := List.mem_range.1 hi
 obtain ⟨h1, h2, _⟩ := twr_ok (n := 2 * i + le) (by omega) lv hl
 exact ⟨h1, h2.2.2 _ (partsZ_mem _)⟩
theorem room_sum {w0 wl : World} {p n : Nat} {fv va vb : Value} {vs : List Int} {ts : List TV} {us : List (Bool × Int)} {f : List Wt} {ls : List Tm} (h : Rm w0 p fv vs n va vb ts us f ls wl) (hp : ∀ u ∈ us, 0 ≤ u.2) (hl : us.length ≤ 310) :
   Calls Tryz.prog 24 #[va] wl fun e w' => ∃ (r : Int) (q : Option Addr), e = .returned (.tuple #[.agg #[.int .i64 r, .pointer q], .int .i64 (if allowedB (sumZ us) then 0 else 5)]) ∧ NumA (roomB p fv va vb) w' r q (if allowedB (sumZ us) then sumZ us else 0) ∧ Below wl.heap.size wl w' := by
 have hfl := h.fits.len
 obtain ⟨t1, t2⟩ := h.lw.law wl (Below.refl _ _)
 refine (Sum_calls (RowV.of_own h.row) h.fits (by omega) t1 t2 h.lt).mono ?_
 rintro e w' ⟨hb, ⟨hx, rfl⟩ | ⟨hx, _, ha, r, q, rfl, hn⟩ | ⟨hx, hno, rfl⟩⟩
 · obtain ⟨u, h1, h2⟩ := hx
   have := hp u h1
   omega
 · rw [if_pos ((allowedB_iff _).2 ha), if_pos ((allowedB_iff _).2 ha)]
   exact ⟨r, q, rfl, hn, hb⟩
 · have hna : ¬ allowedB (sumZ us) = true := fun e => by
     rcases hno with c | c
     · omega
     · exact c ((allowedB_iff _).1 e)
   rw [if_neg hna, if_neg hna]
   exact ⟨0, none, rfl, NumA.small _ i64_0, hb⟩
theorem room_wsum {w0 wl : World} {p n : Nat} {fv va vb : Value} {vs : List Int} {ts : List TV} {us : List (Bool × Int)} {f : List Wt} (h : Rm w0 p fv vs n va vb ts us f (us.map tmOf) wl) (hp : ∀ u ∈ us, 0 ≤ u.2 ∧ wt u.2 ≤ 300) (hl : us.length ≤ 310) (hn : n + sumC 310 ≤ gMax) :
   Calls Tryz.prog 25 #[.pointer (some ⟨p, 0, none⟩), vb] wl (PostW wl p fv vs (n + sumC us.length) (sumZ us)) := by
 have hs : sumC us.length ≤ sumC 310 := by
   unfold sumC
   exact Nat.add_le_add_right (Nat.mul_le_mul hl (by omega)) 1
 have hr : RowW wl vb f := ownsRow_base h.po.own (Nat.zero_le _)
 have := wSum_calls h.lw.wl hr h.tms (fun t ht => by
   obtain ⟨u, hu, rfl⟩ := List.mem_map.1 ht
   obtain ⟨h1, h2⟩ := hp u hu
   simp only [tmOf]
   rw [show ((u.2.toNat : Nat) : Int) = u.2 by omega]
   omega) (by rw [List.length_map]; omega) (by rw [List.length_map]; omega)
 rw [List.length_map] at this
 exact this
theorem Rm.start {w0 w1 : World} {p n : Nat} {fv : Value} {vs : List Int} (h : WL w1 p fv vs n) (hnew : ∀ k, wB p fv k → w0.heap.size ≤ k) (hb : Below w0.heap.size w0 w1) (tab : Tab w0) (h0 : 0 < w0.heap.size) :
   Rm w0 p fv vs n (.slice (some ⟨w1.heap.size, 0, none⟩) 0 0) (.slice (some ⟨w1.heap.size + 1, 0, none⟩) 0 0) [] [] [] [] ((w1.alloc (.cells #[] 62)).alloc (.cells #[] 64)) := by
 have hA : Below w1.heap.size w1 ((w1.alloc (.cells #[] 62)).alloc (.cells #[] 64)) := ((Below.refl _ _).alloc (Nat.le_refl _) _).alloc (by simp) _
 have hlow := hb.trans (hA.mono hb.size)
 have hs := hb.size
 have o1 : (w1.alloc (.cells #[] 62)).ownsRow w0.heap.size 62 3 (.slice (some ⟨w1.heap.size, 0, none⟩) 0 0) 0 [] := World.ownsRow_lit w1 #[] 0 hs (by decide) rfl
 exact ⟨hlow, ⟨h.below hA, LawW.of tab h0 hlow, fun k hk => Nat.lt_of_lt_of_le h0 (hnew k hk)⟩, hnew, o1.alloc _, trivial, ⟨lit2 w1 _ hs _, fun k hk => h.off_below hA (h.off (by simp only [Value.ownBlock, Option.some.injEq] at hk; omega))⟩, trivial⟩
set_option maxRecDepth 100000 in
set_option maxHeartbeats 16000000 in
theorem NumRoom_calls {w : World} (tab : Tab w) (h0 : 0 < w.heap.size) {c l0 e0 : Int} (hc : 0 ≤ c ∧ c ≤ 65535) (hl : 0 ≤ l0 ∧ l0 ≤ 255) (he : 0 ≤ e0 ∧ e0 ≤ 255) :
   Calls Tryz.prog 5 #[.int .u16 c, .int .u8 l0, .int .u8 e0] w fun e w' => e = .returned (.bool true) ∧ Below w.heap.size w w' := by
 obtain ⟨hc0, hc1⟩ := hc
 obtain ⟨hl0, hl1⟩ := hl
 obtain ⟨he0, he1⟩ := he
 obtain ⟨N, hN⟩ : ∃ N : Nat, c % 311 = (N : Int) := Int.eq_ofNat_of_zero_le (Int.emod_nonneg c (by omega))
 obtain ⟨lv, hlv⟩ : ∃ lv : Nat, l0 % 9 = (lv : Int) := Int.eq_ofNat_of_zero_le (Int.emod_nonneg l0 (by omega))
 obtain ⟨le, hle⟩ : ∃ le : Nat, e0 % 60 = (le : Int) := Int.eq_ofNat_of_zero_le (Int.emod_nonneg e0 (by omega))
 have hN9 : (N : Int) ≤ 310 := by omega
 have hlv9 : (lv : Int) ≤ 8 := by omega
 have hle9 : (le : Int) ≤ 59 := by omega
 have HT := Lib.hid (And.intro tab h0)
 obtain ⟨i0, hi0, hy0, hy1, hy2⟩ := info_parts infoeW
 have HH0 := Lib.hid (And.intro hi0 (And.intro hy0 (And.intro hy1 hy2)))
 obtain ⟨i1, hi1, hz1, hz2, hz3⟩ := info_parts infoeT
 have HH1 := Lib.hid (And.intro hi1 (And.intro hz1 (And.intro hz2 hz3)))
 clear tab h0 hi0 hy0 hy1 hy2 hi1 hz1 hz2 hz3
 go_enter Tryz.func5, Tryz.ntmps5
 go_upto_region 2 with (first
   | (go_at_call 7; refine (wNew_calls _).mono ?_; rintro e1 w1 ⟨p, fv, rfl, hw1, hnew, hb1⟩
      have hst := Rm.start hw1 hnew hb1 HT.out.1 HT.out.2
      have HST := Lib.hid hst
      clear hw1 hnew hb1 hst))
 go_upto_region 5 with fail
 go_loopw [8, 9, 10] (fun va vb i wl => ∃ (k : Nat) (fv : Value) (vs : List Int) (aa ab : Option Addr) (ca cb : Nat) (ts : List TV) (f : List Wt), k ≤ N ∧ i = .int .i64 (k : Int) ∧ va = .slice aa k ca ∧ vb = .slice ab k cb ∧ ts.length = k ∧ f.length = k ∧ Rm w p fv vs (60013 + k * 9) (.slice aa k ca) (.slice ab k cb) ts (roomU lv le k) f ((roomU lv le k).map tmOf) wl) (fun _ _ i _ => N - (intOf i).toNat)
 case atStart => exact ⟨0, fv, [0], _, _, _, _, [], [], Nat.zero_le _, rfl, rfl, rfl, rfl, rfl, HST.out⟩
 case round =>
   obtain ⟨k, fk, vk, aa, ab, ca, cb, ts, f, hkN, rfl, rfl, rfl, htl, hfl, hR⟩ := hrel
   clear HST
   by_cases hk : k < N
   · have hk' : (k : Int) < c % 311 := by omega
     have hn0 : IntKind.i64.wrap (2 * (k : Int)) = 2 * (k : Int) := IntWalk.i64_in _ (by omega)
     have hn : IntKind.i64.wrap (2 * (k : Int) + e0 % 60) = ((2 * k + le : Nat) : Int) := by rw [IntWalk.i64_in _ (by omega)]; omega
     have hgm : gMax = 1000000000000 := rfl
     have hOf := fun W' (hW : Below wr.heap.size wr W') => wOf_calls (hR.lw.wl.below hW) (z := 2 * (k : Int) + (le : Int)) (by unfold i64; omega) (by omega)
     have hz0 : twr (2 * k + le) 0 = 2 * (k : Int) + (le : Int) := by unfold twr; omega
     have hi0 : i64 (2 * (k : Int) + (le : Int)) := by unfold i64; omega
     have HOF := Lib.hid hOf
     have HR := Lib.hid hR
     have HL := Lib.hid (And.intro htl (And.intro hfl (And.intro hz0 (And.intro hi0 (And.intro hk (show N ≤ 310 by omega))))))
     clear hOf hR htl hfl hgm hz0 hi0 hkN hk
     go_upto_region 9 with (first
       | (go_at_call 8; refine (of_calls _ _).mono ?_; rintro e3 w3 ⟨rfl, hb3⟩
          have H3 := Lib.hid hb3
          clear hb3)
       | (go_at_call 9; refine (HOF.out _ H3.out).mono ?_; rintro e4 w4 ⟨f4, s4, i4, rfl, hg4, hi4⟩
          have H4 := Lib.hid (And.intro hg4 hi4)
          clear hg4 hi4))
     have hR4 := (HR.out.below H3.out).world H4.out.1
     have hA4 : Below w4.heap.size w4 (w4.alloc (.cells #[.int .i64 (2 * (k : Int) + (le : Int)), .pointer none] 28)) := (Below.refl _ _).alloc (Nat.le_refl _) _
     have hNA : NumAt (roomB p f4 (.slice aa k ca) (.slice ab k cb)) (w4.alloc (.cells #[.int .i64 (2 * (k : Int) + (le : Int)), .pointer none] 28)) w4.heap.size (twr (2 * k + le) 0) := by
       rw [HL.out.2.2.1]; exact NumAt.new (NumA.small _ HL.out.2.2.2.1)
     have hbx : w.heap.size ≤ w4.heap.size := hR4.low.size
     obtain ⟨wm, hwm⟩ : ∃ wm, wm = w4.alloc (.cells #[.int .i64 (2 * (k : Int) + (le : Int)), .pointer none] 28) := ⟨_, rfl⟩
     have hR5 := hR4.below hA4
     rw [← hwm] at hR5 hNA ⊢
     obtain ⟨bx, hbx2⟩ : ∃ bx, bx = w4.heap.size := ⟨_, rfl⟩
     rw [← hbx2] at hNA hbx ⊢
     have hi4 := H4.out.2
     rw [← HL.out.2.2.1] at hi4
     have HM := Lib.hid (And.intro hR5 (And.intro hNA (And.intro hbx hi4)))
     clear hR4 hA4 hNA hbx hwm hR5 hbx2 hi4 H3 H4 HR HOF
     go_upto_region 10 with fail
     go_loopw [13, 14] (fun at_ jv wl => ∃ (j : Nat) (fk : Value) (vk : List Int) (q : Nat), j ≤ lv ∧ jv = .int .i64 (j : Int) ∧ at_ = .int .i64 (q : Int) ∧ Rm w p fk vk (60013 + k * 9 + 1 + j) (.slice aa k ca) (.slice ab k cb) ts (roomU lv le k) f ((roomU lv le k).map tmOf) wl ∧ vk[q]? = some (twr (2 * k + le) j) ∧ NumAt (roomB p fk (.slice aa k ca) (.slice ab k cb)) wl bx (twr (2 * k + le) j)) (fun _ jv _ => lv - (intOf jv).toNat)
     case atStart => exact ⟨0, f4, s4, i4, Nat.zero_le _, rfl, rfl, HM.out.1, HM.out.2.2.2, HM.out.2.1⟩
     case round =>
       obtain ⟨j, fk, vk, q, hjl, rfl, rfl, hR, hq, hP⟩ := hrel
       have hbx := HM.out.2.2.1
       clear HM
       by_cases hj : j < lv
       · have hj' : (j : Int) < (lv : Int) := by omega
         obtain ⟨t0, t1, t2⟩ := twr_ok (n := 2 * k + le) (by have := HL.out; omega) j (by omega)
         have htn : twr (2 * k + le) (j + 1) = 2 ^ (twr (2 * k + le) j).toNat := rfl
         obtain ⟨y, hy⟩ : ∃ y, y = twr (2 * k + le) j := ⟨_, rfl⟩
         rw [← hy] at t0 t1 t2 htn hq hP
         obtain ⟨wn, hwn⟩ : ∃ wn, wn = wr := ⟨_, rfl⟩
         subst hwn
         obtain ⟨s0, g0, p0, n0⟩ := hP
         obtain ⟨x0, x1⟩ := num_cells p0
         obtain ⟨Bq, hBq⟩ : ∃ Bq, Bq = roomB p fk (.slice aa k ca) (.slice ab k cb) := ⟨_, rfl⟩
         have hlt := hR.lt
         rw [← hBq] at n0 hlt
         have hM : ∀ W, Below wn.heap.size wn W → Calls Tryz.prog 22 #[.agg #[.int .i64 1, .pointer none], .agg #[.int .i64 s0, .pointer g0]] W fun e w' => ∃ (r : Int) (q : Option Addr), e = .returned (.tuple #[.agg #[.int .i64 r, .pointer q], .int .i64 0]) ∧ NumA Bq w' r q (2 ^ y.toNat) ∧ Below W.heap.size W w' := fun W hW =>
           shift_one (hR.lw.law.on hW) (n0.below hW) t0 (by omega) (fun q hq => Nat.lt_of_lt_of_le (hlt q hq) hW.size)
         have hC : ∀ W, Below wn.heap.size wn W → W.cell? ⟨bx, 0, none⟩ = some (.int .i64 s0) ∧ W.cell? ⟨bx, 1, none⟩ = some (.pointer g0) := fun W hW =>
           ⟨(hW.cell (p := ⟨bx, 0, none⟩) (lt_of_some p0)).trans x0, (hW.cell (p := ⟨bx, 1, none⟩) (lt_of_some p0)).trans x1⟩
         have HM := Lib.hid hM
         have HC := Lib.hid hC
         have HJ := Lib.hid (And.intro hR (And.intro hq (And.intro p0 (And.intro n0 (And.intro hBq (And.intro hy (And.intro htn (And.intro hbx (And.intro hjl (And.intro hj t0))))))))))
         have HN0 := Lib.hid (Below.refl wn.heap.size wn)
         clear hM hC hR hq p0 n0 hBq hy htn hbx hjl hj t0 t1 t2 hlt
         go_upto_region 12 with fail
         clear hlv
         go_cut [15, 16] from 48 to 53 (fun vp ve wx => Below wn.heap.size wn wx ∧ ∃ bp, vp = .pointer (some ⟨bp, 0, none⟩) ∧ ve = .int .i64 0 ∧ wn.heap.size ≤ bp ∧ NumAt Bq wx bp (2 ^ y.toNat))
         case first =>
           as_aux_lemma =>
             first
               | go_region_held3 (fun w' => w'.cell? ⟨bx, 0, none⟩ = some (.int .i64 s0) ∧ w'.cell? ⟨bx, 1, none⟩ = some (.pointer g0)) (first | exact (HC.out _ HW4.out) | exact (HC.out _ ((HW4.out.setCell (by first | exact Nat.le_refl _ | exact HW3.out.size) _).setCell (by first | exact Nat.le_refl _ | exact HW3.out.size) _)) | exact (HC.out _ (HW4.out.alloc HW4.out.size _)) | exact (HC.out _ HW3.out) | exact (HC.out _ (HW3.out.alloc HW3.out.size _)) | exact (HC.out _ (by repeat (first | exact Below.refl _ _ | refine Below.drew ?_ | refine Below.alloc ?_ (by simp) _))) | (go_keep; done))
                   (first
                   | (go_at_call 22; refine (HM.out _ (by first | exact HW3.out | exact HW3.out.alloc HW3.out.size _)).mono ?_; rintro e4 w4 ⟨r4, q4, rfl, hn4, hb4⟩
                      have hw4 : Below wn.heap.size wn w4 := Below.trans (by first | exact HW3.out | exact HW3.out.alloc HW3.out.size _) (hb4.mono (by have := HW3.out.size; first | exact this | (simp; omega)))
                      (first
                        | (have z4 := (hb4.block w3.heap.size (by simp)).trans (heap_alloc_new w3 (.cells #[.int .i64 0, .pointer none] 28))
                           obtain ⟨z40, z41⟩ := num_cells z4
                           obtain ⟨z42, z43⟩ := num_frozen z4
                           have HZ4 := Lib.hid z4
                           clear z4)
                        | (have z4 := (hb4.block wn.heap.size (lt_ofO HZ3.out)).trans HZ3.out
                           obtain ⟨z40, z41⟩ := num_cells z4
                           obtain ⟨z42, z43⟩ := num_frozen z4
                           have HZ4 := Lib.hid z4
                           clear z4)
                        | skip)
                      have HW4 := Lib.hid hw4
                      have H4 := Lib.hid hn4
                      clear hn4 hb4 hw4)
                   | (go_at_call 8; refine (of_calls _ _).mono ?_; rintro e3 w3 ⟨rfl, hb3⟩
                      have hw3 : Below wn.heap.size wn w3 := Below.trans (by repeat (first | exact Below.refl _ _ | refine Below.drew ?_ | refine Below.alloc ?_ (by simp) _)) (hb3.mono (by first | exact Nat.le_refl _ | simp))
                      (first
                        | (have z3 := (hb3.block wn.heap.size (by simp)).trans (heap_alloc_new wn (.cells #[.int .i64 0, .pointer none] 28))
                           have HZ3 := Lib.hid z3
                           clear z3)
                        | skip)
                      have HW3 := Lib.hid hw3
                      clear hb3 hw3))
               | fail
             all_goals
               (try go_wp2)
               go_meet
               first
                 | exact ⟨HW4.out.alloc HW4.out.size _, _, rfl, rfl, HW4.out.size, NumAt.new H4.out⟩
                 | exact ⟨(HW4.out.setCell (by first | exact Nat.le_refl _ | exact HW3.out.size) _).setCell (by first | exact Nat.le_refl _ | exact HW3.out.size) _, _, rfl, rfl, (by first | exact Nat.le_refl _ | exact HW3.out.size), NumAt.put HZ4.out H4.out⟩
         obtain ⟨hbw, bp, rfl, rfl, hgp, hP2⟩ := hcut
         obtain ⟨hR, hq, p0, n0, hBq, hy, htn, hbx, hjl, hj, t0⟩ := HJ.out
         have hR2 := hR.below hbw
         have p2 := (hbw.block bx (lt_of_some p0)).trans p0
         obtain ⟨s1, g1, q0, m0⟩ := hP2
         obtain ⟨y0, y1⟩ := num_cells q0
         obtain ⟨z0, z1⟩ := num_cells p2
         obtain ⟨z2, z3⟩ := num_frozen p2
         have htb := HT.out.2
         have hRp := hR2.put (s := s1) (g := g1) htb p2 hbx
         rw [hBq] at m0
         have hPp : NumAt (roomB p fk (.slice aa k ca) (.slice ab k cb)) ((wc.setCell ⟨bx, 0, none⟩ (.int .i64 s1)).setCell ⟨bx, 1, none⟩ (.pointer g1)) bx (2 ^ y.toNat) := NumAt.put p2 m0
         have hPw := wPower_calls hRp.lw.wl (x := q) (e := y.toNat) (by rw [hq]; congr 1; omega) (by have := HL.out.2.2.2.2; unfold gMax; omega)
         have HPW := Lib.hid hPw
         have HE := Lib.hid (And.intro hRp (And.intro hPp (And.intro htn (And.intro hbx hj))))
         clear hbw hgp hR hq p0 n0 hBq hy htn hbx hjl hj t0 hR2 p2 q0 m0 htb hRp hPp hPw HM HC HJ HN0 x0 x1
         as_aux_lemma =>
           go_wp2_with (first
             | (go_at_call 23; refine (HPW.out).mono ?_; rintro e7 w7 ⟨f7, s7, i7, rfl, hg7, hi7⟩
                have H7 := Lib.hid (And.intro hg7 hi7)
                clear hg7 hi7))
           obtain ⟨hRp, hPp, htn, hbx, hj⟩ := HE.out
           have hR7 := hRp.world H7.out.1
           obtain ⟨s2, g2, e2, m2⟩ := hPp
           have hP7 : NumAt (roomB p f7 (.slice aa k ca) (.slice ab k cb)) w7 bx (2 ^ y.toNat) := ⟨s2, g2, (H7.out.1.2.2.1.block bx (lt_of_some e2) (hRp.lw.wl.not e2 (by decide) (by decide))).trans e2, m2.roomW H7.out.1⟩
           exact ⟨⟨j + 1, f7, s7, i7, by omega, by go_num, rfl, hR7.more (by omega), by rw [htn]; exact H7.out.2, by rw [htn]; exact hP7⟩, by simp [intOf]; omega⟩
       · have hj' : ¬ (j : Int) < (lv : Int) := by omega
         obtain rfl : j = lv := by omega
         obtain ⟨s0, g0, p0, n0⟩ := hP
         obtain ⟨x0, x1⟩ := num_cells p0
         obtain ⟨sb, hsb⟩ : ∃ sb, sb = decide (k % 3 = 1) := ⟨_, rfl⟩
         have hsb2 : ((k : Int) % 3 == 1) = sb := by rw [hsb, Bool.eq_iff_iff, beq_iff_eq, decide_eq_true_eq]; omega
         obtain ⟨htl, hfl, _, _, hk, hN310⟩ := HL.out
         have hrow := hR.row
         rw [htl] at hrow
         have hws := hR.low.size
         have hk3 : (k : Int) ≤ 310 := by omega
         have htw := (twr_ok (n := 2 * k + le) (by omega) j (by omega)).1
         have HO := Lib.hid (And.intro hrow hws)
         have HE := Lib.hid (And.intro hR (And.intro hq (And.intro n0 (And.intro hsb htw))))
         clear hR hq p0 n0 hrow hws htl hfl hk hN310 hsb htw hbx hj hjl
         as_aux_lemma =>
           go_upto_region 18 with (first
             | (at_builtin; refine wpList_append_own_at _ rfl _ _ 59 rfl w.heap.size 62 i1 zT 3 24 Tryz.underlying59 HH1.out.1 HH1.out.2.1 HH1.out.2.2.1 HH1.out.2.2.2 rfl (by decide) _ _ _ rfl (HO.out.1.alloc _) ⟨wr.heap.size, 0, none⟩ 1 1 (cellsT (sb, s0, g0)) rfl rfl (news_alloc wr _ _ _) (by simp [cellsT, Value.oneCell']) (by unfold maxLen; omega) (by omega) (by have := HO.out.2; simp; omega) ?_; intro v7 w7 hown7 hg7 _ hat7
                obtain ⟨a7, c7, rfl⟩ := (RowV.of_own hown7).shape
                have H7 := Lib.hid (And.intro hown7 (And.intro hg7 hat7))
                clear hown7 hg7 hat7))
           obtain ⟨hown7, hg7, hat7⟩ := H7.out
           obtain ⟨hR, hq, n0, hsb, htw⟩ := HE.out
           have hR7 := hR.pushA (t := (sb, s0, g0)) (u := (sb, twr (2 * k + le) j)) (va' := .slice a7 (k + 1) c7) HT.out.2 ((Below.refl _ _).alloc (Nat.le_refl _) _) ⟨rfl, n0⟩ (by rw [HL.out.1]; exact hown7) hg7 (fun q hq => by
             rcases hat7 with e | e
             · exact .inl (e.symm.trans hq)
             · rw [e] at hq
               simp only [Option.some.injEq] at hq
               exact .inr (by rw [← hq]; simp))
           have hpo := hR7.po.own
           rw [HL.out.2.1] at hpo
           have HO2 := Lib.hid (And.intro hpo hR7.low.size)
           have HE2 := Lib.hid (And.intro hR7 (And.intro hq (And.intro hsb htw)))
           clear hown7 hg7 hat7 hR hq n0 hsb htw hR7 hpo H7 HE HO
           go_wp2_with (first
             | (at_builtin; refine wpList_append_own_at _ rfl _ _ 41 rfl w.heap.size 64 i0 zW 2 16 Tryz.underlying41 HH0.out.1 HH0.out.2.1 HH0.out.2.2.1 HH0.out.2.2.2 rfl (by decide) _ _ _ rfl (HO2.out.1.alloc _) ⟨w7.heap.size, 0, none⟩ 1 1 (cellsW (sb, q)) rfl rfl (news_alloc w7 _ _ _) (by simp [cellsW, Value.oneCell']) (by unfold maxLen; omega) (by omega) (by have := HO2.out.2; simp; omega) ?_; intro v8 w8 hown8 hg8 _ hat8
                obtain ⟨a8, c8, rfl⟩ := (RowV.of_own hown8).shape
                have H8 := Lib.hid (And.intro hown8 (And.intro hg8 hat8))
                clear hown8 hg8 hat8))
           obtain ⟨hown8, hg8, hat8⟩ := H8.out
           obtain ⟨hR7, hq, hsb, htw⟩ := HE2.out
           have hR8 := hR7.pushB (m := sb) (x := q) (e := (twr (2 * k + le) j).toNat) (vb' := .slice a8 (k + 1) c8) HT.out.2 ((Below.refl _ _).alloc (Nat.le_refl _) _) (by rw [hq]; congr 1; omega) (by rw [HL.out.2.1]; exact hown8) hg8 (fun q hq => by
             rcases hat8 with e | e
             · exact .inl (e.symm.trans hq)
             · rw [e] at hq
               simp only [Option.some.injEq] at hq
               exact .inr (by rw [← hq]; simp))
           have hus : roomU j le (k + 1) = roomU j le k ++ [(sb, twr (2 * k + le) j)] := by rw [roomU_succ, hsb]
           have hls : (roomU j le (k + 1)).map tmOf = (roomU j le k).map tmOf ++ [(sb, (twr (2 * k + le) j).toNat)] := by rw [hus, List.map_append]; rfl
           rw [← hus, ← hls] at hR8
           exact ⟨⟨k + 1, fk, vk, a7, a8, c7, c8, _, _, by have := HL.out.2.2.2.2.1; omega, by go_num, rfl, rfl, by simp [HL.out.1], by simp [HL.out.2.1], hR8.more (by omega)⟩, by have := HL.out.2.2.2.2.1; simp only [intOf]; omega⟩
   · have hk' : ¬ (k : Int) < c % 311 := by omega
     obtain rfl : k = N := by omega
     have hus := roomU_ok (lv := lv) (le := le) (k := k) (by omega) (by omega) (by omega)
     have hul := roomU_len lv le k
     obtain ⟨us, hUs⟩ : ∃ us, us = roomU lv le k := ⟨_, rfl⟩
     rw [← hUs] at hus hul hR
     have hsc : 60013 + k * 9 + sumC 310 ≤ gMax := by unfold sumC gMax; omega
     have hSum := room_sum hR (fun u hu => (hus u hu).1) (by omega)
     have hWs := fun W' (hW : Below wr.heap.size wr W') => room_wsum (hR.below hW) hus (by omega) hsc
     obtain ⟨Z, hZ⟩ : ∃ Z, Z = sumZ us := ⟨_, rfl⟩
     rw [← hZ] at hSum hWs
     cases hab : allowedB Z with
     | false =>
       rw [hab] at hSum
       simp only [Bool.false_eq_true, if_false] at hSum
       have HSUM := Lib.hid hSum
       have HWS := Lib.hid hWs
       have HR := Lib.hid (And.intro hR hab)
       clear hus hul hUs hsc hSum hWs hZ hR htl hfl hkN hk hab
       go_upto_region 22 with (first
         | (go_at_call 24; refine (HSUM.out).mono ?_; rintro e5 w5 ⟨r5, q5, rfl, hn5, hb5⟩
            have H5 := Lib.hid (And.intro hn5 hb5)
            clear hn5 hb5)
         | (go_at_call 25; refine (HWS.out _ (by repeat (first | with_reducible exact H5.out.2 | with_reducible exact Below.refl _ _ | with_reducible refine Below.alloc ?_ (by first | exact H5.out.2.size | simp) _))).mono ?_; rintro e6 w6 ⟨f6, s6, i6, rfl, hg6, hi6⟩
            have HAL := Lib.hid (wAllowed_calls hg6.1 hi6)
            have H6 := Lib.hid (And.intro hg6 hi6)
            clear hg6 hi6)
         | (go_at_call 26; refine (HAL.out).mono ?_; rintro e7 w7 ⟨rfl, hb7⟩
            rw [HR.out.2]
            have H7 := Lib.hid hb7
            clear hb7))
       obtain ⟨hn5, hb5⟩ := H5.out
       obtain ⟨hg6, hi6⟩ := H6.out
       have hA5 : Below w5.heap.size w5 (w5.alloc (.cells #[.int .i64 r5, .pointer q5] 28)) := (Below.refl _ _).alloc (Nat.le_refl _) _
       have hRa := (HR.out.1.below hb5).below hA5
       have hR7 := (hRa.world hg6).below H7.out
       have hn7 := ((hn5.below hA5).roomW hg6).below H7.out
       have p5 := heap_alloc_new w5 (.cells #[.int .i64 r5, .pointer q5] 28)
       have p6 := (hg6.2.2.1.block w5.heap.size (by simp) (hRa.lw.wl.not p5 (by decide) (by decide))).trans p5
       have p7 := (H7.out.block w5.heap.size (lt_of_some p6)).trans p6
       obtain ⟨bs, hbs⟩ : ∃ bs, bs = w5.heap.size := ⟨_, rfl⟩
       rw [← hbs] at p7 ⊢
       obtain ⟨x0, x1⟩ := num_cells p7
       have hC : ∀ W, Below w7.heap.size w7 W → W.cell? ⟨bs, 0, none⟩ = some (.int .i64 r5) ∧ W.cell? ⟨bs, 1, none⟩ = some (.pointer q5) := fun W hW =>
         ⟨(hW.cell (p := ⟨bs, 0, none⟩) (lt_of_some p7)).trans x0, (hW.cell (p := ⟨bs, 1, none⟩) (lt_of_some p7)).trans x1⟩
       have HC := Lib.hid hC
       have HN := Lib.hid (Below.refl w7.heap.size w7)
       have hZ0 := hR7.lw.law.same hn7 (NumA.small (B := cold) w7 i64_0)
       have HSM := Lib.hid hZ0
       have HOF := Lib.hid (hR7.lw.law.of_ 0)
       have HAW := Lib.hid hR7.lw.law.awake
       have HE := Lib.hid hR7.low
       clear hn5 hb5 hg6 hi6 hA5 hRa hR7 hn7 p5 p6 p7 hbs hC hZ0 H5 H6 H7 HR HWS HSUM HAL
       as_aux_lemma =>
         first
           | go_region_held3 (fun W => W.cell? ⟨bs, 0, none⟩ = some (.int .i64 r5) ∧ W.cell? ⟨bs, 1, none⟩ = some (.pointer q5)) (exact HC.out _ (by repeat (first | with_reducible exact HN.out | with_reducible exact Below.refl _ _ | with_reducible refine Below.drew ?_ | with_reducible refine below_drewN ?_ _)))
               (first
               | (go_at_call 8; refine (HOF.out _ (by repeat (first | with_reducible exact HN.out | with_reducible exact Below.refl _ _ | with_reducible refine Below.drew ?_ | with_reducible refine below_drewN ?_ _))).mono ?_; rintro e8 w8 ⟨rfl, hb8⟩
                  have HN := Lib.hid hb8
                  clear hb8)
               | (go_at_call 12; refine (HSM.out _ (by repeat (first | with_reducible exact HN.out | with_reducible exact Below.refl _ _ | with_reducible refine Below.drew ?_ | with_reducible refine below_drewN ?_ _))).mono ?_; rintro e8 w8 ⟨rfl, hb8⟩
                  have HN := Lib.hid hb8
                  clear hb8)
               | (go_at_call 6; refine (HAW.out _ (by repeat (first | with_reducible exact HN.out | with_reducible exact Below.refl _ _ | with_reducible refine Below.drew ?_ | with_reducible refine below_drewN ?_ _))).mono ?_; rintro e8 w8 ⟨rfl, hb8⟩
                  have HN := Lib.hid hb8
                  clear hb8))
           | fail
         all_goals
           (try go_wp2)
           refine bodyPost_ret (v := .bool true) (by simp [results, Tryz.results5, go_sem]) rfl ⟨rfl, HE.out.trans (HN.out.mono HE.out.size)⟩
     | true =>
       rw [hab] at hSum
       simp only [if_true] at hSum
       have HSUM := Lib.hid hSum
       have HWS := Lib.hid hWs
       have HR := Lib.hid (And.intro hR hab)
       clear hus hul hUs hsc hSum hWs hZ hR htl hfl hkN hk hab
       go_upto_region 23 with (first
         | (go_at_call 24; refine (HSUM.out).mono ?_; rintro e5 w5 ⟨r5, q5, rfl, hn5, hb5⟩
            have H5 := Lib.hid (And.intro hn5 hb5)
            clear hn5 hb5)
         | (go_at_call 25; refine (HWS.out _ (by repeat (first | with_reducible exact H5.out.2 | with_reducible exact Below.refl _ _ | with_reducible refine Below.alloc ?_ (by first | exact H5.out.2.size | simp) _))).mono ?_; rintro e6 w6 ⟨f6, s6, i6, rfl, hg6, hi6⟩
            have HAL := Lib.hid (wAllowed_calls hg6.1 hi6)
            have H6 := Lib.hid (And.intro hg6 hi6)
            clear hg6 hi6)
         | (go_at_call 26; refine (HAL.out).mono ?_; rintro e7 w7 ⟨rfl, hb7⟩
            rw [HR.out.2]
            have H7 := Lib.hid hb7
            clear hb7))
       obtain ⟨hn5, hb5⟩ := H5.out
       obtain ⟨hg6, hi6⟩ := H6.out
       have hA5 : Below w5.heap.size w5 (w5.alloc (.cells #[.int .i64 r5, .pointer q5] 28)) := (Below.refl _ _).alloc (Nat.le_refl _) _
       have hRa := (HR.out.1.below hb5).below hA5
       have hR7 := (hRa.world hg6).below H7.out
       have hn7 := ((hn5.below hA5).roomW hg6).below H7.out
       have p5 := heap_alloc_new w5 (.cells #[.int .i64 r5, .pointer q5] 28)
       have p6 := (hg6.2.2.1.block w5.heap.size (by simp) (hRa.lw.wl.not p5 (by decide) (by decide))).trans p5
       have p7 := (H7.out.block w5.heap.size (lt_of_some p6)).trans p6
       obtain ⟨bs, hbs⟩ : ∃ bs, bs = w5.heap.size := ⟨_, rfl⟩
       rw [← hbs] at p7 ⊢
       obtain ⟨x0, x1⟩ := num_cells p7
       have hC : ∀ W, Below w7.heap.size w7 W → W.cell? ⟨bs, 0, none⟩ = some (.int .i64 r5) ∧ W.cell? ⟨bs, 1, none⟩ = some (.pointer q5) := fun W hW =>
         ⟨(hW.cell (p := ⟨bs, 0, none⟩) (lt_of_some p7)).trans x0, (hW.cell (p := ⟨bs, 1, none⟩) (lt_of_some p7)).trans x1⟩
       have HC := Lib.hid hC
       have HN := Lib.hid (Below.refl w7.heap.size w7)
       have hi7 := hi6
       have hnw : NumA (wB p f6) w7 r5 q5 Z := hn7.grow (fun i hi => .inl (.inl hi))
       have hTl := tells_calls hR7.lw hnw hi7
       have HTL := Lib.hid hTl
       have HE := Lib.hid hR7
       clear hn5 hb5 hg6 hi6 hA5 hRa hR7 hn7 p5 p6 p7 hbs hC hi7 hnw hTl H5 H6 H7 HR HWS HSUM HAL
       as_aux_lemma =>
         go_wp2_with (first
           | (go_at_call 14; refine (HTL.out).mono ?_; rintro e8 w8 ⟨rfl, f8, s8, hg8⟩
              have hR8 := HE.out.world hg8
              have HAW := Lib.hid hR8.lw.law.awake
              have H8 := Lib.hid hR8.low
              have HN := Lib.hid (Below.refl w8.heap.size w8)
              clear hg8 hR8)
           | (go_at_call 6; refine (HAW.out _ (by repeat (first | with_reducible exact HN.out | with_reducible exact Below.refl _ _ | with_reducible refine Below.drew ?_ | with_reducible refine below_drewN ?_ _))).mono ?_; rintro e9 w9 ⟨rfl, hb9⟩
              have HN := Lib.hid hb9
              clear hb9))
         refine bodyPost_ret (v := .bool true) (by simp [results, Tryz.results5, go_sem]) rfl ⟨rfl, H8.out.trans (HN.out.mono H8.out.size)⟩
end Go.Proofs.YtlkmgclbckojgaaGreatDoor
namespace Go.Proofs.YtlkmgclbckojgaaGreatDoor
open Go.ChangeShapes Go.WideShapes Go.ChangeAt Go.RowKit
set_option linter.unusedVariables false
theorem post_ints {H : Type} {enc : TypeId × Value → H} {P : Program} {f : Func} {s : ChangeSpec} {apart fresh handsOn again : Bool} {W W' : World} {args : Array Value} {v : Value} {ds gs : List (DataW H)}
   (hW : DataW.Whole enc P f.params.toList s.vars apart W args.toList ds gs []) (hb : Below W.heap.size W W')
   (hr : ∀ (b : Nat) (sp : Nat → Bool) (hd : Bool), DataW.TrodAll enc P W' b sp hd f.resultTypes.toList (v.resultList f.resultTypes.size) (s.fn H (ds ++ gs)).results [])
   (ha : ∀ sp : Nat → Bool, DataW.TrodAll enc P W' 0 sp true f.params.toList args.toList (s.fn H (ds ++ gs)).args [])
   (hv : ∀ sp : Nat → Bool, DataW.TrodVars enc P W' sp s.vars (s.fn H (ds ++ gs)).vars [])
   (hok : ∀ (j : Nat) (t : TypeId) (r : Value), f.resultTypes[j]? = some t → (v.resultList f.resultTypes.size)[j]? = some r → Value.okWide P W' .any 0 t r) :
   s.post enc P f apart fresh handsOn again W args v W' := by
 refine ⟨ds, gs, [], [], [], [], hW, hr _ _ _, ha _, hv _, World.keptBut_mono (fun p hp => by cases hp) (hb.frame (fun _ => False)), fun _ => ?_⟩
 refine ⟨hok, _, _, [], ⟨[], [], trodAll_append (ha _) (hr _ _ _), hv _, rfl, (fun b off hp => by cases hp), fun _ => List.nodup_nil⟩, by intro p hp; cases hp⟩
theorem wf_u16 {n : Int} (h : (Lit.int .u16 n).wf = true) : 0 ≤ n ∧ n ≤ 65535 := by
 have h1 : IntKind.u16.min = 0 := by decide
 have h2 : IntKind.u16.max = 65535 := by decide
 simp only [Lit.wf, Bool.and_eq_true, decide_eq_true_eq] at h
 rw [h1, h2] at h
 exact h
theorem wf_u8 {n : Int} (h : (Lit.int .u8 n).wf = true) : 0 ≤ n ∧ n ≤ 255 := by
 have h1 : IntKind.u8.min = 0 := by decide
 have h2 : IntKind.u8.max = 255 := by decide
 simp only [Lit.wf, Bool.and_eq_true, decide_eq_true_eq] at h
 rw [h1, h2] at h
 exact h
set_option maxRecDepth 100000 in
theorem NumRoom_contract (H : Type) (enc : TypeId × Value → H) (W : World) (base : Nat) (args : Array Value) (ds gs : List (DataW H)) (before : List MemPlace)
   (hval : ∀ (j : Nat) t v, Tryz.f5.params[j]? = some t → args[j]? = some v → Value.okWide Tryz.prog W .any base t v)
   (hW : DataW.Whole enc Tryz.prog Tryz.f5.params.toList Rows.numRoomSpec.vars false W args.toList ds gs before) (hL : laidMetH Tryz.prog Rows.numRoomRow.laid W) :
   Calls Tryz.prog 5 args W fun e W' => ∃ v, e = .returned v ∧ Rows.numRoomSpec.post enc Tryz.prog Tryz.f5 false true false false W args v W' := by
 have hW' := hW
 obtain ⟨p, q, hA0, hV, rfl, hfz, hnd⟩ := hW
 have hA : DataW.TrodAll enc Tryz.prog W 0 (fun _ => true) true Tryz.f5.params.toList args.toList ds p := hA0
 rw [Tryz.params5] at hA hval
 obtain ⟨v0, vs0, d0, ds0, p0, q0, hargs, rfl, rfl, h0, r0⟩ := trodAll_cons hA
 obtain ⟨v1, vs1, d1, ds1, p1, q1, rfl, rfl, rfl, h1, r1⟩ := trodAll_cons r0
 obtain ⟨v2, vs2, d2, ds2, p2, q2, rfl, rfl, rfl, h2, r2⟩ := trodAll_cons r1
 obtain ⟨rfl, rfl, rfl⟩ := trodAll_nil r2
 obtain rfl : args = #[v0, v1, v2] := by cases args; simp_all
 obtain ⟨rfl, rfl⟩ := trodVars_none hV
 obtain ⟨a0, rfl, rfl, rfl, w0⟩ := open_int Tryz.underlying58 (hval 0 58 v0 rfl rfl) h0
 obtain ⟨a1, rfl, rfl, rfl, w1⟩ := open_int Tryz.underlying5 (hval 1 5 v1 rfl rfl) h1
 obtain ⟨a2, rfl, rfl, rfl, w2⟩ := open_int Tryz.underlying5 (hval 2 5 v2 rfl rfl) h2
 clear hA0 hval
 simp only [List.append_nil] at hW'
 have tab := tab_laid hL
 refine (NumRoom_calls tab (size_tab tab) (wf_u16 w0) (wf_u8 w1) (wf_u8 w2)).mono fun e W' ⟨he, hg⟩ => ?_
 subst he
 exact ⟨_, rfl, post_ints hW' hg (fun _ _ _ => trodAll_cons_mk (shut_bool Tryz.underlying4 _) trodAll_mk0) (fun sp => trodAll_cons_mk (shut_int Tryz.underlying58 w0) (trodAll_cons_mk (shut_int Tryz.underlying5 w1) (trodAll_cons_mk (shut_int Tryz.underlying5 w2) trodAll_mk0))) (fun _ => rfl)
   (ok_one (by kernel_rfl) rfl (okWide_bool_mk Tryz.underlying4 _))⟩
end Go.Proofs.YtlkmgclbckojgaaGreatDoor
