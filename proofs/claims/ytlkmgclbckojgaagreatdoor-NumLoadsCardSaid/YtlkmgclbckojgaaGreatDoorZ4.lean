import Derived.Test.YtlkmgclbckojgaaGreatDoorZ2
import Derived.Deep.CutRange
import Derived.Deep.CutBlock
import Derived.Deep.LoopGhost
set_option linter.unusedVariables false
set_option linter.unusedSimpArgs false
set_option maxHeartbeats 16000000
set_option maxRecDepth 100000
namespace Go.Proofs.YtlkmgclbckojgaaGreatDoor
section
open Go.RowKit
theorem Zmq {γ M n n' : Nat} (h : n' < n) (hM : n ≤ M) : 2 * γ * (M - n) + γ + γ ≤ 2 * γ * (M - n') := by
 have h1 : 2 * γ * (M - n + 1) ≤ 2 * γ * (M - n') := Nat.mul_le_mul_left _ (by omega)
 rw [Nat.mul_add, Nat.mul_one] at h1
 omega
theorem Zqg {γ M n : Nat} (h : 0 < n) (hM : n ≤ M) : 2 * γ * (M - n) + γ + γ ≤ 2 * γ * M := by
 have := Zmq (γ := γ) (n' := 0) h hM
 simpa using this
theorem Zqq {γ M n : Nat} : 2 * γ * (M - n) ≤ 2 * γ * M := Nat.mul_le_mul_left _ (by omega)
theorem Orig.ok {l : List Tm} {formed M a n B : Nat} (h : Orig l formed M a n) (hM : M ≤ 180000) (hB : ∀ u ∈ l.drop formed, u.2 + 180000 < B) (hW : ∀ u ∈ l.drop formed, wt (u.2 : Int) ≤ 29900) : a < B ∧ wt (a : Int) ≤ 29999 := by
 obtain ⟨e, he, k, rfl, hk⟩ := h
 have h1 := hB e he
 have h2 := hW e he
 have h3 := Zrb (e := e.2) (k := k) (by omega)
 exact ⟨by omega, by omega⟩
def SetR (w : World) (sb : Nat) (F H : Nat → Prop) (D : Addr → Option Int) (K : List Addr) (G : StG) (γ : Nat) (l : List Tm) (formed M ab n : Nat) (o c lf : Value) (wr : World) : Prop :=
 ∃ (L : Nat) (cc : Int) (a : Nat) (s : Int) (g : Option Addr) (outl : List Tm) (outs : List TV) (Dr : Addr → Option Int), lf = .int .i64 L ∧ c = .int .i64 cc ∧ SetO l formed M n L cc a outl ∧ (cc ≠ 0 → ValD Dr s g (a : Int)) ∧
   wr.heap[ab]? = some (.cells #[.int .i64 s, .pointer g] 28 (0, 0)) ∧ TVals Dr outs outl ∧ outl.length + n ≤ M ∧ OutG w sb F H (fun k => k = ab) D K G (2 * γ * (M - n)) wr o outs.length (flatT outs) Dr
theorem SetO.pos {l : List Tm} {formed M n L : Nat} {c : Int} {a : Nat} {out : List Tm} (h : SetO l formed M n L c a out) (hr : formed < L ∨ c ≠ 0) : 0 < n ∧ 0 < l.length := by
 have hl := h.o.hl
 have hc := h.o.hc
 by_cases hz : c = 0
 · have := h.z hz
   rcases hr with x | x
   · omega
   · exact absurd hz x
 · have := h.mu hz
   unfold muP at this
   omega
theorem TVals.rev {D : Addr → Option Int} : ∀ {ts : List TV} {l : List Tm}, TVals D ts l → TVals D ts.reverse l.reverse
 | [], [], _ => trivial
 | t :: ts, u :: l, h => by
   rw [List.reverse_cons, List.reverse_cons]
   exact TVals.append h.2.rev ⟨h.1, trivial⟩
theorem Zl2 {w : World} {x : Nat} {c : Array Value} (h : w.heap[x]? = some (.cells c 28 (0, 0))) (hc : c.size = 2) (s : Int) (g : Option Addr) :
   ((w.setCell ⟨x, 0, none⟩ (.int .i64 s)).setCell ⟨x, 1, none⟩ (.pointer g)).heap[x]? = some (.cells #[.int .i64 s, .pointer g] 28 (0, 0)) := by
 obtain ⟨l⟩ := c
 match l, hc with
 | [a, b], _ => simp [World.setCell, Array.getElem?_modify, h]
theorem Zae {w : World} {b : Nat} {c : Array Value} {t : TypeId} (h : w.heap[b]? = some (.cells c t (0, 0))) : w.frozen? ⟨b, 0, none⟩ = false ∧ w.frozen? ⟨b, 1, none⟩ = false := by
 refine ⟨?_, ?_⟩ <;> simp [World.frozen?, h]
theorem Zkw {γ sb B : Nat} (hN : NextC γ sb B) {H : Nat → Prop} {w : World} {F : Nat → Prop} {D : Addr → Option Int} {K : List Addr} {G : StG} (hm : StMem w sb F G) (hi : StInv w (hot H F) D K G) (hH : ∀ k, H k → k < w.heap.size)
   {vA : Value} {ts : List TV} {l : List Tm} (hr : RowF w (hot H F) 3 vA ts.length (flatT ts)) (ht : TVals D ts l) (hf : Falls l) {formed : Nat} (hfo : formed ≤ ts.length) (hna : NA (l.take formed)) (hlen : ts.length ≤ 30000)
   (hB : ∀ u ∈ l.drop formed, u.2 + 180000 < B) (hW : ∀ u ∈ l.drop formed, wt (u.2 : Int) ≤ 29900) (hbig : K.length + 2 * γ * (6 * ts.length) + 1 ≤ big) :
   Calls Tryz.prog 92 #[.pointer (some ⟨sb, 0, none⟩), vA, .int .i64 formed] w fun x w' => ∃ (v : Value) (zs : List TV) (m : List Tm) (F' : Nat → Prop) (D' : Addr → Option Int) (K' : List Addr) (G' : StG), x = .returned v ∧ TVals D' zs m ∧ NA m ∧ val m = val l ∧
     RowF w' (hot H F') 3 v zs.length (flatT zs) ∧ GrowMem w sb F H D K G (2 * γ * (6 * ts.length)) w' F' D' K' G' := by
 have hll := ht.len
 obtain ⟨tn, htn⟩ : ∃ tn, tn = ts.length := ⟨_, rfl⟩
 rw [← htn] at hr hfo hlen hbig hll ⊢
 replace hll : tn ≤ l.length ∧ l.length ≤ tn := by omega
 obtain ⟨ax, cp, rfl⟩ := hr.1.shape
 have hb1 : Below w.heap.size w (w.alloc (.cells #[.int .i64 0, .pointer none] 28)) := (zb).alloc (zl) _
 have hab0 := heap_alloc_new w (.cells #[.int .i64 0, .pointer none] 28)
 have hO0 : OutG w sb F H (fun k => k = w.heap.size) D K G 0 (w.alloc (.cells #[.int .i64 0, .pointer none] 28)) (.slice none 0 0) 0 [] D := OutG.start hm hi hb1 (by rintro k rfl; exact ⟨zl, _, _, hab0⟩)
 have hpos : 0 < w.heap.size := by have := hm.lt; have := hm.pos; omega
 have hfo0 : (0 : Int) ≤ formed := by omega
 have hfo9 : (formed : Int) ≤ 30000 := by omega
 have hlen9 : (tn : Int) ≤ 30000 := by omega
 obtain ⟨i0, hi0, hz0, hz1, hz2⟩ := info_parts infoeT
 have HX := zh (zi hH (zi hr (zi ht (zi hf (zi hna (zi hB (zi hW (zi hbig (zi hll (zi hN htn))))))))))
 have HO := zh (zi hO0 hab0)
 have HI := zh (zi hi0 (zi hz0 (zi hz1 hz2)))
 clear hm hi hH hr ht hf hna hB hW hbig hll hO0 hab0 hN hb1 hi0 hz0 hz1 hz2 htn
 go_enter Tryz.func92, Tryz.ntmps92
 go_wp2
 go_loopg [7, 9, 10] (6 * tn) (fun n o c lf wr => SetR w sb F H D K G γ l formed (6 * tn) w.heap.size n o c lf wr)
 case atStart =>
   obtain ⟨hO0, hab0⟩ := HO.out
   have hll := HX.out.2.2.2.2.2.2.2.2.1
   have hst := SetO.start l formed
   rw [show l.length = tn by omega] at hst
   exact ⟨tn, 0, 0, 0, none, [], [], D, by simp, rfl, hst, fun h => absurd rfl h, hab0, trivial, by simp, by simpa [Zcb] using hO0⟩
 case round =>
   obtain ⟨L, cc, a, s, g, outl, outs, Dr, rfl, rfl, hS, hv, hab, htv, hol, hO⟩ := hrel
   clear HO
   have hL9 : (L : Int) ≤ 30000 := by have := hS.o.hl; have := HX.out.2.2.2.2.2.2.2.2.1; omega
   have hLn : (L : Int) ≤ (tn : Int) := by have := hS.o.hl; have := HX.out.2.2.2.2.2.2.2.2.1; omega
   have HR := zh (zi hS (zi hv (zi hab (zi htv (zi hol hO)))))
   clear hS hv hab htv hol hO
   go_upto_region 5 with fail
   go_cut [9, 10, 20] from 14 to 76 (fun c lf t wx => c = .int .i64 cc ∧ lf = .int .i64 (L : Nat) ∧ t = .bool (decide (formed < L ∨ cc ≠ 0)) ∧ wx = wr)
   case first =>
     by_cases h1 : formed < L
     · have h1' : (formed : Int) < (L : Int) := by omega
       go_wp2_with fail
       go_meet
       exact ⟨rfl, rfl, by simp [h1], rfl⟩
     · have h1' : ¬ (formed : Int) < (L : Int) := by omega
       by_cases h2 : cc = 0
       · subst h2
         go_wp2_with fail
         go_meet
         exact ⟨rfl, rfl, by simp [h1], rfl⟩
       · have h3 : (cc == 0) = false := by simp [h2]
         go_wp2_with fail
         go_meet
         exact ⟨rfl, rfl, by simp [h1, h2], rfl⟩
   case rest =>
     obtain ⟨rfl, rfl, rfl, rfl⟩ := hcut
     by_cases hgo : formed < L ∨ cc ≠ 0
     · have hgd : decide (formed < L ∨ cc ≠ 0) = true := by simpa using hgo
       obtain ⟨hS, hv, hab, htv, hol, hO⟩ := HR.out
       obtain ⟨hH, hr, ht, hf, hna, hB, hW, hbig, hll, hN, htn⟩ := HX.out
       obtain ⟨hn0, hl0⟩ := hS.pos hgo
       obtain ⟨b, o, rfl⟩ : ∃ bx ox, ax = some ⟨bx, ox, none⟩ := by
         rcases hr.1.2 with ⟨e, h0⟩ | ⟨b1, off1, cap1, e1, p1, p2, p3, p4⟩
         · omega
         · cases e1; exact ⟨_, _, rfl⟩
       have hrow : ∀ W, RowV W 3 (.slice (some ⟨b, o, none⟩) tn cp) tn (flatT ts) → ∀ i (h : i < ts.length), W.cell? ⟨b, o + i * 3, none⟩ = some (.bool ts[i].1) ∧ W.cell? ⟨b, o + i * 3 + 1, none⟩ = some (.int .i64 ts[i].2.1) ∧ W.cell? ⟨b, o + i * 3 + 2, none⟩ = some (.pointer ts[i].2.2) := fun W h i hi => RowC.term h.rowC i hi
       have hcap : tn ≤ cp ∧ cp ≤ maxLen := by
         rcases hr.1.2 with ⟨e, h0⟩ | ⟨b1, off1, cap1, e1, p1, p2, p3, p4⟩
         · cases e
         · cases e1; exact ⟨p1, p2⟩
       have hLl := hS.o.hl
       have hM6 : 6 * tn ≤ 180000 := by omega
       have HW := zh hrow
       clear hH hr ht hf hna hB hW hbig hN hrow htn
       rw [hgd]
       go_upto_if 22 with fail
       go_cut [9, 10] from 14 to 76 (fun c lf wx => c = .int .i64 cc ∧ lf = .int .i64 (L : Nat) ∧ ∃ (a : Nat) (s : Int) (g : Option Addr), SetM l formed (6 * tn) gk L cc L cc a outl ∧ ValD Dr s g (a : Int) ∧ wx.heap[w.heap.size]? = some (.cells #[.int .i64 s, .pointer g] 28 (0, 0)) ∧ OutG w sb F H (fun k => k = w.heap.size) D K G (2 * γ * (6 * tn - gk)) wx u7 outs.length (flatT outs) Dr)
       case first =>
         by_cases h2 : cc = 0
         · subst h2
           have hfl : formed < L := by
             rcases hgo with x | x
             · exact x
             · exact absurd rfl x
           have hml : L - 1 < ts.length := by have := HX.out.2.2.2.2.2.2.2.2.2.2; omega
           obtain ⟨q0, q1, q2⟩ := HW.out wc (hO.row HX.out.2.1) (L - 1) hml
           have hgv := (HX.out.2.2.1.get (L - 1) hml (by omega)).2
           have hbg := hS.begin HX.out.2.2.2.1 hfl (t := l[L - 1]'(by omega)) (List.getElem?_eq_getElem (by omega))
           generalize ts[L - 1] = tm at q0 q1 q2 hgv
           generalize l[L - 1]'(by omega) = um at hgv hbg
           obtain ⟨m1, s1, g1⟩ := tm
           simp only at q0 q1 q2 hgv
           have hidx : ((L : Int) - 1).toNat = L - 1 := by omega
           have hw1 : IntKind.i64.wrap ((L : Int) - 1) = (L : Int) - 1 := IntWalk.i64_in _ (by omega)
           have hw0 : (1 : Int) ≤ (L : Int) := by omega
           have hw9 : (L : Int) ≤ 9223372036854775807 := by omega
           have hw2 : (0 : Int) ≤ (L : Int) - 1 := by omega
           have hw3 : (L : Int) - 1 < (tn : Int) := by omega
           obtain ⟨f0, f1⟩ := Zae hab
           obtain ⟨c0, c1⟩ := Zab hab
           have HQ := zh (zi hS (zi hab (zi hO (zi hgv hbg))))
           clear hS hv hab htv hol hO hgv hbg hgo
           go_wp2_with fail
           go_meet
           obtain ⟨hS, hab, hO, hgv, hbg⟩ := HQ.out
           exact ⟨rfl, rfl, um.2, s1, g1, hbg, hgv.mono hO.d, Zl2 hab rfl s1 g1, (hO.set hpos rfl 0 _).set hpos rfl 1 _⟩
         · have h3 : (cc == 0) = false := by simp [h2]
           have HQ := zh (zi hS (zi hab (zi hO hv)))
           clear hS hv hab htv hol hO hgo
           go_wp2_with fail
           go_meet
           obtain ⟨hS, hab, hO, hv⟩ := HQ.out
           exact ⟨rfl, rfl, a, s, g, hS.go h2, hv h2, hab, hO⟩
       case rest =>
         clear hv hab hO hS hgd
         obtain ⟨rfl, rfl, a, s, g, hM, hva, hab, hO⟩ := hcut
         obtain ⟨wa, hwa⟩ : ∃ wa, wa = wc := ⟨_, rfl⟩
         subst hwa
         go_upto_block 2 with fail
         go_cut [9, 10] from 14 to 76 (fun c lf wx => ∃ (L' : Nat) (c' : Int), c = .int .i64 c' ∧ lf = .int .i64 (L' : Nat) ∧ SetM l formed (6 * tn) gk L cc L' c' a outl ∧ Done l L' a ∧ Below wa.heap.size wa wx)
         case first =>
           have HQ := zh (zi hva (zi hab (zi hO hM)))
           clear hva hab hO hM htv hol
           go_wp2_with fail
           go_loopw [9, 10] (fun c lf wx => ∃ (L' : Nat) (c' : Int), c = .int .i64 c' ∧ lf = .int .i64 (L' : Nat) ∧ SetM l formed (6 * tn) gk L cc L' c' a outl ∧ Below wa.heap.size wa wx) (fun _ lf _ => (intOf lf).toNat)
           case atStart => exact ⟨L, cc, rfl, rfl, HQ.out.2.2.2, zb⟩
           case round =>
             obtain ⟨L', c', rfl, rfl, hM, hbl⟩ := hrel
             obtain ⟨hva, hab, hO, _⟩ := HQ.out
             have hle := hM.le
             have hmc := hM.m.hc
             have hO' := hO.below hbl
             have hab' := (hbl.block _ (Zad hab)).trans hab
             by_cases h0 : 0 < L'
             · have hml : L' - 1 < ts.length := by have := HX.out.2.2.2.2.2.2.2.2.2.2; omega
               obtain ⟨q0, q1, q2⟩ := HW.out wr (hO'.row HX.out.2.1) (L' - 1) hml
               have hgt := HX.out.2.2.1.get (L' - 1) hml (by omega)
               have hlg : l[L' - 1]? = some (l[L' - 1]'(by omega)) := List.getElem?_eq_getElem (by omega)
               generalize ts[L' - 1] = tm at q0 q1 q2 hgt
               generalize l[L' - 1]'(by omega) = um at hgt hlg
               obtain ⟨m1, s1, g1⟩ := tm
               simp only at q0 q1 q2 hgt
               obtain ⟨hgb, hgv⟩ := hgt
               have hsame := hO.same (hgv.mono hO.d) hva
               have hp1 := hO'.ptr (hgv.mono hO.d)
               have hp2 := hO'.ptr hva
               have hq := Zf3 wr.drew 9998 g1 g hp1 hp2
               obtain ⟨m, hm⟩ : ∃ m : Nat, m = L' - 1 := ⟨_, rfl⟩
               rw [← hm] at q0 q1 q2
               have hsub : (L' : Int) - 1 = (m : Int) := by omega
               have hw1 : IntKind.i64.wrap ((L' : Int) - 1) = (m : Int) := by rw [hsub]; exact IntWalk.i64_in _ (by omega)
               have hw2 : (0 : Int) ≤ (m : Int) := by omega
               have hw3 : (m : Int) < (tn : Int) := by omega
               have hw4 : (0 : Int) < (L' : Int) := by omega
               have hw5 : 0 < L' := h0
               have hw6 : IntKind.i64.wrap (m : Int) = (m : Int) := IntWalk.i64_in _ (by omega)
               have hcb : -40000 ≤ c' ∧ c' ≤ 40000 := by omega
               have hsb : -1 ≤ sg m1 ∧ sg m1 ≤ 1 := by cases m1 <;> simp [sg]
               obtain ⟨c0, c1⟩ := Zab hab'
               by_cases he : um.2 = a
               · have hd : decide ((a : Int) = (um.2 : Int)) = true := by simp [he]
                 rw [hd] at hsame
                 simp only [Bool.and_eq_true, beq_iff_eq] at hsame
                 obtain ⟨rfl, rfl⟩ := hsame
                 rw [show (g1 == g1) = true by simp] at hq
                 have HZ := zh (zi hM (zi hbl (zi hlg (zi hgb (zi he (zi h0 hm))))))
                 clear hva hab hO hM hbl hO' hab' hlg hgb he h0 hgv hp1 hp2 hd hle hmc hm
                 go_wp2
                 first
                   | go_region
                   | fail
                 all_goals
                   go_wp2_with (first
                     | (go_at_call 71; refine (Zbk _ _ _ _).mono ?_; rintro e w2 ⟨rfl, hb2⟩))
                   go_roundw
                   case rel =>
                     obtain ⟨hM, hbl, hlg, hgb, he, h0, hm⟩ := HZ.out
                     refine ⟨L' - 1, c' + sg um.1, ?_, ?_, hM.eat h0 hlg he, ?_⟩
                     · rw [← hgb]
                     · rw [hm]
                     · exact hbl.drew.trans (hb2.mono (by have := hbl.size; exact this))
                   case measure => simp [intOf]; omega
               · have hd : decide ((a : Int) = (um.2 : Int)) = false := by
                   simp only [decide_eq_false_iff_not]
                   intro e
                   exact he (by omega)
                 rw [hd] at hsame
                 have hss : (s1 = s ∧ (g1 == g) = false) ∨ ¬ s1 = s := by
                   by_cases h : s1 = s
                   · subst h
                     simp only [beq_self_eq_true, Bool.true_and] at hsame
                     exact .inl ⟨rfl, hsame⟩
                   · exact .inr h
                 have hdn : Done l L' a := hM.done HX.out.2.2.2.1 (fun t _ ht => by rw [hlg] at ht; cases ht; exact he)
                 have HZ := zh (zi hM (zi hbl hdn))
                 clear hva hab hO hM hbl hO' hab' hlg hgb he h0 hgv hp1 hp2 hd hle hmc hdn hsame hm
                 rcases hss with ⟨rfl, hgg⟩ | hss
                 · rw [hgg] at hq
                   clear hgg
                   go_wp2
                   first
                     | go_region
                     | fail
                   all_goals go_wp2
                   all_goals go_meet
                   all_goals exact ⟨L', c', rfl, rfl, HZ.out.1, HZ.out.2.2, HZ.out.2.1.drew⟩
                 · have hss2 : (s1 == s) = false := by simp [hss]
                   go_wp2
                   first
                     | go_region
                     | fail
                   all_goals go_wp2
                   all_goals go_meet
                   all_goals exact ⟨L', c', rfl, rfl, HZ.out.1, HZ.out.2.2, HZ.out.2.1.drew⟩
             · have h00 : L' = 0 := by omega
               subst h00
               have hdn : Done l 0 a := hM.done HX.out.2.2.2.1 (fun t h _ => by omega)
               have HZ := zh (zi hM (zi hbl hdn))
               clear hva hab hO hM hbl hO' hab' h0 hle hmc hdn
               go_wp2
               first
                 | go_big_region
                 | fail
               all_goals go_wp2
               all_goals go_meet
               all_goals exact ⟨0, c', rfl, rfl, HZ.out.1, HZ.out.2.2, HZ.out.2.1.drew⟩
         case rest =>
           obtain ⟨L', c', rfl, rfl, hM', hdn, hbl⟩ := hcut
           obtain ⟨wb, hwb⟩ : ∃ wb, wb = wc := ⟨_, rfl⟩
           subst hwb
           obtain ⟨hH, hr, ht, hf, hna, hB, hW, hbig, hll, hN, htn⟩ := HX.out
           obtain ⟨haB, haW⟩ := hM'.og.ok hM6 hB hW
           have hle := hM'.le
           have hmc := hM'.m.hc
           have hcb : -40000 ≤ c' ∧ c' ≤ 40000 := by omega
           have hab' := (hbl.block _ (Zad hab)).trans hab
           have hO' := hO.below hbl
           have hgkM := hM'.nM
           have hL'n : L' ≤ tn := by omega
           have hus := Zqq (γ := γ) (M := 6 * tn) (n := gk)
           go_upto_if 52 with fail
           go_cut [7, 9] from 14 to 76 (fun o c wx => ∃ (n' : Nat) (c2 : Int) (outl2 : List Tm) (outs2 : List TV) (Dr2 : Addr → Option Int), c = .int .i64 (2 * c2) ∧ n' < gk ∧ SetO l formed (6 * tn) n' L' c2 (a + 1) outl2 ∧ ValD Dr2 s g (a : Int) ∧
               wx.heap[w.heap.size]? = some (.cells #[.int .i64 s, .pointer g] 28 (0, 0)) ∧ TVals Dr2 outs2 outl2 ∧ outl2.length + n' ≤ 6 * tn ∧ OutG w sb F H (fun k => k = w.heap.size) D K G (2 * γ * (6 * tn - gk) + γ) wx o outs2.length (flatT outs2) Dr2)
           case first =>
             by_cases hev : c' % 2 = 0
             · have h3 : c'.tmod 2 = 0 := by
                 obtain ⟨k, rfl⟩ : ∃ k, c' = 2 * k := ⟨c' / 2, by omega⟩
                 exact Int.mul_tmod_right 2 k
               obtain ⟨n', hn', hS'⟩ := hM'.even hdn hev
               have HQ := zh (zi hva (zi hab' (zi hO' (zi htv (zi hol (zi hn' (zi hS' hev)))))))
               clear hva hab hab' hO hO' htv hol hn' hS' hM hM' hdn hbl hH hr ht hf hna hB hW hbig hll hN htn haB haW hev
               go_wp2_with fail
               go_meet
               obtain ⟨hva, hab', hO', htv, hol, hn', hS', hev⟩ := HQ.out
               exact ⟨n', c' / 2, outl, outs, Dr, by congr 1; omega, hn', hS', hva, hab', htv, by omega, hO'.more (by omega)⟩
             · have h3 : c'.tmod 2 ≠ 0 := fun h => hev (by have := Int.dvd_of_tmod_eq_zero h; omega)
               obtain ⟨m, hm⟩ : ∃ m, m = pickM (c' + 2 * cntE (l.take L') (a + 1)) := ⟨_, rfl⟩
               have hpm := Znv (c := c' + 2 * cntE (l.take L') (a + 1)) (by omega)
               rw [← hm] at hpm
               obtain ⟨n', hn', hS'⟩ := hM'.odd hf hdn hev hpm
               have call : ∀ W, Below wb.heap.size wb W → Calls Tryz.prog 103 #[.pointer (some ⟨sb, 0, none⟩), .int .i64 c', .agg #[.int .i64 s, .pointer g], .slice (some ⟨b, o, none⟩) L' cp] W fun x w' => ∃ Dn, x = .returned (.int .i64 (sg m)) ∧
                   OutG w sb F H (fun k => k = w.heap.size) D K G (2 * γ * (6 * tn - gk) + γ) w' u7 outs.length (flatT outs) Dn ∧ (∀ p z, Dr p = some z → Dn p = some z) ∧ w'.heap[w.heap.size]? = some (.cells #[.int .i64 s, .pointer g] 28 (0, 0)) := by
                 intro W hW
                 refine ((hO'.below hW).pick hN hH hva haB haW (by omega) (RowF.takeT hr htn hL'n) (ht.take L') (hf.take L') hdn (by rw [List.length_take]; omega) (by omega)).mono ?_
                 rintro x w' ⟨Dn, rfl, h1, h2, h3⟩
                 exact ⟨Dn, by rw [hm], h1, h2, h3 _ _ _ _ ((hW.block _ (Zad hab')).trans hab') (by decide) (by decide) (by decide)⟩
               obtain ⟨c0, c1⟩ := Zab hab'
               have hcap2 : L' ≤ cp := by omega
               have HQ := zh (zi hva (zi htv (zi hol (zi hn' (zi hS' (zi hev hpm))))))
               clear hva hab hab' hO hO' htv hol hn' hS' hM hM' hdn hbl hH hr ht hf hna hB hW hbig hll hN htn haB haW hev hm hpm
               have hol9 : outs.length ≤ 180000 := by have := HQ.out.2.1.len; have := HQ.out.2.2.1; omega
               cases m
               · rw [show sg false = 1 from rfl] at call
                 go_wp2
                 first
                   | go_region_with (first
                     | (go_at_call 103; refine (call _ (by first | exact (zb).drew | exact zb)).mono ?_; rintro e w2 ⟨Dn, rfl, hO2, hmo2, hab2⟩
                        obtain ⟨d0, d1⟩ := Zab hab2
                        have HO2 := zh (zi hO2 (zi hmo2 hab2))
                        clear hO2 hmo2 hab2))
                   | fail
                 go_wp2_with (first
                   | (at_builtin; refine wpList_append_own_at _ rfl _ _ 59 rfl w.heap.size 62 i0 zT 3 24 Tryz.underlying59 HI.out.1 HI.out.2.1 HI.out.2.2.1 HI.out.2.2.2 rfl (by decide) _ _ _ rfl (HO2.out.1.own.alloc _) ⟨w2.heap.size, 0, none⟩ 1 1 (cellsT (false, s, g)) rfl rfl (Zaj w2 _ _ _) (by simp [cellsT, Value.oneCell']) (by unfold maxLen; omega) (by omega) (by have := HO2.out.1.le; simp; omega) ?_; intro v3 w3 hown3 hg3 _ hat3))
                 go_meet
                 obtain ⟨hva, htv, hol, hn', hS', hev, hpm⟩ := HQ.out
                 obtain ⟨hO2, hmo2, hab2⟩ := HO2.out
                 have hbA : Below w2.heap.size w2 (w2.alloc (.cells #[.bool false, .int .i64 s, .pointer g] 62)) := (zb).alloc (zl) _
                 have hO3 := hO2.below hbA
                 refine ⟨n', (c' - 1) / 2, outl ++ [(false, a)], outs ++ [(false, s, g)], Dn, ?_, hn', hS', hva.mono hmo2, ?_, TVals.append (htv.mono hmo2) ⟨⟨rfl, hva.mono hmo2⟩, trivial⟩, ?_, ?_⟩
                 · congr 1; omega
                 · have hv7 := hO3.var w.heap.size rfl
                   exact (hg3.block _ hv7.lt (fun e => hv7.row hO3.own e.symm)).trans ((hbA.block _ (Zad hab2)).trans hab2)
                 · rw [List.length_append, List.length_singleton]; omega
                 · rw [List.length_append, List.length_singleton, Zas]
                   exact hO3.append hpos hown3 hg3 hat3
               · rw [show sg true = -1 from rfl] at call
                 go_wp2
                 first
                   | go_region_with (first
                     | (go_at_call 103; refine (call _ (by first | exact (zb).drew | exact zb)).mono ?_; rintro e w2 ⟨Dn, rfl, hO2, hmo2, hab2⟩
                        obtain ⟨d0, d1⟩ := Zab hab2
                        have HO2 := zh (zi hO2 (zi hmo2 hab2))
                        clear hO2 hmo2 hab2))
                   | fail
                 go_wp2_with (first
                   | (at_builtin; refine wpList_append_own_at _ rfl _ _ 59 rfl w.heap.size 62 i0 zT 3 24 Tryz.underlying59 HI.out.1 HI.out.2.1 HI.out.2.2.1 HI.out.2.2.2 rfl (by decide) _ _ _ rfl (HO2.out.1.own.alloc _) ⟨w2.heap.size, 0, none⟩ 1 1 (cellsT (true, s, g)) rfl rfl (Zaj w2 _ _ _) (by simp [cellsT, Value.oneCell']) (by unfold maxLen; omega) (by omega) (by have := HO2.out.1.le; simp; omega) ?_; intro v3 w3 hown3 hg3 _ hat3))
                 go_meet
                 obtain ⟨hva, htv, hol, hn', hS', hev, hpm⟩ := HQ.out
                 obtain ⟨hO2, hmo2, hab2⟩ := HO2.out
                 have hbA : Below w2.heap.size w2 (w2.alloc (.cells #[.bool true, .int .i64 s, .pointer g] 62)) := (zb).alloc (zl) _
                 have hO3 := hO2.below hbA
                 refine ⟨n', (c' - -1) / 2, outl ++ [(true, a)], outs ++ [(true, s, g)], Dn, ?_, hn', hS', hva.mono hmo2, ?_, TVals.append (htv.mono hmo2) ⟨⟨rfl, hva.mono hmo2⟩, trivial⟩, ?_, ?_⟩
                 · congr 1; omega
                 · have hv7 := hO3.var w.heap.size rfl
                   exact (hg3.block _ hv7.lt (fun e => hv7.row hO3.own e.symm)).trans ((hbA.block _ (Zad hab2)).trans hab2)
                 · rw [List.length_append, List.length_singleton]; omega
                 · rw [List.length_append, List.length_singleton, Zas]
                   exact hO3.append hpos hown3 hg3 hat3
           case rest =>
             obtain ⟨n', c2, outl2, outs2, Dr2, rfl, hn', hS2, hva2, hab2, htv2, hol2, hO2⟩ := hcut
             have h4 : (2 * c2).tdiv 2 = c2 := Int.mul_tdiv_cancel_left c2 (by decide)
             have hc2 := hS2.o.hc
             have hc9 : -40000 ≤ c2 ∧ c2 ≤ 40000 := by omega
             have hst := Zmq (γ := γ) hn' hgkM
             have hro := Zqg (γ := γ) hn0 hgkM
             by_cases hz : c2 = 0
             · subst hz
               have HQ := zh (zi hn' (zi hS2 (zi hab2 (zi htv2 (zi hol2 (zi hO2 hst))))))
               clear hva hab hab' hO hO' htv hol hM hM' hdn hbl hH hr ht hf hna hB hW hbig hll hN htn haB haW hn' hS2 hva2 hab2 htv2 hol2 hO2 hst hro
               go_wp2
               obtain ⟨hn', hS2, hab2, htv2, hol2, hO2, hst⟩ := HQ.out
               go_roundg n'
               case measure => exact hn'
               case rel => exact ⟨L', 0, a + 1, s, g, outl2, outs2, Dr2, rfl, by simp, hS2, fun h => absurd rfl h, hab2, htv2, hol2, hO2.more (by omega)⟩
             · have hz2 : (c2 == 0) = false := by simp [hz]
               have call : ∀ W, Below wc.heap.size wc W → Calls Tryz.prog 100 #[.pointer (some ⟨sb, 0, none⟩), .agg #[.int .i64 s, .pointer g]] W fun x w' => ∃ (s' : Int) (g' : Option Addr) (Dn : Addr → Option Int), x = .returned (.agg #[.int .i64 s', .pointer g']) ∧ ValD Dn s' g' ((a + 1 : Nat) : Int) ∧
                   OutG w sb F H (fun k => k = w.heap.size) D K G (2 * γ * (6 * tn - gk) + γ + γ) w' u7 outs2.length (flatT outs2) Dn ∧ (∀ p z, Dr2 p = some z → Dn p = some z) ∧ w'.heap[w.heap.size]? = some (.cells #[.int .i64 s, .pointer g] 28 (0, 0)) := by
                 intro W hW
                 refine ((hO2.below hW).next hN hH hva2 haB haW (by omega)).mono ?_
                 rintro x w' ⟨s', g', Dn, rfl, h1, h2, h3, h5⟩
                 exact ⟨s', g', Dn, rfl, h1, h2, h3, h5 _ _ _ _ ((hW.block _ (Zad hab2)).trans hab2) (by decide) (by decide) (by decide)⟩
               obtain ⟨c0, c1⟩ := Zab hab2
               have HQ := zh (zi hn' (zi hS2 (zi htv2 (zi hol2 hst))))
               clear hva hab hab' hO hO' htv hol hM hM' hdn hbl hH hr ht hf hna hB hW hbig hll hN htn haB haW hn' hS2 hva2 hab2 htv2 hol2 hO2 hst hro
               go_wp2_with (first
                 | (go_at_call 100; refine (call _ (zb)).mono ?_; rintro e w2 ⟨s', g', Dn, rfl, hv3, hO3, hmo3, hab3⟩
                    obtain ⟨f0, f1⟩ := Zae hab3
                    obtain ⟨d0, d1⟩ := Zab hab3
                    have HO3 := zh (zi hv3 (zi hO3 (zi hmo3 hab3)))
                    clear hv3 hO3 hmo3 hab3))
               obtain ⟨hn', hS2, htv2, hol2, hst⟩ := HQ.out
               obtain ⟨hv3, hO3, hmo3, hab3⟩ := HO3.out
               go_roundg n'
               case measure => exact hn'
               case rel => exact ⟨L', c2, a + 1, s', g', outl2, outs2, Dn, rfl, by simp, hS2, fun _ => hv3, Zl2 hab3 rfl s' g', htv2.mono hmo3, hol2, ((hO3.set hpos rfl 0 _).set hpos rfl 1 _).more (by omega)⟩
     · have hgd : decide (formed < L ∨ cc ≠ 0) = false := by simpa using hgo
       obtain ⟨hS, hv, hab, htv, hol, hO⟩ := HR.out
       obtain ⟨hH, hr, ht, hf, hna, hB, hW, hbig, hll, hN, htn⟩ := HX.out
       have hcc : cc = 0 := by
         by_cases h : cc = 0
         · exact h
         · exact absurd (.inr h) hgo
       have hLf : L ≤ formed := by
         rcases Nat.lt_or_ge formed L with h | h
         · exact absurd (.inl h) hgo
         · exact h
       subst hcc
       have hLtn : L ≤ tn := by omega
       obtain ⟨hend1, hend2⟩ := hS.o.ends hna hLf
       have hlo := htv.len
       have hrL := RowF.takeT hr htn hLtn
       have hlL : (ts.take L).length = L := by rw [List.length_take]; omega
       rw [hlL] at hrL
       have hcap : tn ≤ cp ∨ tn = 0 := by
         rcases hr.1.2 with ⟨e, h0⟩ | ⟨b1, off1, cap1, e1, p1, p2, p3, p4⟩
         · exact .inr h0
         · cases e1; exact .inl p1
       have hLcp : L ≤ cp := by
         rcases hcap with h | h
         · omega
         · omega
       have hlim := Za8
       obtain ⟨a7, k7, rfl⟩ := (RowV.of_own hO.own).shape
       have hrev := Zc4 outs (.slice a7 outs.length k7) w.heap.size wc hO.own (by omega)
       have hap : ∀ w2, w2.ownsRow w.heap.size 62 3 (.slice a7 outs.length k7) outs.length (flatT outs.reverse) → wc.grownBy w2 (Value.slice a7 outs.length k7).ownBlock → OutG w sb F H (fun k => k = w.heap.size) D K G (2 * γ * (6 * tn - gk)) w2 (.slice a7 outs.length k7) outs.length (flatT outs.reverse) Dr ∧
           Calls Tryz.prog 87 #[.slice (some ⟨w2.heap.size, 0, none⟩) 2 2] (w2.alloc (.cells #[.slice ax L cp, .slice a7 outs.length k7] 59)) fun e w' => ∃ v', e = .returned v' ∧ w'.ownsRow w2.heap.size 62 3 v' (L + outs.length) (flatT (ts.take L) ++ flatT outs.reverse) ∧ Below w2.heap.size w2 w' := by
         intro w2 ho2 hg2
         have hO2 := hO.append hpos ho2 hg2 (.inl rfl)
         exact ⟨hO2, Zcz (by omega) (hO2.row hrL) (RowV.of_own hO2.own) (Zaw _) (Zaw _)⟩
       have HQ := zh (zi htv (zi hend1 (zi hend2 (zi ht (zi hlL (zi hH hlo))))))
       clear hS hv hab htv hol hO hH hr ht hf hna hB hW hbig hll hN htn hgo hend1 hend2 hlo hrL hlL hcap hlim
       rw [hgd]
       go_wp2_with (first
         | (go_at_call 98; refine hrev.mono ?_; rintro e w2 ⟨rfl, ho2, hg2⟩
            obtain ⟨hO2, hcc⟩ := hap w2 ho2 hg2
            have HO2 := zh (zi hO2 ho2)
            clear hO2 ho2 hg2)
         | (go_at_call 87; refine hcc.mono ?_; rintro e w3 ⟨v3, rfl, ho3, hb3⟩
            have HO3 := zh (zi ho3 hb3)
            clear ho3 hb3))
       go_ret
       obtain ⟨htv, hend1, hend2, ht, hlL, hH, hlo⟩ := HQ.out
       obtain ⟨hO2, ho2⟩ := HO2.out
       obtain ⟨ho3, hb3⟩ := HO3.out
       obtain ⟨F', K', G', hG, hR⟩ := ((hO2.below hb3).more Zqq).ends hH (Zah ho3 hO2.le)
       refine ⟨v3, ts.take L ++ outs.reverse, l.take L ++ outl.reverse, F', Dr, K', G', rfl, TVals.append ((ht.take L).mono hO2.d) htv.rev, hend1, hend2, ?_, hG⟩
       rw [Zas, List.length_append, hlL, List.length_reverse]
       exact hR
end
section
open Go.RowKit
theorem GrowMem.more {w : World} {sb : Nat} {F H : Nat → Prop} {D : Addr → Option Int} {K : List Addr} {G : StG} {add add' : Nat} {w' : World} {F' : Nat → Prop} {D' : Addr → Option Int} {K' : List Addr} {G' : StG} (h : GrowMem w sb F H D K G add w' F' D' K' G') (ha : add ≤ add') : GrowMem w sb F H D K G add' w' F' D' K' G' :=
 ⟨h.1, h.2.1, h.2.2.1, h.2.2.2.1, by have := h.2.2.2.2; omega⟩
theorem StInv.after {w : World} {F : Nat → Prop} {D : Addr → Option Int} {K : List Addr} {G : StG} (h : StInv w F D K G) {s s' z : Int} {g g' : Option Addr} (hx : ValD D s g z) (hy : ValD D s' g' (z + 1)) (c : Array Value) (m : Option Nat) (n : Nat) :
   StInv w F D K { G with c := c, m4 := m, fn := upd G.fn (s, g) (.agg #[.int .i64 s', .pointer g']), nn := n } := by
 refine { h with af := ?_ }
 intro k v hv
 simp only [upd] at hv
 split at hv
 · rename_i hk
   subst hk
   exact ⟨z, s', g', hx, (Option.some.inj hv).symm, hy⟩
 · exact h.af k v hv
def orA (H A : Nat → Prop) : Nat → Prop := fun k => H k ∨ A k
def VarM (w : World) (sb : Nat) (F H A : Nat → Prop) (D : Addr → Option Int) (K : List Addr) (G : StG) (used : Nat) (wr : World) (Dr : Addr → Option Int) : Prop :=
 ∃ (Fr : Nat → Prop) (Kr : List Addr) (Gr : StG), StMem wr sb Fr Gr ∧ StInv wr (hot (orA H A) Fr) Dr Kr Gr ∧ Step w wr F Fr ∧ Grown2 D Dr K Kr G Gr ∧ Kr.length ≤ K.length + used ∧ ∀ k, A k → VarN w wr k
def VarR (w : World) (sb : Nat) (F H A : Nat → Prop) (D : Addr → Option Int) (K : List Addr) (G : StG) (used : Nat) (wr : World) (Dr : Addr → Option Int) (v : Value) (ts : List TV) : Prop :=
 ∃ (Fr : Nat → Prop) (Kr : List Addr) (Gr : StG), StMem wr sb Fr Gr ∧ StInv wr (hot (orA H A) Fr) Dr Kr Gr ∧ Step w wr F Fr ∧ Grown2 D Dr K Kr G Gr ∧ Kr.length ≤ K.length + used ∧ (∀ k, A k → VarN w wr k) ∧ RowF wr (hot (orA H A) Fr) 3 v ts.length (flatT ts)
section
variable {w : World} {sb : Nat} {F H A : Nat → Prop} {D : Addr → Option Int} {K : List Addr} {G : StG} {used : Nat} {wr W : World} {Dr : Addr → Option Int} {v : Value} {ts : List TV}
theorem Zqr {F : Nat → Prop} (ha : ∀ k, A k → w.heap.size ≤ k) : ∀ i, hot (orA H A) F i → hot H F i ∨ w.heap.size ≤ i := by
 intro i hx
 rcases hx with x | x
 · rcases x with x | x
   · exact .inl (.inl x)
   · exact .inr (ha i x)
 · exact .inl (.inr x)
theorem VarM.start (hm : StMem w sb F G) (hi : StInv w (hot H F) D K G) (hb : Below w.heap.size w wr) (hA : ∀ k, A k → VarN w wr k) : VarM w sb F H A D K G 0 wr D := by
 have s := Step.of_below F hb
 exact ⟨F, K, G, hm.below hb, (hi.grow (W := w) (zl) (Zqr (fun k hk => (hA k hk).1))).step (s.hot _), s, Grown2.refl _ _ _, by omega, hA⟩
theorem VarM.below (h : VarM w sb F H A D K G used wr Dr) (hb : Below wr.heap.size wr W) : VarM w sb F H A D K G used W Dr := by
 obtain ⟨Fr, Kr, Gr, h2, h3, h4, h5, h7, h8⟩ := h
 have s := Step.of_below Fr hb
 exact ⟨Fr, Kr, Gr, h2.below hb, h3.step (s.hot _), h4.trans s, h5, h7, fun k hk => (h8 k hk).same (hb.block k (h8 k hk).lt)⟩
theorem VarR.below (h : VarR w sb F H A D K G used wr Dr v ts) (hb : Below wr.heap.size wr W) : VarR w sb F H A D K G used W Dr v ts := by
 obtain ⟨Fr, Kr, Gr, h2, h3, h4, h5, h7, h8, h9⟩ := h
 have s := Step.of_below Fr hb
 exact ⟨Fr, Kr, Gr, h2.below hb, h3.step (s.hot _), h4.trans s, h5, h7, fun k hk => (h8 k hk).same (hb.block k (h8 k hk).lt), h9.step (s.hot _)⟩
theorem VarR.mem (h : VarR w sb F H A D K G used wr Dr v ts) : VarM w sb F H A D K G used wr Dr := by
 obtain ⟨Fr, Kr, Gr, h2, h3, h4, h5, h7, h8, h9⟩ := h
 exact ⟨Fr, Kr, Gr, h2, h3, h4, h5, h7, h8⟩
theorem VarM.more (h : VarM w sb F H A D K G used wr Dr) {used' : Nat} (hu : used ≤ used') : VarM w sb F H A D K G used' wr Dr := by
 obtain ⟨Fr, Kr, Gr, h2, h3, h4, h5, h7, h8⟩ := h
 exact ⟨Fr, Kr, Gr, h2, h3, h4, h5, by omega, h8⟩
theorem VarM.le (h : VarM w sb F H A D K G used wr Dr) : w.heap.size ≤ wr.heap.size := by
 obtain ⟨Fr, Kr, Gr, h2, h3, h4, h5, h7, h8⟩ := h
 exact h4.keeps.size
theorem VarM.d (h : VarM w sb F H A D K G used wr Dr) : ∀ p z, D p = some z → Dr p = some z := by
 obtain ⟨Fr, Kr, Gr, h2, h3, h4, h5, h7, h8⟩ := h
 exact h5.d
theorem VarM.var (h : VarM w sb F H A D K G used wr Dr) : ∀ k, A k → VarN w wr k := by
 obtain ⟨Fr, Kr, Gr, h2, h3, h4, h5, h7, h8⟩ := h
 exact h8
theorem VarM.set (h : VarM w sb F H A D K G used wr Dr) (hw : 0 < w.heap.size) {x : Nat} (hx : A x) (i : Nat) (u : Value) : VarM w sb F H A D K G used (wr.setCell ⟨x, i, none⟩ u) Dr := by
 obtain ⟨Fr, Kr, Gr, h2, h3, h4, h5, h7, h8⟩ := h
 have hv := h8 x hx
 have hF := h2.notF hv.own
 have hnf : ∀ c t fr, wr.heap[x]? = some (.cells c t fr) → t ≠ 113 := by
   obtain ⟨_, c0, fr0, h0⟩ := hv
   intro c t fr hh
   rw [h0] at hh
   cases hh; decide
 refine ⟨Fr, Kr, Gr, h2.set u hF (by have := hv.1; omega) hnf, h3.keeps (Zal u (.inl (.inr hx))), ⟨Zav h4.keeps u hv.1, h4.grow, h4.mono⟩, h5, h7, fun k hk => ?_⟩
 obtain ⟨a1, c, fr, a2⟩ := h8 k hk
 refine ⟨a1, ?_⟩
 simp only [World.setCell, Array.getElem?_modify]
 by_cases e : x = k
 · subst e; rw [if_pos rfl, a2]; exact ⟨_, _, rfl⟩
 · rw [if_neg e]; exact ⟨c, fr, a2⟩
theorem VarM.lt (h : VarM w sb F H A D K G used wr Dr) (hH : ∀ k, H k → k < w.heap.size) : ∀ k, orA H A k → k < wr.heap.size := by
 intro k hk
 rcases hk with x | x
 · exact Nat.lt_of_lt_of_le (hH k x) h.le
 · exact (h.var k x).lt
theorem VarM.ends (h : VarM w sb F H A D K G used wr Dr) : ∃ (F' : Nat → Prop) (K' : List Addr) (G' : StG), GrowMem w sb F H D K G used wr F' Dr K' G' := by
 obtain ⟨Fr, Kr, Gr, h2, h3, h4, h5, h7, h8⟩ := h
 refine ⟨Fr, Kr, Gr, h2, h3.shrink (fun i hx => ?_), h4, h5, h7⟩
 rcases hx with x | x
 · exact .inl (.inl x)
 · exact .inr x
theorem VarM.row (h : VarM w sb F H A D K G used wr Dr) (hH : ∀ k, H k → k < w.heap.size) {base : Nat} (ho : wr.ownsRow base 62 3 v ts.length (flatT ts)) (hb : w.heap.size ≤ base) : VarR w sb F H A D K G used wr Dr v ts := by
 obtain ⟨Fr, Kr, Gr, h2, h3, h4, h5, h7, h8⟩ := h
 refine ⟨Fr, Kr, Gr, h2, h3, h4, h5, h7, h8, RowV.of_own ho, fun b hbb hh => ?_⟩
 rcases hh with x | x
 · rcases x with x | x
   · have := hH b x; have := (ho.lt b hbb).1; omega
   · exact (h8 b x).row ho hbb
 · exact h2.own ho (by decide) (by decide) b hbb x
theorem VarR.rowV (h : VarR w sb F H A D K G used wr Dr v ts) : RowV wr 3 v ts.length (flatT ts) := by
 obtain ⟨Fr, Kr, Gr, h2, h3, h4, h5, h7, h8, h9⟩ := h
 exact h9.1
theorem VarR.settle {γ B : Nat} (hN : NextC γ sb B) (h : VarR w sb F H A D K G used wr Dr v ts) (hH : ∀ k, H k → k < w.heap.size) {l : List Tm} (ht : TVals Dr ts l) (hf : Falls l) {formed : Nat} (hfo : formed ≤ ts.length) (hna : NA (l.take formed)) (hlen : ts.length ≤ 30000)
   (hB : ∀ u ∈ l.drop formed, u.2 + 180000 < B) (hW : ∀ u ∈ l.drop formed, wt (u.2 : Int) ≤ 29900) (hbig : K.length + used + 2 * γ * (6 * ts.length) + 1 ≤ big) :
   Calls Tryz.prog 92 #[.pointer (some ⟨sb, 0, none⟩), v, .int .i64 formed] wr fun x w' => ∃ (v' : Value) (zs : List TV) (m : List Tm) (Dn : Addr → Option Int), x = .returned v' ∧ TVals Dn zs m ∧ NA m ∧ val m = val l ∧
     VarR w sb F H A D K G (used + 2 * γ * (6 * ts.length)) w' Dn v' zs ∧ (∀ p z, Dr p = some z → Dn p = some z) ∧ Others wr w' := by
 have hlt := h.mem.lt hH
 obtain ⟨Fr, Kr, Gr, h2, h3, h4, h5, h7, h8, h9⟩ := h
 refine (Zkw hN h2 h3 hlt h9 ht hf hfo hna hlen hB hW (by omega)).mono ?_
 rintro x w' ⟨v', zs, m, F', D', K', G', rfl, a1, a2, a3, a4, m2, i2, st2, gg2, hk2⟩
 exact ⟨v', zs, m, D', rfl, a1, a2, a3, ⟨F', K', G', m2, i2, h4.trans st2, h5.trans gg2, by omega, fun k hk => (h8 k hk).same (st2.keeps.block k (h8 k hk).lt (h2.notF (h8 k hk).own)), a4⟩, gg2.d, fun x c t fr hx h1 h3 h4 => Own.kept h2 st2.keeps hx h1 h3 h4⟩
theorem VarR.keep (h : VarR w sb F H A D K G used wr Dr v ts) (hH : ∀ k, H k → k < w.heap.size) (hlen : ts.length ≤ 30000) {l : List Tm} (ht : TVals Dr ts l) (hn : NA l) (hbig : K.length + used ≤ big) :
   Calls Tryz.prog 68 #[.pointer (some ⟨sb, 0, none⟩), v] wr fun x w' => ∃ (s : Int) (g : Option Addr) (Dn : Addr → Option Int), x = .returned (.agg #[.int .i64 s, .pointer g]) ∧ ValD Dn s g (val l) ∧
     VarM w sb F H A D K G (used + 1) w' Dn ∧ (∀ p z, Dr p = some z → Dn p = some z) ∧ Others wr w' := by
 have hlt := h.mem.lt hH
 obtain ⟨Fr, Kr, Gr, h2, h3, h4, h5, h7, h8, h9⟩ := h
 refine (Zeh (orA H A) h2 h3 hlt h9 hlen ht hn (by omega)).mono ?_
 rintro x w' ⟨s, g, F', D', K', G', rfl, a1, m2, i2, st2, gg2, hk2⟩
 exact ⟨s, g, D', rfl, a1, ⟨F', K', G', m2, i2, h4.trans st2, h5.trans gg2, by omega, fun k hk => (h8 k hk).same (st2.keeps.block k (h8 k hk).lt (h2.notF (h8 k hk).own))⟩, gg2.d, fun x c t fr hx h1 h3 h4 => Own.kept h2 st2.keeps hx h1 h3 h4⟩
theorem VarM.note (h : VarM w sb F H A D K G used wr Dr) {s s' z : Int} {g g' : Option Addr} (hx : ValD Dr s g z) (hy : ValD Dr s' g' (z + 1)) :
   Calls Tryz.prog 106 #[.pointer (some ⟨sb, 4, none⟩), .agg #[.int .i64 s, .pointer g], .agg #[.int .i64 s', .pointer g']] wr fun x w' => x = .returned (.tuple #[]) ∧ VarM w sb F H A D K G used w' Dr ∧ Others wr w' := by
 obtain ⟨Fr, Kr, Gr, h2, h3, h4, h5, h7, h8⟩ := h
 refine (Zkj sb 4 Gr.c Gr.t Gr.m4 Gr.fn Gr.nn s g s' g' wr h2.hs h2.i4 h2.mn (hx.ptr h3.forest) h2.nf).mono ?_
 rintro x w' ⟨rfl, hn⟩
 obtain ⟨r, m4, kp4, gr4⟩ := h2.note4 hn
 have s34 : Step wr w' Fr (fun k => Fr k ∨ k = r) := ⟨kp4, gr4, fun k hk => .inl hk⟩
 have i4 := (h3.step (s34.hot (orA H A))).after hx hy (Gr.c.setIfInBounds 4 (.map (some r))) (some r) (cnt Gr.fn (s, g) Gr.nn)
 exact ⟨rfl, ⟨_, Kr, _, m4, i4, h4.trans s34, ⟨h5.d, h5.k, h5.p, h5.t, fun i hi => (Array.getElem?_setIfInBounds_ne (by omega)).trans (h5.c i hi)⟩, h7, fun k hk => (h8 k hk).same (kp4.block k (h8 k hk).lt (h2.notF (h8 k hk).own))⟩, fun x c t fr hx h1 h3 h4 => Own.kept h2 kp4 hx h1 h3 h4⟩
theorem VarM.terms (h : VarM w sb F H A D K G used wr Dr) (hH : ∀ k, H k → k < w.heap.size) {s : Int} {g : Option Addr} {z : Int} (hv : ValD Dr s g z) :
   Calls Tryz.prog 55 #[.agg #[.int .i64 s, .pointer g]] wr fun x w' => ∃ (v : Value) (ts : List TV), x = .returned v ∧ VarR w sb F H A D K G used w' Dr v ts ∧ TVals Dr ts (naf z) ∧ Below wr.heap.size wr w' := by
 have hlt := h.lt hH
 obtain ⟨Fr, Kr, Gr, h2, h3, h4, h5, h7, h8⟩ := h
 refine (Zbt s g z wr h3.forest hv (fun i hi => by
   rcases hi with x | x
   · exact hlt i x
   · exact h2.flt i x)).mono ?_
 rintro x w' ⟨v, ts, rfl, a1, a2, hb⟩
 have s := Step.of_below Fr hb
 exact ⟨v, ts, rfl, ⟨Fr, Kr, Gr, h2.below hb, h3.step (s.hot _), h4.trans s, h5, h7, fun k hk => (h8 k hk).same (hb.block k (h8 k hk).lt), a1⟩, a2, hb⟩
end
end
section
open Go.RowKit
theorem Zmr (sb : Nat) : NextC 0 sb 9223372036854775807 := by
 intro H w F D K G hm hi hH e s g hv hB hw hbig
 cases g with
 | some p => exact absurd (show i64 (e : Int) by unfold i64; omega) (hi.forest.great _ _ hv.2).1
 | none =>
   obtain ⟨rfl, _⟩ := hv
   refine (Znt sb (e : Int) (by omega) (by omega) w).mono ?_
   rintro x w' ⟨rfl, hb⟩
   exact ⟨_, none, F, D, K, G, rfl, ⟨rfl, by unfold i64; omega⟩, (GrowMem.start hm hi 0).below hb⟩
theorem Zcq (w : World) (A B C : Obj) : (((w.alloc A).alloc B).alloc C).heap[w.heap.size]? = some A ∧ (((w.alloc A).alloc B).alloc C).heap[w.heap.size + 1]? = some B ∧ (((w.alloc A).alloc B).alloc C).heap[w.heap.size + 1 + 1]? = some C ∧ (((w.alloc A).alloc B).alloc C).heap.size = w.heap.size + 1 + 1 + 1 := by
 refine ⟨?_, ?_, ?_, by simp⟩
 · rw [Below.heap_alloc _ _ _ (by simp; omega), Below.heap_alloc _ _ _ (by simp), heap_alloc_new]
 · rw [Below.heap_alloc _ _ _ (by simp)]
   have := heap_alloc_new (w.alloc A) B
   simpa using this
 · have := heap_alloc_new ((w.alloc A).alloc B) C
   simpa using this
theorem RowV.one (W : World) (t : TV) : RowV (W.alloc (.cells #[.bool t.1, .int .i64 t.2.1, .pointer t.2.2] 62)) 3 (.slice (some ⟨W.heap.size, 0, none⟩) 1 1) 1 (flatT [t]) := by
 refine ⟨by simp [Zd2], .inr ⟨W.heap.size, 0, 1, rfl, zl, by unfold maxLen; omega, by simp, fun j u hj => ?_⟩⟩
 have := Zaj W (cellsT t) 62 (0, 0) j u (by simpa [flatT] using hj)
 rw [Zbl] at this
 exact this
theorem Zpl {sb : Nat} {H : Nat → Prop} {w : World} {F : Nat → Prop} {D : Addr → Option Int} {K : List Addr} {G : StG} (hm : StMem w sb F G) (hi : StInv w (hot H F) D K G) (hH : ∀ k, H k → k < w.heap.size) {e : Nat} {s : Int} {g : Option Addr} (hv : ValD D s g (e : Int)) (hB : 9223372036854775807 ≤ e)
   (hw : wt (e : Int) ≤ 29999) (hbig : K.length + 1 ≤ big) :
   Calls Tryz.prog 100 #[.pointer (some ⟨sb, 0, none⟩), .agg #[.int .i64 s, .pointer g]] w fun x w' => ∃ (s' : Int) (g' : Option Addr) (F' : Nat → Prop) (D' : Addr → Option Int) (K' : List Addr) (G' : StG),
     x = .returned (.agg #[.int .i64 s', .pointer g']) ∧ ValD D' s' g' ((e : Int) + 1) ∧ GrowMem w sb F H D K G 1 w' F' D' K' G' := by
 obtain ⟨w1, hw1⟩ : ∃ w1, w1 = (w.alloc (.cells #[.int .i64 s, .pointer g] 28)).alloc (.cells #[.int .i64 0, .pointer none] 28) := ⟨_, rfl⟩
 have hb1 : Below w.heap.size w w1 := by rw [hw1]; exact ((zb).alloc (zl) _).alloc (by simp) _
 have s01 := Step.of_below F hb1
 have m1 := hm.below hb1
 have i1 := hi.step (s01.hot H)
 have hz1 : w1.heap.size = w.heap.size + 1 + 1 := by rw [hw1]; simp
 have hpg : PtrOk w g := hv.ptr hi.forest
 have lk : ∀ W, Below w1.heap.size w1 W → (Instr.lookup 85 (.map G.m4) (.agg #[.int .i64 s, .pointer g]) true).run Tryz.prog W = .ok (.tuple #[(G.fn (s, g)).getD (.agg #[.int .i64 0, .pointer none]), .bool (G.fn (s, g)).isSome]) W := by
   intro W hW
   have := MapO.lookup keyN Tryz.underlying85 (z := .agg #[.int .i64 0, .pointer none]) (fun W => by kernel_rfl) (m1.below hW).mn (s, g) (Zcc hW _ (Zcc hb1 _ hpg))
   unfold encN at this
   exact this
 have lk1 := lk _ (zb).drew
 have lk2 := lk _ ((zb).alloc (zl) (.cells #[.int .i64 0, .pointer none] 28)).drew
 have c3 := m1.cell 4 m1.i4
 have d3 : (w1.alloc (.cells #[.int .i64 0, .pointer none] 28)).cell? ⟨sb, 4, none⟩ = _ := Zar _ (World.block_lt_of_cell? _ _ c3) c3
 obtain ⟨a0, a1⟩ := Za0 w (.cells #[.int .i64 s, .pointer g] 28) (.cells #[.int .i64 0, .pointer none] 28)
 rw [← hw1] at a0 a1
 obtain ⟨e0, e1⟩ := Zab a0
 have HM := zh hm
 have HI := zh hi
 have HV := zh hv
 clear lk
 have hbx : (g = none ∧ s = 9223372036854775807) ∨ ∃ p, g = some p := by
   cases g with
   | none => exact .inl ⟨rfl, by obtain ⟨h1, h2⟩ := hv; unfold i64 at h2; omega⟩
   | some p => exact .inr ⟨p, rfl⟩
 cases hl : G.fn (s, g) with
 | some v =>
   obtain ⟨z', s', g', hx, rfl, hy⟩ := hi.af _ _ hl
   obtain rfl := ValD.det hi.forest hx hv
   rw [hl] at lk1 lk2
   simp only [Option.getD_some, Option.isSome_some] at lk1 lk2
   clear hm hi hv hx m1 i1 hpg hb1 s01 hl
   subst hw1
   rcases hbx with ⟨rfl, rfl⟩ | ⟨p, rfl⟩
   all_goals
     go_enter Tryz.func100, Tryz.ntmps100
     go_wp2
     go_region
     all_goals go_wp2
     all_goals refine bodyPost_ret (v := .agg #[.int .i64 s', .pointer g']) (by simp [results, Tryz.results100, go_sem, *]) rfl ?_
     all_goals
       refine ⟨s', g', F, D, K, G, rfl, hy, (GrowMem.start HM.out HI.out 1).below ?_⟩
       repeat (first | exact zb | refine Below.alloc ?_ (by simp <;> omega) _ | refine Below.drew ?_)
 | none =>
   rw [hl] at lk1 lk2
   simp only [Option.getD_none, Option.isSome_none] at lk1 lk2
   clear hm hi hv m1 i1 hpg s01 hl
   have HH := zh (zi hH (zi hB (zi hw hbig)))
   have HW1 := zh (zi hw1 (zi hb1 (zi hz1 (zi a0 a1))))
   clear hH hB hw hbig hb1 hz1 a0 a1
   subst hw1
   go_enter Tryz.func100, Tryz.ntmps100
   go_upto_region 1 with fail
   go_cut [16] from 9 to 53 (fun t wx => t = .bool false ∧ wx = (w.alloc (.cells #[.int .i64 s, .pointer g] 28)).alloc (.cells #[.int .i64 0, .pointer none] 28))
   case first =>
     rcases hbx with ⟨rfl, rfl⟩ | ⟨p, rfl⟩
     all_goals
       go_wp2_with fail
       go_meet
       exact ⟨rfl, rfl⟩
   case rest =>
     obtain ⟨rfl, rfl⟩ := hcut
     obtain ⟨hw1, hb1, hz1, a0, a1⟩ := HW1.out
     have hfirst : ∀ W : World, W.heap = (((w.alloc (.cells #[.int .i64 s, .pointer g] 28)).alloc (.cells #[.int .i64 0, .pointer none] 28)).alloc (.cells #[.int .i64 0, .pointer none] 28)).heap → W.heap.size = w.heap.size + 1 + 1 + 1 ∧ W.heap[w.heap.size]? = some (.cells #[.int .i64 s, .pointer g] 28 (0, 0)) ∧ W.heap[w.heap.size + 1]? = some (.cells #[.int .i64 0, .pointer none] 28 (0, 0)) ∧
         W.heap[w.heap.size + 1 + 1]? = some (.cells #[.int .i64 0, .pointer none] 28 (0, 0)) := by
       intro W hW
       rw [hW]
       obtain ⟨x1, x2, x3, x4⟩ := Zcq w (.cells #[.int .i64 s, .pointer g] 28) (.cells #[.int .i64 0, .pointer none] 28) (.cells #[.int .i64 0, .pointer none] 28)
       exact ⟨x4, x1, x2, x3⟩
     clear hw1 hb1 hz1 a0 a1
     have HF := zh hfirst
     clear hfirst
     go_upto_region 3 with fail
     go_cut [5, 6] from 9 to 53 (fun y ok wx => y = .pointer (some ⟨w.heap.size + 1 + 1, 0, none⟩) ∧ ok = .bool false ∧ Below w.heap.size w wx ∧ wx.heap.size = w.heap.size + 1 + 1 + 1 ∧ wx.heap[w.heap.size]? = some (.cells #[.int .i64 s, .pointer g] 28 (0, 0)) ∧ wx.heap[w.heap.size + 1]? = some (.cells #[.int .i64 0, .pointer none] 28 (0, 0)) ∧
         wx.heap[w.heap.size + 1 + 1]? = some (.cells #[.int .i64 0, .pointer none] 28 (0, 0)))
     case first =>
       go_region
       all_goals (try go_wp2_with fail)
       all_goals go_meet
       all_goals
         refine ⟨rfl, rfl, ?_, HF.out _ rfl⟩
         repeat (first | exact zb | refine Below.alloc ?_ (by simp <;> omega) _ | refine Below.drew ?_)
     case rest =>
       obtain ⟨rfl, rfl, hbA, hzA, a0, a1, a2⟩ := hcut
       obtain ⟨wA, hwA⟩ : ∃ wA, wA = wc := ⟨_, rfl⟩
       subst hwA
       obtain ⟨hH, hB, hw, hbig⟩ := HH.out
       have hV0 : VarM w sb F H (fun k => k = w.heap.size + 1 ∨ k = w.heap.size + 1 + 1) D K G 0 wA D := VarM.start HM.out HI.out hbA (by
         rintro k (rfl | rfl)
         · exact ⟨by omega, _, _, a1⟩
         · exact ⟨by omega, _, _, a2⟩)
       have hT := hV0.terms hH HV.out
       obtain ⟨e0, e1⟩ := Zab a0
       have HA := zh (zi hV0 (zi a1 (zi a2 (zi hH (zi hB (zi hw hbig))))))
       have HA0 := zh a0
       clear hV0 a0 a1 a2 hH hB hw hbig HF c3 d3 lk1 lk2 hbA
       go_wp2_with (first
         | (go_at_call 55; refine hT.mono ?_; rintro x2 w2 ⟨vt, ts, rfl, hR2, htv, hb2⟩
            obtain ⟨at2, ct2, rfl⟩ := hR2.rowV.shape
            have HR2 := zh (zi hR2 (zi htv hb2))
            clear hR2 htv hb2)
         | (go_at_call 8; refine (Zax _ _).mono ?_; rintro x3 w3 ⟨rfl, hb3⟩
            obtain ⟨hR2, htv, hb2⟩ := HR2.out
            obtain ⟨hV0, a1, a2, hH, hB, hw, hbig⟩ := HA.out
            have htl : ts.length ≤ 29999 := by have := htv.len; unfold wt at hw; omega
            have hb25 : Below w2.heap.size w2 ((w3.alloc (.cells #[.bool false, .int .i64 0, .pointer none] 62)).alloc (.cells #[.bool false, .int .i64 0, .pointer none] 62)) := (hb3.alloc hb3.size _).alloc (by have := hb3.size; simp; omega) _
            have hcc := Zcz (w := (w3.alloc (.cells #[.bool false, .int .i64 0, .pointer none] 62)).alloc (.cells #[.bool false, .int .i64 0, .pointer none] 62)) (n := ts.length) (m := 1) (by have := Za8; omega) (hR2.below hb25).rowV (RowV.one (w3.alloc (.cells #[.bool false, .int .i64 0, .pointer none] 62)) (false, 0, none)) (Zaw _) (Zaw _)
            have hz5 : ((w3.alloc (.cells #[.bool false, .int .i64 0, .pointer none] 62)).alloc (.cells #[.bool false, .int .i64 0, .pointer none] 62)).heap.size = w3.heap.size + 1 + 1 := by simp
            have hz4 : (w3.alloc (.cells #[.bool false, .int .i64 0, .pointer none] 62)).heap.size = w3.heap.size + 1 := by simp
            rw [hz5, hz4] at hcc
            have HC := zh (zi hcc (zi hb25 hb3))
            clear hcc hb25 hR2 htv hb2 hV0 a1 a2 hH hB hw hbig hz5 hz4 hb3)
         | (go_at_call 87; refine HC.out.1.mono ?_; rintro x6 w6 ⟨v6, rfl, ho6, hb6⟩
            obtain ⟨a6, c6, rfl⟩ := (RowV.of_own ho6).shape
            obtain ⟨hR2, htv, hb2⟩ := HR2.out
            obtain ⟨hV0, a1, a2, hH, hB, hw, hbig⟩ := HA.out
            obtain ⟨hcc, hb25, hb3⟩ := HC.out
            have hb26 := hb25.trans (hb6.mono (by have := hb3.size; simp; omega))
            have hR6 := (hR2.mem.below hb26).row hH (ts := ts ++ [(false, 0, none)]) (v := .slice a6 (ts.length + 1) c6) (by simpa [Zas] using ho6) (by have := hV0.le; have := hb2.size; have := hb3.size; omega)
            have hS := hR6.settle (Zmr sb) hH (l := naf (e : Int) ++ [(false, 0)]) (TVals.append htv ⟨⟨rfl, rfl, by unfold i64; simp⟩, trivial⟩) (by
              unfold Falls
              rw [List.pairwise_append]
              exact ⟨Zgi (Za3 _), by simp, fun a ha b hb => by rw [List.mem_singleton.1 hb]; exact Nat.zero_le _⟩) (formed := ts.length) (by simp) (by rw [htv.len]; simp; exact Za3 _) (by simp; omega) (by rw [htv.len]; simp) (by rw [htv.len]; simp [Zfq]) (by simp; omega)
            have HS := zh (zi hS hb26)
            clear hS hb26 hR6 hR2 htv hb2 hV0 a1 a2 hH hB hw hbig hcc hb25 hb3 ho6 hb6)
         | (go_at_call 92; refine HS.out.1.mono ?_; rintro x7 w7 ⟨v7, zs, m7, D7, rfl, ht7, hn7, hval7, hR7, hmo7, hoth7⟩
            obtain ⟨a7, c7, rfl⟩ := hR7.rowV.shape
            obtain ⟨hV0, a1, a2, hH, hB, hw, hbig⟩ := HA.out
            have hvl : val m7 = (e : Int) + 1 := by rw [hval7, Za2, Zam]; simp [val, tv, sg]
            have hl7 : zs.length ≤ 30000 := by
              rw [ht7.len]
              have h1 := (Zke _ (e : Int) (zl)).1
              rw [← hvl] at h1
              unfold wt at h1
              rw [Zbn hn7] at h1
              unfold wt at hw
              omega
            have hK := hR7.keep hH hl7 ht7 hn7 (by simp; omega)
            rw [hvl] at hK
            have HK := zh (zi hK (zi hmo7 hoth7))
            clear hK hmo7 hoth7 hR7 ht7 hn7 hval7 hvl hl7 hV0 a1 a2 hH hB hw hbig)
         | (go_at_call 68; refine HK.out.1.mono ?_; rintro x8 w8 ⟨s8, g8, D8, rfl, hv8, hV8, hmo8, hoth8⟩
            obtain ⟨hV0, a1, a2, hH, hB, hw, hbig⟩ := HA.out
            obtain ⟨hR2, htv, hb2⟩ := HR2.out
            have q2 := (hb2.block _ (by omega)).trans a2
            have q6 := (HS.out.2.block _ (Zad q2)).trans q2
            have q8 := hoth8 _ _ _ _ (HK.out.2.2 _ _ _ _ q6 (by decide) (by decide) (by decide)) (by decide) (by decide) (by decide)
            obtain ⟨y0, y1⟩ := Zab q8
            obtain ⟨y2, y3⟩ := Zae q8
            have r2 := (hb2.block _ (by omega)).trans a1
            have r6 := (HS.out.2.block _ (Zad r2)).trans r2
            have r8 := hoth8 _ _ _ _ (HK.out.2.2 _ _ _ _ r6 (by decide) (by decide) (by decide)) (by decide) (by decide) (by decide)
            have p2 := (hb2.block _ (by omega)).trans HA0.out
            have p6 := (HS.out.2.block _ (Zad p2)).trans p2
            have p8 := hoth8 _ _ _ _ (HK.out.2.2 _ _ _ _ p6 (by decide) (by decide) (by decide)) (by decide) (by decide) (by decide)
            have HV8 := zh (zi hv8 (zi hV8 (zi hmo8 (zi q8 (zi r8 p8)))))
            clear p2 p6 p8
            clear hv8 hV8 hmo8 hoth8 q2 q6 q8 r2 r6 r8 hR2 htv hb2 hV0 a1 a2 hH hB hw hbig))
       obtain ⟨hv8, hV8, hmo8, q8, r8, p8⟩ := HV8.out
       have hpos : 0 < w.heap.size := by have := HM.out.lt; have := HM.out.pos; omega
       have hVN := (hV8.set hpos (.inr rfl) 0 (.int .i64 s8)).set hpos (.inr rfl) 1 (.pointer g8)
       have yN := Zl2 q8 rfl s8 g8
       have xN : ((w8.setCell ⟨w.heap.size + 1 + 1, 0, none⟩ (.int .i64 s8)).setCell ⟨w.heap.size + 1 + 1, 1, none⟩ (.pointer g8)).heap[w.heap.size]? = some (.cells #[.int .i64 s, .pointer g] 28 (0, 0)) := by
         rw [Below.heap_setCell _ _ _ _ (by show w.heap.size ≠ w.heap.size + 1 + 1; omega), Below.heap_setCell _ _ _ _ (by show w.heap.size ≠ w.heap.size + 1 + 1; omega)]; exact p8
       have rN : ((w8.setCell ⟨w.heap.size + 1 + 1, 0, none⟩ (.int .i64 s8)).setCell ⟨w.heap.size + 1 + 1, 1, none⟩ (.pointer g8)).heap[w.heap.size + 1]? = some (.cells #[.int .i64 0, .pointer none] 28 (0, 0)) := by
         rw [Below.heap_setCell _ _ _ _ (by show w.heap.size + 1 ≠ w.heap.size + 1 + 1; omega), Below.heap_setCell _ _ _ _ (by show w.heap.size + 1 ≠ w.heap.size + 1 + 1; omega)]; exact r8
       clear hV8 q8 r8 p8 HV8 y0 y1 y2 y3
       generalize (w8.setCell ⟨w.heap.size + 1 + 1, 0, none⟩ (.int .i64 s8)).setCell ⟨w.heap.size + 1 + 1, 1, none⟩ (.pointer g8) = wN at *
       have hnote : ∀ W, Below wN.heap.size wN W → Calls Tryz.prog 106 #[.pointer (some ⟨sb, 4, none⟩), .agg #[.int .i64 s, .pointer g], .agg #[.int .i64 s8, .pointer g8]] W fun x w' => x = .returned (.tuple #[]) ∧ (∃ used, used ≤ 1 ∧ VarM w sb F H (fun k => k = w.heap.size + 1 ∨ k = w.heap.size + 1 + 1) D K G used w' D8) ∧
           w'.heap[w.heap.size + 1 + 1]? = some (.cells #[.int .i64 s8, .pointer g8] 28 (0, 0)) ∧ w'.heap[w.heap.size + 1]? = some (.cells #[.int .i64 0, .pointer none] 28 (0, 0)) := by
         intro W hW
         refine ((hVN.below hW).note (HV.out.mono hVN.d) hv8).mono ?_
         rintro x w' ⟨rfl, h1, h2⟩
         exact ⟨rfl, ⟨_, by simp, h1⟩, h2 _ _ _ _ ((hW.block _ (Zad yN)).trans yN) (by decide) (by decide) (by decide), h2 _ _ _ _ ((hW.block _ (Zad rN)).trans rN) (by decide) (by decide) (by decide)⟩
       obtain ⟨x0, x1⟩ := Zab xN
       obtain ⟨y0, y1⟩ := Zab yN
       have H8 := zh hv8
       clear hVN yN xN rN hv8 hmo8
       first
         | go_region_with (first
           | (go_at_call 106; refine (hnote _ (by first | exact (zb).drew | exact zb)).mono ?_; rintro x9 w9 ⟨rfl, hV9, y9, r9⟩
              obtain ⟨z0, z1⟩ := Zab y9
              obtain ⟨z2, z3⟩ := Zab r9
              obtain ⟨z4, z5⟩ := Zae r9
              have H9 := zh hV9
              clear hV9 y9 r9))
         | fail
       all_goals
         go_wp2
         refine bodyPost_ret (v := .agg #[.int .i64 s8, .pointer g8]) (by simp [results, Tryz.results100, go_sem, *]) rfl ?_
         obtain ⟨used, hu, hV9⟩ := H9.out
         obtain ⟨F', K', G', hG⟩ := ((hV9.set hpos (.inl rfl) 0 (.int .i64 s8)).set hpos (.inl rfl) 1 (.pointer g8)).ends
         exact ⟨s8, g8, F', D8, K', G', rfl, H8.out, hG.more hu⟩
theorem Zms (sb B : Nat) : NextC 1 sb B := by
 intro H w F D K G hm hi hH e s g hv hB hw hbig
 by_cases h : e < 9223372036854775807
 · refine (Zmr sb H w F D K G hm hi hH e s g hv h hw hbig).mono ?_
   rintro x w' ⟨s', g', F', D', K', G', rfl, h1, h2⟩
   exact ⟨s', g', F', D', K', G', rfl, h1, h2.more (by omega)⟩
 · exact Zpl hm hi hH hv (by omega) hw hbig
end
end Go.Proofs.YtlkmgclbckojgaaGreatDoor

