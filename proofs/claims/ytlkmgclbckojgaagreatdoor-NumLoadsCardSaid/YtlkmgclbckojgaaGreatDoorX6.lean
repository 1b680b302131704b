import Derived.Test.YtlkmgclbckojgaaGreatDoorX2
set_option linter.unusedVariables false
set_option linter.unusedSimpArgs false
set_option maxHeartbeats 4000000
set_option maxRecDepth 100000
namespace Go.Proofs.YtlkmgclbckojgaaGreatDoor
section
open Go.RowKit
theorem Zhn (c : Int) : bits BinOp.and IntKind.i64 c 2 = if c % 4 < 2 then 0 else 2 := by
 show IntKind.i64.wrap ((BitVec.ofInt 64 c &&& BitVec.ofInt 64 2).toNat : Int) = _
 rw [BitVec.toNat_and, show (BitVec.ofInt 64 2).toNat = 2 from rfl, Zg1, BitVec.toNat_ofInt, IntKind.wrap_i64]
 have h : (c % ((2 ^ 64 : Nat) : Int)).toNat % 4 = (c % 4).toNat := by
   have e : ((2 ^ 64 : Nat) : Int) = 18446744073709551616 := by decide
   rw [e]; omega
 rw [h]
 by_cases hc : c % 4 < 2
 · rw [if_pos hc, if_pos (by omega)]; rfl
 · rw [if_neg hc, if_neg (by omega)]; rfl
def pickM (c : Int) : Bool := decide (¬ c % 4 < 2)
theorem Znv {c : Int} (h : c % 2 ≠ 0) : (c - sg (pickM c)) % 4 = 0 := by
 unfold pickM
 by_cases hc : c % 4 < 2
 · simp [hc, sg]; omega
 · simp [hc, sg]; omega
theorem Znw (sb : Nat) (c : Int) (hc : -100000 ≤ c ∧ c ≤ 100000) (s : Int) (g : Option Addr) (a : Option Addr) (cp : Nat) (w : World) :
   Calls Tryz.prog 103 #[.pointer (some ⟨sb, 0, none⟩), .int .i64 c, .agg #[.int .i64 s, .pointer g], .slice a 0 cp] w fun x w' => x = .returned (.int .i64 (sg (pickM c))) ∧ Below w.heap.size w w' := by
 have hb := Zhn c
 by_cases h4 : c % 4 < 2
 all_goals
   first | rw [if_pos h4] at hb | rw [if_neg h4] at hb
   have hm : pickM c = decide (¬ c % 4 < 2) := rfl
   have HM := zh hm
   clear hm
   go_enter Tryz.func103, Tryz.ntmps103
   go_wp2
   first
     | go_big_region
     | fail
   all_goals go_wp2
   all_goals go_ret
   all_goals refine ⟨?_, ((zb).alloc (zl) _).drew⟩
   all_goals rw [HM.out]
   all_goals simp [h4, sg]
end
section
open Go.RowKit
theorem Zpf (sb : Nat) (c : Int) (hc : -100000 ≤ c ∧ c ≤ 100000) (s s' : Int) (g g' : Option Addr) (b o n cp : Nat) (hn0 : (1 : Int) ≤ n) (hn9 : (n : Int) ≤ 100000) (hcap : n ≤ cp) (hcm : cp ≤ maxLen) (w : World) (P : World → Prop)
   (hrow : w.cell? ⟨b, o + (n - 1) * 3 + 1, none⟩ = some (.int .i64 s') ∧ w.cell? ⟨b, o + (n - 1) * 3 + 2, none⟩ = some (.pointer g'))
   (fol : ∀ W, Below w.heap.size w W → Calls Tryz.prog 83 #[.pointer (some ⟨sb, 0, none⟩), .agg #[.int .i64 s, .pointer g], .agg #[.int .i64 s', .pointer g']] W fun x w' => x = .returned (.bool false) ∧ P w' ∧ Others W w' ∧ w'.cell? ⟨b, o + (n - 1) * 3 + 1, none⟩ = some (.int .i64 s') ∧ w'.cell? ⟨b, o + (n - 1) * 3 + 2, none⟩ = some (.pointer g')) :
   Calls Tryz.prog 103 #[.pointer (some ⟨sb, 0, none⟩), .int .i64 c, .agg #[.int .i64 s, .pointer g], .slice (some ⟨b, o, none⟩) n cp] w fun x w' => x = .returned (.int .i64 (sg (pickM c))) ∧ P w' := by
 have hb := Zhn c
 have hidx : ((n : Int) - 1).toNat = n - 1 := by omega
 have hw1 : IntKind.i64.wrap ((n : Int) - 1) = (n : Int) - 1 := IntWalk.i64_in _ (by omega)
 have hw2 : (0 : Int) ≤ (n : Int) - 1 := by omega
 have hw3 : (n : Int) - 1 < (n : Int) := by omega
 have hw4 : (n : Int) ≤ 9223372036854775807 := by omega
 obtain ⟨x1, x2⟩ := hrow
 have hlt := World.block_lt_of_cell? _ _ x1
 have y1 := Zar (.cells #[.int .i64 s, .pointer g] 28) hlt x1
 have y2 := Zar (.cells #[.int .i64 s, .pointer g] 28) hlt x2
 obtain ⟨c0, c1⟩ := Zab (heap_alloc_new w (.cells #[.int .i64 s, .pointer g] 28))
 clear x1 x2
 by_cases h4 : c % 4 < 2
 all_goals
   first | rw [if_pos h4] at hb | rw [if_neg h4] at hb
   have hm : pickM c = decide (¬ c % 4 < 2) := rfl
   have HM := zh hm
   clear hm
   go_enter Tryz.func103, Tryz.ntmps103
   go_wp2
   first
     | go_region_held3 (fun w' => w'.cell? ⟨w.heap.size, 0, none⟩ = some (.int .i64 s) ∧ w'.cell? ⟨w.heap.size, 1, none⟩ = some (.pointer g) ∧ w'.cell? ⟨b, o + (n - 1) * 3 + 1, none⟩ = some (.int .i64 s') ∧ w'.cell? ⟨b, o + (n - 1) * 3 + 2, none⟩ = some (.pointer g')) (first | (go_keep; done) | ((try dsimp only); refine ⟨?_, ?_, ?_, ?_⟩ <;> (go_keep; done)))
       (first
       | (go_at_call 83; refine (fol _ (((zb).alloc (zl) _).drew)).mono ?_; rintro x2 w2 ⟨rfl, hP, hO, e1, e2⟩
          obtain ⟨e3, e4⟩ := Zab (hO _ _ _ _ (heap_alloc_new w (.cells #[.int .i64 s, .pointer g] 28)) (by decide) (by decide) (by decide))
          have HP := zh hP
          clear hP hO))
     | fail
   go_wp2
   go_ret
   refine ⟨?_, HP.out⟩
   rw [HM.out]
   simp [h4, sg]
end
section
open Go.RowKit
theorem Zqe (sb : Nat) (c : Int) (hc : -100000 ≤ c ∧ c ≤ 100000) (s s' : Int) (g g' : Option Addr) (b o n cp : Nat) (hn0 : (1 : Int) ≤ n) (hn9 : (n : Int) ≤ 100000) (hcap : n ≤ cp) (hcm : cp ≤ maxLen) (w : World) (P : World → Prop)
   (hPb : ∀ W W', P W → Below W.heap.size W W' → P W') (ex : Nat → Int × Option Addr) (hex : ex (n - 1) = (s', g')) (k : Nat) (hk : k ≤ n) (heq : ∀ j, j < k → ex (n - 1 - j) = (s', g')) (hneq : k < n → ex (n - 1 - k) ≠ (s', g'))
   (hrow : w.cell? ⟨b, o + (n - 1) * 3 + 1, none⟩ = some (.int .i64 s') ∧ w.cell? ⟨b, o + (n - 1) * 3 + 2, none⟩ = some (.pointer g'))
   (fol : ∀ W, Below w.heap.size w W → Calls Tryz.prog 83 #[.pointer (some ⟨sb, 0, none⟩), .agg #[.int .i64 s, .pointer g], .agg #[.int .i64 s', .pointer g']] W fun x w' => x = .returned (.bool true) ∧ P w' ∧ Others W w' ∧ (∀ i, i < n → w'.cell? ⟨b, o + i * 3 + 1, none⟩ = some (.int .i64 (ex i).1) ∧ w'.cell? ⟨b, o + i * 3 + 2, none⟩ = some (.pointer (ex i).2) ∧ PtrOk w' (ex i).2)) :
   Calls Tryz.prog 103 #[.pointer (some ⟨sb, 0, none⟩), .int .i64 c, .agg #[.int .i64 s, .pointer g], .slice (some ⟨b, o, none⟩) n cp] w fun x w' => x = .returned (.int .i64 (sg (pickM (c + 2 * k)))) ∧ P w' := by
 have hidx : ((n : Int) - 1).toNat = n - 1 := by omega
 have hw1 : IntKind.i64.wrap ((n : Int) - 1) = (n : Int) - 1 := IntWalk.i64_in _ (by omega)
 have hw2 : (0 : Int) ≤ (n : Int) - 1 := by omega
 have hw3 : (n : Int) - 1 < (n : Int) := by omega
 have hw4 : (n : Int) ≤ 9223372036854775807 := by omega
 obtain ⟨x1, x2⟩ := hrow
 have hlt := World.block_lt_of_cell? _ _ x1
 have y1 := Zar (.cells #[.int .i64 s, .pointer g] 28) hlt x1
 have y2 := Zar (.cells #[.int .i64 s, .pointer g] 28) hlt x2
 obtain ⟨c0, c1⟩ := Zab (heap_alloc_new w (.cells #[.int .i64 s, .pointer g] 28))
 clear x1 x2
 have HE := zh (zi hPb (zi hk (zi heq (zi hneq hex))))
 clear hPb hk heq hneq hex
 go_enter Tryz.func103, Tryz.ntmps103
 go_wp2
 first
   | go_region_held3 (fun w' => w'.cell? ⟨w.heap.size, 0, none⟩ = some (.int .i64 s) ∧ w'.cell? ⟨w.heap.size, 1, none⟩ = some (.pointer g) ∧ w'.cell? ⟨b, o + (n - 1) * 3 + 1, none⟩ = some (.int .i64 s') ∧ w'.cell? ⟨b, o + (n - 1) * 3 + 2, none⟩ = some (.pointer g')) (first | (go_keep; done) | ((try dsimp only); refine ⟨?_, ?_, ?_, ?_⟩ <;> (go_keep; done)))
     (first
     | (go_at_call 83; refine (fol _ (((zb).alloc (zl) _).drew)).mono ?_; rintro x2 w2 ⟨rfl, hP, hO, hR⟩
        obtain ⟨e1, e2, _⟩ := hR (n - 1) (by omega)
        rw [HE.out.2.2.2.2] at e1 e2
        simp only at e1 e2
        obtain ⟨e3, e4⟩ := Zab (hO _ _ _ _ (heap_alloc_new w (.cells #[.int .i64 s, .pointer g] 28)) (by decide) (by decide) (by decide))
        have HP := zh (zi hP hR)
        clear hP hO hR))
   | fail
 go_wp2
 have hb2 : b < w2.heap.size := World.block_lt_of_cell? _ _ e1
 clear fol y1 y2 c0 c1 e1 e2 e3 e4 hidx hw1 hw2 hw3
 go_loopw [1, 9, 10] (fun ct i nx wr => ∃ (j nb : Nat), j ≤ k ∧ ct = .int .i64 (c + 2 * j) ∧ i = .int .i64 ((n : Int) - 1 - j) ∧ nx = .pointer (some ⟨nb, 0, none⟩) ∧ wr.heap[nb]? = some (.cells #[.int .i64 s', .pointer g'] 28) ∧ Below w2.heap.size w2 wr) (fun _ i _ _ => (intOf i + 1).toNat)
 case atStart => exact ⟨0, w2.heap.size, by omega, by simp, by simp, rfl, heap_alloc_new w2 _, (zb).alloc (zl) _⟩
 case round =>
   obtain ⟨j, nb, hj, rfl, rfl, rfl, hnb, hbl⟩ := hrel
   obtain ⟨n0, n1⟩ := Zab hnb
   obtain ⟨hPb, hk, heq, hneq, hex⟩ := HE.out
   have hR := HP.out.2
   have hpg : PtrOk w2 g' := by have := (hR (n - 1) (by omega)).2.2; rw [hex] at this; exact this
   by_cases hjk : j < k
   · have he := heq j hjk
     obtain ⟨r1, r2, r3⟩ := hR (n - 1 - j) (by omega)
     rw [he] at r1 r2 r3
     simp only at r1 r2 r3
     obtain ⟨m, hm⟩ : ∃ m : Nat, m = n - 1 - j := ⟨_, rfl⟩
     rw [← hm] at r1 r2
     have hmi : (n : Int) - 1 - j = m := by omega
     rw [hmi]
     have q1 := (hbl.cell (p := ⟨b, o + m * 3 + 1, none⟩) hb2).trans r1
     have q2 := (hbl.cell (p := ⟨b, o + m * 3 + 2, none⟩) hb2).trans r2
     have hq := Zf3 wr.drew 9998 g' g' ((hpg.keep hbl.block)) ((hpg.keep hbl.block))
     rw [show (g' == g') = true by simp] at hq
     have hm0 : (0 : Int) ≤ (m : Int) := by omega
     have hm1 : (m : Int) < (n : Int) := by omega
     have hm2 : (m : Int) ≤ 100000 := by omega
     have hcj : -300000 ≤ c + 2 * (j : Int) ∧ c + 2 * (j : Int) ≤ 300000 := by omega
     have HL := zh (zi hbl (zi hm hjk))
     clear hPb hk heq hneq hex hR hpg r1 r2 r3 hbl hnb hm hjk hj he
     go_wp2
     first
       | go_region
       | fail
     all_goals go_wp2
     refine ⟨⟨j + 1, wr.heap.size, by have := HL.out.2.2; omega, ?_, ?_, rfl, heap_alloc_new wr _, (HL.out.1.alloc HL.out.1.size _).drew⟩, ?_⟩
     · congr 1; omega
     · congr 1; have := HL.out.2.1; have := HL.out.2.2; omega
     · simp [intOf]
   · have hjk' : j = k := by omega
     subst hjk'
     have hb4 := Zhn (c + 2 * (j : Int))
     have hcj : -300000 ≤ c + 2 * (j : Int) ∧ c + 2 * (j : Int) ≤ 300000 := by omega
     have HL := zh (zi hbl (zi hPb HP.out.1))
     have HMM := zh (show pickM (c + 2 * (j : Int)) = decide (¬ (c + 2 * (j : Int)) % 4 < 2) from rfl)
     by_cases hjn : j = n
     · have hi : (n : Int) - 1 - j = -1 := by omega
       rw [hi]
       clear hPb hk heq hneq hex hR hpg hnb hbl hjk hj hjn hi
       by_cases h4 : (c + 2 * (j : Int)) % 4 < 2
       all_goals
         first | rw [if_pos h4] at hb4 | rw [if_neg h4] at hb4
         go_wp2
         first
           | go_big_region
           | fail
         all_goals go_wp2
         all_goals go_ret
         all_goals refine ⟨?_, HL.out.2.1 _ _ HL.out.2.2 (HL.out.1.drew)⟩
         all_goals rw [HMM.out]
         all_goals simp [h4, sg]
     · obtain ⟨r1, r2, r3⟩ := hR (n - 1 - j) (by omega)
       have hn2 := hneq (by omega)
       obtain ⟨m, hm⟩ : ∃ m : Nat, m = n - 1 - j := ⟨_, rfl⟩
       rw [← hm] at r1 r2 r3 hn2
       generalize ex m = em at r1 r2 r3 hn2
       obtain ⟨s3, g3⟩ := em
       simp only at r1 r2 r3
       have hmi : (n : Int) - 1 - j = m := by omega
       rw [hmi]
       have q1 := (hbl.cell (p := ⟨b, o + m * 3 + 1, none⟩) hb2).trans r1
       have q2 := (hbl.cell (p := ⟨b, o + m * 3 + 2, none⟩) hb2).trans r2
       have hq := Zf3 wr.drew 9998 g3 g' (r3.keep hbl.block) (hpg.keep hbl.block)
       have hm0 : (0 : Int) ≤ (m : Int) := by omega
       have hm1 : (m : Int) < (n : Int) := by omega
       have hm2 : (m : Int) ≤ 100000 := by omega
       have hss : (s3 = s' ∧ (g3 == g') = false) ∨ ¬ s3 = s' := by
         by_cases h : s3 = s'
         · refine .inl ⟨h, ?_⟩
           simp only [beq_eq_false_iff_ne]
           rintro rfl
           exact hn2 (by rw [h])
         · exact .inr h
       clear hPb hk heq hneq hex hR hpg r1 r2 r3 hnb hbl hjk hj hjn hm hn2 hmi
       rcases hss with ⟨rfl, hgg⟩ | hss
       · rw [hgg] at hq
         clear hgg
         by_cases h4 : (c + 2 * (j : Int)) % 4 < 2
         all_goals
           first | rw [if_pos h4] at hb4 | rw [if_neg h4] at hb4
           go_wp2
           first
             | go_region
             | fail
           all_goals go_wp2
           all_goals go_ret
           all_goals refine ⟨?_, HL.out.2.1 _ _ HL.out.2.2 (HL.out.1.drew)⟩
           all_goals rw [HMM.out]
           all_goals simp [h4, sg]
       · have hss2 : (s3 == s') = false := by simp [hss]
         by_cases h4 : (c + 2 * (j : Int)) % 4 < 2
         all_goals
           first | rw [if_pos h4] at hb4 | rw [if_neg h4] at hb4
           go_wp2
           first
             | go_region
             | fail
           all_goals go_wp2
           all_goals go_ret
           all_goals refine ⟨?_, HL.out.2.1 _ _ HL.out.2.2 (HL.out.1.drew)⟩
           all_goals rw [HMM.out]
           all_goals simp [h4, sg]
end
section
open Go.RowKit
theorem Zkq (e : Nat) : ∀ (r l : List Tm), l = r.reverse → Falls l → (∀ u ∈ l, e ≤ u.2) → (∀ j, j < cntE l e → ∃ t, l[l.length - 1 - j]? = some t ∧ t.2 = e) ∧ (cntE l e < l.length → ∃ t, l[l.length - 1 - cntE l e]? = some t ∧ t.2 ≠ e)
 | [], l, h, hf, hl => by
   subst h
   simp [cntE]
 | t :: r, l, h, hf, hl => by
   rw [List.reverse_cons] at h
   have ih := Zkq e r r.reverse rfl
   generalize r.reverse = m at h ih
   subst h
   have hf' : Falls m := (List.pairwise_append.1 hf).1
   have ih := ih hf' (fun u hu => hl u (List.mem_append_left _ hu))
   have hge := hf.snoc
   rw [Zkf, List.length_append, List.length_singleton]
   by_cases ht : t.2 = e
   · rw [if_pos ht]
     refine ⟨fun j hj => ?_, fun hc => ?_⟩
     · cases j with
       | zero => exact ⟨t, by simp, ht⟩
       | succ j =>
         obtain ⟨u, hu, hu2⟩ := ih.1 j (by omega)
         refine ⟨u, ?_, hu2⟩
         have hlt : m.length - 1 - j < m.length := by
           rcases Nat.lt_or_ge (m.length - 1 - j) m.length with x | x
           · exact x
           · simp [List.getElem?_eq_none x] at hu
         rw [show m.length + 1 - 1 - (j + 1) = m.length - 1 - j by omega, List.getElem?_append_left hlt]
         exact hu
     · obtain ⟨u, hu, hu2⟩ := ih.2 (by omega)
       refine ⟨u, ?_, hu2⟩
       have hlt : m.length - 1 - cntE m e < m.length := by
         rcases Nat.lt_or_ge (m.length - 1 - cntE m e) m.length with x | x
         · exact x
         · simp [List.getElem?_eq_none x] at hu
       rw [show m.length + 1 - 1 - (cntE m e + 1) = m.length - 1 - cntE m e by omega, List.getElem?_append_left hlt]
       exact hu
   · have h1 := hl t (by simp)
     have h0 : cntE m e = 0 := Zdc fun u hu => by have := hge u hu; omega
     rw [if_neg ht, h0]
     exact ⟨fun j hj => by omega, fun _ => ⟨t, by simp, ht⟩⟩
theorem Znx {γ sb B : Nat} (hN : NextC γ sb B) {H : Nat → Prop} {w : World} {F : Nat → Prop} {D : Addr → Option Int} {K : List Addr} {G : StG} (hm : StMem w sb F G) (hi : StInv w (hot H F) D K G) (hH : ∀ k, H k → k < w.heap.size) {a : Nat} {s : Int} {g : Option Addr} (hv : ValD D s g (a : Int))
   (hB : a < B) (hw : wt (a : Int) ≤ 29999) (hbig : K.length + 1 ≤ big) {vA : Value} {ts : List TV} {l : List Tm} (hr : RowF w (hot H F) 3 vA ts.length (flatT ts)) (ht : TVals D ts l) (hf : Falls l) (hd : ∀ u ∈ l, a < u.2) (hlen : ts.length ≤ 60000) {c : Int} (hc : -100000 ≤ c ∧ c ≤ 100000) :
   Calls Tryz.prog 103 #[.pointer (some ⟨sb, 0, none⟩), .int .i64 c, .agg #[.int .i64 s, .pointer g], vA] w fun x w' => x = .returned (.int .i64 (sg (pickM (c + 2 * cntE l (a + 1))))) ∧ ∃ (F' : Nat → Prop) (D' : Addr → Option Int) (K' : List Addr) (G' : StG), GrowMem w sb F H D K G γ w' F' D' K' G' := by
 have hlt := ht.len
 obtain ⟨ax, cp, rfl⟩ := hr.1.shape
 by_cases h0 : ts.length = 0
 · rw [h0]
   have hl0 : l = [] := List.length_eq_zero_iff.1 (by omega)
   subst hl0
   refine (Znw sb c hc s g ax cp w).mono ?_
   rintro x w' ⟨rfl, hb⟩
   exact ⟨by simp [cntE], F, D, K, G, (GrowMem.start hm hi γ).below hb⟩
 · rcases hr.1.2 with ⟨e, _⟩ | ⟨b, o, cap1, e1, p1, p2, p3, p4⟩
   · simp only [Value.slice.injEq] at e; omega
   cases e1
   have hA1 : (1 : Int) ≤ (ts.length : Int) := by omega
   have hA2 : (ts.length : Int) ≤ 100000 := by omega
   have hA3 : ts.length - 1 < ts.length := by omega
   have hcell : ∀ W F', Step w W F F' → ∀ i (h : i < ts.length), W.cell? ⟨b, o + i * 3 + 1, none⟩ = some (.int .i64 (ts.getD i default).2.1) ∧ W.cell? ⟨b, o + i * 3 + 2, none⟩ = some (.pointer (ts.getD i default).2.2) := by
     intro W F' hs i h
     have := RowC.term (hr.step (hs.hot H)).1.rowC i h
     have hg : ts.getD i default = ts[i] := by simp [List.getD, h]
     rw [hg]
     exact ⟨this.2.1, this.2.2⟩
   have hval : ∀ i (h : i < ts.length), ∃ u, l[i]? = some u ∧ ValD D (ts.getD i default).2.1 (ts.getD i default).2.2 (u.2 : Int) := by
     intro i h
     have hg : ts.getD i default = ts[i] := by simp [List.getD, h]
     rw [hg]
     exact ⟨_, List.getElem?_eq_getElem (by omega), (ht.get i h (by omega)).2⟩
   obtain ⟨uL, huL, hvL⟩ := hval (ts.length - 1) hA3
   obtain ⟨ft1, ft2⟩ := Zkq (a + 1) l.reverse l (by simp) hf (fun u hu => hd u hu)
   have fol : ∀ W, Below w.heap.size w W → Calls Tryz.prog 83 #[.pointer (some ⟨sb, 0, none⟩), .agg #[.int .i64 s, .pointer g], .agg #[.int .i64 (ts.getD (ts.length - 1) default).2.1, .pointer (ts.getD (ts.length - 1) default).2.2]] W fun x w' => x = .returned (.bool (decide (uL.2 = a + 1))) ∧
       (∃ (F' : Nat → Prop) (D' : Addr → Option Int) (K' : List Addr) (G' : StG), GrowMem w sb F H D K G γ w' F' D' K' G') ∧ Others W w' ∧ (∀ i, i < ts.length → w'.cell? ⟨b, o + i * 3 + 1, none⟩ = some (.int .i64 (ts.getD i default).2.1) ∧ w'.cell? ⟨b, o + i * 3 + 2, none⟩ = some (.pointer (ts.getD i default).2.2) ∧ PtrOk w' (ts.getD i default).2.2) := by
     intro W hW
     have sW := Step.of_below F hW
     have mW := hm.below hW
     refine (Zfl hN mW (hi.step (sW.hot H)) (fun k hk => Nat.lt_of_lt_of_le (hH k hk) hW.size) hv hvL hB hw hbig).mono ?_
     rintro x w' ⟨F', D', K', G', rfl, m2, i2, st2, gg2, hk2⟩
     refine ⟨rfl, ⟨F', D', K', G', m2, i2, sW.trans st2, gg2, hk2⟩, fun x c t fr hx h1 h2 h3 => Own.kept mW st2.keeps hx h1 h2 h3, fun i hi' => ?_⟩
     obtain ⟨u, hu, hvu⟩ := hval i hi'
     have hc := hcell w' F' (sW.trans st2) i hi'
     exact ⟨hc.1, hc.2, (hvu.mono gg2.d).ptr i2.forest⟩
   have hrow := hcell w F (Step.refl _ _) (ts.length - 1) hA3
   have hpre : ∀ j, ts.length - 1 - j < ts.length := fun j => by omega
   by_cases hfe : uL.2 = a + 1
   · have hcl : cntE l (a + 1) ≤ ts.length := by rw [hlt]; exact List.countP_le_length
     have hx := Zqe sb c hc s _ g _ b o ts.length cp hA1 hA2 p1 p2 w (fun w' => ∃ (F' : Nat → Prop) (D' : Addr → Option Int) (K' : List Addr) (G' : StG), GrowMem w sb F H D K G γ w' F' D' K' G')
       (fun W W' h hb => by obtain ⟨F', D', K', G', hg⟩ := h; exact ⟨F', D', K', G', hg.below hb⟩) (fun i => ((ts.getD i default).2.1, (ts.getD i default).2.2)) rfl (cntE l (a + 1)) hcl
       (fun j hj => by
         obtain ⟨t, ht1, ht2⟩ := ft1 j hj
         obtain ⟨u, hu, hvu⟩ := hval (ts.length - 1 - j) (hpre j)
         rw [hlt, ht1] at hu
         cases hu
         rw [ht2] at hvu
         rw [hfe] at hvL
         obtain ⟨q1, q2⟩ := ValD.inj hi.forest hvu hvL
         rw [q1, q2])
       (fun hk hc => by
         obtain ⟨t, ht1, ht2⟩ := ft2 (hlt ▸ hk)
         obtain ⟨u, hu, hvu⟩ := hval (ts.length - 1 - cntE l (a + 1)) (hpre _)
         rw [hlt, ht1] at hu
         cases hu
         simp only [Prod.mk.injEq] at hc
         rw [hc.1, hc.2] at hvu
         have h9 := ValD.det hi.forest hvu hvL
         exact ht2 ((Int.ofNat.inj h9).trans hfe))
       hrow (fun W hW => by have := fol W hW; rw [show decide (uL.2 = a + 1) = true by simp [hfe]] at this; exact this)
     exact hx
   · have hz : cntE l (a + 1) = 0 := by
       rcases Nat.eq_zero_or_pos (cntE l (a + 1)) with h | h
       · exact h
       · obtain ⟨t, ht1, ht2⟩ := ft1 0 h
         rw [Nat.sub_zero, ← hlt, huL] at ht1
         cases ht1
         exact absurd ht2 hfe
     rw [hz]
     have hx := Zpf sb c hc s _ g _ b o ts.length cp hA1 hA2 p1 p2 w (fun w' => ∃ (F' : Nat → Prop) (D' : Addr → Option Int) (K' : List Addr) (G' : StG), GrowMem w sb F H D K G γ w' F' D' K' G') hrow (fun W hW => by
       refine (fol W hW).mono ?_
       rintro x w' ⟨rfl, h1, h2, h3⟩
       have := h3 (ts.length - 1) hA3
       exact ⟨by simp [hfe], h1, h2, this.1, this.2.1⟩)
     refine hx.mono ?_
     rintro x w' ⟨rfl, h⟩
     exact ⟨by simp, h⟩
end
end Go.Proofs.YtlkmgclbckojgaaGreatDoor

