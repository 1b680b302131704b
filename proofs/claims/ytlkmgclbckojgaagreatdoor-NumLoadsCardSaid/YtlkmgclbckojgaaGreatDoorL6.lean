import Derived.Test.YtlkmgclbckojgaaGreatDoorL4
import Derived.Test.YtlkmgclbckojgaaGreatDoorShelf
import Derived.LaidEql
set_option linter.unusedVariables false
set_option linter.unusedSimpArgs false
set_option maxHeartbeats 2000000
set_option maxRecDepth 100000
namespace Go.Proofs.YtlkmgclbckojgaaGreatDoor
section
open Go.RowKit
def smallTV (t : Tm) : TV := (t.1, (t.2 : Int), none)
theorem Zf1 : ∀ f x, Lib.bitLenAux f x ≤ f
 | 0, _ => zl
 | f + 1, x => by rw [Lib.bitLenAux]; split; · omega
                  · have := Zf1 f (x / 2); omega
theorem Zkc (n : Nat) : Lib.bitLen n ≤ 64 := Zf1 64 n
theorem Zgz (x : Int) (w : World) (h0 : 0 ≤ x) (h1 : x ≤ 18446744073709551615) :
   Calls Tryz.prog 97 #[.int .u64 x] w fun e w' => e = .returned (.int .i64 (Lib.bitLen x.toNat)) ∧ w = w' :=
 (Tryz.bits_Len64 x w h0 h1).mono fun _ _ ⟨a, b⟩ => ⟨a, b.symm⟩
theorem Zql : ∀ (l : List Tm) (b : Nat), NA l → (∀ t ∈ l, t.2 < b) → l.length ≤ b
 | [], b, _, _ => by simp
 | t :: l, b, h, hb => by
   have := Zql l t.2 h.tail (fun u hu => by have := h.head u hu; omega)
   have := hb t (List.mem_cons_self ..)
   simp only [List.length_cons]; omega
theorem Zf2 {z : Int} {b : Nat} (h1 : z ≤ 2 ^ b) (h2 : -(2 ^ b) ≤ z) : ∀ t ∈ naf z, t.2 < b + 2 := by
 intro t ht
 have hz := Zam z
 have hn := Za3 z
 cases hl : naf z with
 | nil => rw [hl] at ht; exact absurd ht (by simp)
 | cons u l =>
   rw [hl] at ht hn hz
   have hu : t.2 ≤ u.2 := by
     rcases List.mem_cons.1 ht with rfl | ht
     · omega
     · have := hn.head t ht; omega
   have h3 := (Zbm hn).1
   rw [hz] at h3
   rcases Nat.lt_or_ge u.2 (b + 2) with h | h
   · omega
   · have p := Zc2 (a := b + 2) (b := u.2) h
     rw [show b + 2 = (b + 1) + 1 from rfl, Zai, Zai] at p
     have p0 := pow_pos b
     rcases Zay u.1 with ⟨_, e⟩ | ⟨_, e⟩ <;> rw [e] at h3 <;> omega
theorem Zg0 (u : Nat) (h : (u : Int) ≤ 9223372036854775808) : (nafUp (u : Int) 0).length ≤ 65 := by
 have h1 := Zql (naf (u : Int)) 65 (Za3 _) (Zf2 (b := 63) (by omega) (by have := pow_pos 63; omega))
 unfold naf at h1
 rwa [List.length_reverse] at h1
def flipTV (b : Bool) (t : Tm) : TV := smallTV (b != t.1, t.2)
theorem Zja (L : Nat) (h : L < 18446744073709551616) : bits BinOp.and IntKind.u64 (L : Int) 1 = ((L % 2 : Nat) : Int) := by
 have := bits_and_u64_nat L 1 h (by decide)
 rw [show ((1 : Nat) : Int) = 1 from rfl] at this
 rw [this, Nat.and_one_is_mod]
theorem Zg1 (L : Nat) : L &&& 2 = if L % 4 < 2 then 0 else 2 := by
 have h : (L &&& 2) % 4 = (L % 4) &&& 2 := by
   have := Nat.and_mod_two_pow (a := L) (b := 2) (n := 2)
   simpa using this
 have hle : L &&& 2 ≤ 2 := Nat.and_le_right
 have h2 : L &&& 2 = (L % 4) &&& 2 := by omega
 rw [h2]
 have : L % 4 = 0 ∨ L % 4 = 1 ∨ L % 4 = 2 ∨ L % 4 = 3 := by omega
 rcases this with e | e | e | e <;> rw [e] <;> decide
theorem Zjb (L : Nat) (h : L < 18446744073709551616) : bits BinOp.and IntKind.u64 (L : Int) 2 = if L % 4 < 2 then 0 else 2 := by
 have := bits_and_u64_nat L 2 h (by decide)
 rw [show ((2 : Nat) : Int) = 2 from rfl] at this
 rw [this, Zg1]; split <;> rfl
theorem Zac {w w1 : World} {base : Nat} {e : TypeId} {size : Nat} {v : Value} {n : Nat} {xs : List Value} (h : w.ownsRow base e size v n xs) (hb : Below w.heap.size w w1) : w1.ownsRow base e size v n xs :=
 h.kept (row := none) ⟨hb.os, hb.tape, hb.output, hb.size, fun k hk _ => hb.block k hk⟩ (by cases hv : v.ownBlock <;> simp)
theorem Zaj (w : World) (cs : List Value) (t : TypeId) (fr : Nat × Nat) : ∀ j u, cs[j]? = some u → (w.alloc (.cells cs.toArray t fr)).cell? ((⟨w.heap.size, 0, none⟩ : Addr).add j) = some u := by
 intro j u hj
 rw [Zbl]
 show (match (w.alloc (.cells cs.toArray t fr)).heap[w.heap.size]? with | some (.cells c _ _) => if (none : Option Nat).isSome then none else c[0 + j]? | _ => none) = some u
 rw [heap_alloc_new]
 simpa using hj
theorem Zg2 (n : Int) (hn : i64 n) (hs : n < 0) (w : World) :
   Calls Tryz.prog 81 #[.int .i64 n] w fun e w' => ∃ v, e = .returned v ∧ w'.ownsRow w.heap.size 62 3 v (nafUp n.natAbs 0).length (flatT ((nafUp n.natAbs 0).reverse.map (flipTV true))) ∧ Below w.heap.size w w' := by
 obtain ⟨i0, hi, hz0, hz1, hz2⟩ := info_parts infoeT
 have hu : IntKind.u64.wrap (-IntKind.u64.wrap n) = (n.natAbs : Int) := by unfold i64 at hn; simp only [IntKind.wrap, IntKind.bits, IntKind.signed]; simp; omega
 have hub : (n.natAbs : Int) ≤ 9223372036854775808 := by unfold i64 at hn; omega
 generalize hU : n.natAbs = u at *
 clear hU
 have HB := zh hub
 obtain ⟨K, hK⟩ : ∃ K : Nat, K = Lib.bitLen u := ⟨_, rfl⟩
 have hK2 : (K : Int) ≤ 64 := by have := Zkc u; omega
 have HK := zh hK; clear hK
 have hd : decide (n < 0) = true := by simp; omega
 have HLEN : Hid ((nafUp u 0).length ≤ 65) := Zg0 u (by omega)
 go_enter Tryz.func81, Tryz.ntmps81
 go_wp2_with (first
   | (go_at_call 97; refine (Zgz _ _ (by omega) (by omega)).mono ?_; rintro e w' ⟨rfl, rfl⟩; rw [Int.toNat_natCast, ← HK.out])
   | (at_make; refine wpList_make_own _ rfl _ _ 59 rfl w.heap.size 62 i0 zT 3 Tryz.underlying59 hi hz0 hz1 .i64 .i64 _ (K / 2 + 1) rfl rfl (by omega) (by rw [hz2]; omega) (by unfold maxLen; omega) (zl) ?_; intro w0 hown0 hgrow0))
 go_loopw [3, 4, 5] (fun l v e wr => ∃ (L E : Nat) (em : List Tm), l = .int .u64 L ∧ e = .int .i64 E ∧ em ++ nafUp L E = nafUp u 0 ∧ wr.ownsRow w.heap.size 62 3 v em.length (flatT (em.map (flipTV true))) ∧ Below w.heap.size w wr ∧ L ≤ u ∧ (E = 0 ∨ (E : Int) + L ≤ 9223372036854775807)) (fun l _ _ _ => (intOf l).toNat)
 case atStart => exact ⟨u, 0, [], rfl, rfl, rfl, by simpa [flatT] using hown0, (zb).grown hgrow0 (zl) (by simp), zl, .inl rfl⟩
 case round =>
   obtain ⟨L, E, em, rfl, rfl, hem, hown, hbel, hL, hE⟩ := hrel
   have hem' := zh hem
   have hbel' := zh hbel
   clear hem hbel
   have hl65 : em.length ≤ 65 := by
     have h1 := congrArg List.length hem'.out
     rw [List.length_append] at h1
     have := HLEN.out
     omega
   by_cases h0 : L = 0
   · subst h0
     have b0 : (((0 : Nat) : Int) != 0) = false := rfl
     have he : em = nafUp u 0 := by
       have := hem'.out
       rwa [show ((0 : Nat) : Int) = 0 from rfl, Zda, List.append_nil] at this
     have hown2 : wr.ownsRow w.heap.size 62 3 u4 (em.map (flipTV true)).length (flatT (em.map (flipTV true))) := by rw [List.length_map]; exact hown
     have hl2 : (em.map (flipTV true)).length ≤ lim := by rw [List.length_map, Za8]; omega
     clear hl65
     have HE := zh he
     clear he
     go_wp2_with (go_at_call 98; refine (Zc4 _ _ _ _ hown2 hl2).mono ?_; rintro e w2 ⟨rfl, hown3, hg3⟩)
     go_ret
     refine ⟨_, rfl, ?_, hbel'.out.grown hg3 hbel'.out.size (Zak hown2)⟩
     have := HE.out
     rw [List.length_map] at hown3
     rw [List.map_reverse, ← this]
     exact hown3
   · have b0 : ((L : Int) != 0) = true := by rw [bne_iff_ne]; omega
     have hE1 : (E : Int) + 1 ≤ 9223372036854775807 := by have := HB.out; omega
     have hLu : L < 18446744073709551616 := by have := HB.out; omega
     by_cases h2 : L % 2 = 1
     · have a1 : bits BinOp.and IntKind.u64 (L : Int) 1 = 1 := by rw [Zja _ hLu, h2]; rfl
       have hLu := zh hLu
       have step_false (h4 : L % 4 = 1) : em ++ nafUp L E = nafUp u 0 → (em ++ [(false, E)]) ++ nafUp ((((L - 1) / 2 : Nat)) : Int) (E + 1) = nafUp u 0 := by
         intro hh
         rw [← hh, List.append_assoc]
         congr 1
         rw [nafUp.eq_def (L : Int) E, if_neg (by omega), if_neg (by omega)]
         first
           | rw [if_pos (by omega), show (((((L - 1) / 2 : Nat)) : Int)) = ((L : Int) - 1) / 2 by omega]; rfl
           | rw [if_neg (by omega), show (((((L - 1) / 2 : Nat)) : Int)) = ((L : Int) + 1) / 2 by omega]; rfl
       have step_true (h4 : ¬ L % 4 = 1) : em ++ nafUp L E = nafUp u 0 → (em ++ [(true, E)]) ++ nafUp ((((L + 1) / 2 : Nat)) : Int) (E + 1) = nafUp u 0 := by
         intro hh
         rw [← hh, List.append_assoc]
         congr 1
         rw [nafUp.eq_def (L : Int) E, if_neg (by omega), if_neg (by omega)]
         first
           | rw [if_pos (by omega), show (((((L + 1) / 2 : Nat)) : Int)) = ((L : Int) - 1) / 2 by omega]; rfl
           | rw [if_neg (by omega), show (((((L + 1) / 2 : Nat)) : Int)) = ((L : Int) + 1) / 2 by omega]; rfl
       by_cases h4 : L % 4 = 1
       · have a2 : bits BinOp.and IntKind.u64 (L : Int) 2 = 0 := by rw [Zjb _ hLu.out, if_pos (by omega)]
         have HS := zh (step_false h4 hem'.out)
         have hw1 : (L : Int) + 1 ≤ 18446744073709551615 := by have := HB.out; omega
         clear step_false step_true
         have hd2 : (!(decide (n < 0) == (bits BinOp.and IntKind.u64 (L : Int) 2 != 0))) = (true != false) := by rw [a2, hd]; rfl
         go_wp2_with (first
           | (go_at_call 8; refine (Zax _ _).mono ?_; rintro e w1 ⟨rfl, hb1⟩; have hown1 := Zac hown hb1; have hsz1 := hb1.size)
           | (at_builtin; refine wpList_append_own _ rfl _ _ 59 rfl w.heap.size 62 i0 zT 3 24 Tryz.underlying59 hi hz0 hz1 hz2 rfl (by decide) _ _ _ rfl (hown1.alloc _) ⟨w1.heap.size, 0, none⟩ 1 1 (cellsT (flipTV true (false, E))) rfl rfl (Zaj w1 _ _ _) (by simp [cellsT, Value.oneCell']) (by unfold maxLen; omega) (by omega) (by have := hbel'.out.size; simp; omega) ?_; intro v2 w2 hown2 hg2 _))
         go_roundw
         case rel =>
           have hU := HB.out
           refine ⟨(L - 1) / 2, E + 1, em ++ [(false, E)], by first | (congr 1; omega) | (congr 1), by go_num, HS.out, ?_, ?_, by omega, .inr (by omega)⟩
           · rw [List.length_append, List.map_append, Zas]; exact hown2
           · refine Below.grown (Below.alloc (hbel'.out.trans (hb1.mono hbel'.out.size)) (by have := hbel'.out.size; omega) _) hg2 (by have := hbel'.out.size; simp; omega) (Zak hown1)
         case measure => simp [intOf]; omega
       · have a2 : bits BinOp.and IntKind.u64 (L : Int) 2 = 2 := by rw [Zjb _ hLu.out, if_neg (by omega)]
         have HS := zh (step_true h4 hem'.out)
         have hw1 : (L : Int) + 1 ≤ 18446744073709551615 := by have := HB.out; omega
         clear step_false step_true
         have hd2 : (!(decide (n < 0) == (bits BinOp.and IntKind.u64 (L : Int) 2 != 0))) = (true != true) := by rw [a2, hd]; rfl
         go_wp2_with (first
           | (go_at_call 8; refine (Zax _ _).mono ?_; rintro e w1 ⟨rfl, hb1⟩; have hown1 := Zac hown hb1; have hsz1 := hb1.size)
           | (at_builtin; refine wpList_append_own _ rfl _ _ 59 rfl w.heap.size 62 i0 zT 3 24 Tryz.underlying59 hi hz0 hz1 hz2 rfl (by decide) _ _ _ rfl (hown1.alloc _) ⟨w1.heap.size, 0, none⟩ 1 1 (cellsT (flipTV true (true, E))) rfl rfl (Zaj w1 _ _ _) (by simp [cellsT, Value.oneCell']) (by unfold maxLen; omega) (by omega) (by have := hbel'.out.size; simp; omega) ?_; intro v2 w2 hown2 hg2 _))
         go_roundw
         case rel =>
           have hU := HB.out
           refine ⟨(L + 1) / 2, E + 1, em ++ [(true, E)], by first | (congr 1; omega) | (congr 1), by go_num, HS.out, ?_, ?_, by omega, .inr (by omega)⟩
           · rw [List.length_append, List.map_append, Zas]; exact hown2
           · refine Below.grown (Below.alloc (hbel'.out.trans (hb1.mono hbel'.out.size)) (by have := hbel'.out.size; omega) _) hg2 (by have := hbel'.out.size; simp; omega) (Zak hown1)
         case measure => simp [intOf]; omega
     · have a1 : bits BinOp.and IntKind.u64 (L : Int) 1 = 0 := by rw [Zja _ hLu, show L % 2 = 0 by omega]; rfl
       clear hLu
       go_wp2
       go_roundw
       case rel =>
         refine ⟨L / 2, E + 1, em, by simp, by go_num, ?_, hown, hbel'.out, by omega, .inr (by have := HB.out; omega)⟩
         rw [← hem'.out]
         congr 1
         rw [nafUp.eq_def (L : Int) E, if_neg (by omega), if_pos (by omega)]
         rfl
       case measure => simp [intOf]; omega
theorem Zgg (n : Int) (hn : i64 n) (hs : 0 ≤ n) (w : World) :
   Calls Tryz.prog 81 #[.int .i64 n] w fun e w' => ∃ v, e = .returned v ∧ w'.ownsRow w.heap.size 62 3 v (nafUp n.natAbs 0).length (flatT ((nafUp n.natAbs 0).reverse.map (flipTV false))) ∧ Below w.heap.size w w' := by
 obtain ⟨i0, hi, hz0, hz1, hz2⟩ := info_parts infoeT
 have hu : IntKind.u64.wrap n = (n.natAbs : Int) := by unfold i64 at hn; simp only [IntKind.wrap, IntKind.bits, IntKind.signed]; simp; omega
 have hub : (n.natAbs : Int) ≤ 9223372036854775808 := by unfold i64 at hn; omega
 generalize hU : n.natAbs = u at *
 clear hU
 have HB := zh hub
 obtain ⟨K, hK⟩ : ∃ K : Nat, K = Lib.bitLen u := ⟨_, rfl⟩
 have hK2 : (K : Int) ≤ 64 := by have := Zkc u; omega
 have HK := zh hK; clear hK
 have hd : decide (n < 0) = false := by simp; omega
 have HLEN : Hid ((nafUp u 0).length ≤ 65) := Zg0 u (by omega)
 go_enter Tryz.func81, Tryz.ntmps81
 go_wp2_with (first
   | (go_at_call 97; refine (Zgz _ _ (by omega) (by omega)).mono ?_; rintro e w' ⟨rfl, rfl⟩; rw [Int.toNat_natCast, ← HK.out])
   | (at_make; refine wpList_make_own _ rfl _ _ 59 rfl w.heap.size 62 i0 zT 3 Tryz.underlying59 hi hz0 hz1 .i64 .i64 _ (K / 2 + 1) rfl rfl (by omega) (by rw [hz2]; omega) (by unfold maxLen; omega) (zl) ?_; intro w0 hown0 hgrow0))
 go_loopw [3, 4, 5] (fun l v e wr => ∃ (L E : Nat) (em : List Tm), l = .int .u64 L ∧ e = .int .i64 E ∧ em ++ nafUp L E = nafUp u 0 ∧ wr.ownsRow w.heap.size 62 3 v em.length (flatT (em.map (flipTV false))) ∧ Below w.heap.size w wr ∧ L ≤ u ∧ (E = 0 ∨ (E : Int) + L ≤ 9223372036854775807)) (fun l _ _ _ => (intOf l).toNat)
 case atStart => exact ⟨u, 0, [], rfl, rfl, rfl, by simpa [flatT] using hown0, (zb).grown hgrow0 (zl) (by simp), zl, .inl rfl⟩
 case round =>
   obtain ⟨L, E, em, rfl, rfl, hem, hown, hbel, hL, hE⟩ := hrel
   have hem' := zh hem
   have hbel' := zh hbel
   clear hem hbel
   have hl65 : em.length ≤ 65 := by
     have h1 := congrArg List.length hem'.out
     rw [List.length_append] at h1
     have := HLEN.out
     omega
   by_cases h0 : L = 0
   · subst h0
     have b0 : (((0 : Nat) : Int) != 0) = false := rfl
     have he : em = nafUp u 0 := by
       have := hem'.out
       rwa [show ((0 : Nat) : Int) = 0 from rfl, Zda, List.append_nil] at this
     have hown2 : wr.ownsRow w.heap.size 62 3 u4 (em.map (flipTV false)).length (flatT (em.map (flipTV false))) := by rw [List.length_map]; exact hown
     have hl2 : (em.map (flipTV false)).length ≤ lim := by rw [List.length_map, Za8]; omega
     clear hl65
     have HE := zh he
     clear he
     go_wp2_with (go_at_call 98; refine (Zc4 _ _ _ _ hown2 hl2).mono ?_; rintro e w2 ⟨rfl, hown3, hg3⟩)
     go_ret
     refine ⟨_, rfl, ?_, hbel'.out.grown hg3 hbel'.out.size (Zak hown2)⟩
     have := HE.out
     rw [List.length_map] at hown3
     rw [List.map_reverse, ← this]
     exact hown3
   · have b0 : ((L : Int) != 0) = true := by rw [bne_iff_ne]; omega
     have hE1 : (E : Int) + 1 ≤ 9223372036854775807 := by have := HB.out; omega
     have hLu : L < 18446744073709551616 := by have := HB.out; omega
     by_cases h2 : L % 2 = 1
     · have a1 : bits BinOp.and IntKind.u64 (L : Int) 1 = 1 := by rw [Zja _ hLu, h2]; rfl
       have hLu := zh hLu
       have step_false (h4 : L % 4 = 1) : em ++ nafUp L E = nafUp u 0 → (em ++ [(false, E)]) ++ nafUp ((((L - 1) / 2 : Nat)) : Int) (E + 1) = nafUp u 0 := by
         intro hh
         rw [← hh, List.append_assoc]
         congr 1
         rw [nafUp.eq_def (L : Int) E, if_neg (by omega), if_neg (by omega)]
         first
           | rw [if_pos (by omega), show (((((L - 1) / 2 : Nat)) : Int)) = ((L : Int) - 1) / 2 by omega]; rfl
           | rw [if_neg (by omega), show (((((L - 1) / 2 : Nat)) : Int)) = ((L : Int) + 1) / 2 by omega]; rfl
       have step_true (h4 : ¬ L % 4 = 1) : em ++ nafUp L E = nafUp u 0 → (em ++ [(true, E)]) ++ nafUp ((((L + 1) / 2 : Nat)) : Int) (E + 1) = nafUp u 0 := by
         intro hh
         rw [← hh, List.append_assoc]
         congr 1
         rw [nafUp.eq_def (L : Int) E, if_neg (by omega), if_neg (by omega)]
         first
           | rw [if_pos (by omega), show (((((L + 1) / 2 : Nat)) : Int)) = ((L : Int) - 1) / 2 by omega]; rfl
           | rw [if_neg (by omega), show (((((L + 1) / 2 : Nat)) : Int)) = ((L : Int) + 1) / 2 by omega]; rfl
       by_cases h4 : L % 4 = 1
       · have a2 : bits BinOp.and IntKind.u64 (L : Int) 2 = 0 := by rw [Zjb _ hLu.out, if_pos (by omega)]
         have HS := zh (step_false h4 hem'.out)
         have hw1 : (L : Int) + 1 ≤ 18446744073709551615 := by have := HB.out; omega
         clear step_false step_true
         have hd2 : (!(decide (n < 0) == (bits BinOp.and IntKind.u64 (L : Int) 2 != 0))) = (false != false) := by rw [a2, hd]; rfl
         go_wp2_with (first
           | (go_at_call 8; refine (Zax _ _).mono ?_; rintro e w1 ⟨rfl, hb1⟩; have hown1 := Zac hown hb1; have hsz1 := hb1.size)
           | (at_builtin; refine wpList_append_own _ rfl _ _ 59 rfl w.heap.size 62 i0 zT 3 24 Tryz.underlying59 hi hz0 hz1 hz2 rfl (by decide) _ _ _ rfl (hown1.alloc _) ⟨w1.heap.size, 0, none⟩ 1 1 (cellsT (flipTV false (false, E))) rfl rfl (Zaj w1 _ _ _) (by simp [cellsT, Value.oneCell']) (by unfold maxLen; omega) (by omega) (by have := hbel'.out.size; simp; omega) ?_; intro v2 w2 hown2 hg2 _))
         go_roundw
         case rel =>
           have hU := HB.out
           refine ⟨(L - 1) / 2, E + 1, em ++ [(false, E)], by first | (congr 1; omega) | (congr 1), by go_num, HS.out, ?_, ?_, by omega, .inr (by omega)⟩
           · rw [List.length_append, List.map_append, Zas]; exact hown2
           · refine Below.grown (Below.alloc (hbel'.out.trans (hb1.mono hbel'.out.size)) (by have := hbel'.out.size; omega) _) hg2 (by have := hbel'.out.size; simp; omega) (Zak hown1)
         case measure => simp [intOf]; omega
       · have a2 : bits BinOp.and IntKind.u64 (L : Int) 2 = 2 := by rw [Zjb _ hLu.out, if_neg (by omega)]
         have HS := zh (step_true h4 hem'.out)
         have hw1 : (L : Int) + 1 ≤ 18446744073709551615 := by have := HB.out; omega
         clear step_false step_true
         have hd2 : (!(decide (n < 0) == (bits BinOp.and IntKind.u64 (L : Int) 2 != 0))) = (false != true) := by rw [a2, hd]; rfl
         go_wp2_with (first
           | (go_at_call 8; refine (Zax _ _).mono ?_; rintro e w1 ⟨rfl, hb1⟩; have hown1 := Zac hown hb1; have hsz1 := hb1.size)
           | (at_builtin; refine wpList_append_own _ rfl _ _ 59 rfl w.heap.size 62 i0 zT 3 24 Tryz.underlying59 hi hz0 hz1 hz2 rfl (by decide) _ _ _ rfl (hown1.alloc _) ⟨w1.heap.size, 0, none⟩ 1 1 (cellsT (flipTV false (true, E))) rfl rfl (Zaj w1 _ _ _) (by simp [cellsT, Value.oneCell']) (by unfold maxLen; omega) (by omega) (by have := hbel'.out.size; simp; omega) ?_; intro v2 w2 hown2 hg2 _))
         go_roundw
         case rel =>
           have hU := HB.out
           refine ⟨(L + 1) / 2, E + 1, em ++ [(true, E)], by first | (congr 1; omega) | (congr 1), by go_num, HS.out, ?_, ?_, by omega, .inr (by omega)⟩
           · rw [List.length_append, List.map_append, Zas]; exact hown2
           · refine Below.grown (Below.alloc (hbel'.out.trans (hb1.mono hbel'.out.size)) (by have := hbel'.out.size; omega) _) hg2 (by have := hbel'.out.size; simp; omega) (Zak hown1)
         case measure => simp [intOf]; omega
     · have a1 : bits BinOp.and IntKind.u64 (L : Int) 1 = 0 := by rw [Zja _ hLu, show L % 2 = 0 by omega]; rfl
       clear hLu
       go_wp2
       go_roundw
       case rel =>
         refine ⟨L / 2, E + 1, em, by simp, by go_num, ?_, hown, hbel'.out, by omega, .inr (by have := HB.out; omega)⟩
         rw [← hem'.out]
         congr 1
         rw [nafUp.eq_def (L : Int) E, if_neg (by omega), if_pos (by omega)]
         rfl
       case measure => simp [intOf]; omega
def flipT (t : Tm) : Tm := (!t.1, t.2)
theorem Zp6 (l : List Tm) : val (l.map flipT) = -val l := by
 induction l with
 | nil => rfl
 | cons t l ih => obtain ⟨a, b⟩ := t; simp only [List.map_cons, val, ih, tv, flipT]; cases a <;> simp [sg] <;> omega
theorem Zq8 {l : List Tm} (h : NA l) : NA (l.map flipT) := by
 unfold NA at *
 rw [List.pairwise_map]
 exact h
theorem Zd3 (z : Int) : naf (-z) = (naf z).map flipT := Zdb (Zq8 (Za3 z)) (by rw [Zp6, Zam])
theorem Zgh (n : Int) (hn : i64 n) (w : World) :
   Calls Tryz.prog 81 #[.int .i64 n] w fun e w' => ∃ v, e = .returned v ∧ w'.ownsRow w.heap.size 62 3 v (naf n).length (flatT ((naf n).map smallTV)) ∧ Below w.heap.size w w' := by
 by_cases hs : n < 0
 · have e1 : naf n = (nafUp (n.natAbs : Int) 0).reverse.map flipT := by
     have : n = -(n.natAbs : Int) := by omega
     conv => lhs; rw [this]
     rw [Zd3]; rfl
   refine (Zg2 n hn hs w).mono fun e w' ⟨v, h1, h2, h3⟩ => ⟨v, h1, ?_, h3⟩
   rw [e1, List.length_map, List.length_reverse, List.map_map]
   have e2 : (smallTV ∘ flipT) = flipTV true := by funext t; simp [flipTV, flipT]
   rw [e2]
   exact h2
 · have e1 : naf n = (nafUp (n.natAbs : Int) 0).reverse := by
     have : n = (n.natAbs : Int) := by omega
     conv => lhs; rw [this]
     rfl
   refine (Zgg n hn (by omega) w).mono fun e w' ⟨v, h1, h2, h3⟩ => ⟨v, h1, ?_, h3⟩
   rw [e1, List.length_reverse]
   have e2 : smallTV = flipTV false := by funext t; simp [flipTV]
   rw [e2]
   exact h2
end
section
open Go.RowKit
structure Keeps (F : Nat → Prop) (w w' : World) : Prop where
 os : w'.os = w.os
 tape : w'.tape = w.tape
 output : w'.output = w.output
 size : w.heap.size ≤ w'.heap.size
 block : ∀ k, k < w.heap.size → ¬ F k → w'.heap[k]? = w.heap[k]?
theorem Keeps.refl (F : Nat → Prop) (w : World) : Keeps F w w := ⟨rfl, rfl, rfl, zl, fun _ _ _ => rfl⟩
theorem Keeps.trans {F G : Nat → Prop} {a b c : World} (h : Keeps F a b) (k : Keeps G b c) (hG : ∀ i, G i → F i ∨ a.heap.size ≤ i) : Keeps F a c :=
 ⟨k.os.trans h.os, k.tape.trans h.tape, k.output.trans h.output, Nat.le_trans h.size k.size, fun i hi hf =>
   (k.block i (Nat.lt_of_lt_of_le hi h.size) (fun hg => by rcases hG i hg with h1 | h1; exact hf h1; omega)).trans (h.block i hi hf)⟩
theorem Keeps.of_below {B : Nat} {F : Nat → Prop} {w w' : World} (h : Below B w w') (hB : w.heap.size ≤ B) : Keeps F w w' :=
 ⟨h.os, h.tape, h.output, h.size, fun k hk _ => h.block k (by omega)⟩
theorem Keeps.below {B : Nat} {F : Nat → Prop} {w w' : World} (h : Keeps F w w') (hF : ∀ i, F i → B ≤ i) (hB : B ≤ w.heap.size) : Below B w w' :=
 ⟨h.os, h.tape, h.output, h.size, fun k hk => h.block k (by omega) (fun hf => by have := hF k hf; omega)⟩
theorem Keeps.cell {F : Nat → Prop} {w w' : World} (h : Keeps F w w') {b : Nat} (o : Nat) (hb : b < w.heap.size) (hF : ¬ F b) : w'.cell? ⟨b, o, none⟩ = w.cell? ⟨b, o, none⟩ :=
 World.cell?_of_block (w := w) (h.block b hb hF)
theorem Keeps.frozen {F : Nat → Prop} {w w' : World} (h : Keeps F w w') {b : Nat} (o : Nat) (hb : b < w.heap.size) (hF : ¬ F b) : w'.frozen? ⟨b, o, none⟩ = w.frozen? ⟨b, o, none⟩ :=
 World.frozen?_of_block (w := w) (h.block b hb hF)
def wide (z : Int) : Prop := wt z ≤ 30000
def ValD (D : Addr → Option Int) (s : Int) (g : Option Addr) (z : Int) : Prop :=
 match g with
 | none => s = z ∧ i64 z
 | some p => s = 0 ∧ D p = some z
def TVals (D : Addr → Option Int) : List TV → List Tm → Prop
 | [], [] => True
 | t :: ts, u :: l => (t.1 = u.1 ∧ ValD D t.2.1 t.2.2 (u.2 : Int)) ∧ TVals D ts l
 | _, _ => False
theorem TVals.len {D : Addr → Option Int} : ∀ {ts : List TV} {l : List Tm}, TVals D ts l → ts.length = l.length
 | [], [], _ => rfl
 | t :: ts, u :: l, h => by simp only [List.length_cons]; rw [TVals.len h.2]
 | [], u :: l, h => h.elim
 | t :: ts, [], h => h.elim
theorem TVals.get {D : Addr → Option Int} : ∀ {ts : List TV} {l : List Tm}, TVals D ts l → ∀ (i : Nat) (h1 : i < ts.length) (h2 : i < l.length), ts[i].1 = l[i].1 ∧ ValD D ts[i].2.1 ts[i].2.2 (l[i].2 : Int)
 | t :: ts, u :: l, h, 0, _, _ => h.1
 | t :: ts, u :: l, h, i + 1, h1, h2 => TVals.get h.2 i (by simpa using h1) (by simpa using h2)
theorem TVals.append {D : Addr → Option Int} : ∀ {ts us : List TV} {l m : List Tm}, TVals D ts l → TVals D us m → TVals D (ts ++ us) (l ++ m)
 | [], _, [], _, _, k => k
 | t :: ts, _, u :: l, _, h, k => ⟨h.1, TVals.append h.2 k⟩
theorem TVals.take {D : Addr → Option Int} : ∀ {ts : List TV} {l : List Tm} (n : Nat), TVals D ts l → TVals D (ts.take n) (l.take n)
 | [], [], n, _ => by simp [TVals]
 | t :: ts, u :: l, 0, _ => by simp [TVals]
 | t :: ts, u :: l, n + 1, h => ⟨h.1, TVals.take n h.2⟩
theorem TVals.mono {D D' : Addr → Option Int} (hD : ∀ p z, D p = some z → D' p = some z) : ∀ {ts : List TV} {l : List Tm}, TVals D ts l → TVals D' ts l
 | [], [], _ => trivial
 | t :: ts, u :: l, h => ⟨⟨h.1.1, by
     have := h.1.2
     unfold ValD at *
     split at this
     · exact this
     · exact ⟨this.1, hD _ _ this.2⟩⟩, TVals.mono hD h.2⟩
theorem TVals.small (D : Addr → Option Int) : ∀ (l : List Tm), (∀ t ∈ l, t.2 < 9223372036854775808) → TVals D (l.map smallTV) l
 | [], _ => trivial
 | t :: l, h => ⟨⟨rfl, by
     have := h t (List.mem_cons_self ..)
     refine ⟨rfl, ?_⟩
     unfold i64; omega⟩, TVals.small D l (fun u hu => h u (List.mem_cons_of_mem _ hu))⟩
theorem ValD.mono {D D' : Addr → Option Int} (hD : ∀ p z, D p = some z → D' p = some z) {s : Int} {g : Option Addr} {z : Int} (h : ValD D s g z) : ValD D' s g z := by
 unfold ValD at *
 split at h
 · exact h
 · exact ⟨h.1, hD _ _ h.2⟩
def RowF (w : World) (F : Nat → Prop) (size : Nat) (v : Value) (n : Nat) (xs : List Value) : Prop := RowV w size v n xs ∧ ∀ b, v.ownBlock = some b → ¬ F b
theorem RowV.lt {w : World} {size : Nat} {v : Value} {n : Nat} {xs : List Value} (h : RowV w size v n xs) : ∀ b, v.ownBlock = some b → b < w.heap.size := by
 obtain ⟨_, h⟩ := h
 intro b hb
 rcases h with ⟨rfl, _⟩ | ⟨c, off, cap, rfl, _, _, h5, _⟩
 · simp [Value.ownBlock] at hb
 · simp only [Value.ownBlock, Option.some.injEq] at hb; omega
theorem RowF.keeps {w w' : World} {F : Nat → Prop} {size : Nat} {v : Value} {n : Nat} {xs : List Value} (h : RowF w F size v n xs) (hk : Keeps F w w') : RowF w' F size v n xs := by
 obtain ⟨⟨h1, h2⟩, h3⟩ := h
 refine ⟨⟨h1, ?_⟩, h3⟩
 rcases h2 with h2 | ⟨b, off, cap, rfl, a1, a2, a3, a4⟩
 · exact .inl h2
 · have hb : ¬ F b := h3 b rfl
   exact .inr ⟨b, off, cap, rfl, a1, a2, Nat.lt_of_lt_of_le a3 hk.size, fun j u hj => (hk.cell (off + j) a3 hb).trans (a4 j u hj)⟩
theorem RowF.grow {w : World} {F F' : Nat → Prop} {size : Nat} {v : Value} {n : Nat} {xs : List Value} {W : World} (h : RowF w F size v n xs) (hW : W.heap.size ≥ w.heap.size) (hF : ∀ i, F' i → F i ∨ W.heap.size ≤ i) : RowF w F' size v n xs :=
 ⟨h.1, fun b hb hf => by rcases hF b hf with h1 | h1; exact h.2 b hb h1; have := h.1.lt b hb; omega⟩
def FormAt (w : World) (F : Nat → Prop) (D : Addr → Option Int) (p : Addr) (z : Int) : Prop :=
 ∃ b v ts, p = ⟨b, 0, none⟩ ∧ b < w.heap.size ∧ ¬ F b ∧ w.heap[b]? = some (.cells #[v] 113 (0, 0)) ∧ RowF w F 3 v ts.length (flatT ts) ∧ TVals D ts (naf z)
structure Forest (w : World) (F : Nat → Prop) (D : Addr → Option Int) : Prop where
 great : ∀ p z, D p = some z → ¬ i64 z ∧ wide z
 form : ∀ p z, D p = some z → FormAt w F D p z
 inj : ∀ p q z, D p = some z → D q = some z → p = q
theorem Forest.keeps {w w' : World} {F : Nat → Prop} {D : Addr → Option Int} (h : Forest w F D) (hk : Keeps F w w') : Forest w' F D :=
 ⟨h.great, fun p z hp => by
   obtain ⟨b, v, ts, rfl, h1, h2, h3, h4, h5⟩ := h.form p z hp
   exact ⟨b, v, ts, rfl, Nat.lt_of_lt_of_le h1 hk.size, h2, (hk.block b h1 h2).trans h3, h4.keeps hk, h5⟩, h.inj⟩
theorem Forest.grow {w W : World} {F F' : Nat → Prop} {D : Addr → Option Int} (h : Forest w F D) (hW : w.heap.size ≤ W.heap.size) (hF : ∀ i, F' i → F i ∨ W.heap.size ≤ i) : Forest w F' D :=
 ⟨h.great, fun p z hp => by
   obtain ⟨b, v, ts, rfl, h1, h2, h3, h4, h5⟩ := h.form p z hp
   exact ⟨b, v, ts, rfl, h1, fun hf => by rcases hF b hf with h6 | h6; exact h2 h6; omega, h3, h4.grow hW hF, h5⟩, h.inj⟩
def IsN (w : World) (F : Nat → Prop) (s : Int) (g : Option Addr) (z : Int) : Prop := ∃ D, Forest w F D ∧ ValD D s g z
theorem IsN.keeps {w w' : World} {F : Nat → Prop} {s : Int} {g : Option Addr} {z : Int} (h : IsN w F s g z) (hk : Keeps F w w') : IsN w' F s g z := by
 obtain ⟨D, h1, h2⟩ := h
 exact ⟨D, h1.keeps hk, h2⟩
theorem Zg3 (w : World) (F : Nat → Prop) : Forest w F (fun _ => none) := ⟨by simp, by simp, by simp⟩
theorem Zat {w : World} {b : Nat} {v : Value} {t : TypeId} {fr : Nat × Nat} (h : w.heap[b]? = some (.cells #[v] t fr)) : w.cell? ⟨b, 0, none⟩ = some v := by simp [World.cell?, h]
def PtrOk (w : World) (g : Option Addr) : Prop := g = none ∨ ∃ b v, g = some ⟨b, 0, none⟩ ∧ w.heap[b]? = some (.cells #[v] 113 (0, 0))
theorem ValD.ptr {w : World} {F : Nat → Prop} {D : Addr → Option Int} (hf : Forest w F D) {s : Int} {g : Option Addr} {z : Int} (h : ValD D s g z) : PtrOk w g := by
 cases g with
 | none => exact .inl rfl
 | some p =>
   obtain ⟨b, v, ts, rfl, h1, h2, h3, _⟩ := hf.form p z h.2
   exact .inr ⟨b, v, rfl, h3⟩
theorem Zmh {w : World} {F F' : Nat → Prop} {D D' : Addr → Option Int} (h : Forest w F D) (h' : Forest w F' D') : ∀ (n : Nat) (p : Addr) (z z' : Int), z.natAbs ≤ n → D p = some z → D' p = some z' → z = z' := by
 intro n
 induction n with
 | zero =>
   intro p z z' hz hp _
   have := (h.great p z hp).1
   exact absurd (by unfold i64; omega) this
 | succ n ih =>
   intro p z z' hz hp hp'
   obtain ⟨b, v, ts, rfl, h1, h2, h3, h4, h5⟩ := h.form p z hp
   obtain ⟨b', v', ts', e, h1', h2', h3', h4', h5'⟩ := h'.form _ z' hp'
   obtain rfl : b = b' := by simpa using e
   obtain rfl : v = v' := by have := h3.symm.trans h3'; simpa using this
   have hts : ts = ts' := by
     obtain ⟨⟨l1, r1⟩, _⟩ := h4
     obtain ⟨⟨l2, r2⟩, _⟩ := h4'
     rcases r1 with ⟨rfl, e1⟩ | ⟨c, off, cap, rfl, a1, a2, a3, a4⟩
     · rcases r2 with ⟨_, e2⟩ | ⟨c, off, cap, e2, _⟩
       · rw [List.length_eq_zero_iff.1 e1, List.length_eq_zero_iff.1 e2]
       · cases e2
     · rcases r2 with ⟨e2, _⟩ | ⟨c', off', cap', e2, a1', a2', a3', a4'⟩
       · cases e2
       · simp only [Value.slice.injEq, Option.some.injEq, Addr.mk.injEq, and_true] at e2
         obtain ⟨⟨rfl, rfl⟩, e3, _⟩ := e2
         refine List.ext_getElem e3 fun i i1 i2 => ?_
         obtain ⟨x1, x2, x3⟩ := RowC.term a4 i i1
         obtain ⟨y1, y2, y3⟩ := RowC.term a4' i i2
         have q1 := x1.symm.trans y1
         have q2 := x2.symm.trans y2
         have q3 := x3.symm.trans y3
         simp only [Option.some.injEq, Value.bool.injEq, Value.int.injEq, Value.pointer.injEq, true_and] at q1 q2 q3
         exact Prod.ext q1 (Prod.ext q2 q3)
   subst hts
   have hn : naf z = naf z' := by
     refine List.ext_getElem (h5.len.symm.trans h5'.len) fun i i1 i2 => ?_
     have g1 := h5.get i (by rw [h5.len]; exact i1) i1
     have g2 := h5'.get i (by rw [h5.len]; exact i1) i2
     refine Prod.ext (g1.1.symm.trans g2.1) ?_
     have v1 := g1.2
     have v2 := g2.2
     have hlt := Zbf (List.getElem_mem i1)
     have : (((naf z)[i].2 : Nat) : Int) = ((naf z')[i].2 : Nat) := by
       revert v1 v2
       generalize ts[i]'(by rw [h5.len]; exact i1) = t
       intro v1 v2
       obtain ⟨t1, t2, t3⟩ := t
       cases t3 with
       | none => exact v1.1.symm.trans v2.1
       | some q => exact ih q _ _ (by omega) v1.2 v2.2
     exact_mod_cast this
   rw [← Zam z, hn, Zam]
theorem IsN.det {w : World} {F F' : Nat → Prop} {s : Int} {g : Option Addr} {z z' : Int} (h : IsN w F s g z) (h' : IsN w F' s g z') : z = z' := by
 obtain ⟨D, hf, hv⟩ := h
 obtain ⟨D', hf', hv'⟩ := h'
 cases g with
 | none => exact hv.1.symm.trans hv'.1
 | some p => exact Zmh hf hf' _ p z z' (zl) hv.2 hv'.2
end
section
open Go.RowKit
theorem Zf3 (w : World) (d : Nat) (g g' : Option Addr) (h : PtrOk w g) (h' : PtrOk w g') : (Op.equalIn (d + 1) 26 (.pointer g) (.pointer g')).run Tryz.prog w = .ok (g == g') w := by
 have hu := Tryz.underlying26
 have hs : ∀ W, (Go.sizeOf 113).run Tryz.prog W = .ok 1 W := fun W => by kernel_rfl
 rcases h with rfl | ⟨b, v, rfl, hb⟩
 · rcases h' with rfl | ⟨b', v', rfl, hb'⟩
   · simp [Op.equalIn, run_underlying hu]
   · simp [Op.equalIn, run_underlying hu]
 · rcases h' with rfl | ⟨b', v', rfl, hb'⟩
   · simp [Op.equalIn, run_underlying hu]
   · by_cases he : b = b'
     · subst he
       simp [Op.equalIn, run_underlying hu, hs, run_sameAddr_same]
     · have := run_sameAddr_other (P := Tryz.prog) (w := w) (a := ⟨b, 0, none⟩) (b := ⟨b', 0, none⟩) (fun h => by injection h with h1; exact he h1) hb hb'
       simp [Op.equalIn, run_underlying hu, hs, this]
theorem eqN_in (w : World) (d : Nat) (s s' : Int) (g g' : Option Addr) (h : PtrOk w g) (h' : PtrOk w g') :
   (Op.equalIn (d + 1 + 1) 28 (.agg #[.int .i64 s, .pointer g]) (.agg #[.int .i64 s', .pointer g'])).run Tryz.prog w = .ok (s == s' && g == g') w := by
 have e2 := Zf3 w d g g' h h'
 have hF : (Tryz.prog.fieldsOf 28).toList = [⟨ "small", 2, 0, false, "", "sandreckoner/num", 0⟩, ⟨ "great", 26, 1, false, "", "sandreckoner/num", 8⟩] := by kernel_rfl
 rw [run_equalIn_agg (w := w) (d + 1) 28 _ _ (by kernel_rfl) (by kernel_rfl), hF]
 have e1 : (Op.equalIn (d + 1) 2 (.int .i64 s) (.int .i64 s')).run Tryz.prog w = .ok (s == s') w := run_equalIn_int w d _ _ _ _ _ Tryz.underlying2
 have p1 : ∀ a b : Value, (part 2 #[a, b] 0).run Tryz.prog w = .ok a w := fun a b => by kernel_rfl
 have p2 : ∀ a b : Value, (part 26 #[a, b] 1).run Tryz.prog w = .ok b w := fun a b => by kernel_rfl
 cases hss : (s == s') <;> cases hgg : (g == g') <;> simp [Op.eqFields, e1, e2, p1, p2, hss, hgg]
theorem PtrOk.keep {w w' : World} {g : Option Addr} (h : PtrOk w g) (hk : ∀ k, k < w.heap.size → w'.heap[k]? = w.heap[k]?) : PtrOk w' g := by
 rcases h with rfl | ⟨b, v, rfl, hb⟩
 · exact .inl rfl
 · refine .inr ⟨b, v, rfl, (hk b ?_).trans hb⟩
   rcases Nat.lt_or_ge b w.heap.size with h | h
   · exact h
   · simp [Array.getElem?_eq_none h] at hb
end
section
open Go.RowKit
theorem Zar {w : World} {b o : Nat} {x : Option Value} (X : Obj) (h : b < w.heap.size) (c : w.cell? ⟨b, o, none⟩ = x) : (w.alloc X).cell? ⟨b, o, none⟩ = x := by
 rw [World.cell?_alloc_lt _ _ _ h]; exact c
theorem Zfa {z : Int} (h : i64 z) : ∀ t ∈ naf z, t.2 < 65 := by
 unfold i64 at h
 exact Zf2 (b := 63) (by omega) (by omega)
theorem Zbt {F : Nat → Prop} {D : Addr → Option Int} (s : Int) (g : Option Addr) (z : Int) (w : World) (hf : Forest w F D) (hv : ValD D s g z) (hF : ∀ i, F i → i < w.heap.size) :
   Calls Tryz.prog 55 #[.agg #[.int .i64 s, .pointer g]] w fun e w' => ∃ v ts, e = .returned v ∧ RowF w' F 3 v ts.length (flatT ts) ∧ TVals D ts (naf z) ∧ Below w.heap.size w w' := by
 cases g with
 | none =>
   obtain ⟨rfl, h64⟩ := hv
   go_enter Tryz.func55, Tryz.ntmps55
   go_wp2_with (go_at_call 81; refine (Zgh _ h64 _).mono ?_; rintro e w1 ⟨v, rfl, hown, hb⟩)
   go_ret
   have hb2 : Below w.heap.size w w1 := ((zb).alloc (zl) _).trans (hb.mono (by simp))
   refine ⟨v, (naf s).map smallTV, rfl, ⟨?_, ?_⟩, TVals.small D _ (fun t ht => by have := Zfa h64 t ht; omega), hb2⟩
   · rw [List.length_map]; exact RowV.of_own hown
   · intro b hb3 hfb
     have := (hown.lt b hb3).1
     have := hF b hfb
     simp at *; omega
 | some p =>
   obtain ⟨rfl, hD⟩ := hv
   obtain ⟨b, v, ts, rfl, h1, h2, h3, h4, h5⟩ := hf.form p z hD
   have c1 := Zar (.cells #[.int .i64 0, .pointer (some ⟨b, 0, none⟩)] 28) h1 (Zat h3)
   go_enter Tryz.func55, Tryz.ntmps55
   go_wp2
   go_ret
   have hb2 : Below w.heap.size w (w.alloc (.cells #[.int .i64 0, .pointer (some ⟨b, 0, none⟩)] 28)) := (zb).alloc (zl) _
   exact ⟨v, ts, rfl, h4.keeps (.of_below hb2 (zl)), h5, hb2⟩
theorem Zq9 {z : Int} {t : Tm} {l : List Tm} (h : naf z = t :: l) : sgn z = sg t.1 := by
 have := Za3 z
 rw [h] at this
 rw [← Zam z, h, Zfc this]
theorem Zcn {F : Nat → Prop} (s : Int) (g : Option Addr) (z : Int) (w : World) (hn : IsN w F s g z) :
   Calls Tryz.prog 34 #[.agg #[.int .i64 s, .pointer g]] w fun e w' => e = .returned (.int .i64 (sgn z)) ∧ Below w.heap.size w w' := by
 obtain ⟨D, hf, hv⟩ := hn
 cases g with
 | none =>
   obtain ⟨rfl, h64⟩ := hv
   clear hf
   rcases Int.lt_trichotomy s 0 with h | h | h
   · go_enter Tryz.func34, Tryz.ntmps34
     go_wp2
     go_ret
     exact ⟨by rw [Zf4 h]; rfl, (zb).alloc (zl) _⟩
   · subst h
     go_enter Tryz.func34, Tryz.ntmps34
     go_wp2
     go_ret
     exact ⟨rfl, (zb).alloc (zl) _⟩
   · go_enter Tryz.func34, Tryz.ntmps34
     go_wp2
     go_ret
     exact ⟨by rw [Zd5 h]; rfl, (zb).alloc (zl) _⟩
 | some p =>
   obtain ⟨rfl, hD⟩ := hv
   obtain ⟨b, v, ts, rfl, h1, h2, h3, h4, h5⟩ := hf.form p z hD
   have hg := (hf.great _ _ hD).1
   have hl := h5.len
   obtain ⟨⟨_, hr⟩, hnf⟩ := h4
   cases hz : naf z with
   | nil => exact absurd (by rw [Zfp hz]; unfold i64; omega) hg
   | cons t l =>
     rw [hz] at hl h5
     have hs := Zq9 hz
     rcases hr with ⟨rfl, e1⟩ | ⟨rb, ro, cap, rfl, a1, a2, a3, a4⟩
     · simp [e1] at hl
     · cases ts with
       | nil => simp at hl
       | cons t1 ts =>
         obtain ⟨x1, x2, x3⟩ := RowC.term a4 0 (by simp)
         simp only [List.getElem_cons_zero, Nat.zero_mul, Nat.add_zero] at x1 x2 x3
         rw [h5.1.1] at x1
         have hpos : (0 : Int) < ((t1 :: ts).length : Int) := by simp only [List.length_cons]; omega
         generalize (t1 :: ts).length = n at *
         clear hl h5 a4 hD hf hg hz
         have c1 := Zar (.cells #[.int .i64 0, .pointer (some ⟨b, 0, none⟩)] 28) h1 (Zat h3)
         have y1 := Zar (.cells #[.int .i64 0, .pointer (some ⟨b, 0, none⟩)] 28) a3 x1
         have y2 := Zar (.cells #[.int .i64 0, .pointer (some ⟨b, 0, none⟩)] 28) a3 x2
         have y3 := Zar (.cells #[.int .i64 0, .pointer (some ⟨b, 0, none⟩)] 28) a3 x3
         clear x1 x2 x3 h3
         go_enter Tryz.func34, Tryz.ntmps34
         go_wp2_with (go_at_call 71; refine (Zbk _ _ _ _).mono ?_; rintro e w1 ⟨rfl, hb⟩)
         go_ret
         exact ⟨by rw [hs]; rfl, ((zb).alloc (zl) _).trans (hb.mono (by simp))⟩
theorem Zmi : ∀ (l : List Tm), (∀ t ∈ l, 1 ≤ t.2) → val l % 2 = 0
 | [], _ => rfl
 | t :: l, h => by
   have h1 := Zmi l (fun u hu => h u (List.mem_cons_of_mem _ hu))
   have h2 := h t (List.mem_cons_self ..)
   have h3 : (2 : Int) ^ t.2 = 2 * 2 ^ (t.2 - 1) := by rw [← Zai, show t.2 - 1 + 1 = t.2 by omega]
   simp only [val, tv]
   rcases Zay t.1 with ⟨_, e⟩ | ⟨_, e⟩ <;> rw [e, h3] <;> omega
theorem Zra {z : Int} {l : List Tm} {t : Tm} (h : naf z = l ++ [t]) : z % 2 = 1 ↔ t.2 = 0 := by
 have hn := Za3 z
 rw [h] at hn
 have hz := Zam z
 rw [h, Za2] at hz
 have hp : ∀ u ∈ l, t.2 + 2 ≤ u.2 := by
   intro u hu
   exact (List.pairwise_append.1 hn).2.2 u hu t (by simp)
 have he := Zmi l (fun u hu => by have := hp u hu; omega)
 simp only [val, tv] at hz
 constructor
 · intro ho
   rcases Nat.eq_zero_or_pos t.2 with h0 | h0
   · exact h0
   · have h3 : (2 : Int) ^ t.2 = 2 * 2 ^ (t.2 - 1) := by rw [← Zai, show t.2 - 1 + 1 = t.2 by omega]
     rcases Zay t.1 with ⟨_, e⟩ | ⟨_, e⟩ <;> rw [e, h3] at hz <;> omega
 · intro h0
   rw [h0] at hz
   rcases Zay t.1 with ⟨_, e⟩ | ⟨_, e⟩ <;> rw [e] at hz <;> omega
theorem Zot (L : Int) (h0 : 0 ≤ L) (h : L ≤ 9223372036854775807) : bits BinOp.and IntKind.i64 L 1 = L % 2 := by
 obtain ⟨n, rfl⟩ := Int.eq_ofNat_of_zero_le h0
 have h1 : (BitVec.ofInt 64 (n : Int)).toNat = n := by
   rw [BitVec.ofInt_natCast, BitVec.toNat_ofNat]; exact Nat.mod_eq_of_lt (by omega)
 show IntKind.i64.wrap ((BitVec.ofInt 64 (n : Int) &&& BitVec.ofInt 64 1).toNat : Int) = _
 rw [BitVec.toNat_and, h1, show (BitVec.ofInt 64 1).toNat = 1 from rfl, Nat.and_one_is_mod, IntKind.wrap_i64]
 omega
theorem Zou (W : World) (d : Nat) (g : Option Addr) : (Op.equalIn (d + 1) 26 (.pointer g) (.pointer none)).run Tryz.prog W = .ok (g == none) W := by
 have hu := Tryz.underlying26
 cases g <;> simp [Op.equalIn, run_underlying hu]
theorem oddW_0 (b rb ro cap n : Nat) (s1 : Int) (q : Addr) (w : World) (h1 : b < w.heap.size) (a3 : rb < w.heap.size) (hn0 : (1 : Int) ≤ n) (hn1 : (n : Int) ≤ 9223372036854775807) (hcap : n ≤ cap)
   (c0 : w.cell? ⟨b, 0, none⟩ = some (.slice (some ⟨rb, ro, none⟩) n cap)) (x2 : w.cell? ⟨rb, ro + (n - 1) * 3 + 1, none⟩ = some (.int .i64 s1)) (x3 : w.cell? ⟨rb, ro + (n - 1) * 3 + 2, none⟩ = some (.pointer none)) :
   Calls Tryz.prog 99 #[.agg #[.int .i64 0, .pointer (some ⟨b, 0, none⟩)]] w fun e w' => e = .returned (.bool (s1 == 0 && (none : Option Addr) == none)) ∧ Below w.heap.size w w' := by
 have c1 := Zar (.cells #[.int .i64 0, .pointer (some ⟨b, 0, none⟩)] 28) h1 c0
 have y2 := Zar (.cells #[.int .i64 0, .pointer (some ⟨b, 0, none⟩)] 28) a3 x2
 have y3 := Zar (.cells #[.int .i64 0, .pointer (some ⟨b, 0, none⟩)] 28) a3 x3
 have hidx : ((n : Int) - 1).toNat = n - 1 := by omega
 have hw1 : IntKind.i64.wrap ((n : Int) - 1) = (n : Int) - 1 := IntWalk.i64_in _ (by omega)
 have hw2 : (0 : Int) ≤ (n : Int) - 1 := by omega
 have hw3 : (n : Int) - 1 < (n : Int) := by omega
 clear c0 x2 x3
 have en : ∀ W, (Op.equalIn 9999 26 (.pointer (none : Option Addr)) (.pointer none)).run Tryz.prog W = .ok ((none : Option Addr) == none) W := fun W => Zou W 9998 none
 generalize hbs : (s1 == 0) = bs
 cases bs
 all_goals
   go_enter Tryz.func99, Tryz.ntmps99
   go_wp2
   first
   | go_region_held3 (fun w' => w'.cell? ⟨rb, ro + (n - 1) * 3 + 1, none⟩ = some (.int .i64 s1) ∧ w'.cell? ⟨rb, ro + (n - 1) * 3 + 2, none⟩ = some (.pointer none)) (first | (go_keep; done) | ((try dsimp only); refine ⟨?_, ?_⟩ <;> (go_keep; done)))
        (first
        | (go_at_call 8
           refine (Zax _ _).mono ?_
           rintro e w1 ⟨rfl, hb1⟩
           obtain ⟨hc, hf⟩ := bcell hb1
           have k1 := hc rb (ro + (n - 1) * 3 + 1) (by simp; omega)
           have k2 := hc rb (ro + (n - 1) * 3 + 2) (by simp; omega)
           simp at k1 k2))
   | fail
   go_wp2
   go_ret
   exact ⟨rfl, (((Below.refl w.heap.size w).alloc (zl) _).drew).trans (hb1.mono (by simp))⟩
theorem oddW_1 (b rb ro cap n : Nat) (s1 : Int) (q : Addr) (w : World) (h1 : b < w.heap.size) (a3 : rb < w.heap.size) (hn0 : (1 : Int) ≤ n) (hn1 : (n : Int) ≤ 9223372036854775807) (hcap : n ≤ cap)
   (c0 : w.cell? ⟨b, 0, none⟩ = some (.slice (some ⟨rb, ro, none⟩) n cap)) (x2 : w.cell? ⟨rb, ro + (n - 1) * 3 + 1, none⟩ = some (.int .i64 s1)) (x3 : w.cell? ⟨rb, ro + (n - 1) * 3 + 2, none⟩ = some (.pointer (some q))) :
   Calls Tryz.prog 99 #[.agg #[.int .i64 0, .pointer (some ⟨b, 0, none⟩)]] w fun e w' => e = .returned (.bool (s1 == 0 && ((some q) : Option Addr) == none)) ∧ Below w.heap.size w w' := by
 have c1 := Zar (.cells #[.int .i64 0, .pointer (some ⟨b, 0, none⟩)] 28) h1 c0
 have y2 := Zar (.cells #[.int .i64 0, .pointer (some ⟨b, 0, none⟩)] 28) a3 x2
 have y3 := Zar (.cells #[.int .i64 0, .pointer (some ⟨b, 0, none⟩)] 28) a3 x3
 have hidx : ((n : Int) - 1).toNat = n - 1 := by omega
 have hw1 : IntKind.i64.wrap ((n : Int) - 1) = (n : Int) - 1 := IntWalk.i64_in _ (by omega)
 have hw2 : (0 : Int) ≤ (n : Int) - 1 := by omega
 have hw3 : (n : Int) - 1 < (n : Int) := by omega
 clear c0 x2 x3
 have en : ∀ W, (Op.equalIn 9999 26 (.pointer ((some q) : Option Addr)) (.pointer none)).run Tryz.prog W = .ok (((some q) : Option Addr) == none) W := fun W => Zou W 9998 (some q)
 generalize hbs : (s1 == 0) = bs
 cases bs
 all_goals
   go_enter Tryz.func99, Tryz.ntmps99
   go_wp2
   first
   | go_region_held3 (fun w' => w'.cell? ⟨rb, ro + (n - 1) * 3 + 1, none⟩ = some (.int .i64 s1) ∧ w'.cell? ⟨rb, ro + (n - 1) * 3 + 2, none⟩ = some (.pointer (some q))) (first | (go_keep; done) | ((try dsimp only); refine ⟨?_, ?_⟩ <;> (go_keep; done)))
        (first
        | (go_at_call 8
           refine (Zax _ _).mono ?_
           rintro e w1 ⟨rfl, hb1⟩
           obtain ⟨hc, hf⟩ := bcell hb1
           have k1 := hc rb (ro + (n - 1) * 3 + 1) (by simp; omega)
           have k2 := hc rb (ro + (n - 1) * 3 + 2) (by simp; omega)
           simp at k1 k2))
   | fail
   go_wp2
   go_ret
   exact ⟨rfl, (((Below.refl w.heap.size w).alloc (zl) _).drew).trans (hb1.mono (by simp))⟩
theorem Zfb {F : Nat → Prop} (s : Int) (g : Option Addr) (z : Int) (w : World) (hn : IsN w F s g z) (h0 : 0 ≤ z) :
   Calls Tryz.prog 99 #[.agg #[.int .i64 s, .pointer g]] w fun e w' => e = .returned (.bool (z % 2 == 1)) ∧ Below w.heap.size w w' := by
 obtain ⟨D, hf, hv⟩ := hn
 cases g with
 | none =>
   obtain ⟨rfl, h64⟩ := hv
   clear hf
   have hb := Zot s h0 (by unfold i64 at h64; omega)
   go_enter Tryz.func99, Tryz.ntmps99
   go_wp2
   go_ret
   exact ⟨by first | rfl | simp, (zb).alloc (zl) _⟩
 | some p =>
   obtain ⟨rfl, hD⟩ := hv
   obtain ⟨b, v, ts, rfl, h1, h2, h3, h4, h5⟩ := hf.form p z hD
   have hg := (hf.great _ _ hD).1
   have hl := h5.len
   obtain ⟨⟨_, hr⟩, hnf⟩ := h4
   obtain ⟨l, t, hz⟩ : ∃ l t, naf z = l ++ [t] := by
     have : naf z ≠ [] := fun hz => hg (by rw [Zfp hz]; unfold i64; omega)
     exact ⟨_, _, (List.dropLast_concat_getLast this).symm⟩
   have ho := Zra hz
   rcases hr with ⟨rfl, e1⟩ | ⟨rb, ro, cap, rfl, a1, a2, a3, a4⟩
   · simp [e1, hz] at hl
   · have hpos : 0 < ts.length := by rw [hl, hz]; simp
     obtain ⟨x1, x2, x3⟩ := RowC.term a4 (ts.length - 1) (by omega)
     have hget := (h5.get (ts.length - 1) (by omega) (by omega)).2
     have hlast : (naf z)[ts.length - 1]'(by omega) = t := by
       have e : ts.length - 1 = l.length := by rw [hl, hz]; simp
       simp only [hz, e]; simp
     rw [hlast] at hget
     generalize ts[ts.length - 1] = tl at *
     obtain ⟨m1, s1, g1⟩ := tl
     simp only at x1 x2 x3 hget
     clear hlast a4 h5
     have hN2 : ts.length = l.length + 1 := by rw [hl, hz]; simp
     clear hl
     generalize hN : ts.length = n at *
     have hs1 : (s1 == 0 && g1 == none) = (z % 2 == 1) := by
       have hz2 : (z % 2 == 1) = decide (t.2 = 0) := by
         rw [Bool.eq_iff_iff]; simp [ho]
       rw [hz2]
       cases g1 with
       | none => obtain ⟨rfl, _⟩ := hget; simp; rw [Bool.eq_iff_iff]; simp
       | some q =>
         have := (hf.great _ _ hget.2).1
         have : t.2 ≠ 0 := fun h0 => this (by rw [h0]; unfold i64; decide)
         simp [this]
     rw [← hs1]
     cases g1 with
     | none => exact oddW_0 b rb ro cap n s1 default w h1 a3 (by omega) (by unfold maxLen at a2; omega) a1 (Zat h3) x2 x3
     | some q => exact oddW_1 b rb ro cap n s1 q w h1 a3 (by omega) (by unfold maxLen at a2; omega) a1 (Zat h3) x2 x3
end
end Go.Proofs.YtlkmgclbckojgaaGreatDoor

