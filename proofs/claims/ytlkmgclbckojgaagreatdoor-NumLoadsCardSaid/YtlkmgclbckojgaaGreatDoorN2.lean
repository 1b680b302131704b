import Derived.Test.YtlkmgclbckojgaaGreatDoorY2
import Derived.Test.YtlkmgclbckojgaaGreatDoorL6
import Derived.Test.YtlkmgclbckojgaaGreatDoorP5
import Derived.Test.YtlkmgclbckojgaaGreatDoorS4
set_option linter.unusedVariables false
set_option linter.unusedSimpArgs false
set_option maxHeartbeats 1000000
set_option maxRecDepth 100000
namespace Go.Proofs.YtlkmgclbckojgaaGreatDoor
section
open Go.RowKit
open Classical in
noncomputable def cutD (D : Addr → Option Int) (P : Int → Prop) : Addr → Option Int := fun p => match D p with | some z => if P z then some z else none | none => none
theorem Zcd {D : Addr → Option Int} {P : Int → Prop} {p : Addr} {z : Int} : cutD D P p = some z ↔ D p = some z ∧ P z := by
 unfold cutD
 cases h : D p with
 | none => simp
 | some y =>
   simp only
   by_cases hP : P y
   · rw [if_pos hP]
     constructor
     · rintro e; cases e; exact ⟨rfl, hP⟩
     · rintro ⟨e, _⟩; exact e
   · rw [if_neg hP]
     constructor
     · intro e; cases e
     · rintro ⟨e, h2⟩; cases e; exact absurd h2 hP
theorem ValD.cut {D : Addr → Option Int} {P : Int → Prop} {s : Int} {g : Option Addr} {z : Int} (h : ValD D s g z) (hz : P z) : ValD (cutD D P) s g z := by
 cases g with
 | none => exact h
 | some p => exact ⟨h.1, Zcd.2 ⟨h.2, hz⟩⟩
theorem TVals.cut {D : Addr → Option Int} {P : Int → Prop} : ∀ {ts : List TV} {l : List Tm}, TVals D ts l → (∀ t ∈ l, P (t.2 : Int)) → TVals (cutD D P) ts l
 | [], [], _, _ => trivial
 | t :: ts, u :: l, h, hl => ⟨⟨h.1.1, h.1.2.cut (hl u (List.mem_cons_self ..))⟩, TVals.cut h.2 (fun v hv => hl v (List.mem_cons_of_mem _ hv))⟩
theorem Forest.cut {w : World} {F : Nat → Prop} {D : Addr → Option Int} (h : Forest w F D) {P : Int → Prop} (hP : ∀ z, P z → ∀ t ∈ naf z, P (t.2 : Int)) : Forest w F (cutD D P) := by
 refine ⟨fun p z hp => h.great p z (Zcd.1 hp).1, fun p z hp => ?_, fun p q z hp hq => h.inj p q z (Zcd.1 hp).1 (Zcd.1 hq).1⟩
 obtain ⟨h1, h2⟩ := Zcd.1 hp
 obtain ⟨b, v, ts, e, a1, a2, a3, a4, a5⟩ := h.form p z h1
 exact ⟨b, v, ts, e, a1, a2, a3, a4, a5.cut (hP z h2)⟩
open Classical in
theorem Num.parts {w : World} {F : Nat → Prop} {L : Nat} {s : Int} {g : Option Addr} {z : Int} (h : Num w F L s g z) : Num w F (weightZ z) s g z := by
 obtain ⟨D, S, h1, h2, h3, h4⟩ := h
 refine ⟨cutD D (· ∈ partsZ z), (partsZ z).filterMap (fun y => if h : ∃ p, D p = some y then some (Classical.choose h) else none), h1.cut (fun y hy t ht => Zaz z y hy t ht), fun p y hp => ?_, List.length_filterMap_le _ _, h4.cut (Za5 z)⟩
 obtain ⟨hp1, hp2⟩ := Zcd.1 hp
 refine List.mem_filterMap.2 ⟨y, hp2, ?_⟩
 have hex : ∃ p, D p = some y := ⟨p, hp1⟩
 rw [dif_pos hex]
 exact congrArg some (h1.inj _ _ _ (Classical.choose_spec hex) hp1)
theorem Zlk {D : Addr → Option Int} {S : List Addr} {p : Addr} {y : Int} (hS : ∀ p y, D p = some y → p ∈ S) (h : D p = some y) : y ∈ S.filterMap D := List.mem_filterMap.2 ⟨p, hS p y h, h⟩
theorem Zmk (f : Int → List Int) (n : Nat) : ∀ (l : List Int), (∀ y ∈ l, (f y).length ≤ n) → (l.flatMap f).length ≤ l.length * n
 | [], _ => by simp
 | y :: l, h => by
   have h1 := h y (List.mem_cons_self ..)
   have h2 := Zmk f n l (fun z hz => h z (List.mem_cons_of_mem _ hz))
   rw [List.flatMap_cons, List.length_append, List.length_cons, Nat.succ_mul]
   omega
theorem cover {w : World} {F : Nat → Prop} {D : Addr → Option Int} (hf : Forest w F D) {S : List Addr} (hS : ∀ p y, D p = some y → p ∈ S) {s : Int} {g : Option Addr} {z : Int} (hv : ValD D s g z) :
   ∃ C : List Int, ClosedL C ∧ z ∈ C ∧ C.length ≤ 67 + 30001 * S.length := by
 refine ⟨z :: ((List.range 66).map (fun n : Nat => (n : Int)) ++ (S.filterMap D ++ (S.filterMap D).flatMap (fun y => (naf y).map (fun t => (t.2 : Int))))), ?_, List.mem_cons_self .., ?_⟩
 · have hsm : ∀ p : Int, i64 p → ∀ t ∈ naf p, (t.2 : Int) ∈ (List.range 66).map (fun n : Nat => (n : Int)) := by
     intro p hp t ht
     exact List.mem_map.2 ⟨t.2, List.mem_range.2 (by have := Zfa hp t ht; omega), rfl⟩
   have hgr : ∀ p : Int, p ∈ S.filterMap D → ∀ t ∈ naf p, (t.2 : Int) ∈ (S.filterMap D).flatMap (fun y => (naf y).map (fun t => (t.2 : Int))) := by
     intro p hp t ht
     exact List.mem_flatMap.2 ⟨p, hp, List.mem_map.2 ⟨t, ht, rfl⟩⟩
   have hval : ∀ (s : Int) (g : Option Addr) (p : Int), ValD D s g p → i64 p ∨ p ∈ S.filterMap D := by
     intro s g p h
     cases g with
     | none => exact .inl h.2
     | some q => exact .inr (Zlk hS h.2)
   have hex : ∀ p : Int, p ∈ (S.filterMap D).flatMap (fun y => (naf y).map (fun t => (t.2 : Int))) → i64 p ∨ p ∈ S.filterMap D := by
     intro p hp
     obtain ⟨y, hy, hp2⟩ := List.mem_flatMap.1 hp
     obtain ⟨t, ht, rfl⟩ := List.mem_map.1 hp2
     obtain ⟨q, _, hq⟩ := List.mem_filterMap.1 hy
     obtain ⟨b, v, ts, e, a1, a2, a3, a4, a5⟩ := hf.form q y hq
     obtain ⟨i, hi, ei⟩ := List.getElem_of_mem ht
     have := (a5.get i (by rw [a5.len]; exact hi) hi).2
     rw [ei] at this
     exact hval _ _ _ this
   intro p hp t ht
   refine List.mem_cons_of_mem _ ?_
   have hcase : i64 p ∨ p ∈ S.filterMap D ∨ p ∈ (List.range 66).map (fun n : Nat => (n : Int)) := by
     rcases List.mem_cons.1 hp with rfl | hp
     · rcases hval _ _ _ hv with x | x
       · exact .inl x
       · exact .inr (.inl x)
     · rcases List.mem_append.1 hp with x | x
       · exact .inr (.inr x)
       · rcases List.mem_append.1 x with x | x
         · exact .inr (.inl x)
         · rcases hex p x with x | x
           · exact .inl x
           · exact .inr (.inl x)
   rcases hcase with x | x | x
   · exact List.mem_append_left _ (hsm p x t ht)
   · exact List.mem_append_right _ (List.mem_append_right _ (hgr p x t ht))
   · obtain ⟨n, hn, rfl⟩ := List.mem_map.1 x
     have := List.mem_range.1 hn
     exact List.mem_append_left _ (hsm _ (by unfold i64; omega) t ht)
 · have h1 : (S.filterMap D).length ≤ S.length := List.length_filterMap_le _ _
   have h2 := Zmk (fun y => (naf y).map (fun t => (t.2 : Int))) 30000 (S.filterMap D) (fun y hy => by
     obtain ⟨q, _, hq⟩ := List.mem_filterMap.1 hy
     have := (hf.great q y hq).2
     rw [List.length_map]
     exact this)
   simp only [List.length_cons, List.length_append, List.length_map, List.length_range]
   have h3 : (S.filterMap D).length * 30000 ≤ S.length * 30000 := Nat.mul_le_mul_right _ h1
   omega
end
section
open Go.RowKit
theorem Forest.fresh {w : World} {F : Nat → Prop} {D : Addr → Option Int} (h : Forest w F D) {b : Nat} {v : Value} {ts : List TV} {z : Int} (hz : ¬ i64 z) (hw : wide z) (ht : TVals D ts (naf z))
   (hb : b < w.heap.size) (hF : ¬ F b) (hh : w.heap[b]? = some (.cells #[v] 113 (0, 0))) (hr : RowF w F 3 v ts.length (flatT ts)) (hD : D ⟨b, 0, none⟩ = none) (hno : ∀ p, D p ≠ some z) :
   Forest w F (fun q => if q = ⟨b, 0, none⟩ then some z else D q) := by
 have hmono : ∀ p y, D p = some y → (if p = ⟨b, 0, none⟩ then some z else D p) = some y := by
   intro p y hp
   rw [if_neg (by rintro rfl; rw [hD] at hp; cases hp)]; exact hp
 refine ⟨?_, ?_, ?_⟩
 · intro p y hp
   split at hp
   · cases hp; exact ⟨hz, hw⟩
   · exact h.great p y hp
 · intro p y hp
   split at hp
   · rename_i he
     cases hp
     exact ⟨b, v, ts, he, hb, hF, hh, hr, ht.mono hmono⟩
   · obtain ⟨b', v', ts', e, a1, a2, a3, a4, a5⟩ := h.form p y hp
     exact ⟨b', v', ts', e, a1, a2, a3, a4, a5.mono hmono⟩
 · intro p q y hp hq
   split at hp
   · rename_i he
     split at hq
     · rename_i he'; rw [he, he']
     · cases hp; exact absurd hq (hno q)
   · split at hq
     · cases hq; exact absurd hp (hno p)
     · exact h.inj p q y hp hq
theorem Zll {w : World} {sb : Nat} {F : Nat → Prop} (H : Nat → Prop) {K : List Addr} {G : StG} (hm : StMem w sb F G) (hi : StInv w (hot H F) (fun _ => none) K G) {D : Addr → Option Int} (hf : Forest w (hot H F) D) (hS : ∀ p z, D p = some z → p ∈ K) (hHlt : ∀ k, H k → k < w.heap.size) {v : Value} {ts : List TV} (hr : RowF w (hot H F) 3 v ts.length (flatT ts)) (hlen : ts.length ≤ 30000)
   {l : List Tm} (ht : TVals D ts l) (hn : NA l) (hno : ∀ p, D p ≠ some (val l)) (hbig : K.length ≤ big) :
   Calls Tryz.prog 68 #[.pointer (some ⟨sb, 0, none⟩), v] w fun e w' => ∃ (s : Int) (g : Option Addr) (F' : Nat → Prop) (D' : Addr → Option Int) (S' : List Addr),
     e = .returned (.agg #[.int .i64 s, .pointer g]) ∧ ValD D' s g (val l) ∧ Forest w' (hot H F') D' ∧ Step w w' F F' ∧ (∀ p y, D' p = some y → p ∈ S') ∧ S'.length ≤ K.length + 1 := by
 have hnaf : naf (val l) = l := Zbn hn
 have hwide : wide (val l) := by unfold wide wt; rw [hnaf, ← ht.len]; exact hlen
 have hFlt := hm.flt
 have hpos : 0 < w.heap.size := by have := hm.lt; have := hm.pos; omega
 have hbW : Below w.heap.size w (w.alloc (.cells #[.int .i64 0, .pointer none] 28)) := (zb).alloc (zl) _
 have hsW := Step.of_below (hot H F) hbW
 have has := Zfj (hf.keeps hsW.keeps) (hr.keeps hsW.keeps) hlen ht hn
 by_cases h64 : i64 (val l)
 · have hd : decide (i64 (val l)) = true := by simpa using h64
   rw [hd] at has
   have HH := zh h64
   have HM := zh hm
   have HI := zh (zi hf hS)
   have HB := zh hbW
   clear hm hi hf hS hr ht hn hno hnaf hd h64 hsW hbW
   go_enter Tryz.func68, Tryz.ntmps68
   go_wp2_with (first
     | (go_at_call 88; refine has.mono ?_; rintro e w1 ⟨n, rfl, hnv, hb1⟩; obtain ⟨hc1, hf1⟩ := bcell hb1; have hz1 := hb1.size; have HNV := zh hnv; clear hnv)
     | (go_at_call 8; refine (Zax _ _).mono ?_; rintro e w2 ⟨rfl, hb2⟩; have hb12 := (HB.out.trans (hb1.mono (by simp))).trans (hb2.mono (by simp at hz1; omega))
        have k1 : w2.cell? ⟨w.heap.size, 0, none⟩ = some (.int .i64 0) := by rw [hb2.cell (p := ⟨w.heap.size, 0, none⟩) (by simp at hz1; show w.heap.size < w1.heap.size; omega), hc1 _ _ (by simp)]; simp
        have k2 : w2.cell? ⟨w.heap.size, 1, none⟩ = some (.pointer none) := by rw [hb2.cell (p := ⟨w.heap.size, 1, none⟩) (by simp at hz1; show w.heap.size < w1.heap.size; omega), hc1 _ _ (by simp)]; simp
        have k3 : w2.frozen? ⟨w.heap.size, 0, none⟩ = false := by rw [hb2.frozen (p := ⟨w.heap.size, 0, none⟩) (by simp at hz1; show w.heap.size < w1.heap.size; omega), hf1 _ _ (by simp)]; simp
        have k4 : w2.frozen? ⟨w.heap.size, 1, none⟩ = false := by rw [hb2.frozen (p := ⟨w.heap.size, 1, none⟩) (by simp at hz1; show w.heap.size < w1.heap.size; omega), hf1 _ _ (by simp)]; simp
        clear hc1 hf1))
   have hbF := ((hb12.setCell (p := ⟨w.heap.size, 0, none⟩) (zl) (.int .i64 n)).setCell (p := ⟨w.heap.size, 1, none⟩) (zl) (.pointer none))
   refine bodyPost_ret (v := .agg #[.int .i64 n, .pointer none]) (by simp [results, Tryz.results68, go_sem, *]) rfl ?_
   have hnv : n = val l := HNV.out HH.out
   exact ⟨n, none, F, D, K, rfl, ⟨hnv, HH.out⟩, HI.out.1.keeps (.of_below hbF (zl)), .of_below F hbF, HI.out.2, by omega⟩
 · have hd : decide (i64 (val l)) = false := by simpa using h64
   rw [hd] at has
   have HH := zh h64
   obtain ⟨Hp, hHp⟩ : ∃ Hp : Nat → Prop, Hp = fun k => H k ∨ k = w.heap.size := ⟨_, rfl⟩
   have hup : ∀ F0 : Nat → Prop, ∀ i, hot H F0 i → hot Hp F0 i := by
     intro F0 i hx
     rcases hx with x | x
     · exact .inl (by rw [hHp]; exact .inl x)
     · exact .inr x
   have hdn : ∀ F0 : Nat → Prop, ∀ i, hot Hp F0 i → hot H F0 i ∨ w.heap.size ≤ i := by
     intro F0 i hx
     rcases hx with x | x
     · rw [hHp] at x
       rcases x with x | x
       · exact .inl (.inl x)
       · exact .inr (by omega)
     · exact .inl (.inr x)
   have hi' : StInv w (hot Hp F) (fun _ => none) K G := hi.grow (zl) (hdn F)
   have hf' : Forest w (hot Hp F) D := hf.grow (zl) (hdn F)
   have hr' : RowF w (hot Hp F) 3 v ts.length (flatT ts) := hr.grow (zl) (hdn F)
   have hxHp : Hp w.heap.size := by rw [hHp]; exact .inr rfl
   have hkl : ∀ i (h : i < ts.length), match ts[i].2.2 with | none => i64 ts[i].2.1 | some p => (∃ z, GreatV w (hot Hp F) p z) ∧ p ∈ K := by
     intro i h
     have hg := (ht.get i h (by rw [← ht.len]; exact h)).2
     generalize ts[i] = t at hg ⊢
     obtain ⟨m, s, g⟩ := t
     cases g with
     | none => have e : s = (l[i]'(by rw [← ht.len]; exact h)).2 := hg.1; simp only; rw [e]; exact hg.2
     | some p => exact ⟨⟨_, D, hf', hg.2⟩, hS _ _ hg.2⟩
   have HM := zh hm
   have HFS := zh (zi hf' (zi hS hno))
   have HI := zh hi'
   have HR := zh hr'
   have HB := zh hbW
   have HT := zh ht
   have HNAF := zh hnaf
   have HKL := zh hkl
   have HUP := zh hup
   have HP : Hid (∀ k, Hp k → H k ∨ k = w.heap.size) := zh (fun k h => by rw [hHp] at h; exact h)
   clear hm hi hf hS hno hr ht hn hnaf hd h64 hsW hbW hkl hi' hf' hr' hup hdn hHp
   go_enter Tryz.func68, Tryz.ntmps68
   go_wp2_with (first
     | (go_at_call 88; refine has.mono ?_; rintro e w1 ⟨n, rfl, hnv, hb1⟩; clear hnv; obtain ⟨hc1, hf1⟩ := bcell hb1; have hz1 := hb1.size
        have hb01 := HB.out.trans (hb1.mono (by simp))
        have s01 := Step.of_below F hb01
        have k1 : w1.cell? ⟨w.heap.size, 0, none⟩ = some (.int .i64 0) := by rw [hc1 _ _ (by simp)]; simp
        have k2 : w1.cell? ⟨w.heap.size, 1, none⟩ = some (.pointer none) := by rw [hc1 _ _ (by simp)]; simp
        have k3 : w1.frozen? ⟨w.heap.size, 0, none⟩ = false := by rw [hf1 _ _ (by simp)]; simp
        have k4 : w1.frozen? ⟨w.heap.size, 1, none⟩ = false := by rw [hf1 _ _ (by simp)]; simp
        clear hc1 hf1))
   have t01 : ∀ c t fr, w1.heap[w.heap.size]? = some (.cells c t fr) → t ≠ 113 := by
     intro c t fr h
     rw [hb1.block _ (by simp), heap_alloc_new] at h
     cases h; decide
   refine (Zko Hp (HM.out.below hb01) (HI.out.keeps (s01.hot Hp).keeps) ((HR.out.shrink (fun _ h => .inr h)).keeps s01.keeps) hlen (fun i h => ?_) hbig).mono ?_
   · have := HKL.out i h
     revert this
     generalize ts[i].2.2 = g
     cases g with
     | none => exact fun x => x
     | some p => exact fun x => ⟨by obtain ⟨⟨z, hz⟩, _⟩ := x; exact ⟨z, hz.step (s01.hot Hp)⟩, x.2⟩
   rintro e w2 ⟨key, F2, G2, rfl, hkt, m2, i2, s2, g2⟩
   have hnF : ¬ F w.heap.size := fun h => by have := hFlt _ h; omega
   have hlt1 : w.heap.size < w1.heap.size := by simp at hz1; omega
   have k5 := (s2.keeps.cell 0 hlt1 hnF).trans k1
   have k6 := (s2.keeps.cell 1 hlt1 hnF).trans k2
   have k7 := (s2.keeps.frozen 0 hlt1 hnF).trans k3
   have k8 := (s2.keeps.frozen 1 hlt1 hnF).trans k4
   have t02 : ∀ c t fr, w2.heap[w.heap.size]? = some (.cells c t fr) → t ≠ 113 := by
     intro c t fr h
     rw [s2.keeps.block _ hlt1 hnF] at h
     exact t01 c t fr h
   have c2 := m2.cell 2 m2.i2
   have hl := MapO.lookup keyS Tryz.underlying83 (z := .pointer none) (fun W => by kernel_rfl) m2.ma key trivial
   unfold encS at hl
   clear k1 k2 k3 k4
   have s02 := s01.trans s2
   have HKT := zh hkt
   clear hkt
   have hsz2 := s02.keeps.size
   have hnF2 : ¬ F2 w.heap.size := fun h => by
     rcases s2.grow _ h with x | x
     · exact hnF x
     · omega
   have hlt2 : w.heap.size < w2.heap.size := Nat.lt_of_lt_of_le hlt1 s2.keeps.size
   cases h0 : G2.fa key with
   | some v2 =>
     obtain ⟨p, z, ts', a1, a2, a3⟩ := i2.al _ _ h0
     cases a2
   | none =>
     rw [h0] at hl
     simp only [Option.getD_none, Option.isSome_none] at hl
     obtain ⟨o, vn, vc, rfl⟩ : ∃ o vn vc, v = .slice o vn vc := by
       obtain ⟨⟨_, hh⟩, _⟩ := HR.out
       rcases hh with ⟨rfl, _⟩ | ⟨c, off, cap, rfl, _⟩ <;> exact ⟨_, _, _, rfl⟩
     obtain ⟨w3, hw3⟩ : ∃ w3, w3 = w2.alloc (.cells #[.slice o vn vc] 113) := ⟨_, rfl⟩
     have hb23 : Below w2.heap.size w2 w3 := by rw [hw3]; exact (zb).alloc (zl) _
     have hz3 : w3.heap.size = w2.heap.size + 1 := by rw [hw3]; simp
     have hA3 : w3.heap[w2.heap.size]? = some (.cells #[.slice o vn vc] 113 (0, 0)) := by rw [hw3]; exact heap_alloc_new _ _
     have m3 := m2.below hb23
     have s23 := Step.of_below F2 hb23
     have HA := zh (zi hA3 hz3)
     clear hA3 hz3
     have HS := zh s23
     clear s23 hb23
     have HL := zh m2.flt
     have hlt3 : w.heap.size < w3.heap.size := by have := HA.out.2; omega
     have q5 := (HS.out.keeps.cell 0 hlt2 hnF2).trans k5
     have q6 := (HS.out.keeps.cell 1 hlt2 hnF2).trans k6
     have q7 := (HS.out.keeps.frozen 0 hlt2 hnF2).trans k7
     have q8 := (HS.out.keeps.frozen 1 hlt2 hnF2).trans k8
     go_wp2_with (first
       | (go_at_call 90; rw [← hw3]; refine (Zf7 sb 2 G2.c G2.t G2.m2 G2.fa G2.na key (some ⟨w2.heap.size, 0, none⟩) w3 m3.hs m3.i2 m3.ma trivial m3.nf).mono ?_; rintro e w4 ⟨rfl, hn4⟩
          obtain ⟨r, m4, kp, gr⟩ := m3.note2 hn4
          have k9 := (kp.cell 0 hlt3 hnF2).trans q5
          have k10 := (kp.cell 1 hlt3 hnF2).trans q6
          have k11 := (kp.frozen 0 hlt3 hnF2).trans q7
          have k12 := (kp.frozen 1 hlt3 hnF2).trans q8
          clear k5 k6 k7 k8 q5 q6 q7 q8))
     refine bodyPost_ret (v := .agg #[.int .i64 0, .pointer (some ⟨w2.heap.size, 0, none⟩)]) (by simp [results, Tryz.results68, go_sem, *]) rfl ?_
     obtain ⟨hA3, hz3⟩ := HA.out
     have s34 : Step w3 w4 F2 (fun k => F2 k ∨ k = r) := ⟨kp, gr, fun k hk => .inl hk⟩
     have s24 := HS.out.trans s34
     have s04 := s02.trans s24
     have hnA : ¬ F2 w2.heap.size := fun h => by have := HL.out _ h; omega
     have hA4 : w4.heap[w2.heap.size]? = some (.cells #[.slice o vn vc] 113 (0, 0)) := (kp.block _ (by omega) hnA).trans hA3
     have hnA4 : ¬ hot Hp (fun k => F2 k ∨ k = r) w2.heap.size := by
       rintro (x | x)
       · rcases HP.out _ x with x | x
         · have := hHlt _ x; omega
         · omega
       · rcases gr _ x with x | x
         · exact hnA x
         · omega
     have hz4 := kp.size
     have hDn : D ⟨w2.heap.size, 0, none⟩ = none := by
       cases hd : D ⟨w2.heap.size, 0, none⟩ with
       | none => rfl
       | some y =>
         obtain ⟨b', v', ts', e, a1, a2, a3, a4, a5⟩ := (HFS.out.1.step (s02.hot Hp)).form _ _ hd
         simp only [Addr.mk.injEq, and_true] at e
         omega
     have i4 := (HFS.out.1.step (s04.hot Hp)).fresh (b := w2.heap.size) HH.out hwide (by rw [HNAF.out]; exact HT.out) (by omega) hnA4 hA4 (HR.out.step (s04.hot Hp)) hDn HFS.out.2.2
     have t04 : ∀ c t fr, w4.heap[w.heap.size]? = some (.cells c t fr) → t ≠ 113 := by
       intro c t fr h
       rw [s24.keeps.block _ hlt2 hnF2] at h
       exact t02 c t fr h
     have hnF4 : ¬ (F2 w.heap.size ∨ w.heap.size = r) := by
       intro x
       rcases gr _ x with x | x
       · exact hnF2 x
       · omega
     have mF := (m4.set (i := 0) (.int .i64 0) hnF4 hpos t04).set (i := 1) (.pointer (some ⟨w2.heap.size, 0, none⟩)) hnF4 hpos (by
       intro c t fr h
       simp only [World.setCell, Array.getElem?_modify, if_true] at h
       cases hh : w4.heap[w.heap.size]? with
       | none => simp [hh] at h
       | some o =>
         rw [hh] at h
         cases o with
         | cells c' t' fr' => simp only [Option.map_some, Option.some.injEq, Obj.cells.injEq] at h; rw [← h.2.1]; exact t04 _ _ _ hh
         | _ => simp at h)
     refine ⟨0, some ⟨w2.heap.size, 0, none⟩, _, (fun q => if q = ⟨w2.heap.size, 0, none⟩ then some (val l) else D q), (⟨w2.heap.size, 0, none⟩ :: K), rfl, ⟨rfl, by simp⟩, ?_, ⟨Zav (Zav s04.keeps _ (zl)) _ (zl), s04.grow, s04.mono⟩, ?_, by simp⟩
     · exact ((i4.keeps (Zal (i := 0) _ (.inl hxHp))).keeps (Zal (i := 1) _ (.inl hxHp))).shrink (HUP.out _)
     · intro p y hp
       simp only at hp
       split at hp
       · rename_i he; rw [he]; exact List.mem_cons_self ..
       · exact List.mem_cons_of_mem _ (HFS.out.2.1 p y hp)
end
end Go.Proofs.YtlkmgclbckojgaaGreatDoor

