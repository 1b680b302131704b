import Derived.Test.YtlkmgclbckojgaaGreatDoorL6
import Derived.Test.YtlkmgclbckojgaaGreatDoorS3
set_option linter.unusedVariables false
set_option linter.unusedSimpArgs false
set_option maxHeartbeats 1000000
set_option maxRecDepth 100000
namespace Go.Proofs.YtlkmgclbckojgaaGreatDoor
section
open Go.RowKit
theorem Zjm (l : List Tm) (k : Nat) (h : k < l.length) : val (l.take (k + 1)) = val (l.take k) + tv l[k] := by
 rw [List.take_succ_eq_append_getElem h, Za2]; simp [val]
theorem Zlu (s : Nat) (h : s ≤ 63) (m : Bool) (x : Int) : wrap64 (wrap64 x + (if m then wrap64 (-wrap64 (2 ^ s)) else wrap64 (2 ^ s))) = wrap64 (x + tv (m, s)) := by
 cases m
 · simp only [tv, sg, Bool.false_eq_true, if_false, Int.one_mul]; exact Zid _ _
 · simp only [tv, sg, if_true, Zm9]; rw [Zid]; congr 1; omega
theorem Zlv (ts : List TV) (l : List Tm) (b ro cap : Nat) (w : World) (hb : b < w.heap.size) (hc : RowC w b ro (flatT ts)) (hn : 0 < ts.length) (hlen : ts.length ≤ 30000)
   (hl : l.length = ts.length) (hall : ∀ i (h : i < ts.length) (h2 : i < l.length), ts[i].1 = l[i].1 ∧ ts[i].2.2 = none ∧ ts[i].2.1 = (l[i].2 : Int) ∧ l[i].2 ≤ 63) :
   Calls Tryz.prog 88 #[.slice (some ⟨b, ro, none⟩) ts.length cap] w fun e w' =>
     e = .returned (.tuple #[.int .i64 (wrap64 (val l)), .bool ((decide (wrap64 (val l) < 0)) == (ts[0]'hn).1)]) ∧ Below w.heap.size w w' := by
 obtain ⟨c1, c2, c3⟩ := hc.term 0 hn
 obtain ⟨q1, q2, q3, q4⟩ := hall 0 hn (by omega)
 simp only [Nat.zero_mul, Nat.add_zero] at c1 c2 c3
 rw [q2] at c3
 rw [q3] at c2
 have hm0 : (ts[0]'hn).1 = (ts[0]'hn).1 := rfl
 generalize (ts[0]'hn).1 = m0 at *
 have hs0 : ((l[0]'(by omega)).2 : Int) ≤ 63 := by omega
 generalize (((l[0]'(by omega)).2 : Nat) : Int) = s0 at *
 have hb1 : ((ts.length : Int) == 0) = false := by rw [beq_eq_false_iff_ne]; omega
 have hb2 : decide (63 < s0) = false := by simp; omega
 have hn1 : (ts.length : Int) ≤ 9223372036854775807 := by omega
 have HC := zh hc
 have HALL := zh hall
 have HL := zh hl
 clear hc hall hl q1 q2 q3 q4 hm0
 go_enter Tryz.func88, Tryz.ntmps88
 go_wp2
 go_loopw [5, 26] (fun n i wr => ∃ k : Nat, k ≤ ts.length ∧ i = .int .i64 k ∧ n = .int .i64 (wrap64 (val (l.take k))) ∧ Below w.heap.size w wr) (fun _ i _ => ts.length - (intOf i).toNat)
 case atStart => exact ⟨0, by omega, rfl, by simp [val, wrap64], by repeat (first | exact zb | refine Below.alloc ?_ (by simp) _)⟩
 case round =>
   obtain ⟨k, hk, rfl, rfl, hbel⟩ := hrel
   have HBEL := zh hbel
   by_cases hlt : k < ts.length
   · obtain ⟨d1, d2, d3⟩ := HC.out.term k hlt
     have hlt2 : k < l.length := by rw [HL.out]; exact hlt
     obtain ⟨e1, e2, e3, e4⟩ := HALL.out k hlt hlt2
     have hv := Zjm l k hlt2
     rw [← hbel.cell (p := ⟨b, _, none⟩) hb] at d1 d2 d3
     rw [e2] at d3
     rw [e3] at d2
     rw [e1] at d1
     generalize l[k] = t at *
     obtain ⟨m, s⟩ := t
     simp only at d1 d2 d3 e4 hv
     have hsh := Zlu s e4 m (val (l.take k))
     have HV := zh hv
     have HSH := zh hsh
     have hs64 : (s : Int) ≤ 63 := by omega
     clear e1 e2 e3 hv hsh hbel
     have hst : ((s : Int)).toNat = s := by omega
     cases m
     all_goals
       go_wp2
       go_roundw
       case rel =>
         refine ⟨k + 1, by omega, by go_num, ?_, (HBEL.out.alloc HBEL.out.size _)⟩
         rw [HV.out]
         have := HSH.out
         simp only [Bool.false_eq_true, if_false, if_true] at this
         rw [← this]
       case measure => simp [intOf]; omega
   · have hkn : k = ts.length := by omega
     have hvl : val (l.take k) = val l := by rw [hkn, ← HL.out, List.take_length]
     rw [hvl]
     have d1 : wr.cell? ⟨b, ro, none⟩ = some (.bool m0) := (hbel.cell (p := ⟨b, ro, none⟩) hb).trans c1
     have hpos : (0 : Int) < ts.length := by omega
     clear hbel hkn hvl c1 c2 c3
     generalize hN : wrap64 (val l) = n at *
     have HN := zh hN
     clear hN
     go_wp2
     go_quiet (fail)
     all_goals
       go_wp2
       go_ret2
       exact ⟨by rw [HN.out]; rfl, Zaa HBEL.out _⟩
instance i64_dec (z : Int) : Decidable (i64 z) := inferInstanceAs (Decidable (_ ∧ _))
theorem Zpc {t : Tm} {l : List Tm} (hn : NA (t :: l)) (h : t.2 ≤ 63) : (decide (wrap64 (val (t :: l)) < 0) == t.1) = decide (i64 (val (t :: l))) := by
 have h1 := Zbm hn
 have h2 := Zc2 h
 have h3 : (2 : Int) ^ 63 = 9223372036854775808 := by decide
 rw [h3] at h2
 have h4 := pow_pos t.2
 generalize val (t :: l) = z at *
 obtain ⟨m, e⟩ := t
 simp only at *
 have h5 : (m = true → z < 0 ∧ -18446744073709551616 < z) ∧ (m = false → 0 < z ∧ z < 18446744073709551616) := by
   refine ⟨fun hm => ?_, fun hm => ?_⟩ <;> (subst hm; simp [sg] at h1; omega)
 have h6 : decide (wrap64 z < 0) = if i64 z then decide (z < 0) else !decide (z < 0) := by
   by_cases hi : i64 z
   · rw [if_pos hi, Za4 hi]
   · rw [if_neg hi]
     unfold i64 at hi
     unfold wrap64
     cases m
     · have := h5.2 rfl
       rw [decide_eq_true (by omega), decide_eq_false (by omega)]; rfl
     · have := h5.1 rfl
       rw [decide_eq_false (by omega), decide_eq_true (by omega)]; rfl
 rw [h6]
 have h7 : decide (z < 0) = m := by
   cases m
   · exact decide_eq_false (by have := h5.2 rfl; omega)
   · exact decide_eq_true (by have := h5.1 rfl; omega)
 rw [h7]
 by_cases hi : i64 z
 · rw [if_pos hi, decide_eq_true hi]; simp
 · rw [if_neg hi, decide_eq_false hi]; cases m <;> rfl
theorem Zqa {t : Tm} {l : List Tm} (hn : NA (t :: l)) (h : 64 ≤ t.2) : ¬ i64 (val (t :: l)) := by
 have h1 := (Zbm hn).1
 have h2 := Zc2 h
 have h3 : (2 : Int) ^ 64 = 18446744073709551616 := by decide
 rw [h3] at h2
 unfold i64
 rcases Zay t.1 with ⟨_, e⟩ | ⟨_, e⟩ <;> rw [e] at h1 <;> omega
theorem Zhy (n b ro cap : Nat) (m0 : Bool) (s0 : Int) (p : Addr) (w : World) (hb : b < w.heap.size) (hn : 0 < n) (hn1 : (n : Int) ≤ 9223372036854775807) (hC : 63 < s0)
   (c1 : w.cell? ⟨b, ro, none⟩ = some (.bool m0)) (c2 : w.cell? ⟨b, ro + 1, none⟩ = some (.int .i64 s0)) (c3 : w.cell? ⟨b, ro + 2, none⟩ = some (.pointer none)) :
   Calls Tryz.prog 88 #[.slice (some ⟨b, ro, none⟩) n cap] w fun e w' => e = .returned (.tuple #[.int .i64 0, .bool false]) ∧ Below w.heap.size w w' := by
 have hb1 : ((n : Int) == 0) = false := by rw [beq_eq_false_iff_ne]; omega
 have hpos : (0 : Int) < n := by omega
 go_enter Tryz.func88, Tryz.ntmps88
 go_wp2
 all_goals
   go_ret2
   exact ⟨rfl, (zb).alloc (zl) _⟩
theorem Zhz (n b ro cap : Nat) (m0 : Bool) (s0 : Int) (p : Addr) (w : World) (hb : b < w.heap.size) (hn : 0 < n) (hn1 : (n : Int) ≤ 9223372036854775807) (hC : True)
   (c1 : w.cell? ⟨b, ro, none⟩ = some (.bool m0)) (c2 : w.cell? ⟨b, ro + 1, none⟩ = some (.int .i64 s0)) (c3 : w.cell? ⟨b, ro + 2, none⟩ = some (.pointer (some p))) :
   Calls Tryz.prog 88 #[.slice (some ⟨b, ro, none⟩) n cap] w fun e w' => e = .returned (.tuple #[.int .i64 0, .bool false]) ∧ Below w.heap.size w w' := by
 have hb1 : ((n : Int) == 0) = false := by rw [beq_eq_false_iff_ne]; omega
 have hpos : (0 : Int) < n := by omega
 go_enter Tryz.func88, Tryz.ntmps88
 go_wp2
 all_goals
   go_ret2
   exact ⟨rfl, (zb).alloc (zl) _⟩
theorem Zlw (a : Option Addr) (cap : Nat) (w : World) :
   Calls Tryz.prog 88 #[.slice a 0 cap] w fun e w' => e = .returned (.tuple #[.int .i64 0, .bool true]) ∧ Below w.heap.size w w' := by
 go_enter Tryz.func88, Tryz.ntmps88
 go_wp2
 go_ret2
 exact ⟨rfl, zb⟩
theorem Zfj {F : Nat → Prop} {D : Addr → Option Int} {w : World} (hf : Forest w F D) {v : Value} {ts : List TV} (hr : RowF w F 3 v ts.length (flatT ts)) (hlen : ts.length ≤ 30000) {l : List Tm} (ht : TVals D ts l) (hn : NA l) :
   Calls Tryz.prog 88 #[v] w fun e w' => ∃ n : Int, e = .returned (.tuple #[.int .i64 n, .bool (decide (i64 (val l)))]) ∧ (i64 (val l) → n = val l) ∧ Below w.heap.size w w' := by
 have hl := ht.len
 cases l with
 | nil =>
   obtain ⟨a, c, rfl⟩ := hr.1.shape
   rw [hl]
   exact (Zlw a c w).mono fun e w' ⟨h1, h2⟩ => ⟨0, h1, fun _ => rfl, h2⟩
 | cons t l =>
   have hpos : 0 < ts.length := by rw [hl]; simp
   rcases hr.1.2 with ⟨_, h0⟩ | ⟨b, ro, cap, rfl, e1, e2, e3, e4⟩
   · omega
   · obtain ⟨x1, x2, x3⟩ := RowC.term e4 0 hpos
     simp only [Nat.zero_mul, Nat.add_zero] at x1 x2 x3
     obtain ⟨g1, g2⟩ := ht.get 0 hpos (by simp)
     simp only [List.getElem_cons_zero] at g1 g2
     have hn1 : (ts.length : Int) ≤ 9223372036854775807 := by omega
     by_cases hlow : t.2 ≤ 63
     · have hall : ∀ i (h : i < ts.length) (h2 : i < (t :: l).length), ts[i].1 = (t :: l)[i].1 ∧ ts[i].2.2 = none ∧ ts[i].2.1 = ((t :: l)[i].2 : Int) ∧ (t :: l)[i].2 ≤ 63 := by
         intro i h h2
         obtain ⟨y1, y2⟩ := ht.get i h h2
         have hle : (t :: l)[i].2 ≤ 63 := by
           cases i with
           | zero => exact hlow
           | succ i => have := hn.head _ (List.getElem_mem (by simpa using h2 : i < l.length)); simp only [List.getElem_cons_succ]; omega
         refine ⟨y1, ?_, ?_, hle⟩
         · cases hg : ts[i].2.2 with
           | none => rfl
           | some p =>
             rw [hg] at y2
             exact absurd (by unfold i64; omega) (hf.great _ _ y2.2).1
         · cases hg : ts[i].2.2 with
           | none => rw [hg] at y2; exact y2.1
           | some p =>
             rw [hg] at y2
             exact absurd (by unfold i64; omega) (hf.great _ _ y2.2).1
       have hs := Zpc hn hlow
       refine (Zlv ts (t :: l) b ro cap w e3 e4 hpos hlen hl.symm hall).mono fun e w' ⟨h1, h2⟩ => ⟨wrap64 (val (t :: l)), ?_, fun h => Za4 h, h2⟩
       rw [h1, g1, hs]
     · have hno := Zqa hn (by omega)
       have hd : decide (i64 (val (t :: l))) = false := by simpa using hno
       rw [hd]
       cases hg : (ts[0]'hpos).2.2 with
       | none =>
         rw [hg] at g2 x3
         have : 63 < (ts[0]'hpos).2.1 := by have := g2.1; omega
         exact (Zhy _ b ro cap _ _ default w e3 hpos hn1 this x1 x2 x3).mono fun e w' ⟨h1, h2⟩ => ⟨0, h1, fun h => absurd h hno, h2⟩
       | some p =>
         rw [hg] at g2 x3
         exact (Zhz _ b ro cap _ _ p w e3 hpos hn1 trivial x1 x2 x3).mono fun e w' ⟨h1, h2⟩ => ⟨0, h1, fun h => absurd h hno, h2⟩
end
section
open Go.RowKit
def decVal (l : List UInt8) : Nat := l.foldl (fun a c => 10 * a + (c.toNat - 48)) 0
theorem Zjn (n : Nat) : ∀ u : Nat, u ≤ n → decVal (Lib.decDigits u) = u ∧ (∀ c ∈ Lib.decDigits u, 48 ≤ c.toNat ∧ c.toNat ≤ 57) := by
 induction n with
 | zero =>
   intro u hu
   obtain rfl : u = 0 := by omega
   rw [Lib.decDigits, dif_pos (by omega)]
   refine ⟨rfl, fun c hc => ?_⟩
   simp only [List.mem_singleton] at hc
   subst hc; decide
 | succ n ih =>
   intro u hu
   rw [Lib.decDigits]
   by_cases h : u < 10
   · rw [dif_pos h]
     have hm : (48 + u) % 256 = 48 + u := by omega
     refine ⟨?_, fun c hc => ?_⟩
     · simp [decVal]; omega
     · simp only [List.mem_singleton] at hc
       subst hc
       simp; omega
   · rw [dif_neg h]
     obtain ⟨h1, h2⟩ := ih (u / 10) (by omega)
     refine ⟨?_, fun c hc => ?_⟩
     · unfold decVal at h1 ⊢
       rw [List.foldl_append, h1]
       simp; omega
     · rcases List.mem_append.1 hc with hc | hc
       · exact h2 c hc
       · simp only [List.mem_singleton] at hc
         subst hc
         simp; omega
theorem Zcp {n : Int} (h : 0 ≤ n) : decVal (digits n) = n.toNat ∧ (∀ c ∈ digits n, 48 ≤ c.toNat ∧ c.toNat ≤ 57) := by
 unfold digits Lib.itoa
 rw [if_neg (by omega)]
 exact Zjn _ _ (zl)
theorem Zip {m n : Int} (hm : 0 ≤ m) (hn : 0 ≤ n) (h : digits m = digits n) : m = n := by
 have a := (Zcp hm).1
 have b := (Zcp hn).1
 rw [h, b] at a
 omega
def Placed (fp : Option Addr → Option Value) (t : TV) : Prop :=
 match t.2.2 with
 | none => 0 ≤ t.2.1
 | some p => t.2.1 = 0 ∧ ∃ k, fp (some p) = some (.int .i64 k) ∧ 0 ≤ k
def tailText (fp : Option Addr → Option Value) (t : TV) : List UInt8 :=
 match t.2.2 with
 | none => digits t.2.1
 | some p => match fp (some p) with
   | some (.int .i64 k) => 35 :: digits k
   | _ => []
theorem Zcw {fp : Option Addr → Option Value} {t : TV} (h : Placed fp t) : termText fp t = some ((if t.1 then 45 else 43) :: tailText fp t) ∧ (∀ c ∈ tailText fp t, c ≠ 45 ∧ c ≠ 43) := by
 obtain ⟨m, s, g⟩ := t
 cases g with
 | none =>
   refine ⟨rfl, fun c hc => ?_⟩
   have := (Zcp (n := s) h).2 c hc
   constructor <;> (rintro rfl; simp at this)
 | some p =>
   obtain ⟨_, k, hk, h0⟩ := h
   try simp only at hk
   refine ⟨by simp [termText, tailText, hk], fun c hc => ?_⟩
   simp only [tailText, hk, List.mem_cons] at hc
   rcases hc with rfl | hc
   · decide
   · have := (Zcp h0).2 c hc
     constructor <;> (rintro rfl; simp at this)
theorem Ziq : ∀ {a b x y : List UInt8}, (∀ c ∈ a, c ≠ 45 ∧ c ≠ 43) → (∀ c ∈ b, c ≠ 45 ∧ c ≠ 43) → (∀ c l, x = c :: l → c = 45 ∨ c = 43) → (∀ c l, y = c :: l → c = 45 ∨ c = 43) → a ++ x = b ++ y → a = b ∧ x = y
 | [], [], x, y, _, _, _, _, h => ⟨rfl, h⟩
 | [], c :: b, x, y, _, hb, hx, _, h => by
   have h1 := hx c (b ++ y) h
   have h2 := hb c (List.mem_cons_self ..)
   rcases h1 with h1 | h1
   · exact absurd h1 h2.1
   · exact absurd h1 h2.2
 | c :: a, [], x, y, ha, _, _, hy, h => by
   have h1 := hy c (a ++ x) h.symm
   have h2 := ha c (List.mem_cons_self ..)
   rcases h1 with h1 | h1
   · exact absurd h1 h2.1
   · exact absurd h1 h2.2
 | c :: a, d :: b, x, y, ha, hb, hx, hy, h => by
   simp only [List.cons_append, List.cons.injEq] at h
   obtain ⟨rfl, h⟩ := h
   obtain ⟨h1, h2⟩ := Ziq (fun e he => ha e (List.mem_cons_of_mem _ he)) (fun e he => hb e (List.mem_cons_of_mem _ he)) hx hy h
   exact ⟨by rw [h1], h2⟩
theorem Zgd {fp : Option Addr → Option Value} : ∀ {ts : List TV} {x : List UInt8}, (∀ t ∈ ts, Placed fp t) → keyText fp ts = some x → ∀ c l, x = c :: l → c = 45 ∨ c = 43
 | [], x, _, h, c, l, hx => by simp only [keyText, Option.some.injEq] at h; rw [← h] at hx; cases hx
 | t :: ts, x, hp, h, c, l, hx => by
   obtain ⟨h1, _⟩ := Zcw (hp t (List.mem_cons_self ..))
   unfold keyText at h
   rw [h1] at h
   cases hk : keyText fp ts with
   | none => simp [hk] at h
   | some y =>
     simp only [hk, Option.some.injEq] at h
     rw [← h, List.cons_append, List.cons.injEq] at hx
     rw [← hx.1]
     split
     · exact .inl rfl
     · exact .inr rfl
theorem Zqb {fp : Option Addr → Option Value} (hinj : ∀ g g' v, fp g = some v → fp g' = some v → g = g') {t u : TV} (ht : Placed fp t) (hu : Placed fp u) (hm : t.1 = u.1) (h : tailText fp t = tailText fp u) : t = u := by
 obtain ⟨m, s, g⟩ := t
 obtain ⟨m', s', g'⟩ := u
 simp only at hm
 subst hm
 cases g with
 | none =>
   cases g' with
   | none =>
     have := Zip (m := s) (n := s') ht hu h
     rw [this]
   | some p =>
     obtain ⟨_, k, hk, h0⟩ := hu
     try simp only at hk
     simp only [tailText, hk] at h
     have := (Zcp (n := s) ht).2 35 (by rw [h]; exact List.mem_cons_self ..)
     simp at this
 | some p =>
   obtain ⟨e0, k, hk, h0⟩ := ht
   try simp only at hk e0
   cases g' with
   | none =>
     simp only [tailText, hk] at h
     have := (Zcp (n := s') hu).2 35 (by rw [← h]; exact List.mem_cons_self ..)
     simp at this
   | some q =>
     obtain ⟨e1, k', hk', h0'⟩ := hu
     try simp only at hk' e1
     simp only [tailText, hk, hk', List.cons.injEq, true_and] at h
     have := Zip h0 h0' h
     subst this
     have := hinj _ _ _ hk hk'
     rw [e0, e1, this]
theorem Zhk {fp : Option Addr → Option Value} (hinj : ∀ g g' v, fp g = some v → fp g' = some v → g = g') : ∀ {ts us : List TV} {x : List UInt8}, (∀ t ∈ ts, Placed fp t) → (∀ t ∈ us, Placed fp t) → keyText fp ts = some x → keyText fp us = some x → ts = us
 | [], [], _, _, _, _, _ => rfl
 | [], u :: us, x, _, hu, h1, h2 => by
   obtain ⟨h3, _⟩ := Zcw (hu u (List.mem_cons_self ..))
   simp only [keyText, Option.some.injEq] at h1
   unfold keyText at h2
   rw [h3] at h2
   cases hk : keyText fp us with
   | none => simp [hk] at h2
   | some y => simp only [hk, Option.some.injEq] at h2; rw [← h1] at h2; cases h2
 | t :: ts, [], x, ht, _, h1, h2 => by
   obtain ⟨h3, _⟩ := Zcw (ht t (List.mem_cons_self ..))
   simp only [keyText, Option.some.injEq] at h2
   unfold keyText at h1
   rw [h3] at h1
   cases hk : keyText fp ts with
   | none => simp [hk] at h1
   | some y => simp only [hk, Option.some.injEq] at h1; rw [← h2] at h1; cases h1
 | t :: ts, u :: us, x, ht, hu, h1, h2 => by
   obtain ⟨a1, a2⟩ := Zcw (ht t (List.mem_cons_self ..))
   obtain ⟨b1, b2⟩ := Zcw (hu u (List.mem_cons_self ..))
   unfold keyText at h1 h2
   rw [a1] at h1
   rw [b1] at h2
   cases hk : keyText fp ts with
   | none => simp [hk] at h1
   | some y =>
     cases hk' : keyText fp us with
     | none => simp [hk'] at h2
     | some y' =>
       simp only [hk, Option.some.injEq] at h1
       simp only [hk', Option.some.injEq] at h2
       rw [← h2] at h1
       simp only [List.cons_append, List.cons.injEq] at h1
       obtain ⟨c1, c2⟩ := h1
       obtain ⟨d1, d2⟩ := Ziq a2 b2 (Zgd (fun v hv => ht v (List.mem_cons_of_mem _ hv)) hk) (Zgd (fun v hv => hu v (List.mem_cons_of_mem _ hv)) hk') c2
       subst d2
       have hs : t.1 = u.1 := by
         cases h3 : t.1 <;> cases h4 : u.1 <;> simp [h3, h4] at c1 <;> rfl
       rw [Zqb hinj (ht t (List.mem_cons_self ..)) (hu u (List.mem_cons_self ..)) hs d1, Zhk hinj (fun v hv => ht v (List.mem_cons_of_mem _ hv)) (fun v hv => hu v (List.mem_cons_of_mem _ hv)) hk hk']
end
section
open Go.RowKit
theorem ValD.det {w : World} {F : Nat → Prop} {D : Addr → Option Int} (hf : Forest w F D) {s : Int} {g : Option Addr} {z z' : Int} (h : ValD D s g z) (h' : ValD D s g z') : z = z' := by
 cases g with
 | none => exact h.1.symm.trans h'.1
 | some p => exact Option.some.inj (h.2.symm.trans h'.2)
theorem ValD.inj {w : World} {F : Nat → Prop} {D : Addr → Option Int} (hf : Forest w F D) {s s' : Int} {g g' : Option Addr} {z : Int} (h : ValD D s g z) (h' : ValD D s' g' z) : s = s' ∧ g = g' := by
 cases g with
 | none =>
   cases g' with
   | none => exact ⟨h.1.trans h'.1.symm, rfl⟩
   | some q => exact absurd h.2 (hf.great _ _ h'.2).1
 | some p =>
   cases g' with
   | none => exact absurd h'.2 (hf.great _ _ h.2).1
   | some q => exact ⟨h.1.trans h'.1.symm, by rw [hf.inj _ _ _ h.2 h'.2]⟩
theorem TVals.fwd {w : World} {F : Nat → Prop} {D : Addr → Option Int} (hf : Forest w F D) : ∀ {ts : List TV} {l m : List Tm}, TVals D ts l → TVals D ts m → l = m
 | [], [], [], _, _ => rfl
 | t :: ts, u :: l, v :: m, h, k => by
   rw [TVals.fwd hf h.2 k.2]
   have h1 := h.1.1.symm.trans k.1.1
   have h2 := ValD.det hf h.1.2 k.1.2
   congr 1
   exact Prod.ext h1 (by exact_mod_cast h2)
 | [], [], _ :: _, _, k => k.elim
 | [], _ :: _, _, h, _ => h.elim
 | _ :: _, [], _, h, _ => h.elim
 | _ :: _, _ :: _, [], _, k => k.elim
theorem TVals.bwd {w : World} {F : Nat → Prop} {D : Addr → Option Int} (hf : Forest w F D) : ∀ {ts us : List TV} {l : List Tm}, TVals D ts l → TVals D us l → ts = us
 | [], [], [], _, _ => rfl
 | t :: ts, u :: us, v :: l, h, k => by
   rw [TVals.bwd hf h.2 k.2]
   have h1 := h.1.1.trans k.1.1.symm
   obtain ⟨h2, h3⟩ := ValD.inj hf h.1.2 k.1.2
   congr 1
   exact Prod.ext h1 (Prod.ext h2 h3)
 | [], _ :: _, [], _, k => k.elim
 | _ :: _, _, [], h, _ => h.elim
 | [], _, _ :: _, h, _ => h.elim
 | _ :: _, [], _ :: _, _, k => k.elim
theorem Forest.hasT {w : World} {F : Nat → Prop} {D : Addr → Option Int} (hf : Forest w F D) {p : Addr} {z : Int} (hp : D p = some z) : ∃ ts, HasT w F p ts ∧ TVals D ts (naf z) := by
 obtain ⟨b, v, ts, rfl, h1, h2, h3, h4, h5⟩ := hf.form p z hp
 exact ⟨ts, ⟨b, v, rfl, h1, h2, h3, h4⟩, h5⟩
theorem TVals.mem {D : Addr → Option Int} : ∀ {ts : List TV} {l : List Tm}, TVals D ts l → ∀ t ∈ ts, ∃ u ∈ l, t.1 = u.1 ∧ ValD D t.2.1 t.2.2 (u.2 : Int)
 | [], [], _, t, ht => by cases ht
 | t :: ts, u :: l, h, x, hx => by
   rcases List.mem_cons.1 hx with rfl | hx
   · exact ⟨u, List.mem_cons_self .., h.1.1, h.1.2⟩
   · obtain ⟨y, hy, h1⟩ := TVals.mem h.2 x hx
     exact ⟨y, List.mem_cons_of_mem _ hy, h1⟩
theorem Zc7 {fp : Option Addr → Option Value} (hpl : ∀ g v, fp g = some v → ∃ k : Int, v = .int .i64 k ∧ 0 ≤ k) {D : Addr → Option Int} : ∀ {ts : List TV} {l : List Tm} {x : List UInt8}, TVals D ts l → keyText fp ts = some x → ∀ t ∈ ts, Placed fp t
 | [], _, _, _, _, t, ht => by cases ht
 | u :: ts, v :: l, x, h, hk, t, ht => by
   unfold keyText at hk
   cases h1 : termText fp u with
   | none => simp [h1] at hk
   | some a =>
     cases h2 : keyText fp ts with
     | none => simp [h1, h2] at hk
     | some b =>
       rcases List.mem_cons.1 ht with rfl | ht
       · obtain ⟨m, s, g⟩ := t
         have hv := h.1.2
         cases g with
         | none => show 0 ≤ s; have := hv.1; simp only at this; omega
         | some p =>
           refine ⟨hv.1, ?_⟩
           cases hp : fp (some p) with
           | none => simp [termText, hp] at h1
           | some y =>
             obtain ⟨k, rfl, hk0⟩ := hpl _ _ hp
             exact ⟨k, rfl, hk0⟩
       · exact Zc7 hpl h.2 h2 t ht
theorem StInv.nonneg {w : World} {F : Nat → Prop} {D : Addr → Option Int} {K : List Addr} {G : StG} (h : StInv w F D K G) : ∀ g v, G.fp g = some v → ∃ k : Int, v = .int .i64 k ∧ 0 ≤ k := fun g v hv => by
 obtain ⟨p, k, a1, a2, a3, a4, _⟩ := h.plv g v hv
 exact ⟨k, a3, a4⟩
theorem StInv.found {w : World} {F : Nat → Prop} {D : Addr → Option Int} {K : List Addr} {G : StG} (h : StInv w F D K G) {ts : List TV} {z : Int} (ht : TVals D ts (naf z)) {key : ByteArray} (hk : keyText G.fp ts = some key.toList) {v : Value} (hv : G.fa key = some v) : ∃ p, v = .pointer (some p) ∧ D p = some z := by
 obtain ⟨p, z', ts', rfl, hp, h1, h2⟩ := h.al key v hv
 obtain ⟨ts2, h3, h4⟩ := h.forest.hasT hp
 obtain rfl := HasT.det h1 h3
 have := Zhk h.pli (Zc7 h.nonneg ht hk) (Zc7 h.nonneg h4 h2) hk h2
 subst this
 have hn := TVals.fwd h.forest ht h4
 have : z = z' := by rw [← Zam z, hn, Zam]
 exact ⟨p, rfl, by rw [this]; exact hp⟩
theorem StInv.fresh {w : World} {F : Nat → Prop} {D : Addr → Option Int} {K : List Addr} {G : StG} (h : StInv w F D K G) {b : Nat} {v : Value} {ts : List TV} {z : Int} (hz : ¬ i64 z) (hw : wide z) (ht : TVals D ts (naf z))
   (hb : b < w.heap.size) (hF : ¬ F b) (hh : w.heap[b]? = some (.cells #[v] 113 (0, 0))) (hr : RowF w F 3 v ts.length (flatT ts)) (hD : D ⟨b, 0, none⟩ = none) {key : ByteArray} (hk : keyText G.fp ts = some key.toList) (h0 : G.fa key = none) (c : Array Value) (m : Option Nat) (na : Nat) :
   StInv w F (fun q => if q = ⟨b, 0, none⟩ then some z else D q) (⟨b, 0, none⟩ :: K) { G with c := c, m2 := m, fa := upd G.fa key (.pointer (some ⟨b, 0, none⟩)), na := na } := by
 have hmono : ∀ p y, D p = some y → (if p = ⟨b, 0, none⟩ then some z else D p) = some y := by
   intro p y hp
   rw [if_neg (by rintro rfl; rw [hD] at hp; cases hp)]; exact hp
 have hno : ∀ p, D p ≠ some z := by
   intro p hp
   obtain ⟨key', ts', a1, a2, a3⟩ := h.la p z hp
   obtain ⟨ts2, b1, b2⟩ := h.forest.hasT hp
   obtain rfl := HasT.det a2 b1
   obtain rfl := TVals.bwd h.forest ht b2
   rw [hk] at a3
   have : key = key' := by
     have h1 : key.toList = key'.toList := Option.some.inj a3
     have h2 := beq_toListBytes key key'
     rw [h1, beqBA] at h2
     simpa using h2
   rw [← this, h0] at a1; cases a1
 have hht : HasT w F ⟨b, 0, none⟩ ts := ⟨b, v, rfl, hb, hF, hh, hr⟩
 have hmf : ∀ k u, G.fa k = some u → upd G.fa key (.pointer (some ⟨b, 0, none⟩)) k = some u := by
   intro k u hu
   unfold upd
   rw [if_neg (by rintro rfl; rw [h0] at hu; cases hu)]; exact hu
 refine { h with forest := ⟨?_, ?_, ?_⟩, kd := ?_, plv := ?_, tk := ?_, al := ?_, la := ?_, af := ?_ }
 · intro p y hp
   split at hp
   · cases hp; exact ⟨hz, hw⟩
   · exact h.forest.great p y hp
 · intro p y hp
   split at hp
   · rename_i he
     cases hp
     exact ⟨b, v, ts, he, hb, hF, hh, hr, ht.mono hmono⟩
   · obtain ⟨b', v', ts', e, a1, a2, a3, a4, a5⟩ := h.forest.form p y hp
     exact ⟨b', v', ts', e, a1, a2, a3, a4, a5.mono hmono⟩
 · intro p q y hp hq
   split at hp
   · rename_i he
     split at hq
     · rename_i he'; rw [he, he']
     · cases hp; exact absurd hq (hno q)
   · split at hq
     · cases hq; exact absurd hp (hno p)
     · exact h.forest.inj p q y hp hq
 · intro p y hp
   split at hp
   · rename_i he; rw [he]; exact List.mem_cons_self ..
   · exact List.mem_cons_of_mem _ (h.kd p y hp)
 · intro g u hu
   obtain ⟨p, k, a1, a2, a3⟩ := h.plv g u hu
   exact ⟨p, k, a1, List.mem_cons_of_mem _ a2, a3⟩
 · intro g u hu
   obtain ⟨p, y, s, q, a1, a2, a3, a4⟩ := h.tk g u hu
   exact ⟨p, y, s, q, a1, a2, a3, a4.mono hmono⟩
 · intro k u hu
   simp only [upd] at hu
   split at hu
   · rename_i he
     cases hu
     exact ⟨⟨b, 0, none⟩, z, ts, rfl, by simp, hht, by rw [he]; exact hk⟩
   · obtain ⟨p, y, ts', a1, a2, a3, a4⟩ := h.al k u hu
     exact ⟨p, y, ts', a1, hmono _ _ a2, a3, a4⟩
 · intro p y hp
   split at hp
   · rename_i he
     cases hp
     exact ⟨key, ts, by simp [upd, he], by rw [he]; exact hht, hk⟩
   · obtain ⟨k, ts', a1, a2, a3⟩ := h.la p y hp
     exact ⟨k, ts', hmf _ _ a1, a2, a3⟩
 · intro k u hu
   obtain ⟨y, s, g, a1, a2, a3⟩ := h.af k u hu
   exact ⟨y, s, g, a1.mono hmono, a2, a3.mono hmono⟩
theorem Zhl {w : World} {x i : Nat} {v : Value} (h2 : ∀ c t fr, w.heap[x]? = some (.cells c t fr) → t ≠ 113) : ∀ k, PtrOk w k → PtrOk (w.setCell ⟨x, i, none⟩ v) k := Zdl (fun t c fr h => h2 c t fr h)
theorem StMem.set {w : World} {sb : Nat} {F : Nat → Prop} {G : StG} (h : StMem w sb F G) {x i : Nat} (v : Value) (hx : ¬ F x) (h0 : 0 < x) (ht : ∀ c t fr, w.heap[x]? = some (.cells c t fr) → t ≠ 113) : StMem (w.setCell ⟨x, i, none⟩ v) sb F G := by
 have hne : ∀ k, F k → (w.setCell ⟨x, i, none⟩ v).heap[k]? = w.heap[k]? := fun k hk => Below.heap_setCell _ _ _ _ (by rintro rfl; exact hx hk)
 have hF : ∀ {k}, (k = sb ∨ G.m0 = some k ∨ G.m1 = some k ∨ G.m2 = some k ∨ G.m3 = some k ∨ G.m4 = some k) → F k := fun {k} hk => (h.hF k).2 hk
 exact { h with
   hs := (hne sb (hF (.inl rfl))).trans h.hs
   mp := h.mp.keep (fun r hr => hne r (hF (by simp [hr]))) (Zhl ht)
   mt := h.mt.keep (fun r hr => hne r (hF (by simp [hr]))) (Zhl ht)
   ma := h.ma.keep (fun r hr => hne r (hF (by simp [hr]))) (fun _ _ => trivial)
   mo := h.mo.keep (fun r hr => hne r (hF (by simp [hr]))) (fun _ _ => trivial)
   mn := h.mn.keep (fun r hr => hne r (hF (by simp [hr]))) (fun k hk => Zhl ht k.2 hk)
   tab := Zbd h.tab (Below.heap_setCell _ _ _ _ (by show (0 : Nat) ≠ x; omega)) }
theorem Zal {F : Nat → Prop} {w : World} {x i : Nat} (v : Value) (hx : F x) : Keeps F w (w.setCell ⟨x, i, none⟩ v) :=
 ⟨rfl, rfl, rfl, by simp [World.setCell], fun k _ hk => Below.heap_setCell _ _ _ _ (by rintro rfl; exact hk hx)⟩
theorem Zav {F : Nat → Prop} {w w2 : World} {x i : Nat} (h : Keeps F w w2) (v : Value) (hx : w.heap.size ≤ x) : Keeps F w (w2.setCell ⟨x, i, none⟩ v) :=
 ⟨h.os, h.tape, h.output, by have := h.size; simpa [World.setCell] using this, fun k hk hF => (Below.heap_setCell _ _ _ _ (by show k ≠ x; omega)).trans (h.block k hk hF)⟩
theorem Zeh {w : World} {sb : Nat} {F : Nat → Prop} (H : Nat → Prop) {D : Addr → Option Int} {K : List Addr} {G : StG} (hm : StMem w sb F G) (hi : StInv w (hot H F) D K G) (hHlt : ∀ k, H k → k < w.heap.size) {v : Value} {ts : List TV} (hr : RowF w (hot H F) 3 v ts.length (flatT ts)) (hlen : ts.length ≤ 30000)
   {l : List Tm} (ht : TVals D ts l) (hn : NA l) (hbig : K.length ≤ big) :
   Calls Tryz.prog 68 #[.pointer (some ⟨sb, 0, none⟩), v] w fun e w' => ∃ (s : Int) (g : Option Addr) (F' : Nat → Prop) (D' : Addr → Option Int) (K' : List Addr) (G' : StG),
     e = .returned (.agg #[.int .i64 s, .pointer g]) ∧ ValD D' s g (val l) ∧ StMem w' sb F' G' ∧ StInv w' (hot H F') D' K' G' ∧ Step w w' F F' ∧ Grown2 D D' K K' G G' ∧ K'.length ≤ K.length + 1 := by
 have hnaf : naf (val l) = l := Zbn hn
 have hwide : wide (val l) := by unfold wide wt; rw [hnaf, ← ht.len]; exact hlen
 have hFlt := hm.flt
 have hpos : 0 < w.heap.size := by have := hm.lt; have := hm.pos; omega
 have hbW : Below w.heap.size w (w.alloc (.cells #[.int .i64 0, .pointer none] 28)) := (zb).alloc (zl) _
 have hsW := Step.of_below (hot H F) hbW
 have has := Zfj (hi.forest.keeps hsW.keeps) (hr.keeps hsW.keeps) hlen ht hn
 by_cases h64 : i64 (val l)
 · have hd : decide (i64 (val l)) = true := by simpa using h64
   rw [hd] at has
   have HH := zh h64
   have HM := zh hm
   have HI := zh hi
   have HB := zh hbW
   clear hm hi hr ht hn hnaf hd h64 hsW hbW
   go_enter Tryz.func68, Tryz.ntmps68
   go_wp2_with (first
     | (go_at_call 88; refine has.mono ?_; rintro e w1 ⟨n, rfl, hnv, hb1⟩; obtain ⟨hc1, hf1⟩ := bcell hb1; have hz1 := hb1.size; have HNV := zh hnv; clear hnv)
     | (go_at_call 8; refine (Zax _ _).mono ?_; rintro e w2 ⟨rfl, hb2⟩; have hb12 := (HB.out.trans (hb1.mono (by simp))).trans (hb2.mono (by simp at hz1; omega))
        have k1 : w2.cell? ⟨w.heap.size, 0, none⟩ = some (.int .i64 0) := by rw [hb2.cell (p := ⟨w.heap.size, 0, none⟩) (by simp at hz1; show w.heap.size < w1.heap.size; omega), hc1 _ _ (by simp)]; simp
        have k2 : w2.cell? ⟨w.heap.size, 1, none⟩ = some (.pointer none) := by rw [hb2.cell (p := ⟨w.heap.size, 1, none⟩) (by simp at hz1; show w.heap.size < w1.heap.size; omega), hc1 _ _ (by simp)]; simp
        have k3 : w2.frozen? ⟨w.heap.size, 0, none⟩ = false := by rw [hb2.frozen (p := ⟨w.heap.size, 0, none⟩) (by simp at hz1; show w.heap.size < w1.heap.size; omega), hf1 _ _ (by simp)]; simp
        have k4 : w2.frozen? ⟨w.heap.size, 1, none⟩ = false := by rw [hb2.frozen (p := ⟨w.heap.size, 1, none⟩) (by simp at hz1; show w.heap.size < w1.heap.size; omega), hf1 _ _ (by simp)]; simp
        clear hc1 hf1))
   have hbF := ((hb12.setCell (p := ⟨w.heap.size, 0, none⟩) (zl) (.int .i64 n)).setCell (p := ⟨w.heap.size, 1, none⟩) (zl) (.pointer none))
   refine bodyPost_ret (v := .agg #[.int .i64 n, .pointer none]) (by simp [results, Tryz.results68, go_sem, *]) rfl ?_
   have hnv : n = val l := HNV.out HH.out
   exact ⟨n, none, F, D, K, G, rfl, ⟨hnv, HH.out⟩, HM.out.below hbF, HI.out.keeps (.of_below hbF (zl)), .of_below F hbF, Grown2.refl _ _ _, by omega⟩
 · have hd : decide (i64 (val l)) = false := by simpa using h64
   rw [hd] at has
   have HH := zh h64
   obtain ⟨Hp, hHp⟩ : ∃ Hp : Nat → Prop, Hp = fun k => H k ∨ k = w.heap.size := ⟨_, rfl⟩
   have hup : ∀ F0 : Nat → Prop, ∀ i, hot H F0 i → hot Hp F0 i := by
     intro F0 i hx
     rcases hx with x | x
     · exact .inl (by rw [hHp]; exact .inl x)
     · exact .inr x
   have hdn : ∀ F0 : Nat → Prop, ∀ i, hot Hp F0 i → hot H F0 i ∨ w.heap.size ≤ i := by
     intro F0 i hx
     rcases hx with x | x
     · rw [hHp] at x
       rcases x with x | x
       · exact .inl (.inl x)
       · exact .inr (by omega)
     · exact .inl (.inr x)
   have hi' : StInv w (hot Hp F) D K G := hi.grow (zl) (hdn F)
   have hr' : RowF w (hot Hp F) 3 v ts.length (flatT ts) := hr.grow (zl) (hdn F)
   have hxHp : Hp w.heap.size := by rw [hHp]; exact .inr rfl
   have hkl : ∀ i (h : i < ts.length), match ts[i].2.2 with | none => i64 ts[i].2.1 | some p => (∃ z, GreatV w (hot Hp F) p z) ∧ p ∈ K := by
     intro i h
     have hg := (ht.get i h (by rw [← ht.len]; exact h)).2
     generalize ts[i] = t at hg ⊢
     obtain ⟨m, s, g⟩ := t
     cases g with
     | none => have e : s = (l[i]'(by rw [← ht.len]; exact h)).2 := hg.1; simp only; rw [e]; exact hg.2
     | some p => exact ⟨⟨_, D, hi'.forest, hg.2⟩, hi.kd _ _ hg.2⟩
   have HM := zh hm
   have HI := zh hi'
   have HR := zh hr'
   have HB := zh hbW
   have HT := zh ht
   have HNAF := zh hnaf
   have HKL := zh hkl
   have HUP := zh hup
   have HP : Hid (∀ k, Hp k → H k ∨ k = w.heap.size) := zh (fun k h => by rw [hHp] at h; exact h)
   clear hm hi hr ht hn hnaf hd h64 hsW hbW hkl hi' hr' hup hdn hHp
   go_enter Tryz.func68, Tryz.ntmps68
   go_wp2_with (first
     | (go_at_call 88; refine has.mono ?_; rintro e w1 ⟨n, rfl, hnv, hb1⟩; clear hnv; obtain ⟨hc1, hf1⟩ := bcell hb1; have hz1 := hb1.size
        have hb01 := HB.out.trans (hb1.mono (by simp))
        have s01 := Step.of_below F hb01
        have k1 : w1.cell? ⟨w.heap.size, 0, none⟩ = some (.int .i64 0) := by rw [hc1 _ _ (by simp)]; simp
        have k2 : w1.cell? ⟨w.heap.size, 1, none⟩ = some (.pointer none) := by rw [hc1 _ _ (by simp)]; simp
        have k3 : w1.frozen? ⟨w.heap.size, 0, none⟩ = false := by rw [hf1 _ _ (by simp)]; simp
        have k4 : w1.frozen? ⟨w.heap.size, 1, none⟩ = false := by rw [hf1 _ _ (by simp)]; simp
        clear hc1 hf1))
   have t01 : ∀ c t fr, w1.heap[w.heap.size]? = some (.cells c t fr) → t ≠ 113 := by
     intro c t fr h
     rw [hb1.block _ (by simp), heap_alloc_new] at h
     cases h; decide
   refine (Zko Hp (HM.out.below hb01) (HI.out.keeps (s01.hot Hp).keeps) ((HR.out.shrink (fun _ h => .inr h)).keeps s01.keeps) hlen (fun i h => ?_) hbig).mono ?_
   · have := HKL.out i h
     revert this
     generalize ts[i].2.2 = g
     cases g with
     | none => exact fun x => x
     | some p => exact fun x => ⟨by obtain ⟨⟨z, hz⟩, _⟩ := x; exact ⟨z, hz.step (s01.hot Hp)⟩, x.2⟩
   rintro e w2 ⟨key, F2, G2, rfl, hkt, m2, i2, s2, g2⟩
   have hnF : ¬ F w.heap.size := fun h => by have := hFlt _ h; omega
   have hlt1 : w.heap.size < w1.heap.size := by simp at hz1; omega
   have k5 := (s2.keeps.cell 0 hlt1 hnF).trans k1
   have k6 := (s2.keeps.cell 1 hlt1 hnF).trans k2
   have k7 := (s2.keeps.frozen 0 hlt1 hnF).trans k3
   have k8 := (s2.keeps.frozen 1 hlt1 hnF).trans k4
   have t02 : ∀ c t fr, w2.heap[w.heap.size]? = some (.cells c t fr) → t ≠ 113 := by
     intro c t fr h
     rw [s2.keeps.block _ hlt1 hnF] at h
     exact t01 c t fr h
   have c2 := m2.cell 2 m2.i2
   have hl := MapO.lookup keyS Tryz.underlying83 (z := .pointer none) (fun W => by kernel_rfl) m2.ma key trivial
   unfold encS at hl
   clear k1 k2 k3 k4
   have s02 := s01.trans s2
   have HKT := zh hkt
   clear hkt
   have hsz2 := s02.keeps.size
   have hnF2 : ¬ F2 w.heap.size := fun h => by
     rcases s2.grow _ h with x | x
     · exact hnF x
     · omega
   have hlt2 : w.heap.size < w2.heap.size := Nat.lt_of_lt_of_le hlt1 s2.keeps.size
   cases h0 : G2.fa key with
   | some v2 =>
     obtain ⟨p, rfl, hp⟩ := i2.found (z := val l) (by rw [HNAF.out]; exact HT.out) HKT.out h0
     rw [h0] at hl
     simp only [Option.getD_some, Option.isSome_some] at hl
     go_wp2
     refine bodyPost_ret (v := .agg #[.int .i64 0, .pointer (some p)]) (by simp [results, Tryz.results68, go_sem, *]) rfl ?_
     have mF := (m2.set (i := 0) (.int .i64 0) hnF2 hpos t02).set (i := 1) (.pointer (some p)) hnF2 hpos (by
       intro c t fr h
       simp only [World.setCell, Array.getElem?_modify, if_true] at h
       cases hh : w2.heap[w.heap.size]? with
       | none => simp [hh] at h
       | some o =>
         rw [hh] at h
         cases o with
         | cells c' t' fr' => simp only [Option.map_some, Option.some.injEq, Obj.cells.injEq] at h; rw [← h.2.1]; exact t02 _ _ _ hh
         | _ => simp at h)
     refine ⟨0, some p, F2, D, K, G2, rfl, ⟨rfl, hp⟩, mF, ?_, ⟨Zav (Zav s02.keeps _ (zl)) _ (zl), s02.grow, s02.mono⟩, g2, by omega⟩
     exact ((i2.keeps (Zal (i := 0) _ (.inl hxHp))).keeps (Zal (i := 1) _ (.inl hxHp))).shrink (HUP.out F2)
   | none =>
     rw [h0] at hl
     simp only [Option.getD_none, Option.isSome_none] at hl
     obtain ⟨o, vn, vc, rfl⟩ : ∃ o vn vc, v = .slice o vn vc := by
       obtain ⟨⟨_, hh⟩, _⟩ := HR.out
       rcases hh with ⟨rfl, _⟩ | ⟨c, off, cap, rfl, _⟩ <;> exact ⟨_, _, _, rfl⟩
     obtain ⟨w3, hw3⟩ : ∃ w3, w3 = w2.alloc (.cells #[.slice o vn vc] 113) := ⟨_, rfl⟩
     have hb23 : Below w2.heap.size w2 w3 := by rw [hw3]; exact (zb).alloc (zl) _
     have hz3 : w3.heap.size = w2.heap.size + 1 := by rw [hw3]; simp
     have hA3 : w3.heap[w2.heap.size]? = some (.cells #[.slice o vn vc] 113 (0, 0)) := by rw [hw3]; exact heap_alloc_new _ _
     have m3 := m2.below hb23
     have s23 := Step.of_below F2 hb23
     have HA := zh (zi hA3 hz3)
     clear hA3 hz3
     have HS := zh s23
     clear s23 hb23
     have HL := zh m2.flt
     have hlt3 : w.heap.size < w3.heap.size := by have := HA.out.2; omega
     have q5 := (HS.out.keeps.cell 0 hlt2 hnF2).trans k5
     have q6 := (HS.out.keeps.cell 1 hlt2 hnF2).trans k6
     have q7 := (HS.out.keeps.frozen 0 hlt2 hnF2).trans k7
     have q8 := (HS.out.keeps.frozen 1 hlt2 hnF2).trans k8
     go_wp2_with (first
       | (go_at_call 90; rw [← hw3]; refine (Zf7 sb 2 G2.c G2.t G2.m2 G2.fa G2.na key (some ⟨w2.heap.size, 0, none⟩) w3 m3.hs m3.i2 m3.ma trivial m3.nf).mono ?_; rintro e w4 ⟨rfl, hn4⟩
          obtain ⟨r, m4, kp, gr⟩ := m3.note2 hn4
          have k9 := (kp.cell 0 hlt3 hnF2).trans q5
          have k10 := (kp.cell 1 hlt3 hnF2).trans q6
          have k11 := (kp.frozen 0 hlt3 hnF2).trans q7
          have k12 := (kp.frozen 1 hlt3 hnF2).trans q8
          clear k5 k6 k7 k8 q5 q6 q7 q8))
     refine bodyPost_ret (v := .agg #[.int .i64 0, .pointer (some ⟨w2.heap.size, 0, none⟩)]) (by simp [results, Tryz.results68, go_sem, *]) rfl ?_
     obtain ⟨hA3, hz3⟩ := HA.out
     have s34 : Step w3 w4 F2 (fun k => F2 k ∨ k = r) := ⟨kp, gr, fun k hk => .inl hk⟩
     have s24 := HS.out.trans s34
     have s04 := s02.trans s24
     have hnA : ¬ F2 w2.heap.size := fun h => by have := HL.out _ h; omega
     have hA4 : w4.heap[w2.heap.size]? = some (.cells #[.slice o vn vc] 113 (0, 0)) := (kp.block _ (by omega) hnA).trans hA3
     have hnA4 : ¬ hot Hp (fun k => F2 k ∨ k = r) w2.heap.size := by
       rintro (x | x)
       · rcases HP.out _ x with x | x
         · have := hHlt _ x; omega
         · omega
       · rcases gr _ x with x | x
         · exact hnA x
         · omega
     have hz4 := kp.size
     have hDn : D ⟨w2.heap.size, 0, none⟩ = none := by
       cases hd : D ⟨w2.heap.size, 0, none⟩ with
       | none => rfl
       | some y =>
         obtain ⟨b', v', ts', e, a1, a2, a3, a4, a5⟩ := i2.forest.form _ _ hd
         simp only [Addr.mk.injEq, and_true] at e
         omega
     have i4 := (i2.step (s24.hot Hp)).fresh (b := w2.heap.size) HH.out hwide (by rw [HNAF.out]; exact HT.out) (by omega) hnA4 hA4 (HR.out.step (s04.hot Hp)) hDn HKT.out h0 (G2.c.setIfInBounds 2 (.map (some r))) (some r) (cnt G2.fa key G2.na)
     have t04 : ∀ c t fr, w4.heap[w.heap.size]? = some (.cells c t fr) → t ≠ 113 := by
       intro c t fr h
       rw [s24.keeps.block _ hlt2 hnF2] at h
       exact t02 c t fr h
     have hnF4 : ¬ (F2 w.heap.size ∨ w.heap.size = r) := by
       intro x
       rcases gr _ x with x | x
       · exact hnF2 x
       · omega
     have mF := (m4.set (i := 0) (.int .i64 0) hnF4 hpos t04).set (i := 1) (.pointer (some ⟨w2.heap.size, 0, none⟩)) hnF4 hpos (by
       intro c t fr h
       simp only [World.setCell, Array.getElem?_modify, if_true] at h
       cases hh : w4.heap[w.heap.size]? with
       | none => simp [hh] at h
       | some o =>
         rw [hh] at h
         cases o with
         | cells c' t' fr' => simp only [Option.map_some, Option.some.injEq, Obj.cells.injEq] at h; rw [← h.2.1]; exact t04 _ _ _ hh
         | _ => simp at h)
     refine ⟨0, some ⟨w2.heap.size, 0, none⟩, _, (fun q => if q = ⟨w2.heap.size, 0, none⟩ then some (val l) else D q), (⟨w2.heap.size, 0, none⟩ :: K), _, rfl, ⟨rfl, by simp⟩, mF, ?_, ⟨Zav (Zav s04.keeps _ (zl)) _ (zl), s04.grow, s04.mono⟩, ⟨?_, ?_, g2.p, g2.t, fun i hi => (Array.getElem?_setIfInBounds_ne (by omega)).trans (g2.c i hi)⟩, ?_⟩
     · exact ((i4.keeps (Zal (i := 0) _ (.inl hxHp))).keeps (Zal (i := 1) _ (.inl hxHp))).shrink (HUP.out _)
     · intro p y hp
       rw [if_neg (by rintro rfl; rw [hDn] at hp; cases hp)]; exact hp
     · exact fun p hp => List.mem_cons_of_mem _ hp
     · simp
end
end Go.Proofs.YtlkmgclbckojgaaGreatDoor

