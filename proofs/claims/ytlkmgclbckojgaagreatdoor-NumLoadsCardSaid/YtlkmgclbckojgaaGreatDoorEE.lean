import Derived.Test.YtlkmgclbckojgaaGreatDoorEB
import Derived.Test.YtlkmgclbckojgaaGreatDoorB3
import Derived.Test.YtlkmgclbckojgaaGreatDoorP5
import Derived.Deep.CutRange
import Derived.Deep.RegionHeld3
import Derived.Test.YtlkmgclbckojgaaGreatDoorED
import Derived.Test.YtlkmgclbckojgaaGreatDoorO0
import Derived.Deep.CutBlock
import Derived.Lib.SmallJoins
set_option linter.unusedVariables false
set_option linter.unusedSimpArgs false
set_option maxHeartbeats 16000000
set_option maxRecDepth 100000
namespace Go.Proofs.YtlkmgclbckojgaaGreatDoor
section
open Go.RowKit
def numN (bs : List Nat) : Nat := bs.foldl (fun x b => 256 * x + b) 0
theorem Zog (bs : List Nat) (b : Nat) : numN (bs ++ [b]) = 256 * numN bs + b := by simp [numN]
theorem Zpx (b : Nat) : numN [b] = b := by simp [numN]
theorem Ze7 (a b : Nat) : numN [a, b] = a * 256 + b := by simp [numN]; omega
theorem Zoh {bs : List Nat} (h : ByteL bs) : (bs.length ≤ 1 → numN bs ≤ 255) ∧ (bs.length ≤ 2 → numN bs ≤ 65535) := by
 match bs, h with
 | [], _ => simp [numN]
 | [a], h =>
   have := h a (by simp)
   rw [Zpx]; simp; omega
 | [a, b], h =>
   have := h a (by simp)
   have := h b (by simp)
   rw [Ze7]; simp; omega
 | a :: b :: c :: l, _ => simp
def RdV (W : World) (r : Nat) (o : Option Nat) (bs : List Nat) (bad : Bool) : Prop := ∃ v, W.heap[r]? = some (.cells #[v, .bool bad] 98 (0, 0)) ∧ RowV W 1 v bs.length (byV bs) ∧ v.ownBlock = o ∧ o ≠ some r
theorem Zgm {W : World} {r : Nat} {v : Value} {bad : Bool} (h : W.heap[r]? = some (.cells #[v, .bool bad] 98 (0, 0))) : W.cell? ⟨r, 0, none⟩ = some v ∧ W.cell? ⟨r, 1, none⟩ = some (.bool bad) := by
 constructor <;> simp [World.cell?, h]
theorem Zoi {W : World} {r : Nat} {v : Value} {bad : Bool} (h : W.heap[r]? = some (.cells #[v, .bool bad] 98 (0, 0))) : W.frozen? ⟨r, 0, none⟩ = false ∧ W.frozen? ⟨r, 1, none⟩ = false := by
 constructor <;> simp [World.frozen?, h]
theorem Zi4 {W : World} {r j : Nat} {size n : Nat} {v u : Value} {xs : List Value} (h : RowV W size v n xs) (hr : v.ownBlock ≠ some r) : RowV (W.setCell ⟨r, j, none⟩ u) size v n xs := by
 obtain ⟨h1, h2⟩ := h
 refine ⟨h1, ?_⟩
 rcases h2 with h2 | ⟨b, off, cap, e, a1, a2, a3, a4⟩
 · exact .inl h2
 · subst e
   refine .inr ⟨b, off, cap, rfl, a1, a2, by simpa [World.setCell] using a3, fun i x hx => ?_⟩
   rw [World.cell?_setCell_far _ _ _ _ (by intro e; exact hr (by simp only [Value.ownBlock, Option.some.injEq]; exact e.symm))]
   exact a4 i x hx
theorem Zme {W : World} {b off L cv j : Nat} {bs : List Nat} (h : RowV W 1 (.slice (some ⟨b, off, none⟩) L cv) L (byV bs)) (hj : j ≤ L) (hL : L = bs.length) (hc : ∀ j u, (byV bs)[j]? = some u → W.cell? ⟨b, off + j, none⟩ = some u) :
   RowV W 1 (.slice (some ⟨b, off + j, none⟩) (L - j) (cv - j)) (L - j) (byV (bs.drop j)) ∧ (cv = j → RowV W 1 (.slice (some ⟨b, off, none⟩) (L - j) 0) (L - j) (byV (bs.drop j))) := by
 have hl : (byV (bs.drop j)).length = (L - j) * 1 := by rw [Zny, List.length_drop]; omega
 rcases h.2 with ⟨e, _⟩ | ⟨b', off', cap, e, a1, a2, a3, a4⟩
 · cases e
 · cases e
   refine ⟨⟨hl, .inr ⟨b, off + j, cv - j, rfl, by omega, by omega, a3, fun i u hu => ?_⟩⟩, fun hcj => ⟨hl, .inr ⟨b, off, 0, by rfl, by omega, Nat.zero_le _, a3, fun i u hu => ?_⟩⟩⟩
   · have h1 := hc (j + i) u (by simpa [byV, List.getElem?_drop] using hu)
     rw [← Nat.add_assoc] at h1
     exact h1
   · have hlt := (List.getElem?_eq_some_iff.1 hu).1
     omega
def PostN (W : World) (r : Nat) (o : Option Nat) (bs : List Nat) (bad : Bool) (k : Nat) (e : Ending) (w' : World) : Prop :=
 Keeps (fun i => i = r) W w' ∧ ((bs.length < k ∧ e = .returned (.int .i64 0) ∧ RdV w' r o bs true) ∨ (k ≤ bs.length ∧ e = .returned (.int .i64 ((numN (bs.take k) : Nat) : Int)) ∧ RdV w' r o (bs.drop k) bad))
theorem Zfz {W : World} {r : Nat} {o : Option Nat} {bs : List Nat} {bad : Bool} {k : Nat} (h : RdV W r o bs bad) (hb : ByteL bs) (hk0 : 0 < k) (hk : k ≤ 2) :
   Calls Tryz.prog 58 #[.pointer (some ⟨r, 0, none⟩), .int .i64 (k : Int)] W (PostN W r o bs bad k) := by
 obtain ⟨v, hbox, hrow, ho, hno⟩ := h
 have hne : v.ownBlock ≠ some r := by rw [ho]; exact hno
 obtain ⟨av, cv, rfl⟩ := hrow.shape
 obtain ⟨x0, x1⟩ := Zgm hbox
 obtain ⟨y0, y1⟩ := Zoi hbox
 have hrl := (Array.getElem?_eq_some_iff.1 hbox).1
 obtain ⟨L, hL⟩ : ∃ L, L = bs.length := ⟨_, rfl⟩
 rw [← hL] at hrow x0 hbox hne ho
 have HO := zh (zi ho hno)
 clear ho hno
 have hLm : (L : Int) ≤ 9223372036854775807 := by
   rcases hrow.2 with ⟨_, h⟩ | ⟨b, off, cap, e, a1, a2, _⟩
   · omega
   · unfold maxLen at a2; omega
 have hki : (k : Int) ≤ 2 := by omega
 have HX := zh (zi hbox (zi hrow (zi hne (zi hb (zi hL (zi hk0 hk))))))
 by_cases hlt : L < k
 · have hlt' : (L : Int) < (k : Int) := by omega
   clear hbox hrow hne hb hL hk0 hk hlt
   go_enter Tryz.func58, Tryz.ntmps58
   go_wp2
   refine bodyPost_ret (v := .int .i64 0) (by simp [results, Tryz.results58, go_sem]) rfl ?_
   obtain ⟨hbox, hrow, hne, hb, hL, hk0, hk⟩ := HX.out
   refine ⟨Zal _ rfl, .inl ⟨by omega, rfl, _, ?_, ?_, HO.out.1, HO.out.2⟩⟩
   · simp [World.setCell, Array.getElem?_modify, hbox]
   · rw [← hL]; exact Zi4 hrow hne
 · have hlt' : ¬ (L : Int) < (k : Int) := by omega
   obtain ⟨b, off, rfl, hcap, hcv, hcells⟩ : ∃ b off, av = some ⟨b, off, none⟩ ∧ L ≤ cv ∧ cv ≤ maxLen ∧ ∀ j u, (byV bs)[j]? = some u → W.cell? ⟨b, off + j, none⟩ = some u := by
     rcases hrow.2 with ⟨e, h0⟩ | ⟨b, off, cap, e, a1, a2, a3, a4⟩
     · omega
     · cases e
       exact ⟨b, off, rfl, a1, a2, a4⟩
   have hcv2 := hcv
   unfold maxLen at hcv2
   have hkc : (k : Int) ≤ (cv : Int) := by omega
   have hcI : (cv : Int) ≤ 9223372036854775807 := by omega
   have hkL : (k : Int) ≤ (L : Int) := by omega
   have HC := zh (zi hcap (zi hcv hcells))
   clear hbox hrow hne hb hL hk0 hk hlt hcap hcv hcells hcv2
   go_enter Tryz.func58, Tryz.ntmps58
   go_upto_region 6 with fail
   go_loopw [5, 6] (fun x i wl => ∃ j : Nat, j ≤ k ∧ i = .int .i64 (j : Int) ∧ x = .int .i64 ((numN (bs.take j) : Nat) : Int) ∧ wl = W) (fun _ i _ => k - (intOf i).toNat)
   case atStart => exact ⟨0, Nat.zero_le _, rfl, by simp [numN], rfl⟩
   case round =>
     obtain ⟨j, hjk, rfl, rfl, rfl⟩ := hrel
     obtain ⟨hbox, hrow, hne, hb, hL, hk0, hk⟩ := HX.out
     obtain ⟨hcap, hcv, hcells⟩ := HC.out
     by_cases hj : j < k
     · have hj' : (j : Int) < (k : Int) := by omega
       have hjl : j < bs.length := by omega
       have hjL : (j : Int) < (L : Int) := by omega
       have hc0 : wr.cell? ⟨b, off + j, none⟩ = some (.int .u8 (bs[j] : Int)) := hcells j _ (by simp [byV, hjl])
       have hbj : bs[j] < 256 := hb _ (List.getElem_mem hjl)
       have hN : numN (bs.take j) ≤ 255 := (Zoh (bs := bs.take j) (fun x hx => hb x (List.mem_of_mem_take hx))).1 (by rw [List.length_take]; omega)
       have hnext : numN (bs.take (j + 1)) = 256 * numN (bs.take j) + bs[j] := by rw [List.take_succ_eq_append_getElem hjl, Zog]
       obtain ⟨bj, hbj2⟩ : ∃ bj, bj = bs[j] := ⟨_, rfl⟩
       obtain ⟨xx, hxx⟩ : ∃ xx, xx = numN (bs.take j) := ⟨_, rfl⟩
       rw [← hbj2] at hc0 hbj hnext
       rw [← hxx] at hN hnext ⊢
       have hw1 : IntKind.i64.wrap (256 * (xx : Int)) = 256 * (xx : Int) := IntWalk.i64_in _ (by omega)
       have hw2 : IntKind.i64.wrap (bj : Int) = (bj : Int) := IntWalk.i64_in _ (by omega)
       have hw3 : IntKind.i64.wrap (256 * (xx : Int) + (bj : Int)) = 256 * (xx : Int) + (bj : Int) := IntWalk.i64_in _ (by omega)
       have HN := zh hnext
       clear hbox hrow hne hb hL hk0 hk hcap hcv hcells hjl hbj2 hxx hnext hj
       go_wp2
       exact ⟨⟨j + 1, by omega, by go_num, by rw [HN.out]; first | rfl | (congr 1; done) | (congr 1; omega), by first | rfl | trivial⟩, by simp [intOf]; omega⟩
     · have hjk2 : j = k := by omega
       subst hjk2
       have hj' : ¬ (j : Int) < (j : Int) := by omega
       have HJ := zh (zi hbox (zi hrow (zi hne (zi hb (zi hL (zi hk0 hk))))))
       have hdl : (bs.drop j).length = L - j := by rw [List.length_drop]; omega
       have hfull : bs.take j = bs.take j := rfl
       obtain ⟨xx, hxx⟩ : ∃ xx, xx = numN (bs.take j) := ⟨_, rfl⟩
       rw [← hxx]
       have HXX := zh (zi hxx hdl)
       by_cases hck : cv = j
       · subst hck
         clear hbox hrow hne hb hL hk0 hk hcap hcv hcells hj hxx hdl hfull
         go_wp2
         refine bodyPost_ret (v := .int .i64 (xx : Int)) (by simp [results, Tryz.results58, go_sem]) rfl ?_
         obtain ⟨hbox, hrow, hne, hb, hL, hk0, hk⟩ := HX.out
         obtain ⟨hcap, hcv, hcells⟩ := HC.out
         have h1 := Zme (cv := cv) (j := cv) hrow (by omega) hL hcells
         refine ⟨Zal _ rfl, .inr ⟨by omega, by rw [HXX.out.1], (.slice (some ⟨b, off, none⟩) (L - cv) 0), ?_, ?_, HO.out.1, ?_⟩⟩
         · simp [World.setCell, Array.getElem?_modify, hbox]
         · rw [HXX.out.2]
           exact Zi4 (h1.2 rfl) hne
         · exact HO.out.2
       · clear hbox hrow hne hb hL hk0 hk hcap hcv hcells hj hxx hdl hfull
         have hck2 : ¬ (cv : Int) = (j : Int) := by omega
         go_wp2
         refine bodyPost_ret (v := .int .i64 (xx : Int)) (by simp [results, Tryz.results58, go_sem]) rfl ?_
         obtain ⟨hbox, hrow, hne, hb, hL, hk0, hk⟩ := HX.out
         obtain ⟨hcap, hcv, hcells⟩ := HC.out
         have h1 := Zme (cv := cv) (j := j) hrow (by omega) hL hcells
         refine ⟨Zal _ rfl, .inr ⟨by omega, by rw [HXX.out.1], (.slice (some ⟨b, off + j, none⟩) (L - j) (cv - j)), ?_, ?_, HO.out.1, ?_⟩⟩
         · simp [World.setCell, Array.getElem?_modify, hbox]
         · rw [HXX.out.2]
           exact Zi4 h1.1 hne
         · exact HO.out.2
theorem Zd1 {F : Nat → Prop} {W W' : World} {size n : Nat} {v : Value} {xs : List Value} (h : RowV W size v n xs) (hk : Keeps F W W') (ho : ∀ k, v.ownBlock = some k → ¬ F k) : RowV W' size v n xs := by
 obtain ⟨h1, h2⟩ := h
 refine ⟨h1, ?_⟩
 rcases h2 with h2 | ⟨b, off, cap, e, a1, a2, a3, a4⟩
 · exact .inl h2
 · subst e
   exact .inr ⟨b, off, cap, rfl, a1, a2, Nat.lt_of_lt_of_le a3 hk.size, fun i x hx => (hk.cell _ a3 (ho b rfl)).trans (a4 i x hx)⟩
theorem RdV.keep {F : Nat → Prop} {W W' : World} {r : Nat} {o : Option Nat} {bs : List Nat} {bad : Bool} (h : RdV W r o bs bad) (hk : Keeps F W W') (hr : ¬ F r) (ho : ∀ k, o = some k → ¬ F k) : RdV W' r o bs bad := by
 obtain ⟨v, h1, h2, h3, h4⟩ := h
 subst h3
 exact ⟨v, (hk.block r (Array.getElem?_eq_some_iff.1 h1).1 hr).trans h1, Zd1 h2 hk ho, rfl, h4⟩
end
section
def readTermsW (ps : List Int) : Nat → List Nat → Option (List (Bool × Int) × List Nat)
 | 0, bs => some ([], bs)
 | c + 1, s :: a :: b :: r =>
   if 1 < s ∨ ps.length ≤ a * 256 + b then none
   else match readTermsW ps c r with
     | some (l, r') => some ((s == 1, ps.getD (a * 256 + b) 0) :: l, r')
     | none => none
 | _ + 1, _ => none
def tmI (p : Bool × Int) : Tm := (p.1, p.2.toNat)
def okAt (us : List (Bool × Int)) (i : Nat) : Bool := decide (0 ≤ (us.getD i (false, 0)).2) && (decide (i = 0) || decide ((us.getD i (false, 0)).2 + 1 < (us.getD (i - 1) (false, 0)).2))
def formedB (us : List (Bool × Int)) : Bool := (List.range us.length).all (okAt us)
def readPartW (ps : List Int) (bs : List Nat) : Option (Int × List Nat) :=
 match readTwo bs with
 | none => none
 | some (c, r) =>
   match readTermsW ps c r with
   | none => none
   | some (us, r') => if formedB us then some (val (us.map tmI), r') else none
def readPartsW : Nat → List Int → List Nat → Option (List Int × List Nat)
 | 0, ps, bs => some (ps, bs)
 | n + 1, ps, bs =>
   match readPartW ps bs with
   | none => none
   | some (z, r) => readPartsW n (ps ++ [z]) r
def loadW (bs : List Nat) : Option Int :=
 match readTwo bs with
 | none => none
 | some (c, r) =>
   match readPartsW c [] r with
   | none => none
   | some (ps, _) => ps.getLast?
theorem Zj6 {us : List (Bool × Int)} (h : formedB us = true) : (∀ u ∈ us, 0 ≤ u.2) ∧ NA (us.map tmI) := by
 have hall : ∀ i, i < us.length → okAt us i = true := fun i hi => List.all_eq_true.1 h i (List.mem_range.2 hi)
 have hpos : ∀ i (hi : i < us.length), 0 ≤ us[i].2 := fun i hi => by
   have := hall i hi
   unfold okAt at this
   simp [hi] at this
   exact this.1
 have hadj : ∀ i (hi : i + 1 < us.length), us[i + 1].2 + 1 < us[i].2 := fun i hi => by
   have := hall (i + 1) hi
   unfold okAt at this
   have hi2 : i < us.length := by omega
   simp [hi, hi2] at this
   exact this.2
 have hdec : ∀ d i (hi : i + d + 1 < us.length), us[i + d + 1].2 + 1 < us[i].2 := by
   intro d
   induction d with
   | zero => exact fun i hi => hadj i hi
   | succ d ih =>
     intro i hi
     have h1 := ih i (by omega)
     have h2 := hadj (i + d + 1) (by omega)
     have e : us[i + (d + 1) + 1]'hi = us[i + d + 1 + 1]'(by omega) := by congr 1
     rw [e]; omega
 refine ⟨fun u hu => ?_, ?_⟩
 · obtain ⟨i, hi, rfl⟩ := List.mem_iff_getElem.1 hu
   exact hpos i hi
 · refine List.pairwise_iff_getElem.2 fun i j hi hj hij => ?_
   simp only [List.length_map] at hi hj
   simp only [List.getElem_map, tmI]
   have h1 := hdec (j - i - 1) i (by omega)
   have e : us[i + (j - i - 1) + 1]'(by omega) = us[j] := by congr 1; omega
   rw [e] at h1
   have h2 := hpos j hj
   have h3 := hpos i hi
   omega
theorem Zj7 {l : List Tm} (h : NA l) : formedB (l.map (fun t => (t.1, (t.2 : Int)))) = true := by
 refine List.all_eq_true.2 fun i hi => ?_
 have hi := List.mem_range.1 hi
 simp only [List.length_map] at hi
 unfold okAt
 simp only [List.getD_eq_getElem?_getD, List.getElem?_map, List.getElem?_eq_getElem hi, Option.map_some, Option.getD_some]
 rcases Nat.eq_zero_or_pos i with h0 | h0
 · subst h0; simp
 · have hi2 : i - 1 < l.length := by omega
   have := List.pairwise_iff_getElem.1 h (i - 1) i hi2 hi (by omega)
   simp only [List.getElem?_eq_getElem hi2, Option.map_some, Option.getD_some]
   simp; omega
theorem Zek {ps fs x : List Int} (e : fs = ps ++ x) : ∀ (l : List Tm) (r : List Nat), (∀ t ∈ l, (t.2 : Int) ∈ ps) → ps.length < 65536 →
   readTermsW ps l.length (termsBy fs l ++ r) = some (l.map (fun t => (t.1, (t.2 : Int))), r)
 | [], r, _, _ => by simp [readTermsW, termsBy]
 | t :: l, r, hm, hsz => by
   obtain ⟨i1, i2⟩ := Zlm e (hm t (List.mem_cons_self ..))
   have hpl : fs.idxOf (t.2 : Int) / 256 % 256 * 256 + fs.idxOf (t.2 : Int) % 256 = fs.idxOf (t.2 : Int) := by omega
   have hget : ps.getD (fs.idxOf (t.2 : Int)) 0 = (t.2 : Int) := by simp [List.getD, i2]
   have ih := Zek e l r (fun u hu => hm u (List.mem_cons_of_mem _ hu)) hsz
   have hl : termsBy fs (t :: l) ++ r = (if t.1 then 1 else 0) :: (fs.idxOf (t.2 : Int) / 256 % 256) :: (fs.idxOf (t.2 : Int) % 256) :: (termsBy fs l ++ r) := by
     simp [termsBy, termBy, twoN]
   have hs1 : ¬ (1 < (if t.1 then 1 else 0 : Nat)) := by split <;> omega
   rw [hl, List.length_cons, readTermsW, hpl, if_neg (by
     rintro (a | a)
     · exact hs1 a
     · omega), ih, hget]
   obtain ⟨m, n⟩ := t
   cases m <;> simp
theorem Zq3 (l : List Tm) : (l.map (fun t => (t.1, (t.2 : Int)))).map tmI = l := by
 rw [List.map_map]
 conv => rhs; rw [← List.map_id l]
 exact List.map_congr_left (fun t _ => by simp [tmI])
theorem Zi5 {ps fs x : List Int} (e : fs = ps ++ x) (hsz : ps.length < 65536) {p : Int} (hw : wt p ≤ 300) (hm : ∀ t ∈ naf p, (t.2 : Int) ∈ ps) (r : List Nat) : readPartW ps (partBy fs p ++ r) = some (p, r) := by
 unfold readPartW partBy
 have hl : (naf p).length ≤ 300 := hw
 rw [List.append_assoc, Zdm (by omega)]
 simp only
 rw [Zek e (naf p) r hm hsz]
 simp only
 rw [if_pos (Zj7 (Za3 p)), Zq3, Zam]
theorem Zel {fs : List Int} (hfs : fs.length < 65536) (hw : ∀ p ∈ fs, wt p ≤ 300) (hx : ∀ (i : Nat) (p : Int), fs[i]? = some p → ∀ t ∈ naf p, (t.2 : Int) ∈ fs.take i) : ∀ (n i : Nat) (r : List Nat), i + n ≤ fs.length →
   readPartsW n (fs.take i) (((fs.drop i).take n).flatMap (partBy fs) ++ r) = some (fs.take (i + n), r)
 | 0, i, r, hl => by simp [readPartsW]
 | n + 1, i, r, hl => by
   have hi : i < fs.length := by omega
   have hd : (fs.drop i).take (n + 1) = fs[i] :: (fs.drop (i + 1)).take n := by
     rw [List.drop_eq_getElem_cons hi, List.take_succ_cons]
   have hti : fs.take (i + 1) = fs.take i ++ [fs[i]] := List.take_succ_eq_append_getElem hi
   rw [hd, List.flatMap_cons, List.append_assoc, readPartsW, Zi5 (x := fs.drop i) (List.take_append_drop i fs).symm (by rw [List.length_take]; omega) (hw _ (List.getElem_mem hi)) (hx i _ (List.getElem?_eq_getElem hi))]
   simp only
   rw [← hti, show i + (n + 1) = (i + 1) + n by omega]
   exact Zel hfs hw hx n (i + 1) r (by omega)
theorem Zk9 {z : Int} (h : allowedZ z) : loadW (bytesZ z) = some z := by
 have hw := h.1
 have hlen := Zce z
 unfold loadW bytesZ
 rw [Zdm (by omega)]
 simp only
 have h1 := Zel (fs := listZ z) (by omega) (fun p hp => h.2.2 p (Zb0.1 hp)) (Zdn z) (listZ z).length 0 [] (by omega)
 simp only [List.take_zero, List.drop_zero, Nat.zero_add, List.take_length, List.append_nil] at h1
 rw [h1]
 simp only
 unfold listZ
 simp
end
section
open Go.RowKit
variable {W W' W1 W2 : World} {p n n' : Nat} {fv fv' fv1 : Value} {vs vs' vs1 G : List Int}
def FWs (vs : List Int) : List Wt → List (Bool × Int) → Prop
 | [], [] => True
 | t :: ts, u :: us => (t.1 = u.1 ∧ vs[t.2]? = some u.2) ∧ FWs vs ts us
 | _, _ => False
theorem FWs.len : ∀ {ts : List Wt} {us : List (Bool × Int)}, FWs vs ts us → ts.length = us.length
 | [], [], _ => rfl
 | t :: ts, u :: us, h => by simp only [List.length_cons]; rw [FWs.len h.2]
 | [], _ :: _, h => h.elim
 | _ :: _, [], h => h.elim
theorem FWs.get : ∀ {ts : List Wt} {us : List (Bool × Int)}, FWs vs ts us → ∀ (i : Nat) (h1 : i < ts.length) (h2 : i < us.length), ts[i].1 = us[i].1 ∧ vs[ts[i].2]? = some us[i].2
 | t :: ts, u :: us, h, 0, _, _ => h.1
 | t :: ts, u :: us, h, i + 1, h1, h2 => FWs.get h.2 i (by simpa using h1) (by simpa using h2)
theorem FWs.mono (hv : vs <+: vs') : ∀ {ts : List Wt} {us : List (Bool × Int)}, FWs vs ts us → FWs vs' ts us
 | [], [], _ => trivial
 | t :: ts, u :: us, h => ⟨⟨h.1.1, Zci hv h.1.2⟩, FWs.mono hv h.2⟩
 | [], _ :: _, h => h.elim
 | _ :: _, [], h => h.elim
theorem FWs.snoc {t : Wt} {u : Bool × Int} (h2 : t.1 = u.1 ∧ vs[t.2]? = some u.2) : ∀ {ts : List Wt} {us : List (Bool × Int)}, FWs vs ts us → FWs vs (ts ++ [t]) (us ++ [u])
 | [], [], _ => ⟨h2, trivial⟩
 | t' :: ts, u' :: us, h => ⟨h.1, FWs.snoc h2 h.2⟩
 | [], _ :: _, h => h.elim
 | _ :: _, [], h => h.elim
theorem FWs.tms : ∀ {ts : List Wt} {us : List (Bool × Int)}, FWs vs ts us → (∀ u ∈ us, 0 ≤ u.2) → TMs vs ts (us.map tmI)
 | [], [], _, _ => trivial
 | t :: ts, u :: us, h, hp => ⟨⟨h.1.1, by
     have := hp u (List.mem_cons_self ..)
     rw [h.1.2]; simp only [tmI]; congr 1; omega⟩, FWs.tms h.2 (fun x hx => hp x (List.mem_cons_of_mem _ hx))⟩
 | [], _ :: _, h, _ => h.elim
 | _ :: _, [], h, _ => h.elim
theorem Zq4 (z : Int) : wt (z + 1) ≤ wt z + 1 := by
 have := wt_tv z (false, 0)
 simpa [tv, sg] using this
theorem Zpy {us : List (Bool × Int)} {i : Nat} {u : Bool × Int} (h : us[i]? = some u) (hu : u.2 < 0) : okAt us i = false := by
 unfold okAt
 simp only [List.getD_eq_getElem?_getD, h, Option.getD_some]
 simp; intro; omega
theorem Zoj {us : List (Bool × Int)} {u : Bool × Int} (h : us[0]? = some u) (hu : 0 ≤ u.2) : okAt us 0 = true := by
 unfold okAt
 simp only [List.getD_eq_getElem?_getD, h, Option.getD_some]
 simp; omega
theorem Zpz {us : List (Bool × Int)} {i : Nat} {u u' : Bool × Int} (h0 : 0 < i) (h : us[i]? = some u) (h' : us[i - 1]? = some u') (hu : 0 ≤ u.2) : okAt us i = decide (u.2 + 1 < u'.2) := by
 unfold okAt
 simp only [List.getD_eq_getElem?_getD, h, h', Option.getD_some]
 have : decide (i = 0) = false := decide_eq_false (by omega)
 rw [this]
 simp [hu]
theorem Zib {us : List (Bool × Int)} {i : Nat} (hi : i < us.length) (h : okAt us i = false) : formedB us = false := by
 unfold formedB
 rw [List.all_eq_false]
 exact ⟨i, List.mem_range.2 hi, by rw [h]; simp⟩
theorem Zla {us : List (Bool × Int)} (h : ∀ j, j < us.length → okAt us j = true) : formedB us = true :=
 List.all_eq_true.2 fun j hj => h j (List.mem_range.1 hj)
theorem Zj8 (h : WL W p fv vs n) {v : Value} {f : List Wt} {us : List (Bool × Int)} (hr : RowW W v f) (hf : FWs vs f us) (hl : us.length ≤ 3000) (hw : ∀ u ∈ us, wt u.2 ≤ 29000) (hn : n + us.length ≤ gMax) :
   Calls Tryz.prog 59 #[.pointer (some ⟨p, 0, none⟩), v] W fun e w' => ∃ (fv' : Value) (vs' : List Int), e = .returned (.bool (formedB us)) ∧ GrowL W p fv vs fv' vs' w' (n + us.length) := by
 obtain ⟨G, hM, hGl, hX⟩ := h.take (us.map (fun u => u.2 + 1)) (fun z hz => by
   obtain ⟨u, hu, rfl⟩ := List.mem_map.1 hz
   have := hw u hu
   have := Zq4 u.2
   omega) (by simpa using hn)
 rw [List.length_map] at hGl
 obtain ⟨a1, c1, rfl⟩ := (RowV.of_own hr).shape
 have hfl := hf.len
 obtain ⟨L, hL⟩ : ∃ L, L = f.length := ⟨_, rfl⟩
 have hL3 : (L : Int) ≤ 3000 := by omega
 rw [← hL]
 have HX := zh (zi hM (zi hGl (zi hX (zi hr (zi hf (zi hL (show L = us.length by omega)))))))
 clear h hr hf hl hw hn hM hGl hX hfl hL
 go_enter Tryz.func59, Tryz.ntmps59
 go_upto_region 2 with fail
 go_loopw [5] (fun i wl => ∃ (k : Nat) (fk : Value) (vk : List Int), k ≤ L ∧ i = .int .i64 (k : Int) ∧ Grow W p fv vs G fk vk wl ∧ ∀ j, j < k → okAt us j = true) (fun i _ => L - (intOf i).toNat)
 case atStart => exact ⟨0, fv, vs, Nat.zero_le _, rfl, Grow.refl HX.out.1, fun j hj => absurd hj (Nat.not_lt_zero _)⟩
 case round =>
   obtain ⟨k, fk, vk, hkL, rfl, hg, hok⟩ := hrel
   obtain ⟨hM, hGl, hX, hr, hf, hL, hLu⟩ := HX.out
   by_cases hk : k < L
   · have hk' : (k : Int) < (L : Int) := by omega
     obtain ⟨b, c, ev, u0, u1⟩ := Zao (n := k) (Grow.row hM hg hr) (by omega)
     rw [← hL] at ev
     cases ev
     obtain ⟨g0, g1⟩ := (hf.mono hg.2.1).get k (by omega) (by omega)
     obtain ⟨m1, x1, hm1⟩ : ∃ m x, f[k]'(by omega) = (m, x) := ⟨_, _, rfl⟩
     obtain ⟨m2, y, hy⟩ : ∃ m y, us[k]'(by omega) = (m, y) := ⟨_, _, rfl⟩
     rw [hm1] at u0 u1 g0 g1
     rw [hy] at g0 g1
     simp only at u0 u1 g0 g1
     subst g0
     have hyk : us[k]? = some (m1, y) := by rw [List.getElem?_eq_getElem (by omega), hy]
     have hxb : (x1 : Int) < (vk.length : Int) := by have := (List.getElem?_eq_some_iff.1 g1).1; omega
     have hvc := hg.1.count
     unfold gMax at hvc
     obtain ⟨wn, hwn⟩ : ∃ wn, wn = wr := ⟨_, rfl⟩
     subst hwn
     have hSg : ∀ W', Below wn.heap.size wn W' → Calls Tryz.prog 46 #[.pointer (some ⟨p, 0, none⟩), .int .i64 (x1 : Int)] W' fun e w' => e = .returned (.int .i64 (sgn y)) ∧ Below wn.heap.size wn w' := fun W' hW => by
       refine (Zgw (hg.1.below hW) g1).mono ?_
       rintro e w' ⟨rfl, hb⟩
       exact ⟨rfl, hW.trans (hb.mono hW.size)⟩
     have HSG := zh hSg
     have hcell : ∀ W', Below wn.heap.size wn W' → W'.cell? ⟨b, k * 2 + 1, none⟩ = some (.int .i64 (x1 : Int)) := fun W' hW => (hW.cell (p := ⟨b, k * 2 + 1, none⟩) (World.block_lt_of_cell? _ _ u1)).trans u1
     have HCL := zh hcell
     have HN := zh (Below.refl wn.heap.size wn)
     have hk0 : (0 : Int) ≤ (k : Int) := by omega
     by_cases hneg : y < 0
     · have hno := Zib (show k < us.length by omega) (Zpy hyk hneg)
       have hs : decide (sgn y < 0) = true := decide_eq_true (by unfold sgn; split <;> (try split) <;> omega)
       have HNO := zh (zi hno (zi hg hGl))
       clear hM hGl hX hr hf hL hLu hg hok hkL g1 hyk hvc hSg hcell hm1 hy hno u0 hneg
       go_upto_region 4 with fail
       refine wp_region_held_drew (S := fun W => W.cell? ⟨b, k * 2 + 1, none⟩ = some (.int .i64 (x1 : Int))) (by kernel_rfl) (by exact HCL.out _ (by repeat (first | with_reducible exact HN.out | with_reducible exact zb | with_reducible refine Below.drew ?_ | with_reducible refine Zaa ?_ _))) (fun hHeld => ?_)
       refine wpAnyH_take (i := 0) (oi := _) (v := ?mva0) rfl (by kernel_rfl) (by kernel_rfl) (by kernel_rfl) (fun _ _ _ h => h) (Or.inl ⟨by rfl, ?mha0⟩) (by assumption) ?mra0
       case mha0 => (intro w hSw; (try dsimp only at hSw); go_simp; try with_reducible rfl)
       refine wpAnyH_take (i := 1) (oi := _) (v := ?mva1) rfl (by kernel_rfl) (by kernel_rfl) (by kernel_rfl) (fun _ _ _ h => h) (Or.inl ⟨by rfl, ?mha1⟩) (by assumption) ?mra1
       case mha1 => (intro w hSw; (try dsimp only at hSw); go_simp; try with_reducible rfl)
       refine wpAnyH_take (i := 2) (oi := _) (v := ?mva2) rfl (by kernel_rfl) (by kernel_rfl) (by kernel_rfl) (fun _ _ _ h => h) (Or.inl ⟨by rfl, ?mha2⟩) (by assumption) ?mra2
       case mha2 => (intro w hSw; (try dsimp only at hSw); go_simp; try with_reducible rfl)
       refine wpAnyH_take (i := 3) (oi := _) (v := ?mva3) rfl (by kernel_rfl) (by kernel_rfl) (by kernel_rfl) (fun _ _ _ h => h) (Or.inl ⟨by rfl, ?mha3⟩) (by assumption) ?mra3
       case mha3 => (intro w hSw; (try dsimp only at hSw); go_simp; try with_reducible rfl)
       refine wpAnyH_take (i := 4) (oi := _) (v := ?mva4) rfl (by kernel_rfl) (by kernel_rfl) (by kernel_rfl) (fun _ _ _ h => h) (Or.inl ⟨by rfl, ?mha4⟩) (by assumption) ?mra4
       case mha4 => (intro w hSw; (try dsimp only at hSw); go_simp; try with_reducible rfl)
       try simp only [List.getElem_toArray, List.getElem_cons_succ, List.getElem_cons_zero, Act.put, List.setIfInBounds_toArray, List.set_cons_zero, List.set_cons_succ]
       refine wpAnyH_take (i := 5) (oi := _) (v := ?mva5) rfl (by kernel_rfl) (by kernel_rfl) (by kernel_rfl) (fun _ _ _ h => h) (Or.inl ⟨by rfl, ?mha5⟩) (by assumption) ?mra5
       case mha5 => (intro w hSw; (try dsimp only at hSw); go_simp; try with_reducible rfl)
       refine wpAnyH_ready (rs := [6]) (by kernel_rfl) (by simp) ?_
       refine AllReadyH.cons rfl (fun K hK => ?_) AllReadyH.nil
       go_simp
       go_wp2_with (first
         | (go_at_call 46; refine (HSG.out _ (by repeat (first | with_reducible exact HN.out | with_reducible exact zb | with_reducible refine Below.drew ?_ | with_reducible refine Zaa ?_ _))).mono ?_; rintro e5 w5 ⟨rfl, hb5⟩
            have HN := zh hb5
            clear hb5))
       refine hK.out _ _ (by exact HCL.out _ (by repeat (first | with_reducible exact HN.out | with_reducible exact zb | with_reducible refine Below.drew ?_ | with_reducible refine Zaa ?_ _))) (fun hHeld => ?_)
       clear hK K
       try simp only [List.getElem_toArray, List.getElem_cons_succ, List.getElem_cons_zero, Act.put, List.setIfInBounds_toArray, List.set_cons_zero, List.set_cons_succ]
       refine wpAnyH_take (i := 7) (oi := _) (v := ?mva7) rfl (by kernel_rfl) (by kernel_rfl) (by kernel_rfl) (fun _ _ _ h => h) (Or.inl ⟨by rfl, ?mha7⟩) (by assumption) ?mra7
       case mha7 => (intro w hSw; (try dsimp only at hSw); go_simp; try with_reducible rfl)
       refine wpAnyH_take (i := 8) (oi := _) (v := ?mva8) rfl (by kernel_rfl) (by kernel_rfl) (by kernel_rfl) (fun _ _ _ h => h) (Or.inl ⟨by rfl, ?mha8⟩) (by assumption) ?mra8
       case mha8 => (intro w hSw; (try dsimp only at hSw); go_simp; try with_reducible rfl)
       refine wpAnyH_take (i := 9) (oi := _) (v := undef) rfl (by kernel_rfl) (by kernel_rfl) (by kernel_rfl) (fun _ _ _ h => h) (Or.inr ⟨by rfl, rfl⟩) (by assumption) ?_
       try simp only [List.getElem_toArray, List.getElem_cons_succ, List.getElem_cons_zero, Act.put, List.setIfInBounds_toArray, List.set_cons_zero, List.set_cons_succ]
       refine wpAnyH_take (i := 10) (oi := _) (v := undef) rfl (by kernel_rfl) (by kernel_rfl) (by kernel_rfl) (fun _ _ _ h => h) (Or.inr ⟨by rfl, rfl⟩) (by assumption) ?_
       refine wpAnyH_take (i := 11) (oi := _) (v := undef) rfl (by kernel_rfl) (by kernel_rfl) (by kernel_rfl) (fun _ _ _ h => h) (Or.inr ⟨by rfl, rfl⟩) (by assumption) ?_
       refine wpAnyH_take (i := 12) (oi := _) (v := undef) rfl (by kernel_rfl) (by kernel_rfl) (by kernel_rfl) (fun _ _ _ h => h) (Or.inr ⟨by rfl, rfl⟩) (by assumption) ?_
       refine wpAnyH_take (i := 13) (oi := _) (v := undef) rfl (by kernel_rfl) (by kernel_rfl) (by kernel_rfl) (fun _ _ _ h => h) (Or.inr ⟨by rfl, rfl⟩) (by assumption) ?_
       refine wpAnyH_take (i := 14) (oi := _) (v := undef) rfl (by kernel_rfl) (by kernel_rfl) (by kernel_rfl) (fun _ _ _ h => h) (Or.inr ⟨by rfl, rfl⟩) (by assumption) ?_
       try simp only [List.getElem_toArray, List.getElem_cons_succ, List.getElem_cons_zero, Act.put, List.setIfInBounds_toArray, List.set_cons_zero, List.set_cons_succ]
       refine wpAnyH_take (i := 15) (oi := _) (v := undef) rfl (by kernel_rfl) (by kernel_rfl) (by kernel_rfl) (fun _ _ _ h => h) (Or.inr ⟨by rfl, rfl⟩) (by assumption) ?_
       refine wpAnyH_take (i := 16) (oi := _) (v := undef) rfl (by kernel_rfl) (by kernel_rfl) (by kernel_rfl) (fun _ _ _ h => h) (Or.inr ⟨by rfl, rfl⟩) (by assumption) ?_
       refine wpAnyH_take (i := 17) (oi := _) (v := undef) rfl (by kernel_rfl) (by kernel_rfl) (by kernel_rfl) (fun _ _ _ h => h) (Or.inr ⟨by rfl, rfl⟩) (by assumption) ?_
       refine wpAnyH_take (i := 18) (oi := _) (v := undef) rfl (by kernel_rfl) (by kernel_rfl) (by kernel_rfl) (fun _ _ _ h => h) (Or.inr ⟨by rfl, rfl⟩) (by assumption) ?_
       refine wpAnyH_take (i := 19) (oi := _) (v := undef) rfl (by kernel_rfl) (by kernel_rfl) (by kernel_rfl) (fun _ _ _ h => h) (Or.inr ⟨by rfl, rfl⟩) (by assumption) ?_
       try simp only [List.getElem_toArray, List.getElem_cons_succ, List.getElem_cons_zero, Act.put, List.setIfInBounds_toArray, List.set_cons_zero, List.set_cons_succ]
       refine wpAnyH_take (i := 20) (oi := _) (v := undef) rfl (by kernel_rfl) (by kernel_rfl) (by kernel_rfl) (fun _ _ _ h => h) (Or.inr ⟨by rfl, rfl⟩) (by assumption) ?_
       refine wpAnyH_take (i := 21) (oi := _) (v := undef) rfl (by kernel_rfl) (by kernel_rfl) (by kernel_rfl) (fun _ _ _ h => h) (Or.inr ⟨by rfl, rfl⟩) (by assumption) ?_
       refine wpAnyH_take (i := 22) (oi := _) (v := undef) rfl (by kernel_rfl) (by kernel_rfl) (by kernel_rfl) (fun _ _ _ h => h) (Or.inr ⟨by rfl, rfl⟩) (by assumption) ?_
       refine wpAnyH_take (i := 23) (oi := _) (v := undef) rfl (by kernel_rfl) (by kernel_rfl) (by kernel_rfl) (fun _ _ _ h => h) (Or.inr ⟨by rfl, rfl⟩) (by assumption) ?_
       refine wpAnyH_take (i := 24) (oi := _) (v := undef) rfl (by kernel_rfl) (by kernel_rfl) (by kernel_rfl) (fun _ _ _ h => h) (Or.inr ⟨by rfl, rfl⟩) (by assumption) ?_
       try simp only [List.getElem_toArray, List.getElem_cons_succ, List.getElem_cons_zero, Act.put, List.setIfInBounds_toArray, List.set_cons_zero, List.set_cons_succ]
       refine wpAnyH_take (i := 25) (oi := _) (v := undef) rfl (by kernel_rfl) (by kernel_rfl) (by kernel_rfl) (fun _ _ _ h => h) (Or.inr ⟨by rfl, rfl⟩) (by assumption) ?_
       refine wpAnyH_take (i := 26) (oi := _) (v := undef) rfl (by kernel_rfl) (by kernel_rfl) (by kernel_rfl) (fun _ _ _ h => h) (Or.inr ⟨by rfl, rfl⟩) (by assumption) ?_
       refine wpAnyH_take (i := 27) (oi := _) (v := undef) rfl (by kernel_rfl) (by kernel_rfl) (by kernel_rfl) (fun _ _ _ h => h) (Or.inr ⟨by rfl, rfl⟩) (by assumption) ?_
       refine wpAnyH_take (i := 28) (oi := _) (v := undef) rfl (by kernel_rfl) (by kernel_rfl) (by kernel_rfl) (fun _ _ _ h => h) (Or.inr ⟨by rfl, rfl⟩) (by assumption) ?_
       refine wpAnyH_take (i := 29) (oi := _) (v := ?mva29) rfl (by kernel_rfl) (by kernel_rfl) (by kernel_rfl) (fun _ _ _ h => h) (Or.inl ⟨by rfl, ?mha29⟩) (by assumption) ?mra29
       case mha29 => (intro w hSw; (try dsimp only at hSw); go_simp; try with_reducible rfl)
       try simp only [List.getElem_toArray, List.getElem_cons_succ, List.getElem_cons_zero, Act.put, List.setIfInBounds_toArray, List.set_cons_zero, List.set_cons_succ]
       refine wpAnyH_done (by kernel_rfl) ?_ _
       go_wp2
       refine bodyPost_ret (v := .bool false) (by simp [results, Tryz.results59, go_sem]) rfl ⟨_, _, by rw [HNO.out.1], ((HNO.out.2.1.L HNO.out.2.2).below HN.out)⟩
     have hs : decide (sgn y < 0) = false := decide_eq_false (by unfold sgn; split <;> (try split) <;> omega)
     by_cases hk00 : k = 0
     · subst hk00
       have hz : ∀ j, j < 0 + 1 → okAt us j = true := fun j hj => by
         obtain rfl : j = 0 := by omega
         exact Zoj hyk (by simp only; omega)
       have hgz : decide (((0 : Nat) : Int) > 0) = false := rfl
       have hgy : decide ((0 : Int) < ((0 : Nat) : Int)) = false := rfl
       have HNO := zh (zi hz (zi hg hGl))
       clear hM hGl hX hr hf hL hLu hg hok hkL g1 hyk hvc hSg hcell hm1 hy hz u0 hneg
       go_upto_region 4 with fail
       refine wp_region_held_drew (S := fun W => W.cell? ⟨b, 0 * 2 + 1, none⟩ = some (.int .i64 (x1 : Int))) (by kernel_rfl) (by exact HCL.out _ (by repeat (first | with_reducible exact HN.out | with_reducible exact zb | with_reducible refine Below.drew ?_ | with_reducible refine Zaa ?_ _))) (fun hHeld => ?_)
       refine wpAnyH_take (i := 0) (oi := _) (v := ?mvc0) rfl (by kernel_rfl) (by kernel_rfl) (by kernel_rfl) (fun _ _ _ h => h) (Or.inl ⟨by rfl, ?mhc0⟩) (by assumption) ?mrc0
       case mhc0 => (intro w hSw; (try dsimp only at hSw); go_simp; try with_reducible rfl)
       refine wpAnyH_take (i := 1) (oi := _) (v := ?mvc1) rfl (by kernel_rfl) (by kernel_rfl) (by kernel_rfl) (fun _ _ _ h => h) (Or.inl ⟨by rfl, ?mhc1⟩) (by assumption) ?mrc1
       case mhc1 => (intro w hSw; (try dsimp only at hSw); go_simp; try with_reducible rfl)
       refine wpAnyH_take (i := 2) (oi := _) (v := ?mvc2) rfl (by kernel_rfl) (by kernel_rfl) (by kernel_rfl) (fun _ _ _ h => h) (Or.inl ⟨by rfl, ?mhc2⟩) (by assumption) ?mrc2
       case mhc2 => (intro w hSw; (try dsimp only at hSw); go_simp; try with_reducible rfl)
       refine wpAnyH_take (i := 3) (oi := _) (v := ?mvc3) rfl (by kernel_rfl) (by kernel_rfl) (by kernel_rfl) (fun _ _ _ h => h) (Or.inl ⟨by rfl, ?mhc3⟩) (by assumption) ?mrc3
       case mhc3 => (intro w hSw; (try dsimp only at hSw); go_simp; try with_reducible rfl)
       refine wpAnyH_take (i := 4) (oi := _) (v := ?mvc4) rfl (by kernel_rfl) (by kernel_rfl) (by kernel_rfl) (fun _ _ _ h => h) (Or.inl ⟨by rfl, ?mhc4⟩) (by assumption) ?mrc4
       case mhc4 => (intro w hSw; (try dsimp only at hSw); go_simp; try with_reducible rfl)
       try simp only [List.getElem_toArray, List.getElem_cons_succ, List.getElem_cons_zero, Act.put, List.setIfInBounds_toArray, List.set_cons_zero, List.set_cons_succ]
       refine wpAnyH_take (i := 5) (oi := _) (v := ?mvc5) rfl (by kernel_rfl) (by kernel_rfl) (by kernel_rfl) (fun _ _ _ h => h) (Or.inl ⟨by rfl, ?mhc5⟩) (by assumption) ?mrc5
       case mhc5 => (intro w hSw; (try dsimp only at hSw); go_simp; try with_reducible rfl)
       refine wpAnyH_ready (rs := [6]) (by kernel_rfl) (by simp) ?_
       refine AllReadyH.cons rfl (fun K hK => ?_) AllReadyH.nil
       go_simp
       go_wp2_with (first
         | (go_at_call 46; refine (HSG.out _ (by repeat (first | with_reducible exact HN.out | with_reducible exact zb | with_reducible refine Below.drew ?_ | with_reducible refine Zaa ?_ _))).mono ?_; rintro e5 w5 ⟨rfl, hb5⟩
            have HN := zh hb5
            clear hb5))
       refine hK.out _ _ (by exact HCL.out _ (by repeat (first | with_reducible exact HN.out | with_reducible exact zb | with_reducible refine Below.drew ?_ | with_reducible refine Zaa ?_ _))) (fun hHeld => ?_)
       clear hK K
       try simp only [List.getElem_toArray, List.getElem_cons_succ, List.getElem_cons_zero, Act.put, List.setIfInBounds_toArray, List.set_cons_zero, List.set_cons_succ]
       refine wpAnyH_take (i := 7) (oi := _) (v := ?mvc7) rfl (by kernel_rfl) (by kernel_rfl) (by kernel_rfl) (fun _ _ _ h => h) (Or.inl ⟨by rfl, ?mhc7⟩) (by assumption) ?mrc7
       case mhc7 => (intro w hSw; (try dsimp only at hSw); go_simp; try with_reducible rfl)
       refine wpAnyH_take (i := 8) (oi := _) (v := ?mvc8) rfl (by kernel_rfl) (by kernel_rfl) (by kernel_rfl) (fun _ _ _ h => h) (Or.inl ⟨by rfl, ?mhc8⟩) (by assumption) ?mrc8
       case mhc8 => (intro w hSw; (try dsimp only at hSw); go_simp; try with_reducible rfl)
       refine wpAnyH_take (i := 9) (oi := _) (v := ?mvc9) rfl (by kernel_rfl) (by kernel_rfl) (by kernel_rfl) (fun _ _ _ h => h) (Or.inl ⟨by rfl, ?mhc9⟩) (by assumption) ?mrc9
       case mhc9 => (intro w hSw; (try dsimp only at hSw); go_simp; try with_reducible rfl)
       try simp only [List.getElem_toArray, List.getElem_cons_succ, List.getElem_cons_zero, Act.put, List.setIfInBounds_toArray, List.set_cons_zero, List.set_cons_succ]
       refine wpAnyH_take (i := 10) (oi := _) (v := ?mvc10) rfl (by kernel_rfl) (by kernel_rfl) (by kernel_rfl) (fun _ _ _ h => h) (Or.inl ⟨by rfl, ?mhc10⟩) (by assumption) ?mrc10
       case mhc10 => (intro w hSw; (try dsimp only at hSw); go_simp; try with_reducible rfl)
       refine wpAnyH_take (i := 11) (oi := _) (v := ?mvc11) rfl (by kernel_rfl) (by kernel_rfl) (by kernel_rfl) (fun _ _ _ h => h) (Or.inl ⟨by rfl, ?mhc11⟩) (by assumption) ?mrc11
       case mhc11 => (intro w hSw; (try dsimp only at hSw); go_simp; try with_reducible rfl)
       refine wpAnyH_take (i := 12) (oi := _) (v := undef) rfl (by kernel_rfl) (by kernel_rfl) (by kernel_rfl) (fun _ _ _ h => h) (Or.inr ⟨by rfl, rfl⟩) (by assumption) ?_
       refine wpAnyH_take (i := 13) (oi := _) (v := undef) rfl (by kernel_rfl) (by kernel_rfl) (by kernel_rfl) (fun _ _ _ h => h) (Or.inr ⟨by rfl, rfl⟩) (by assumption) ?_
       refine wpAnyH_take (i := 14) (oi := _) (v := undef) rfl (by kernel_rfl) (by kernel_rfl) (by kernel_rfl) (fun _ _ _ h => h) (Or.inr ⟨by rfl, rfl⟩) (by assumption) ?_
       try simp only [List.getElem_toArray, List.getElem_cons_succ, List.getElem_cons_zero, Act.put, List.setIfInBounds_toArray, List.set_cons_zero, List.set_cons_succ]
       refine wpAnyH_take (i := 15) (oi := _) (v := undef) rfl (by kernel_rfl) (by kernel_rfl) (by kernel_rfl) (fun _ _ _ h => h) (Or.inr ⟨by rfl, rfl⟩) (by assumption) ?_
       refine wpAnyH_take (i := 16) (oi := _) (v := undef) rfl (by kernel_rfl) (by kernel_rfl) (by kernel_rfl) (fun _ _ _ h => h) (Or.inr ⟨by rfl, rfl⟩) (by assumption) ?_
       refine wpAnyH_take (i := 17) (oi := _) (v := undef) rfl (by kernel_rfl) (by kernel_rfl) (by kernel_rfl) (fun _ _ _ h => h) (Or.inr ⟨by rfl, rfl⟩) (by assumption) ?_
       refine wpAnyH_take (i := 18) (oi := _) (v := undef) rfl (by kernel_rfl) (by kernel_rfl) (by kernel_rfl) (fun _ _ _ h => h) (Or.inr ⟨by rfl, rfl⟩) (by assumption) ?_
       refine wpAnyH_take (i := 19) (oi := _) (v := undef) rfl (by kernel_rfl) (by kernel_rfl) (by kernel_rfl) (fun _ _ _ h => h) (Or.inr ⟨by rfl, rfl⟩) (by assumption) ?_
       try simp only [List.getElem_toArray, List.getElem_cons_succ, List.getElem_cons_zero, Act.put, List.setIfInBounds_toArray, List.set_cons_zero, List.set_cons_succ]
       refine wpAnyH_take (i := 20) (oi := _) (v := undef) rfl (by kernel_rfl) (by kernel_rfl) (by kernel_rfl) (fun _ _ _ h => h) (Or.inr ⟨by rfl, rfl⟩) (by assumption) ?_
       refine wpAnyH_take (i := 21) (oi := _) (v := undef) rfl (by kernel_rfl) (by kernel_rfl) (by kernel_rfl) (fun _ _ _ h => h) (Or.inr ⟨by rfl, rfl⟩) (by assumption) ?_
       refine wpAnyH_take (i := 22) (oi := _) (v := undef) rfl (by kernel_rfl) (by kernel_rfl) (by kernel_rfl) (fun _ _ _ h => h) (Or.inr ⟨by rfl, rfl⟩) (by assumption) ?_
       refine wpAnyH_take (i := 23) (oi := _) (v := undef) rfl (by kernel_rfl) (by kernel_rfl) (by kernel_rfl) (fun _ _ _ h => h) (Or.inr ⟨by rfl, rfl⟩) (by assumption) ?_
       refine wpAnyH_take (i := 24) (oi := _) (v := undef) rfl (by kernel_rfl) (by kernel_rfl) (by kernel_rfl) (fun _ _ _ h => h) (Or.inr ⟨by rfl, rfl⟩) (by assumption) ?_
       try simp only [List.getElem_toArray, List.getElem_cons_succ, List.getElem_cons_zero, Act.put, List.setIfInBounds_toArray, List.set_cons_zero, List.set_cons_succ]
       refine wpAnyH_take (i := 25) (oi := _) (v := undef) rfl (by kernel_rfl) (by kernel_rfl) (by kernel_rfl) (fun _ _ _ h => h) (Or.inr ⟨by rfl, rfl⟩) (by assumption) ?_
       refine wpAnyH_take (i := 26) (oi := _) (v := undef) rfl (by kernel_rfl) (by kernel_rfl) (by kernel_rfl) (fun _ _ _ h => h) (Or.inr ⟨by rfl, rfl⟩) (by assumption) ?_
       refine wpAnyH_take (i := 27) (oi := _) (v := undef) rfl (by kernel_rfl) (by kernel_rfl) (by kernel_rfl) (fun _ _ _ h => h) (Or.inr ⟨by rfl, rfl⟩) (by assumption) ?_
       refine wpAnyH_take (i := 28) (oi := _) (v := ?mvc28) rfl (by kernel_rfl) (by kernel_rfl) (by kernel_rfl) (fun _ _ _ h => h) (Or.inl ⟨by rfl, ?mhc28⟩) (by assumption) ?mrc28
       case mhc28 => (intro w hSw; (try dsimp only at hSw); go_simp; try with_reducible rfl)
       refine wpAnyH_take (i := 29) (oi := _) (v := ?mvc29) rfl (by kernel_rfl) (by kernel_rfl) (by kernel_rfl) (fun _ _ _ h => h) (Or.inl ⟨by rfl, ?mhc29⟩) (by assumption) ?mrc29
       case mhc29 => (intro w hSw; (try dsimp only at hSw); go_simp; try with_reducible rfl)
       try simp only [List.getElem_toArray, List.getElem_cons_succ, List.getElem_cons_zero, Act.put, List.setIfInBounds_toArray, List.set_cons_zero, List.set_cons_succ]
       refine wpAnyH_done (by kernel_rfl) ?_ _
       go_wp2
       exact ⟨⟨0 + 1, fk, vk, by omega, by go_num, HNO.out.2.1.below HN.out, HNO.out.1⟩, by simp [intOf]; omega⟩
     obtain ⟨m, hkm⟩ : ∃ m, k = m + 1 := ⟨k - 1, by omega⟩
     obtain ⟨bm, cm, evm, u2, u3⟩ := Zao (n := m) (Grow.row hM hg hr) (by omega)
     rw [← hL] at evm
     cases evm
     obtain ⟨g2, g3⟩ := (hf.mono hg.2.1).get m (by omega) (by omega)
     obtain ⟨mm, x2, hm2⟩ : ∃ m' x, f[m]'(by omega) = (m', x) := ⟨_, _, rfl⟩
     obtain ⟨mz, e2, hy2⟩ : ∃ m' y, us[m]'(by omega) = (m', y) := ⟨_, _, rfl⟩
     rw [hm2] at u2 u3 g2 g3
     rw [hy2] at g2 g3
     simp only at u2 u3 g2 g3
     have hym : us[k - 1]? = some (mz, e2) := by
       rw [show k - 1 = m by omega, List.getElem?_eq_getElem (by omega), hy2]
     have hat := Zpz (by omega) hyk hym (by simp only; omega)
     simp only at hat
     have hyn : ((y.toNat : Nat) : Int) = y := by omega
     have hy1 : ((y.toNat + 1 : Nat) : Int) = y + 1 := by omega
     have hyG : ((y.toNat + 1 : Nat) : Int) ∈ G := by
       rw [hy1]
       exact hX _ (List.mem_map.2 ⟨(m1, y), by rw [← hy]; exact List.getElem_mem _, rfl⟩)
     have hNx : ∀ W', Below wn.heap.size wn W' → Calls Tryz.prog 36 #[.pointer (some ⟨p, 0, none⟩), .int .i64 (x1 : Int)] W' fun r w' => ∃ (f' : Value) (s' : List Int) (i : Nat), r = .returned (.int .i64 (i : Int)) ∧ Grow wn p fk vk G f' s' w' ∧ s'[i]? = some (y + 1) := fun W' hW => by
       refine (wnext (hg.1.below hW) (x := x1) (e := y.toNat) (by rw [hyn]; exact g1) hyG).mono ?_
       rintro r w' ⟨f', s', i, rfl, h1, h2⟩
       exact ⟨f', s', i, rfl, ((Grow.refl hg.1).below hW).trans h1, by rw [h2, hy1]⟩
     have HNX := zh hNx
     obtain ⟨sv, hsv⟩ : ∃ sv, sv = sgn (e2 - (y + 1)) := ⟨_, rfl⟩
     have hrw := Grow.row hM hg hr
     have hCm : ∀ (f' : Value) (s' : List Int) (i : Nat) (w6 : World), Grow wn p fk vk G f' s' w6 → s'[i]? = some (y + 1) → ∀ W', Below w6.heap.size w6 W' → Calls Tryz.prog 16 #[.pointer (some ⟨p, 0, none⟩), .int .i64 (x2 : Int), .int .i64 (i : Int)] W' fun r w' => r = .returned (.int .i64 sv) ∧ Below w6.heap.size w6 w' := fun f' s' i w6 hg6 hi W' hW => by
       refine (Zcm _ e2 (y + 1) (Nat.lt_succ_self _) (hg6.1.below hW) x2 i (Zci hg6.2.1 g3) hi).mono ?_
       rintro r w' ⟨rfl, hb⟩
       exact ⟨by rw [hsv], hW.trans (hb.mono hW.size)⟩
     have HCM := zh hCm
     have hcell2 : ∀ (f' : Value) (s' : List Int) (w6 : World), Grow wn p fk vk G f' s' w6 → ∀ W', Below w6.heap.size w6 W' → W'.cell? ⟨b, k * 2 + 1, none⟩ = some (.int .i64 (x1 : Int)) ∧ W'.cell? ⟨b, m * 2 + 1, none⟩ = some (.int .i64 (x2 : Int)) := fun f' s' w6 hg6 W' hW => by
       have hr6 := (Grow.row hg.1 hg6 hrw).below hW
       obtain ⟨q1, q2, q3, q4, q5⟩ := Zao (n := k) hr6 (by omega)
       obtain ⟨r1, r2, r3, r4, r5⟩ := Zao (n := m) hr6 (by omega)
       simp only [Value.slice.injEq, Option.some.injEq, Addr.mk.injEq, and_true] at q3 r3
       obtain ⟨rfl, _, _⟩ := q3
       obtain ⟨rfl, _, _⟩ := r3
       rw [hm1] at q5
       rw [hm2] at r5
       exact ⟨q5, r5⟩
     have HCB := zh hcell2
     have hS0 := hcell2 fk vk wn (Grow.refl hg.1)
     have HS0 := zh hS0
     have hk1 : IntKind.i64.wrap ((k : Int) - 1) = (m : Int) := by rw [IntWalk.i64_in _ (by omega)]; omega
     have hk2 : (k : Int) - 1 = (m : Int) := by omega
     have hm0 : (0 : Int) ≤ (m : Int) := by omega
     have hmL : (m : Int) < (L : Int) := by omega
     have hkp : (0 : Int) < (k : Int) := by omega
     have hkq : 0 < k := by omega
     have hmw : IntKind.i64.wrap (m : Int) = (m : Int) := IntWalk.i64_in _ (by omega)
     have hkp2 : decide ((k : Int) > 0) = true := decide_eq_true hkp
     by_cases hlt : y + 1 < e2
     · have hs2 : decide (sv ≤ 0) = false := decide_eq_false (by rw [hsv]; unfold sgn; split <;> (try split) <;> omega)
       have hz : ∀ j, j < k + 1 → okAt us j = true := fun j hj => by
         rcases Nat.lt_or_ge j k with c | c
         · exact hok j c
         · obtain rfl : j = k := by omega
           rw [hat]; exact decide_eq_true hlt
       have HNO := zh (zi hz (zi hg hGl))
       clear hM hGl hX hr hf hL hLu hg hok hkL g1 hyk hvc hSg hcell hm1 hy hat hyn hy1 hyG hNx hsv hrw hCm hcell2 hS0 u0 u2 g2 g3 hm2 hy2 hym hneg hk00 hlt hkm hz
       go_upto_region 4 with fail
       first
         | go_region_held3 (fun W => W.cell? ⟨b, k * 2 + 1, none⟩ = some (.int .i64 (x1 : Int)) ∧ W.cell? ⟨b, m * 2 + 1, none⟩ = some (.int .i64 (x2 : Int))) (first | exact HCB.out _ _ _ H6.out.1 _ (by repeat (first | with_reducible exact HN6.out | with_reducible exact zb | with_reducible refine Below.drew ?_ | with_reducible refine Zaa ?_ _)) | exact HS0.out _ (by repeat (first | with_reducible exact HN.out | with_reducible exact zb | with_reducible refine Below.drew ?_ | with_reducible refine Zaa ?_ _)))
             (first
             | (go_at_call 46; refine (HSG.out _ (by repeat (first | with_reducible exact HN.out | with_reducible exact zb | with_reducible refine Below.drew ?_ | with_reducible refine Zaa ?_ _))).mono ?_; rintro e5 w5 ⟨rfl, hb5⟩
                have HN := zh hb5
                clear hb5)
             | (go_at_call 36; refine (HNX.out _ (by repeat (first | with_reducible exact HN.out | with_reducible exact zb | with_reducible refine Below.drew ?_ | with_reducible refine Zaa ?_ _))).mono ?_; rintro e6 w6 ⟨f6, s6, i6, rfl, hg6, hi6⟩
                have H6 := zh (zi hg6 hi6)
                have HN6 := zh (Below.refl w6.heap.size w6)
                have HCM6 := zh (HCM.out f6 s6 i6 w6 hg6 hi6)
                clear hg6 hi6)
             | (go_at_call 16; refine (HCM6.out _ (by repeat (first | with_reducible exact HN6.out | with_reducible exact zb | with_reducible refine Below.drew ?_ | with_reducible refine Zaa ?_ _))).mono ?_; rintro e7 w7 ⟨rfl, hb7⟩
                have HN6 := zh hb7
                clear hb7))
         | fail
       all_goals
         go_wp2
         exact ⟨⟨k + 1, f6, s6, by omega, by go_num, (HNO.out.2.1.trans H6.out.1).below HN6.out, HNO.out.1⟩, by simp [intOf]; omega⟩
     · have hs2 : decide (sv ≤ 0) = true := decide_eq_true (by rw [hsv]; unfold sgn; split <;> (try split) <;> omega)
       have hno := Zib (show k < us.length by omega) (by rw [hat]; exact decide_eq_false hlt)
       have HNO := zh (zi hno (zi hg hGl))
       clear hM hGl hX hr hf hL hLu hg hok hkL g1 hyk hvc hSg hcell hm1 hy hat hyn hy1 hyG hNx hsv hrw hCm hcell2 hS0 u0 u2 g2 g3 hm2 hy2 hym hneg hk00 hlt hkm hno
       go_upto_region 4 with fail
       first
         | go_region_held3 (fun W => W.cell? ⟨b, k * 2 + 1, none⟩ = some (.int .i64 (x1 : Int)) ∧ W.cell? ⟨b, m * 2 + 1, none⟩ = some (.int .i64 (x2 : Int))) (first | exact HCB.out _ _ _ H6.out.1 _ (by repeat (first | with_reducible exact HN6.out | with_reducible exact zb | with_reducible refine Below.drew ?_ | with_reducible refine Zaa ?_ _)) | exact HS0.out _ (by repeat (first | with_reducible exact HN.out | with_reducible exact zb | with_reducible refine Below.drew ?_ | with_reducible refine Zaa ?_ _)))
             (first
             | (go_at_call 46; refine (HSG.out _ (by repeat (first | with_reducible exact HN.out | with_reducible exact zb | with_reducible refine Below.drew ?_ | with_reducible refine Zaa ?_ _))).mono ?_; rintro e5 w5 ⟨rfl, hb5⟩
                have HN := zh hb5
                clear hb5)
             | (go_at_call 36; refine (HNX.out _ (by repeat (first | with_reducible exact HN.out | with_reducible exact zb | with_reducible refine Below.drew ?_ | with_reducible refine Zaa ?_ _))).mono ?_; rintro e6 w6 ⟨f6, s6, i6, rfl, hg6, hi6⟩
                have H6 := zh (zi hg6 hi6)
                have HN6 := zh (Below.refl w6.heap.size w6)
                have HCM6 := zh (HCM.out f6 s6 i6 w6 hg6 hi6)
                clear hg6 hi6)
             | (go_at_call 16; refine (HCM6.out _ (by repeat (first | with_reducible exact HN6.out | with_reducible exact zb | with_reducible refine Below.drew ?_ | with_reducible refine Zaa ?_ _))).mono ?_; rintro e7 w7 ⟨rfl, hb7⟩
                have HN6 := zh hb7
                clear hb7))
         | fail
       all_goals
         go_wp2
         refine bodyPost_ret (v := .bool false) (by simp [results, Tryz.results59, go_sem]) rfl ⟨_, _, by rw [HNO.out.1], (((HNO.out.2.1.trans H6.out.1).below HN6.out).L HNO.out.2.2)⟩
   · have hkn : k = L := by omega
     subst hkn
     have hk' : ¬ (k : Int) < (k : Int) := by omega
     have hyes := Zla (us := us) (fun j hj => hok j (by omega))
     have HNO := zh (zi hyes (zi hg hGl))
     clear hM hGl hX hr hf hL hLu hg hok hkL hk hyes
     go_wp2
     refine bodyPost_ret (v := .bool true) (by simp [results, Tryz.results59, go_sem]) rfl ⟨by rw [HNO.out.1], fk, vk, HNO.out.2.1.L HNO.out.2.2⟩
end
section
open Go.RowKit
variable {F : Nat → Prop} {W W' W1 W2 wl : World} {p n n' m m' : Nat} {fv fv' fv1 fk fk' : Value} {vs vs' vs1 G vk vk' : List Int}
theorem WL.keepF (h : WL W p fv vs n) (hk : Keeps F W W') (hF : ∀ b, F b → ¬ wB p fv b ∧ Off W fv vs.length b) : WL W' p fv vs n := by
 obtain ⟨G, ⟨rows, fs, hs, hgg, hok⟩, hn⟩ := h
 have hpl := (Array.getElem?_eq_some_iff.1 hs.box).1
 refine ⟨G, ⟨rows, fs, ⟨(hk.block p hpl (fun e => (hF p e).1 (.inl rfl))).trans hs.box, Zdv hs.forms hk (fun b hb e => (hF b e).1 (.inr hb)), hs.len, fun i f hf => ?_⟩, hgg, hok⟩, hn⟩
 obtain ⟨v, h1, h2⟩ := hs.row i f hf
 have hil := (List.getElem?_eq_some_iff.1 hf).1
 obtain ⟨b0, cap, e0⟩ := Go.Joins.ownsRow_form hs.forms (by omega)
 have hff := hs.forms
 rw [e0] at hff
 exact ⟨v, h1, Zdv h2 hk (fun b hb e => (hF b e).2 b0 i cap v (by rw [e0, hgg.len]) (by rw [hgg.len]; exact hil) ((hff.cellAt i (by omega)).trans h1) hb)⟩
theorem Off.keepF {b N : Nat} (h : Off W fv N b) (hk : Keeps F W W') (hF : ∀ k, fv.ownBlock = some k → k < W.heap.size ∧ ¬ F k) : Off W' fv N b := fun g i c v e hi hc => by
 have hg := hF g (by rw [e]; rfl)
 refine h g i c v e hi ?_
 rw [hk.cell i hg.1 hg.2] at hc
 exact hc
theorem WL.offK {e : TypeId} {c : Array Value} {b : Nat} (h : WL W p fv vs n) (hb : W.heap[b]? = some (.cells c e (0, 0))) (h1 : e ≠ 64) : Off W fv vs.length b := fun g i c' v ev hi hc hk => by
 obtain ⟨z, hz⟩ : ∃ z, vs[i]? = some z := ⟨_, List.getElem?_eq_getElem hi⟩
 obtain ⟨b0, c0, v0, f0, x1, x2, x3, _⟩ := h.form hz
 rw [ev] at x1
 simp only [Value.slice.injEq, Option.some.injEq, Addr.mk.injEq, and_true] at x1
 obtain ⟨rfl, _, _⟩ := x1
 rw [hc] at x2
 cases x2
 obtain ⟨c2, h2⟩ := Zau x3 b hk
 rw [hb] at h2
 cases h2
 exact h1 rfl
theorem WL.bltK (h : WL W p fv vs n) : ∀ k, wB p fv k → k < W.heap.size := by
 obtain ⟨G, ⟨rows, fs, hs, hg, _⟩, _⟩ := h
 intro k hk
 rcases hk with rfl | hk
 · exact (Array.getElem?_eq_some_iff.1 hs.box).1
 · exact (hs.forms.lt k hk).2
theorem GrowL.keepF (h : GrowL W p fv vs fk vk wl n) (hk : Keeps F wl W') (hF : ∀ b, F b → ¬ wB p fk b ∧ Off wl fk vk.length b ∧ W.heap.size ≤ b) : GrowL W p fv vs fk vk W' n := by
 obtain ⟨h1, h2, h3, h4, h5⟩ := h
 refine ⟨h1.keepF hk (fun b hb => ⟨(hF b hb).1, (hF b hb).2.1⟩), h2, h3.trans hk (fun i hi => .inr (hF i hi).2.2), h4, fun b hb ho => (h5 b hb ho).keepF hk (fun k hk2 => ⟨h1.bltK k (.inr hk2), fun hf => (hF k hf).1 (.inr hk2)⟩)⟩
def intL (is : List Nat) : List Value := is.map (fun i : Nat => Value.int .i64 (i : Int))
theorem Zp0 (a b : List Nat) : intL (a ++ b) = intL a ++ intL b := by simp [intL]
def PlV (vk : List Int) : List Nat → List Int → Prop
 | [], [] => True
 | i :: is, z :: zs => vk[i]? = some z ∧ PlV vk is zs
 | _, _ => False
theorem PlV.len : ∀ {is : List Nat} {zs : List Int}, PlV vk is zs → is.length = zs.length
 | [], [], _ => rfl
 | _ :: is, _ :: zs, h => by simp only [List.length_cons]; rw [PlV.len h.2]
 | [], _ :: _, h => h.elim
 | _ :: _, [], h => h.elim
theorem PlV.get : ∀ {is : List Nat} {zs : List Int}, PlV vk is zs → ∀ (i : Nat) (h1 : i < is.length) (h2 : i < zs.length), vk[is[i]]? = some zs[i]
 | _ :: is, _ :: zs, h, 0, _, _ => h.1
 | _ :: is, _ :: zs, h, i + 1, h1, h2 => PlV.get h.2 i (by simpa using h1) (by simpa using h2)
theorem PlV.mono (hv : vk <+: vk') : ∀ {is : List Nat} {zs : List Int}, PlV vk is zs → PlV vk' is zs
 | [], [], _ => trivial
 | _ :: is, _ :: zs, h => ⟨Zci hv h.1, PlV.mono hv h.2⟩
 | [], _ :: _, h => h.elim
 | _ :: _, [], h => h.elim
theorem PlV.snoc {i : Nat} {z : Int} (h2 : vk[i]? = some z) : ∀ {is : List Nat} {zs : List Int}, PlV vk is zs → PlV vk (is ++ [i]) (zs ++ [z])
 | [], [], _ => ⟨h2, trivial⟩
 | _ :: is, _ :: zs, h => ⟨h.1, PlV.snoc h2 h.2⟩
 | [], _ :: _, h => h.elim
 | _ :: _, [], h => h.elim
structure Ls (W : World) (p : Nat) (fv : Value) (vs : List Int) (fk : Value) (vk : List Int) (n : Nat) (va : Value) (is : List Nat) (zs : List Int) (wl : World) : Prop where
 gl : GrowL W p fv vs fk vk wl n
 row : wl.ownsRow W.heap.size 3 1 va is.length (intL is)
 pl : PlV vk is zs
 wts : ∀ z ∈ zs, wt z ≤ 1010
section
variable {va vb va' vb' : Value} {is : List Nat} {zs : List Int} {f : List Wt} {us : List (Bool × Int)} {r : Nat} {o : Option Nat} {rest : List Nat} {bad : Bool}
structure Lt (W : World) (fk : Value) (vk : List Int) (vb : Value) (f : List Wt) (us : List (Bool × Int)) (wl : World) : Prop where
 po : PO W.heap.size wl fk vk vb f.length f
 fw : FWs vk f us
theorem Ls.keepF (h : Ls W p fv vs fk vk n va is zs wl) (hk : Keeps F wl W') (hF : ∀ b, F b → ¬ wB p fk b ∧ Off wl fk vk.length b ∧ W.heap.size ≤ b ∧ va.ownBlock ≠ some b) : Ls W p fv vs fk vk n va is zs W' :=
 ⟨h.gl.keepF hk (fun b hb => ⟨(hF b hb).1, (hF b hb).2.1, (hF b hb).2.2.1⟩), Zdv h.row hk (fun b hb e => (hF b e).2.2.2 hb), h.pl, h.wts⟩
theorem Lt.keepF (hl : Ls W p fv vs fk vk n va is zs wl) (h : Lt W fk vk vb f us wl) (hk : Keeps F wl W') (hF : ∀ b, F b → ¬ wB p fk b ∧ vb.ownBlock ≠ some b) : Lt W fk vk vb f us W' :=
 ⟨⟨Zdv h.po.own hk (fun b hb e => (hF b e).2 hb), fun b hb => (h.po.off b hb).keepF hk (fun k hk2 => ⟨hl.gl.1.bltK k (.inr hk2), fun hf => (hF k hf).1 (.inr hk2)⟩)⟩, h.fw⟩
theorem Ls.more (h : Ls W p fv vs fk vk n va is zs wl) (hn : n ≤ n') : Ls W p fv vs fk vk n' va is zs wl := ⟨h.gl.more hn, h.row, h.pl, h.wts⟩
theorem Ls.below (h : Ls W p fv vs fk vk n va is zs wl) (hb : Below wl.heap.size wl W') : Ls W p fv vs fk vk n va is zs W' := ⟨h.gl.below hb, Zac h.row hb, h.pl, h.wts⟩
theorem Lt.below (hl : Ls W p fv vs fk vk n va is zs wl) (h : Lt W fk vk vb f us wl) (hb : Below wl.heap.size wl W') : Lt W fk vk vb f us W' := ⟨h.po.stepL hl.gl.1 ((GrowL.refl hl.gl.1).below hb), h.fw⟩
theorem Ls.rd (h : Ls W p fv vs fk vk n va is zs wl) (hr : RdV wl r o rest bad) : ¬ wB p fk r ∧ Off wl fk vk.length r ∧ va.ownBlock ≠ some r := by
 obtain ⟨v, h1, _⟩ := hr
 refine ⟨h.gl.1.not h1 (by decide) (by decide), h.gl.1.offK h1 (by decide), fun e => ?_⟩
 obtain ⟨c, hc⟩ := Zau h.row r e
 rw [h1] at hc; cases hc
theorem Lt.rd (h : Lt W fk vk vb f us wl) (hr : RdV wl r o rest bad) : vb.ownBlock ≠ some r := fun e => by
 obtain ⟨v, h1, _⟩ := hr
 obtain ⟨c, hc⟩ := Zau h.po.own r e
 rw [h1] at hc; cases hc
theorem Ls.num {k : Nat} {e : Ending} (h : Ls W p fv vs fk vk n va is zs wl) (hr : RdV wl r o rest bad) (hrw : W.heap.size ≤ r) (hN : PostN wl r o rest bad k e W') : Ls W p fv vs fk vk n va is zs W' := by
 obtain ⟨a, b, c⟩ := h.rd hr
 exact h.keepF hN.1 (fun q hq => by rw [hq]; exact ⟨a, b, hrw, c⟩)
theorem Lt.num {k : Nat} {e : Ending} (h : Ls W p fv vs fk vk n va is zs wl) (ht : Lt W fk vk vb f us wl) (hr : RdV wl r o rest bad) (hN : PostN wl r o rest bad k e W') : Lt W fk vk vb f us W' := by
 obtain ⟨a, b, c⟩ := h.rd hr
 exact ht.keepF h hN.1 (fun q hq => by rw [hq]; exact ⟨a, ht.rd hr⟩)
theorem RdV.world (hr : RdV W r o rest bad) (h : WL W p fk vk n) (ho : ∀ k, o = some k → ¬ wB p fk k) (k : GrowL W p fk vk fk' vk' W' n') : RdV W' r o rest bad := by
 obtain ⟨v, h1, h2, h3, h4⟩ := hr
 exact RdV.keep ⟨v, h1, h2, h3, h4⟩ k.2.2.1 (h.not h1 (by decide) (by decide)) ho
theorem Ls.world (h : Ls W p fv vs fk vk n va is zs wl) (k : GrowL wl p fk vk fk' vk' W' n') : Ls W p fv vs fk' vk' n' va is zs W' :=
 ⟨h.gl.trans k, h.gl.1.own h.row (by decide) (by decide) k.2.2.1, h.pl.mono k.2.1, h.wts⟩
theorem Lt.push {b : Bool} {x : Nat} {y : Int} (h : Ls W p fv vs fk vk n va is zs wl) (ht : Lt W fk vk vb f us wl) (hr : RdV wl r o rest bad) (hlow : ∀ k, o = some k → k < W.heap.size) (hW : Below wl.heap.size wl W1) (hx : vk[x]? = some y)
   (ho : W'.ownsRow W.heap.size 64 2 vb' (f.length + 1) (flatW f ++ cellsW (b, x))) (hg : W1.grownBy W' vb.ownBlock) (hat : ∀ k, vb'.ownBlock = some k → vb.ownBlock = some k ∨ W1.heap.size ≤ k) :
   Ls W p fv vs fk vk n va is zs W' ∧ Lt W fk vk vb' (f ++ [(b, x)]) (us ++ [(b, y)]) W' ∧ RdV W' r o rest bad := by
 have h1 := h.below hW
 have ht1 := ht.below h hW
 have hr1 : RdV W1 r o rest bad := hr.keep (Zbe (F := fun _ => False) hW) (fun e => e) (fun _ _ e => e)
 have hk : Keeps (fun q => vb.ownBlock = some q) W1 W' := ⟨hg.os, hg.tape, hg.output, hg.size, fun q a e => hg.block q a (fun e2 => e e2.symm)⟩
 have hne : ∀ q, vb.ownBlock = some q → va.ownBlock ≠ some q := fun q hq e => by
   obtain ⟨c1, e1⟩ := Zau ht1.po.own q hq
   obtain ⟨c2, e2⟩ := Zau h1.row q e
   rw [e1] at e2; cases e2
 have hoff : ∀ q, vb'.ownBlock = some q → Off W1 fk vk.length q := fun q hq => by
   rcases hat q hq with e | e
   · exact ht1.po.off q e
   · exact h1.gl.1.off e
 refine ⟨h1.keepF hk (fun q hq => ⟨ht1.po.notL h1.gl.1 hq, ht1.po.off q hq, (ht1.po.own.lt q hq).1, hne q hq⟩), ⟨⟨?_, fun q hq => (hoff q hq).keepF hk (fun k hk2 => ⟨h1.gl.1.bltK k (.inr hk2), fun hf => ht1.po.notL h1.gl.1 hf (.inr hk2)⟩)⟩, FWs.snoc ⟨rfl, hx⟩ ht1.fw⟩, hr1.keep hk (fun e => ht1.rd hr1 e) (fun k hk2 e => ?_)⟩
 · rw [Zcs, List.length_append]
   simpa [flatW] using ho
 · have := hlow k hk2
   have := (ht1.po.own.lt k e).1
   omega
theorem Ls.push {x : Nat} {y : Int} (h : Ls W p fv vs fk vk n va is zs wl) (hr : RdV wl r o rest bad) (hlow : ∀ k, o = some k → k < W.heap.size) (hW : Below wl.heap.size wl W1) (hx : vk[x]? = some y) (hy : wt y ≤ 1010)
   (ho : W'.ownsRow W.heap.size 3 1 va' (is.length + 1) (intL is ++ [.int .i64 (x : Int)])) (hg : W1.grownBy W' va.ownBlock) :
   Ls W p fv vs fk vk n va' (is ++ [x]) (zs ++ [y]) W' ∧ RdV W' r o rest bad := by
 have h1 := h.below hW
 have hr1 : RdV W1 r o rest bad := hr.keep (Zbe (F := fun _ => False) hW) (fun e => e) (fun _ _ e => e)
 have hk : Keeps (fun q => va.ownBlock = some q) W1 W' := ⟨hg.os, hg.tape, hg.output, hg.size, fun q a e => hg.block q a (fun e2 => e e2.symm)⟩
 have hkind : ∀ q, va.ownBlock = some q → ¬ wB p fk q ∧ Off W1 fk vk.length q ∧ W.heap.size ≤ q := fun q hq => by
   obtain ⟨c, hc⟩ := Zau h1.row q hq
   exact ⟨h1.gl.1.not hc (by decide) (by decide), h1.gl.1.offK hc (by decide), (h1.row.lt q hq).1⟩
 refine ⟨⟨h1.gl.keepF hk hkind, ?_, PlV.snoc hx h1.pl, fun z hz => ?_⟩, hr1.keep hk (fun e => (h1.rd hr1).2.2 e) (fun k hk2 e => ?_)⟩
 · rw [Zp0, List.length_append]
   exact ho
 · rcases List.mem_append.1 hz with e | e
   · exact h1.wts z e
   · rw [List.mem_singleton.1 e]; exact hy
 · have := hlow k hk2
   have := (h1.row.lt k e).1
   omega
end
end
section
open Go.RowKit
variable {F : Nat → Prop} {W W' W1 W2 wl : World} {p n n' m m' : Nat} {fv fv' fv1 fk fk' : Value} {vs vs' vs1 G vk vk' : List Int}
def NumR (rest : List Nat) (bad : Bool) (k s : Nat) (rest' : List Nat) (bad' : Bool) : Prop :=
 (rest.length < k ∧ s = 0 ∧ rest' = rest ∧ bad' = true) ∨ (k ≤ rest.length ∧ s = numN (rest.take k) ∧ rest' = rest.drop k ∧ bad' = bad)
def PostR (W : World) (r : Nat) (o : Option Nat) (rest : List Nat) (bad : Bool) (k : Nat) (e : Ending) (w' : World) : Prop :=
 ∃ (s : Nat) (rest' : List Nat) (bad' : Bool), e = .returned (.int .i64 (s : Int)) ∧ s ≤ 65535 ∧ PostN W r o rest bad k e w' ∧ RdV w' r o rest' bad' ∧ ByteL rest' ∧ NumR rest bad k s rest' bad'
theorem PostN.R {r k : Nat} {o : Option Nat} {rest : List Nat} {bad : Bool} {e : Ending} {w' : World} (h : PostN W r o rest bad k e w') (hb : ByteL rest) (hk : k ≤ 2) : PostR W r o rest bad k e w' := by
 have h0 := h
 obtain ⟨hk1, ⟨h1, h2, h3⟩ | ⟨h1, h2, h3⟩⟩ := h
 · exact ⟨0, rest, true, h2, by omega, h0, h3, hb, .inl ⟨h1, rfl, rfl, rfl⟩⟩
 · exact ⟨_, _, _, h2, (Zoh (fun x hx => hb x (List.mem_of_mem_take hx))).2 (by rw [List.length_take]; omega), h0, h3, fun x hx => hb x (List.mem_of_mem_drop hx), .inr ⟨h1, rfl, rfl, rfl⟩⟩
theorem Zm1 {r : Nat} {o : Option Nat} {rest : List Nat} {bad : Bool} (h : RdV W r o rest bad) (hb : ByteL rest) : Calls Tryz.prog 58 #[.pointer (some ⟨r, 0, none⟩), .int .i64 1] W (PostR W r o rest bad 1) :=
 (Zfz (k := 1) h hb (by omega) (by omega)).mono (fun _ _ h => h.R hb (by omega))
theorem Zfo {r : Nat} {o : Option Nat} {rest : List Nat} {bad : Bool} (h : RdV W r o rest bad) (hb : ByteL rest) : Calls Tryz.prog 58 #[.pointer (some ⟨r, 0, none⟩), .int .i64 2] W (PostR W r o rest bad 2) :=
 (Zfz (k := 2) h hb (by omega) (by omega)).mono (fun _ _ h => h.R hb (by omega))
def appT (us : List (Bool × Int)) (T : Option (List (Bool × Int) × List Nat)) : Option (List (Bool × Int) × List Nat) := T.map (fun q => (us ++ q.1, q.2))
theorem Zp1 (T : Option (List (Bool × Int) × List Nat)) : appT [] T = T := by cases T <;> simp [appT]
theorem Zm2 {zs : List Int} {kk s at_ : Nat} {us : List (Bool × Int)} {rest r5 r6 : List Nat} {b5 b6 : Bool} {T : Option (List (Bool × Int) × List Nat)} (h : appT us (readTermsW zs (kk + 1) rest) = T) (h5 : NumR rest false 1 s r5 b5) (h6 : NumR r5 b5 2 at_ r6 b6) :
   (b6 = true → T = none) ∧ (1 < s ∨ zs.length ≤ at_ → T = none) ∧ (b6 = false → ¬ (1 < s ∨ zs.length ≤ at_) → appT (us ++ [(s == 1, zs.getD at_ 0)]) (readTermsW zs kk r6) = T ∧ r6.length + 3 = rest.length) := by
 rcases h5 with ⟨a1, rfl, rfl, rfl⟩ | ⟨a1, rfl, rfl, rfl⟩
 · have hr : r5 = [] := List.length_eq_zero_iff.1 (by omega)
   subst hr
   have hT : T = none := by rw [← h]; simp [readTermsW, appT]
   rcases h6 with ⟨c1, rfl, rfl, rfl⟩ | ⟨c1, _⟩
   · exact ⟨fun _ => hT, fun _ => hT, fun e => (by cases e)⟩
   · simp at c1
 · match rest, a1 with
   | s0 :: r, _ =>
     have e0 : numN ((s0 :: r).take 1) = s0 := by simp [numN]
     have e1 : (s0 :: r).drop 1 = r := rfl
     rw [e1] at h6
     rw [e0]
     rcases h6 with ⟨c1, rfl, rfl, rfl⟩ | ⟨c1, rfl, rfl, rfl⟩
     · have hT : T = none := by
         rw [← h]
         match r6, c1 with
         | [], _ => simp [readTermsW, appT]
         | [a], _ => simp [readTermsW, appT]
         | a :: b :: l, c1 => simp at c1; omega
       exact ⟨fun _ => hT, fun _ => hT, fun e => (by cases e)⟩
     · match r, c1 with
       | a :: b :: r', _ =>
         rw [readTermsW] at h
         refine ⟨fun e => (by cases e), fun e => ?_, fun _ e => ⟨?_, ?_⟩⟩
         · simp only [List.take_succ_cons, List.take_zero, Ze7] at e
           rw [if_pos e] at h
           rw [← h]; rfl
         · simp only [List.take_succ_cons, List.take_zero, Ze7, List.drop_succ_cons, List.drop_zero] at e ⊢
           rw [if_neg e] at h
           rw [← h]
           cases readTermsW zs kk r' with
           | none => rfl
           | some q => simp [appT]
         · simp
       | [a], c1 => simp at c1
       | [], c1 => simp at c1
def partT (T : Option (List (Bool × Int) × List Nat)) : Option (Int × List Nat) :=
 match T with
 | none => none
 | some (us, r') => if formedB us then some (val (us.map tmI), r') else none
theorem Zok {zs : List Int} {c : Nat} {rest r4 : List Nat} {b4 : Bool} (h : NumR rest false 2 c r4 b4) :
   readPartW zs rest = partT (if b4 then none else readTermsW zs c r4) ∧ (b4 = true → c = 0) ∧ (b4 = false → r4.length + 2 = rest.length) := by
 unfold readPartW partT
 rcases h with ⟨a1, rfl, rfl, rfl⟩ | ⟨a1, rfl, rfl, rfl⟩
 · match r4, a1 with
   | [], _ => simp [readTwo]
   | [a], _ => simp [readTwo]
   | a :: b :: l, a1 => simp at a1; omega
 · match rest, a1 with
   | a :: b :: l, _ =>
     refine ⟨?_, fun e => (by cases e), fun _ => by simp⟩
     simp only [List.take_succ_cons, List.take_zero, Ze7, List.drop_succ_cons, List.drop_zero, readTwo]
     simp only [Bool.false_eq_true, if_false]
     all_goals (cases readTermsW zs (a * 256 + b) l <;> rfl)
   | [a], a1 => simp at a1
   | [], a1 => simp at a1
theorem Zol {c : Nat} {bs r0 : List Nat} {b0 : Bool} (h : NumR bs false 2 c r0 b0) :
   (b0 = true → c = 0 ∧ loadW bs = none) ∧ (b0 = false → loadW bs = (readPartsW c [] r0).bind (fun q => q.1.getLast?)) ∧ r0.length ≤ bs.length := by
 unfold loadW
 rcases h with ⟨a1, rfl, rfl, rfl⟩ | ⟨a1, rfl, rfl, rfl⟩
 · match r0, a1 with
   | [], _ => simp [readTwo]
   | [a], _ => simp [readTwo]
   | a :: b :: l, a1 => simp at a1; omega
 · match bs, a1 with
   | a :: b :: l, _ =>
     refine ⟨fun e => (by cases e), fun _ => ?_, by simp; omega⟩
     simp only [List.take_succ_cons, List.take_zero, Ze7, List.drop_succ_cons, List.drop_zero, readTwo]
     cases readPartsW (a * 256 + b) [] l <;> rfl
   | [a], a1 => simp at a1
   | [], a1 => simp at a1
theorem Zm3 (c : Nat) (zs : List Int) (rest : List Nat) : readPartsW (c + 1) zs rest = (readPartW zs rest).bind (fun q => readPartsW c (zs ++ [q.1]) q.2) := by
 rw [readPartsW]
 cases readPartW zs rest <;> rfl
theorem Zom (h : WL W p fv vs n) {v : Value} {l : List Wt} {z : Int} (hl : RowW W v l) (ht : TMs vs l (naf z)) (hw : wt z ≤ 30000) (hn : n + 1 ≤ gMax) : Calls Tryz.prog 37 #[.pointer (some ⟨p, 0, none⟩), v] W (PostW W p fv vs (n + 1) z) := by
 obtain ⟨G, hM, hGl, hX⟩ := h.take [z] (by simpa using hw) (by simpa using hn)
 refine (Ze2 hM hl ht (hX _ (by simp))).mono ?_
 rintro e w' ⟨f', s', i, rfl, h1, h2⟩
 exact ⟨f', s', i, rfl, h1.L (by simpa using hGl), h2⟩
theorem GrowL.outB {o : Option Nat} (h : GrowL W p fv vs fk vk wl n) (hv : ∀ k, o = some k → k < W.heap.size ∧ ¬ wB p fv k) : ∀ k, o = some k → ¬ wB p fk k := fun k hk hw => by
 obtain ⟨h1, h2⟩ := hv k hk
 rcases hw with e | e
 · exact h2 (.inl e)
 · rcases h.2.2.2.1 k e with c | c
   · exact h2 (.inr c)
   · omega
def PostL (W : World) (p : Nat) (fv : Value) (vs : List Int) (n : Nat) (bs : List Nat) (e : Ending) (w' : World) : Prop :=
 ∃ (fv' : Value) (vs' : List Int) (i : Nat), GrowL W p fv vs fv' vs' w' n ∧ ((∃ z, loadW bs = some z ∧ allowedZ z ∧ bytesZ z = bs ∧ vs'[i]? = some z ∧ e = .returned (.tuple #[.int .i64 (i : Int), .bool true])) ∨ ((∀ z, loadW bs = some z → allowedZ z → bytesZ z ≠ bs) ∧ e = .returned (.tuple #[.int .i64 (i : Int), .bool false])))
theorem PostL.none {bs : List Nat} {w' : World} (h : GrowL W p fv vs fk vk w' m) (hm : m ≤ n) (hl : loadW bs = none) : PostL W p fv vs n bs (.returned (.tuple #[.int .i64 0, .bool false])) w' :=
 ⟨fk, vk, 0, h.more hm, .inr ⟨fun z hz => (by rw [hl] at hz; cases hz), rfl⟩⟩
theorem Zlb (h : WL W p fv vs n) {v : Value} {bs : List Nat} (hr : RowV W 1 v bs.length (byV bs)) (hb : ByteL bs) (hl : bs.length ≤ 3000) (hn : n + 3000 ≤ gMax) (hv : ∀ k, v.ownBlock = some k → k < W.heap.size ∧ ¬ wB p fv k) :
   Calls Tryz.prog 20 #[.pointer (some ⟨p, 0, none⟩), v] W (PostL W p fv vs (n + 3000) bs) := by
 obtain ⟨av, cv, rfl⟩ := hr.shape
 obtain ⟨W0, hW0⟩ : ∃ W0, W0 = W.alloc (.cells #[.slice av bs.length cv, .bool false] 98) := ⟨_, rfl⟩
 have hb0 : Below W.heap.size W W0 := by rw [hW0]; exact (zb).alloc (zl) _
 have hp0 : W0.heap[W.heap.size]? = some (.cells #[.slice av bs.length cv, .bool false] 98 (0, 0)) := by rw [hW0]; exact heap_alloc_new W _
 obtain ⟨r, hbx⟩ : ∃ r, r = W.heap.size := ⟨_, rfl⟩
 rw [← hbx] at hp0
 obtain ⟨o, ho⟩ : ∃ o, (Value.slice av bs.length cv).ownBlock = o := ⟨_, rfl⟩
 rw [ho] at hv
 have hlow : ∀ k, o = some k → k < W.heap.size := fun k hk => (hv k hk).1
 have hrd : RdV W0 r o bs false := ⟨_, hp0, hr.below hb0 (zl), ho, fun e => by have := hlow r e; omega⟩
 have hrW : W.heap.size ≤ r := by omega
 have hN2 := Zfo hrd hb
 have HN2 := zh hN2
 have HO := zh ho
 obtain ⟨L, hL⟩ : ∃ L, L = bs.length := ⟨_, rfl⟩
 have HX := zh (zi h (zi hr (zi hb (zi hl (zi hn (zi hv (zi hlow (zi hrW (zi hb0 (zi hrd hL))))))))))
 obtain ⟨i0, hi0, hy0, hy1, hy2⟩ := info_parts infoeW
 have HH0 := zh (zi hi0 (zi hy0 (zi hy1 hy2)))
 obtain ⟨i1, hi1, hz1, hz2, hz3⟩ := info_parts infoeJ
 have HH1 := zh (zi hi1 (zi hz1 (zi hz2 hz3)))
 rw [← hL] at hW0 ⊢
 clear h hr hb hl hn hv hlow hrW hb0 hrd hN2 hp0 ho hi0 hy0 hy1 hy2 hi1 hz1 hz2 hz3 hL
 go_enter Tryz.func20, Tryz.ntmps20
 go_upto_region 2 with fail
 rw [← hW0, ← hbx]
 clear hW0 hbx
 go_upto_region 3 with (first
   | (go_at_call 58; refine (HN2.out).mono ?_; rintro e1 w1 ⟨c, r0, b0, rfl, hc5, hN1, hrd1, hbl1, hnr1⟩
      have H1 := zh (zi hN1 (zi hrd1 (zi hbl1 hnr1)))
      clear hN1 hrd1 hbl1 hnr1))
 go_upto_region 5 with fail
 obtain ⟨hN1, hrd1, hbl1, hnr1⟩ := H1.out
 obtain ⟨h, hr, hb, hl, hn, hv, hlow, hrW, hb0, hrd, hL⟩ := HX.out
 obtain ⟨hs1, hs2, hs3⟩ := Zol hnr1
 have hA : Below w1.heap.size w1 (w1.alloc (.cells #[] 3)) := (zb).alloc (zl) _
 have hG0 : GrowL W p fv vs fv vs W0 n := (GrowL.refl h).below hb0
 have hLs0 : Ls W p fv vs fv vs (n + 3000 - r0.length) (.slice (some ⟨w1.heap.size, 0, none⟩) 0 0) [] [] (w1.alloc (.cells #[] 3)) := by
   have hnr : ¬ wB p fv r := fun e => by have := h.bltK r e; omega
   have hor : Off W0 fv vs.length r := by
     obtain ⟨v, q1, _⟩ := hrd
     exact hG0.1.offK q1 (by decide)
   have hG1 := hG0.keepF hN1.1 (fun q hq => by rw [hq]; exact ⟨hnr, hor, hrW⟩)
   refine ⟨(hG1.below hA).more (by omega), ?_, trivial, fun z hz => by cases hz⟩
   exact World.ownsRow_lit w1 #[] 0 (Nat.le_trans hb0.size hN1.1.size) (by decide) rfl
 have hrd2 : RdV (w1.alloc (.cells #[] 3)) r o r0 b0 := hrd1.keep (Zbe (F := fun _ => False) hA) (fun e => e) (fun _ _ e => e)
 obtain ⟨T0, hT0⟩ : ∃ T0, T0 = readPartsW c [] r0 := ⟨_, rfl⟩
 have HS := zh (zi hLs0 (zi hrd2 (zi hbl1 hs3)))
 have hno : b0 = false → T0 = none → loadW bs = none := fun e1 e2 => by rw [hs2 e1, ← hT0, e2]; rfl
 have HNO := zh hno
 have HT := zh (zi hT0 (zi hs1 hs2))
 clear hN1 hrd1 hbl1 hnr1 h hr hb hl hn hv hlow hrW hb0 hrd hL hs1 hs2 hs3 hA hG0 hLs0 hrd2 hT0 H1 HN2 hno
 go_loopw [8, 9] (fun va i wl => ∃ (k : Nat) (fk : Value) (vk : List Int) (aa : Option Addr) (ca : Nat) (is : List Nat) (zs : List Int) (rest : List Nat) (bad : Bool), k ≤ c ∧ i = .int .i64 (k : Int) ∧ va = .slice aa k ca ∧ is.length = k ∧ Ls W p fv vs fk vk (n + 3000 - rest.length) (.slice aa k ca) is zs wl ∧ RdV wl r o rest bad ∧ ByteL rest ∧ rest.length ≤ bs.length ∧ (bad = true → b0 = true ∧ k = 0) ∧ (bad = false → b0 = false ∧ readPartsW (c - k) zs rest = T0)) (fun _ i _ => c - (intOf i).toNat)
 case atStart =>
   refine ⟨0, fv, vs, _, _, [], [], r0, b0, Nat.zero_le _, rfl, rfl, rfl, HS.out.1, HS.out.2.1, HS.out.2.2.1, HS.out.2.2.2, fun e => ⟨e, rfl⟩, fun e => ⟨e, ?_⟩⟩
   rw [HT.out.1, Nat.sub_zero]
 case round =>
   obtain ⟨k, fk, vk, aa, ca, is, zs, rest, bad, hkc, rfl, rfl, hil, hLs, hRd, hbl, hrl, hbad, hgood⟩ := hrel
   clear HS
   by_cases hk : k < c
   · have hk' : (k : Int) < (c : Int) := by omega
     obtain rfl : bad = false := by
       cases bad with
       | false => rfl
       | true =>
         obtain ⟨e, _⟩ := hbad rfl
         have := (HT.out.2.1 e).1
         omega
     obtain ⟨hb0f, hrp⟩ := hgood rfl
     obtain ⟨v0, hbox, hrow0, ho0, hno0⟩ := hRd
     obtain ⟨x0, x1⟩ := Zgm hbox
     have hRd : RdV wr r o rest false := ⟨v0, hbox, hrow0, ho0, hno0⟩
     have hA : Below wr.heap.size wr (wr.alloc (.cells #[] 64)) := (zb).alloc (zl) _
     have hRd2 : RdV (wr.alloc (.cells #[] 64)) r o rest false := hRd.keep (Zbe (F := fun _ => False) hA) (fun e => e) (fun _ _ e => e)
     have hLs2 := hLs.below hA
     have hLt2 : Lt W fk vk (.slice (some ⟨wr.heap.size, 0, none⟩) 0 0) [] [] (wr.alloc (.cells #[] 64)) := by
       have hws : W.heap.size ≤ wr.heap.size := by
         have := hLs.gl.2.2.1.size
         exact this
       exact ⟨⟨lit0 wr _ hws, fun q hq => hLs.gl.1.off_below hA (hLs.gl.1.off (by cases hq; exact zl))⟩, trivial⟩
     have hN2 := Zfo hRd2 hbl
     have HN2 := zh hN2
     have HK0 := zh (zi hkc (zi hil (zi hLs2 (zi hRd2 (zi hbl (zi hrl (zi hb0f (zi hrp (zi hLt2 hk)))))))))
     clear hkc hil hLs hRd hbl hrl hbad hgood hb0f hrp hbox hrow0 ho0 hno0 hA hRd2 hLs2 hLt2 hN2 hk
     go_upto_region 9 with (first
       | (go_at_call 58; refine (HN2.out).mono ?_; rintro e4 w4 ⟨kc, r4, b4, rfl, hk4, hN4, hrd4, hbl4, hnr4⟩
          have H4 := zh (zi hN4 (zi hrd4 (zi hbl4 hnr4)))
          clear hN4 hrd4 hbl4 hnr4))
     obtain ⟨hN4, hrd4, hbl4, hnr4⟩ := H4.out
     obtain ⟨hkc, hil, hLs2, hRd2, hbl, hrl, hb0f, hrp, hLt2, hk⟩ := HK0.out
     obtain ⟨hp1, hp2, hp3⟩ := Zok (zs := zs) hnr4
     obtain ⟨T1, hT1⟩ : ∃ T1, T1 = if b4 then none else readTermsW zs kc r4 := ⟨_, rfl⟩
     rw [← hT1] at hp1
     rw [show c - k = (c - (k + 1)) + 1 by omega, Zm3, hp1] at hrp
     have hrW := HX.out.2.2.2.2.2.2.2.1
     have hLs4 := hLs2.num hRd2 hrW hN4
     have hLt4 := Lt.num hLs2 hLt2 hRd2 hN4
     have HI := zh (zi hLs4 (zi hLt4 (zi hrd4 (zi hbl4 (zi hp2 (zi hp3 hT1))))))
     have HK := zh (zi hkc (zi hil (zi hrl (zi hb0f (zi hrp hk)))))
     clear hN4 hrd4 hbl4 hnr4 hkc hil hLs2 hRd2 hbl hrl hb0f hrp hLt2 hk hp1 hp2 hp3 hT1 hrW hLs4 hLt4 H4 HN2 x0 x1 HK0
     go_loopw [10, 11] (fun vb kv wl => ∃ (kk M : Nat) (ab : Option Addr) (cb : Nat) (f : List Wt) (us : List (Bool × Int)) (r5 : List Nat) (b5 : Bool), kv = .int .i64 (kk : Int) ∧ kk ≤ 65535 ∧ vb = .slice ab M cb ∧ f.length = M ∧ us.length = M ∧ M ≤ 1001 ∧ Ls W p fv vs fk vk (n + 3000 - rest.length) (.slice aa k ca) is zs wl ∧ Lt W fk vk (.slice ab M cb) f us wl ∧ RdV wl r o r5 b5 ∧ ByteL r5 ∧ (∀ u ∈ us, wt u.2 ≤ 1010) ∧ (b5 = true → T1 = none) ∧ (b5 = false → appT us (readTermsW zs kk r5) = T1 ∧ 3 * M + r5.length + 2 ≤ rest.length)) (fun _ kv _ => (intOf kv).toNat)
     case atStart =>
       obtain ⟨hLs4, hLt4, hrd4, hbl4, hp2, hp3, hT1⟩ := HI.out
       refine ⟨kc, 0, _, _, [], [], r4, b4, rfl, hk4, rfl, rfl, rfl, by omega, hLs4, hLt4, hrd4, hbl4, fun u hu => (by cases hu), fun e => (by rw [hT1, e]; rfl), fun e => ⟨?_, by have := hp3 e; omega⟩⟩
       rw [Zp1, hT1, e]; rfl
     case round =>
       obtain ⟨kk, M, ab, cb, f, us, r5, b5, rfl, hkk, rfl, hfM, huM, hM1, hLs, hLt, hRd, hbl, hwu, hbad, hgood⟩ := hrel
       clear HI
       obtain ⟨v0, hbox, hrow0, ho0, hno0⟩ := hRd
       obtain ⟨x0, x1⟩ := Zgm hbox
       have hRd : RdV wr r o r5 b5 := ⟨v0, hbox, hrow0, ho0, hno0⟩
       clear hbox hrow0 ho0 hno0
       by_cases hk0 : 0 < kk
       · have hk0' : (0 : Int) < (kk : Int) := by omega
         cases b5 with
         | true =>
           have hT1 := hbad rfl
           have HZ := zh (zi hLs (zi hT1 hRd))
           clear hLs hLt hRd hbl hwu hbad hgood hT1 hfM huM hM1 hkk hk0
           as_aux_lemma =>
             go_wp2
             refine bodyPost_ret (v := .tuple #[.int .i64 0, .bool false]) (by simp [results, Tryz.results20, go_sem]) rfl ?_
             exact PostL.none HZ.out.1.gl (by omega) (HNO.out HK.out.2.2.2.1 (by rw [← HK.out.2.2.2.2.1, HZ.out.2.1]; rfl))
         | false =>
           obtain ⟨hg1, hg2⟩ := hgood rfl
           have hn1 := Zm1 hRd hbl
           have HN1 := zh hn1
           have HI := zh (zi hLs (zi hLt (zi hRd (zi hbl (zi hwu (zi hg1 (zi hg2 (zi hfM (zi huM (zi hM1 (zi hkk hk0)))))))))))
           clear hLs hLt hRd hbl hwu hbad hgood hg1 hg2 hn1 hfM huM hkk
           go_upto_region 12 with (first
             | (go_at_call 58; (with_reducible refine (HN1.out).mono ?_); rintro e5 w5 ⟨s5, r5', b5, rfl, hs5, hN5, hrd5, hbl5, hnr5⟩
                have HN2 := zh (Zfo hrd5 hbl5)
                have H5 := zh (zi hN5 (zi hrd5 (zi hbl5 hnr5)))
                clear hN5 hrd5 hbl5 hnr5)
             | (go_at_call 58; (with_reducible refine (HN2.out).mono ?_); rintro e6 w6 ⟨at6, r6, b6, rfl, hs6, hN6, hrd6, hbl6, hnr6⟩
                have H6 := zh (zi hN6 (zi hrd6 (zi hbl6 hnr6)))
                clear hN6 hrd6 hbl6 hnr6))
           obtain ⟨hN5, hrd5, hbl5, hnr5⟩ := H5.out
           obtain ⟨hN6, hrd6, hbl6, hnr6⟩ := H6.out
           obtain ⟨hLs, hLt, hRd, hbl, hwu, hg1, hg2, hfM, huM, hM1, hkk, hk0⟩ := HI.out
           obtain ⟨j, rfl⟩ : ∃ j, kk = j + 1 := ⟨kk - 1, by omega⟩
           have hrW := HX.out.2.2.2.2.2.2.2.1
           obtain ⟨q1, q2, q3⟩ := Zm2 hg1 hnr5 hnr6
           have hLs5 := hLs.num hRd hrW hN5
           have hLt5 := Lt.num hLs hLt hRd hN5
           have hLs6 := hLs5.num hrd5 hrW hN6
           have hLt6 := Lt.num hLs5 hLt5 hrd5 hN6
           have hzl : zs.length = k := by rw [← hLs.pl.len]; exact HK.out.2.1
           rw [hzl] at q2 q3
           by_cases hbig : 1 < s5
           · have hbig' : (1 : Int) < (s5 : Int) := by omega
             have HZ := zh (zi hLs6 (zi (q2 (.inl hbig)) hrd6))
             clear hN5 hrd5 hbl5 hnr5 hN6 hrd6 hbl6 hnr6 hLs hLt hRd hbl hwu hg1 hg2 hfM huM hM1 hkk hk0 hrW q1 q2 q3 hLs5 hLt5 hLs6 hLt6 hzl hbig HI H5 H6 HN1 HN2 x0 x1 hs5 hs6
             as_aux_lemma =>
               go_wp2
               refine bodyPost_ret (v := .tuple #[.int .i64 0, .bool false]) (by simp [results, Tryz.results20, go_sem]) rfl ?_
               exact PostL.none HZ.out.1.gl (by omega) (HNO.out HK.out.2.2.2.1 (by rw [← HK.out.2.2.2.2.1, HZ.out.2.1]; rfl))
           · have hbig' : ¬ (1 : Int) < (s5 : Int) := by omega
             by_cases hat : k ≤ at6
             · have hat' : (k : Int) ≤ (at6 : Int) := by omega
               have HZ := zh (zi hLs6 (zi (q2 (.inr hat)) hrd6))
               clear hN5 hrd5 hbl5 hnr5 hN6 hrd6 hbl6 hnr6 hLs hLt hRd hbl hwu hg1 hg2 hfM huM hM1 hkk hk0 hrW q1 q2 q3 hLs5 hLt5 hLs6 hLt6 hzl hbig HI H5 H6 HN1 HN2 x0 x1 hs5 hs6
               as_aux_lemma =>
                 go_wp2
                 refine bodyPost_ret (v := .tuple #[.int .i64 0, .bool false]) (by simp [results, Tryz.results20, go_sem]) rfl ?_
                 exact PostL.none HZ.out.1.gl (by omega) (HNO.out HK.out.2.2.2.1 (by rw [← HK.out.2.2.2.2.1, HZ.out.2.1]; rfl))
             · have hat' : ¬ (k : Int) ≤ (at6 : Int) := by omega
               have hil := HK.out.2.1
               have hai : at6 < is.length := by omega
               have haz : at6 < zs.length := by omega
               have hrow := hLs6.row
               rw [hil] at hrow
               obtain ⟨ba, ca', ea⟩ := Go.Joins.ownsRow_form hrow (by omega)
               cases ea
               have hcell : w6.cell? ⟨ba, at6, none⟩ = some (.int .i64 (is[at6] : Int)) := by
                 have := hrow.cellAt at6 (by omega)
                 rw [this]; simp [intL, hai]
               have hpl := hLs6.pl.get at6 hai haz
               obtain ⟨x, hx⟩ : ∃ x, x = is[at6] := ⟨_, rfl⟩
               obtain ⟨y, hy⟩ : ∃ y, y = zs[at6] := ⟨_, rfl⟩
               rw [← hx] at hcell hpl
               rw [← hy] at hpl
               have hyw : wt y ≤ 1010 := hLs6.wts y (by rw [hy]; exact List.getElem_mem haz)
               have hgd : zs.getD at6 0 = y := by rw [hy]; simp [List.getD, haz]
               obtain ⟨sb, hsb⟩ : ∃ sb, sb = (s5 == 1) := ⟨_, rfl⟩
               have hsb2 : ((s5 : Int) == 1) = sb := by rw [hsb, Bool.eq_iff_iff, beq_iff_eq, beq_iff_eq]; omega
               rw [hgd, ← hsb] at q3
               have hown6 := hLt6.po.own
               rw [hfM] at hown6
               have hat0 : (0 : Int) ≤ (at6 : Int) := by omega
               have hatk : (at6 : Int) < (k : Int) := by omega
               have hrl3 := HK.out.2.2.1
               have hbs3 := HX.out.2.2.2.1
               have hM2 : M ≤ 1000 := by omega
               have hM3 : (M : Int) ≤ 1000 := by omega
               have hj1 : wrap64 (j : Int) = (j : Int) := Za4 (by unfold i64; omega)
               have hws := hLs6.gl.2.2.1.size
               have HO := zh (zi hown6 hws)
               have HQ := zh (zi hLs6 (zi hLt6 (zi hrd6 (zi hbl6 (zi hwu (zi q1 (zi q3 (zi hpl (zi hyw (zi hfM (zi huM (zi hg2 (zi hkk (zi hat hbig))))))))))))))
               clear hN5 hrd5 hbl5 hnr5 hN6 hrd6 hbl6 hnr6 hLs hLt hRd hbl hwu hg1 hg2 hfM huM hkk hk0 hrW q1 q2 q3 hLs5 hLt5 hLs6 hLt6 hzl HI H5 H6 HN1 HN2 x0 x1 hs5 hs6 hil hai haz hrow hpl hx hy hyw hgd hsb hown6 hws hat hbig hM1 hrl3 hbs3
               as_aux_lemma =>
                 go_wp2_with (first
                   | (at_builtin; refine wpList_append_own_at _ rfl _ _ 41 rfl W.heap.size 64 i0 zW 2 16 Tryz.underlying41 HH0.out.1 HH0.out.2.1 HH0.out.2.2.1 HH0.out.2.2.2 rfl (by decide) _ _ _ rfl (HO.out.1.alloc _) ⟨w6.heap.size, 0, none⟩ 1 1 (cellsW (sb, x)) rfl rfl (Zaj w6 _ _ _) (by simp [cellsW, Value.oneCell']) (by unfold maxLen; omega) (by omega) (by have := HO.out.2; simp; omega) ?_; intro v8 w8 hown8 hg8 _ hat8
                      obtain ⟨a8, c8, rfl⟩ := (RowV.of_own hown8).shape
                      have H8 := zh (zi hown8 (zi hg8 hat8))
                      clear hown8 hg8 hat8))
                 obtain ⟨hLs6, hLt6, hrd6, hbl6, hwu, q1, q3, hpl, hyw, hfM, huM, hg2, hkk, hat, hbig⟩ := HQ.out
                 obtain ⟨hown8, hg8, hat8⟩ := H8.out
                 have hlow := HX.out.2.2.2.2.2.2.1
                 obtain ⟨r1, r2, r3⟩ := Lt.push (b := sb) (x := x) (y := y) (vb' := .slice a8 (M + 1) c8) hLs6 hLt6 hrd6 hlow ((zb).alloc (zl) _) hpl (by rw [hfM]; exact hown8) hg8 (fun q hq => by
                   rcases hat8 with e | e
                   · exact .inl (e.symm.trans hq)
                   · rw [e] at hq
                     simp only [Option.some.injEq] at hq
                     exact .inr (by omega))
                 refine ⟨⟨j, M + 1, a8, c8, f ++ [(sb, x)], us ++ [(sb, y)], r6, b6, by rw [hj1], by omega, rfl, by simp [hfM], by simp [huM], by omega, r1, r2, r3, hbl6, fun u hu => ?_, q1, fun e => ?_⟩, by rw [hj1]; simp only [intOf]; omega⟩
                 · rcases List.mem_append.1 hu with e | e
                   · exact hwu u e
                   · rw [List.mem_singleton.1 e]; exact hyw
                 · obtain ⟨t1, t2⟩ := q3 e (by omega)
                   exact ⟨t1, by omega⟩
       · have hk0' : ¬ (0 : Int) < (kk : Int) := by omega
         cases b5 with
         | true =>
           have hT1 := hbad rfl
           have HZ := zh (zi hLs (zi hT1 hRd))
           clear hLs hLt hRd hbl hwu hbad hgood hT1 hfM huM hM1 hkk hk0
           as_aux_lemma =>
             go_wp2
             refine bodyPost_ret (v := .tuple #[.int .i64 0, .bool false]) (by simp [results, Tryz.results20, go_sem]) rfl ?_
             exact PostL.none HZ.out.1.gl (by omega) (HNO.out HK.out.2.2.2.1 (by rw [← HK.out.2.2.2.2.1, HZ.out.2.1]; rfl))
         | false =>
           obtain ⟨hg1, hg2⟩ := hgood rfl
           obtain rfl : kk = 0 := by omega
           have hT1 : T1 = some (us, r5) := by rw [← hg1]; simp [readTermsW, appT]
           have hn3 := HX.out.2.2.2.2.1
           have hrl := HK.out.2.2.1
           have hbs := HX.out.2.2.2.1
           have hRw : RowW wr (.slice ab M cb) f := by
             have := Zah hLt.po.own (Nat.zero_le _)
             exact this
           obtain ⟨n1, hn1⟩ : ∃ n1, n1 = n + 3000 - rest.length := ⟨_, rfl⟩
           have hF := Zj8 hLs.gl.1 hRw hLt.fw (by omega) (fun u hu => by have := hwu u hu; omega) (by omega)
           rw [← hn1] at hF
           cases hfb : formedB us with
           | false =>
             rw [hfb] at hF
             have hpt : partT T1 = none := by rw [hT1]; simp [partT, hfb]
             have HF := zh hF
             have HZ := zh (zi hLs (zi hpt (zi hn1 (show n1 + us.length ≤ n + 3000 by omega))))
             clear hLs hLt hRd hbl hwu hbad hgood hT1 hfM huM hM1 hkk hk0 hg1 hg2 hn3 hrl hbs hRw hn1 hF hpt
             as_aux_lemma =>
               go_wp2_with (first
                 | (go_at_call 59; refine (HF.out).mono ?_; rintro e7 w7 ⟨f7, s7, rfl, hg7⟩
                    have H7 := zh hg7
                    clear hg7))
               refine bodyPost_ret (v := .tuple #[.int .i64 0, .bool false]) (by simp [results, Tryz.results20, go_sem]) rfl ?_
               have hgl := HZ.out.1.gl
               rw [← HZ.out.2.2.1] at hgl
               exact PostL.none (hgl.trans H7.out) HZ.out.2.2.2 (HNO.out HK.out.2.2.2.1 (by rw [← HK.out.2.2.2.2.1, HZ.out.2.1]; rfl))
           | true =>
             rw [hfb] at hF
             obtain ⟨hpos, hna⟩ := Zj6 hfb
             obtain ⟨z, hz⟩ : ∃ z, z = val (us.map tmI) := ⟨_, rfl⟩
             have hnf : naf z = us.map tmI := by rw [hz]; exact Zbn hna
             have hTM : TMs vk f (naf z) := by rw [hnf]; exact hLt.fw.tms hpos
             have hwz : wt z ≤ 1001 := by unfold wt; rw [hnf, List.length_map]; omega
             have hpt : partT T1 = some (z, r5) := by rw [hT1]; simp [partT, hfb, hz]
             have hAt : ∀ (f7 : Value) (s7 : List Int) (w7 : World), GrowL wr p fk vk f7 s7 w7 (n1 + us.length) → Calls Tryz.prog 37 #[.pointer (some ⟨p, 0, none⟩), .slice ab M cb] w7 (PostW w7 p f7 s7 (n1 + us.length + 1) z) := fun f7 s7 w7 hg7 =>
               Zom hg7.1 (GrowL.row hLs.gl.1 hg7 hRw) (hTM.mono hg7.2.1) (by omega) (by omega)
             have HF := zh hF
             have HAT := zh hAt
             have hrow := hLs.row
             rw [HK.out.2.1] at hrow
             have hLs' := hLs
             rw [← hn1] at hLs'
             have HZ := zh (zi hLs' (zi hRd (zi hbl (zi hpt (zi hwz (zi (show n1 + us.length + 1 ≤ n + 3000 - r5.length by omega) (show r5.length ≤ bs.length by omega)))))))
             have hk3 : (k : Int) ≤ 65535 := by omega
             have hout := hLs.gl.outB HX.out.2.2.2.2.2.1
             have HOU := zh hout
             clear hLs hLs' hLt hRd hbl hwu hbad hgood hT1 hfM huM hM1 hkk hk0 hg1 hg2 hn3 hrl hbs hRw hn1 hF hpt hAt hpos hna hz hnf hTM hwz hrow hout
             as_aux_lemma =>
               go_upto_region 17 with (first
                 | (go_at_call 59; refine (HF.out).mono ?_; rintro e7 w7 ⟨f7, s7, rfl, hg7⟩
                    have H7 := zh hg7
                    clear hg7))
               go_wp2_with (first
                 | (at_builtin; refine wpList_append_own_at _ rfl _ _ 32 rfl W.heap.size 3 i1 (.int .i64 0) 1 8 Tryz.underlying32 HH1.out.1 HH1.out.2.1 HH1.out.2.2.1 HH1.out.2.2.2 rfl (by decide) _ _ _ rfl (HO8.out.1.alloc _) ⟨w8.heap.size, 0, none⟩ 1 1 [.int .i64 (i8 : Int)] rfl rfl (Zaj w8 _ _ _) (by simp [Value.oneCell']) (by unfold maxLen; omega) (by omega) (by have := HO8.out.2; simp; omega) ?_; intro v9 w9 hown9 hg9 _ hat9
                    obtain ⟨a9, c9, rfl⟩ := (RowV.of_own hown9).shape
                    have H9 := zh (zi hown9 hg9)
                    clear hown9 hg9 hat9)
                 | (go_at_call 37; refine (HAT.out f7 s7 w7 H7.out).mono ?_; rintro e8 w8 ⟨f8, s8, i8, rfl, hg8, hi8⟩
                    have hL8 := (HZ.out.1.world H7.out).world hg8
                    have hR8 := (HZ.out.2.1.world HZ.out.1.gl.1 HOU.out H7.out).world H7.out.1 ((HZ.out.1.gl.trans H7.out).outB HX.out.2.2.2.2.2.1) hg8
                    have hrow8 := hL8.row
                    rw [HK.out.2.1] at hrow8
                    have HO8 := zh (zi hrow8 hL8.gl.2.2.1.size)
                    have H8 := zh (zi hL8 (zi hR8 hi8))
                    clear hg8 hi8 hL8 hR8 hrow8))
               obtain ⟨hown9, hg9⟩ := H9.out
               obtain ⟨hL8, hR8, hi8⟩ := H8.out
               obtain ⟨hL9, hR9⟩ := hL8.push (va' := .slice a9 (k + 1) c9) hR8 HX.out.2.2.2.2.2.2.1 ((zb).alloc (zl) _) hi8 (by have := HZ.out.2.2.2.2.1; omega) (by rw [HK.out.2.1]; exact hown9) hg9
               have hkc := HK.out.2.2.2.2.2
               refine ⟨⟨k + 1, f8, s8, a9, c9, is ++ [i8], zs ++ [z], r5, false, by omega, by go_num, rfl, by simp [HK.out.2.1], hL9.more HZ.out.2.2.2.2.2.1, hR9, HZ.out.2.2.1, HZ.out.2.2.2.2.2.2, fun e => (by cases e), fun _ => ⟨HK.out.2.2.2.1, ?_⟩⟩, by simp only [intOf]; omega⟩
               rw [← HK.out.2.2.2.2.1, HZ.out.2.2.2.1]
               rfl
   · obtain rfl : k = c := by omega
     have hk' : ¬ (k : Int) < (k : Int) := by omega
     obtain ⟨v0, hbox, hrow0, ho0, hno0⟩ := hRd
     obtain ⟨x0, x1⟩ := Zgm hbox
     clear hbox hrow0 ho0 hno0
     cases bad with
     | true =>
       have hnone := (HT.out.2.1 (hbad rfl).1).2
       have HZ := zh (zi hLs.gl (zi hnone (show n + 3000 - rest.length ≤ n + 3000 by omega)))
       clear hLs hbl hrl hbad hgood hnone hil hkc hk
       as_aux_lemma =>
         go_wp2
         refine bodyPost_ret (v := .tuple #[.int .i64 0, .bool false]) (by simp [results, Tryz.results20, go_sem]) rfl ?_
         exact PostL.none HZ.out.1 HZ.out.2.2 HZ.out.2.1
     | false =>
       obtain ⟨hb0f, hrp⟩ := hgood rfl
       rw [Nat.sub_self, readPartsW] at hrp
       have hload : loadW bs = zs.getLast? := by rw [HT.out.2.2 hb0f, ← HT.out.1, ← hrp]; rfl
       have hzl : zs.length = k := by rw [← hLs.pl.len]; exact hil
       by_cases hk0 : k = 0
       · have hnone : loadW bs = none := by rw [hload, List.length_eq_zero_iff.1 (hzl.trans hk0)]; rfl
         have hk0' : (k : Int) = 0 := by omega
         have hk0b : ((k : Int) == 0) = true := by rw [beq_iff_eq]; exact hk0'
         have HZ := zh (zi hLs.gl (zi hnone (show n + 3000 - rest.length ≤ n + 3000 by omega)))
         clear hLs hbl hrl hbad hgood hnone hil hkc hk hb0f hrp hload hzl hk0
         as_aux_lemma =>
           go_wp2
           refine bodyPost_ret (v := .tuple #[.int .i64 0, .bool false]) (by simp [results, Tryz.results20, go_sem]) rfl ?_
           exact PostL.none HZ.out.1 HZ.out.2.2 HZ.out.2.1
       · obtain ⟨m, hkm⟩ : ∃ m, k = m + 1 := ⟨k - 1, by omega⟩
         have hrow := hLs.row
         rw [hil] at hrow
         obtain ⟨ba, ca', ea⟩ := Go.Joins.ownsRow_form hrow (by omega)
         cases ea
         have hmi : m < is.length := by omega
         have hmz : m < zs.length := by omega
         have hcell : wr.cell? ⟨ba, m, none⟩ = some (.int .i64 (is[m] : Int)) := by
           have := hrow.cellAt m (by omega)
           rw [this]; simp [intL, hmi]
         have hpl := hLs.pl.get m hmi hmz
         obtain ⟨x, hx⟩ : ∃ x, x = is[m] := ⟨_, rfl⟩
         obtain ⟨z, hz⟩ : ∃ z, z = zs[m] := ⟨_, rfl⟩
         rw [← hx] at hcell hpl
         rw [← hz] at hpl
         have hld : loadW bs = some z := by rw [hload, List.getLast?_eq_getElem?, show zs.length - 1 = m by omega, List.getElem?_eq_getElem hmz, hz]
         have hk1 : IntKind.i64.wrap ((k : Int) - 1) = (m : Int) := by rw [IntWalk.i64_in _ (by omega)]; omega
         have hk2 : (k : Int) - 1 = (m : Int) := by omega
         have hmw : IntKind.i64.wrap (m : Int) = (m : Int) := IntWalk.i64_in _ (by omega)
         have hm0 : (0 : Int) ≤ (m : Int) := by omega
         have hmk : (m : Int) < (k : Int) := by omega
         have hk0b : ((k : Int) == 0) = false := by rw [beq_eq_false_iff_ne]; omega
         have hAl := Zhu hLs.gl.1 hpl
         have hgm : GrowL W p fv vs fk vk wr (n + 3000) := hLs.gl.more (by omega)
         have hvr := Zd1 HX.out.2.1 hLs.gl.2.2.1 (fun q hq => by
           rw [HO.out] at hq
           exact (HX.out.2.2.2.2.2.1 q hq).2)
         have HAL := zh hAl
         cases hall : allowedB z with
         | false =>
           have hna : ¬ allowedZ z := fun e => by have := (Zdy z).2 e; rw [hall] at this; cases this
           have HZ := zh (zi hgm (zi hld (zi hna hall)))
           clear hLs hbl hrl hbad hgood hil hkc hk hb0f hrp hload hzl hk0 hkm hrow hmi hmz hpl hx hz hld hAl hgm hvr hall hna
           as_aux_lemma =>
             go_wp2_with (first
               | (go_at_call 26; refine (HAL.out).mono ?_; rintro e7 w7 ⟨rfl, hb7⟩
                  rw [HZ.out.2.2.2]
                  have H7 := zh hb7
                  clear hb7))
             refine bodyPost_ret (v := .tuple #[.int .i64 (x : Int), .bool false]) (by simp [results, Tryz.results20, go_sem]) rfl ?_
             exact ⟨fk, vk, x, HZ.out.1.below H7.out, .inr ⟨fun z' hz' ha => by
               rw [HZ.out.2.1] at hz'
               cases hz'
               exact absurd ha HZ.out.2.2.1, rfl⟩⟩
         | true =>
           have hya := (Zdy z).1 hall
           have hBy := fun W' (hW : Below wr.heap.size wr W') => Zd0 (hLs.gl.1.below hW) hpl hya
           have HBY := zh hBy
           have HZ := zh (zi hgm (zi hld (zi hya (zi hall (zi hvr (zi HX.out.2.2.1 hpl))))))
           have HLL := zh HX.out.2.2.2.2.2.2.2.2.2.2
           clear hLs hbl hrl hbad hgood hil hkc hk hb0f hrp hload hzl hk0 hkm hrow hmi hmz hpl hx hz hld hAl hgm hvr hall hya hBy
           as_aux_lemma =>
             go_wp2_with (first
               | (go_at_call 26; refine (HAL.out).mono ?_; rintro e7 w7 ⟨rfl, hb7⟩
                  rw [HZ.out.2.2.2.1]
                  have H7 := zh hb7
                  clear hb7)
               | (go_at_call 19; refine (HBY.out _ H7.out).mono ?_; rintro e8 w8 ⟨a8, c8, rfl, ho8, hb8⟩
                  have hb9 : Below wr.heap.size wr w8 := H7.out.trans (hb8.mono H7.out.size)
                  have hv8 := HZ.out.2.2.2.2.1.below hb9 (zl)
                  have hsm := Zco (RowV.of_own ho8) hv8 (Zbc _) HZ.out.2.2.2.2.2.1
                  rw [← HLL.out] at hsm
                  have HSM := zh hsm
                  have H8 := zh hb9
                  clear ho8 hb8 hb9 hv8 hsm)
               | (go_at_call 17; refine (HSM.out).mono ?_; rintro e9 w9 ⟨rfl, rfl⟩))
             refine bodyPost_ret (v := .tuple #[.int .i64 (x : Int), .bool (decide (bytesZ z = bs))]) (by simp [results, Tryz.results20, go_sem]) rfl ?_
             refine ⟨fk, vk, x, HZ.out.1.below H8.out, ?_⟩
             by_cases hby : bytesZ z = bs
             · exact .inl ⟨z, HZ.out.2.1, HZ.out.2.2.1, hby, HZ.out.2.2.2.2.2.2, by rw [decide_eq_true hby]⟩
             · refine .inr ⟨fun z' hz' _ => ?_, by rw [decide_eq_false hby]⟩
               rw [HZ.out.2.1] at hz'
               cases hz'
               exact hby
end
section
end
end Go.Proofs.YtlkmgclbckojgaaGreatDoor

