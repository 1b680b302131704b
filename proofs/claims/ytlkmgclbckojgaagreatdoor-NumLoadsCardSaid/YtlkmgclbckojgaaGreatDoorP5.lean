import Derived.Test.YtlkmgclbckojgaaGreatDoorM5
set_option linter.unusedVariables false
set_option linter.unusedSimpArgs false
namespace Go.Proofs.YtlkmgclbckojgaaGreatDoor
section
theorem Zd6 {α β : Type} {f g : β → α → β} : ∀ (l : List α) (b : β), (∀ a ∈ l, ∀ b, f b a = g b a) → l.foldl f b = l.foldl g b
 | [], _, _ => rfl
 | a :: l, b, h => by
   rw [List.foldl_cons, List.foldl_cons, h a (List.mem_cons_self ..)]
   exact Zd6 l _ (fun c hc => h c (List.mem_cons_of_mem _ hc))
def hgtF : Nat → Int → Nat
 | 0, _ => 0
 | n + 1, z => (naf z).foldl (fun h t => max h (hgtF n (t.2 : Int) + 1)) 0
def hgt (z : Int) : Nat := hgtF (z.natAbs + 1) z
theorem Zmm : ∀ (n m : Nat) (z : Int), z.natAbs < n → z.natAbs < m → hgtF n z = hgtF m z
 | 0, _, _, h, _ => by omega
 | _, 0, _, _, h => by omega
 | n + 1, m + 1, z, h, k => by
   simp only [hgtF]
   refine Zd6 _ _ fun t ht b => ?_
   have := Zbf ht
   rw [Zmm n m t.2 (by omega) (by omega)]
theorem Zeo (z : Int) : hgt z = (naf z).foldl (fun h t => max h (hgt (t.2 : Int) + 1)) 0 := by
 rw [hgt, hgtF]
 refine Zd6 _ _ fun t ht b => ?_
 have := Zbf ht
 rw [hgt, Zmm z.natAbs ((t.2 : Int).natAbs + 1) t.2 (by omega) (by omega)]
def visF : Nat → Int → List Int → List Int
 | 0, _, s => s
 | n + 1, z, s => if z ∈ s then s else (naf z).foldl (fun s t => visF n (t.2 : Int) s) s ++ [z]
def vis (z : Int) (s : List Int) : List Int := visF (z.natAbs + 1) z s
theorem Zmn : ∀ (n m : Nat) (z : Int) (s : List Int), z.natAbs < n → z.natAbs < m → visF n z s = visF m z s
 | 0, _, _, _, h, _ => by omega
 | _, 0, _, _, _, h => by omega
 | n + 1, m + 1, z, s, h, k => by
   simp only [visF]
   have : (naf z).foldl (fun s t => visF n (t.2 : Int) s) s = (naf z).foldl (fun s t => visF m (t.2 : Int) s) s := by
     refine Zd6 _ _ fun t ht b => ?_
     have := Zbf ht
     exact Zmn n m t.2 b (by omega) (by omega)
   rw [this]
def visL (l : List Tm) (s : List Int) : List Int := l.foldl (fun s t => vis (t.2 : Int) s) s
theorem Zcv (t : Tm) (l : List Tm) (s : List Int) : visL (t :: l) s = visL l (vis (t.2 : Int) s) := rfl
theorem Zo0 (l : List Tm) (t : Tm) (s : List Int) : visL (l ++ [t]) s = vis (t.2 : Int) (visL l s) := by simp [visL]
theorem Zqm (z : Int) (s : List Int) : vis z s = if z ∈ s then s else visL (naf z) s ++ [z] := by
 rw [vis, visF, visL]
 have : (naf z).foldl (fun s t => visF z.natAbs (t.2 : Int) s) s = (naf z).foldl (fun s t => vis (t.2 : Int) s) s := by
   refine Zd6 _ _ fun t ht b => ?_
   have := Zbf ht
   exact Zmn _ _ t.2 b (by omega) (by omega)
 rw [this]
theorem Zig {z : Int} {s : List Int} (h : z ∈ s) : vis z s = s := by rw [Zqm, if_pos h]
theorem Zc5 {z : Int} {s : List Int} (h : z ∉ s) : vis z s = visL (naf z) s ++ [z] := by rw [Zqm, if_neg h]
def ClosedL (s : List Int) : Prop := ∀ p ∈ s, ∀ t ∈ naf p, (t.2 : Int) ∈ s
structure VisP (N : Nat) (s r : List Int) : Prop where
 pre : ∃ x, r = s ++ x ∧ ∀ p ∈ x, p.natAbs < N
 nd : s.Nodup → r.Nodup
 cl : ClosedL s → ClosedL r
theorem VisP.refl (N : Nat) (s : List Int) : VisP N s s := ⟨⟨[], by simp, by simp⟩, fun h => h, fun h => h⟩
theorem VisP.trans {N : Nat} {s r u : List Int} (h : VisP N s r) (k : VisP N r u) : VisP N s u := by
 obtain ⟨x, rfl, hx⟩ := h.pre
 obtain ⟨y, rfl, hy⟩ := k.pre
 refine ⟨⟨x ++ y, by simp, fun p hp => ?_⟩, fun h0 => k.nd (h.nd h0), fun h0 => k.cl (h.cl h0)⟩
 rcases List.mem_append.1 hp with e | e
 · exact hx p e
 · exact hy p e
theorem VisP.mono {N M : Nat} {s r : List Int} (h : VisP N s r) (hN : N ≤ M) : VisP M s r := by
 obtain ⟨x, rfl, hx⟩ := h.pre
 exact ⟨⟨x, rfl, fun p hp => by have := hx p hp; omega⟩, h.nd, h.cl⟩
theorem VisP.mem {N : Nat} {s r : List Int} (h : VisP N s r) {p : Int} (hp : p ∈ s) : p ∈ r := by
 obtain ⟨x, rfl, hx⟩ := h.pre
 exact List.mem_append_left _ hp
theorem Zji : ∀ (n : Nat) (z : Int) (s : List Int), z.natAbs < n → VisP (z.natAbs + 1) s (vis z s) ∧ z ∈ vis z s
 | 0, _, _, h => by omega
 | n + 1, z, s, h => by
   have hL : ∀ (l : List Tm) (s : List Int), (∀ t ∈ l, t.2 < z.natAbs) → VisP z.natAbs s (visL l s) ∧ ∀ t ∈ l, (t.2 : Int) ∈ visL l s := by
     intro l
     induction l with
     | nil => exact fun s _ => ⟨VisP.refl _ _, by simp⟩
     | cons t l ih =>
       intro s hl
       have ht := hl t (List.mem_cons_self ..)
       obtain ⟨a, b⟩ := Zji n t.2 s (by omega)
       obtain ⟨c, d⟩ := ih (vis (t.2 : Int) s) (fun u hu => hl u (List.mem_cons_of_mem _ hu))
       rw [Zcv]
       refine ⟨(a.mono (by omega)).trans c, fun u hu => ?_⟩
       rcases List.mem_cons.1 hu with rfl | hu
       · exact c.mem b
       · exact d u hu
   by_cases hz : z ∈ s
   · rw [Zig hz]; exact ⟨VisP.refl _ _, hz⟩
   · rw [Zc5 hz]
     obtain ⟨a, b⟩ := hL (naf z) s (fun t ht => Zbf ht)
     refine ⟨?_, by simp⟩
     obtain ⟨x, hx, hx2⟩ := a.pre
     refine ⟨⟨x ++ [z], by rw [hx]; simp, fun p hp => ?_⟩, fun h0 => ?_, fun h0 => ?_⟩
     · rcases List.mem_append.1 hp with e | e
       · have := hx2 p e; omega
       · rw [List.mem_singleton.1 e]; omega
     · refine List.nodup_append.2 ⟨a.nd h0, by simp, fun p hp q hq => ?_⟩
       rw [List.mem_singleton.1 hq]
       rintro rfl
       rw [hx] at hp
       rcases List.mem_append.1 hp with e | e
       · exact hz e
       · have := hx2 _ e; omega
     · intro p hp t ht
       rcases List.mem_append.1 hp with e | e
       · exact List.mem_append_left _ (a.cl h0 p e t ht)
       · rw [List.mem_singleton.1 e] at ht
         exact List.mem_append_left _ (b t ht)
theorem Zo1 (z : Int) (s : List Int) : z ∈ vis z s := (Zji _ z s (Nat.lt_succ_self _)).2
theorem vis_P (z : Int) (s : List Int) : VisP (z.natAbs + 1) s (vis z s) := (Zji _ z s (Nat.lt_succ_self _)).1
theorem Zkk {N : Nat} : ∀ (l : List Tm) (s : List Int), (∀ t ∈ l, t.2 < N) → VisP N s (visL l s) ∧ ∀ t ∈ l, (t.2 : Int) ∈ visL l s
 | [], s, _ => ⟨VisP.refl _ _, by simp⟩
 | t :: l, s, h => by
   have ht := h t (List.mem_cons_self ..)
   obtain ⟨c, d⟩ := Zkk l (vis (t.2 : Int) s) (fun u hu => h u (List.mem_cons_of_mem _ hu))
   rw [Zcv]
   refine ⟨((vis_P (t.2 : Int) s).mono (by omega)).trans c, fun u hu => ?_⟩
   rcases List.mem_cons.1 hu with rfl | hu
   · exact c.mem (Zo1 _ _)
   · exact d u hu
theorem Zo2 : ∀ (n : Nat) (z : Int) (s C : List Int), z.natAbs < n → ClosedL C → z ∈ C → (∀ p ∈ s, p ∈ C) → ∀ p ∈ vis z s, p ∈ C
 | 0, _, _, _, h, _, _, _ => by omega
 | n + 1, z, s, C, h, hC, hz, hs => by
   have hL : ∀ (l : List Tm) (s : List Int), (∀ t ∈ l, t.2 < z.natAbs ∧ (t.2 : Int) ∈ C) → (∀ p ∈ s, p ∈ C) → ∀ p ∈ visL l s, p ∈ C := by
     intro l
     induction l with
     | nil => exact fun s _ hs => hs
     | cons t l ih =>
       intro s hl hs
       rw [Zcv]
       have ht := hl t (List.mem_cons_self ..)
       exact ih _ (fun u hu => hl u (List.mem_cons_of_mem _ hu)) (Zo2 n t.2 s C (by omega) hC ht.2 hs)
   by_cases hzs : z ∈ s
   · rw [Zig hzs]; exact hs
   · rw [Zc5 hzs]
     intro p hp
     rcases List.mem_append.1 hp with e | e
     · exact hL (naf z) s (fun t ht => ⟨Zbf ht, hC z hz t ht⟩) hs p e
     · rw [List.mem_singleton.1 e]; exact hz
def partsZ (z : Int) : List Int := vis z []
theorem Zbu (z : Int) : partsZ z = visL (naf z) [] ++ [z] := Zc5 (by simp)
theorem Zbx (z : Int) : (partsZ z).Nodup := (vis_P z []).nd List.nodup_nil
theorem Zaz (z : Int) : ClosedL (partsZ z) := (vis_P z []).cl (fun p hp => by simp at hp)
theorem Za5 (z : Int) : z ∈ partsZ z := Zo1 z []
theorem Zb6 {z : Int} {C : List Int} (hC : ClosedL C) (hz : z ∈ C) : ∀ p ∈ partsZ z, p ∈ C := Zo2 _ z [] C (Nat.lt_succ_self _) hC hz (by simp)
theorem Zdg : ∀ (l K : List Int), l.Nodup → (∀ p ∈ l, p ∈ K) → l.length ≤ K.length
 | [], _, _, _ => by simp
 | a :: l, K, h, hs => by
   have ha := hs a (List.mem_cons_self ..)
   have h1 := List.nodup_cons.1 h
   have := Zdg l (K.erase a) h1.2 (fun p hp => (List.mem_erase_of_ne (by rintro rfl; exact h1.1 hp)).2 (hs p (List.mem_cons_of_mem _ hp)))
   rw [List.length_erase_of_mem ha] at this
   have : 0 < K.length := List.length_pos_of_mem ha
   simp only [List.length_cons]; omega
theorem Zfe {z : Int} {C : List Int} (hC : ClosedL C) (hz : z ∈ C) : (partsZ z).length ≤ C.length := Zdg _ _ (Zbx z) (Zb6 hC hz)
def weightZ (z : Int) : Nat := (partsZ z).length
def allowedZ (z : Int) : Prop := weightZ z ≤ 2000 ∧ hgt z ≤ 100 ∧ ∀ p ∈ partsZ z, wt p ≤ 300
theorem Zd7 (f : Tm → Nat) : ∀ (l : List Tm) (b n : Nat), b ≤ n → (∀ t ∈ l, f t ≤ n) → l.foldl (fun h t => max h (f t)) b ≤ n
 | [], b, n, h, _ => h
 | t :: l, b, n, h, hl => Zd7 f l _ n (by have := hl t (List.mem_cons_self ..); simp only; omega) (fun u hu => hl u (List.mem_cons_of_mem _ hu))
theorem Zf8 (f : Tm → Nat) : ∀ (l : List Tm) (b : Nat), b ≤ l.foldl (fun h t => max h (f t)) b ∧ ∀ t ∈ l, f t ≤ l.foldl (fun h t => max h (f t)) b
 | [], b => ⟨Nat.le_refl _, by simp⟩
 | t :: l, b => by
   obtain ⟨h1, h2⟩ := Zf8 f l (max b (f t))
   rw [List.foldl_cons]
   refine ⟨by omega, fun u hu => ?_⟩
   rcases List.mem_cons.1 hu with rfl | hu
   · omega
   · exact h2 u hu
theorem Zmo {z : Int} {n : Nat} (h : ∀ t ∈ naf z, hgt (t.2 : Int) + 1 ≤ n) : hgt z ≤ n := by
 rw [Zeo]; exact Zd7 (fun t => hgt (t.2 : Int) + 1) _ _ _ (by omega) h
theorem hgt_ge {z : Int} {t : Tm} (h : t ∈ naf z) : hgt (t.2 : Int) + 1 ≤ hgt z := by
 rw [Zeo z]; exact (Zf8 (fun t => hgt (t.2 : Int) + 1) _ _).2 t h
theorem Zo3 : ∀ (n : Nat) (z : Int), z.natAbs < n → hgt z ≤ z.natAbs
 | 0, _, h => by omega
 | n + 1, z, h => Zmo fun t ht => by
   have := Zbf ht
   have := Zo3 n t.2 (by omega)
   omega
end
section
def insZ (a : Int) : List Int → List Int
 | [] => [a]
 | b :: l => if a ≤ b then a :: b :: l else b :: insZ a l
def sortZ (l : List Int) : List Int := l.foldr insZ []
theorem Zhb (a : Int) : ∀ l : List Int, (insZ a l).Perm (a :: l)
 | [] => List.Perm.refl _
 | b :: l => by
   unfold insZ
   split
   · exact List.Perm.refl _
   · exact ((Zhb a l).cons b).trans (List.Perm.swap a b l)
theorem Zdh : ∀ l : List Int, (sortZ l).Perm l
 | [] => List.Perm.refl _
 | a :: l => (Zhb a (sortZ l)).trans ((Zdh l).cons a)
theorem Zhc (a : Int) : ∀ l : List Int, l.Pairwise (· ≤ ·) → (insZ a l).Pairwise (· ≤ ·)
 | [], _ => by simp [insZ]
 | b :: l, h => by
   unfold insZ
   have hb := List.pairwise_cons.1 h
   split
   · rename_i hab
     refine List.pairwise_cons.2 ⟨fun c hc => ?_, h⟩
     rcases List.mem_cons.1 hc with rfl | hc
     · exact hab
     · have := hb.1 c hc; omega
   · rename_i hab
     refine List.pairwise_cons.2 ⟨fun c hc => ?_, Zhc a l hb.2⟩
     rcases List.mem_cons.1 ((Zhb a l).mem_iff.1 hc) with rfl | hc
     · omega
     · exact hb.1 c hc
theorem Zd8 : ∀ l : List Int, (sortZ l).Pairwise (· ≤ ·)
 | [] => by simp [sortZ]
 | a :: l => Zhc a _ (Zd8 l)
theorem Zff : ∀ {l m : List Int}, l.Perm m → l.Pairwise (· ≤ ·) → m.Pairwise (· ≤ ·) → l = m
 | [], m, h, _, _ => by rw [List.nil_perm.1 h]
 | a :: l, [], h, _, _ => by have := h.length_eq; simp at this
 | a :: l, b :: m, h, hl, hm => by
   have hl' := List.pairwise_cons.1 hl
   have hm' := List.pairwise_cons.1 hm
   have hab : a = b := by
     have h1 : a ∈ b :: m := h.mem_iff.1 (by simp)
     have h2 : b ∈ a :: l := h.mem_iff.2 (by simp)
     rcases List.mem_cons.1 h1 with e | e
     · exact e
     · rcases List.mem_cons.1 h2 with e2 | e2
       · exact e2.symm
       · have := hm'.1 a e; have := hl'.1 b e2; omega
   subst hab
   rw [Zff (List.Perm.cons_inv h) hl'.2 hm'.2]
theorem Zjj {l m : List Int} (h : m.Perm l) (hm : m.Pairwise (· ≤ ·)) : m = sortZ l := Zff (h.trans (Zdh l).symm) hm (Zd8 l)
def listZ (z : Int) : List Int := sortZ (partsZ z).dropLast ++ [z]
theorem Zc3 (z : Int) : partsZ z = (partsZ z).dropLast ++ [z] := by
 rw [Zbu]; simp
theorem Zeg (z : Int) : (listZ z).Perm (partsZ z) := by
 have h := List.Perm.append_right [z] (Zdh (partsZ z).dropLast)
 have e := Zc3 z
 exact h.trans (by rw [← e])
theorem Zce (z : Int) : (listZ z).length = weightZ z := (Zeg z).length_eq
theorem Zhd (z : Int) : (listZ z).Nodup := (Zeg z).nodup_iff.2 (Zbx z)
theorem Zni {z : Int} : ∀ p ∈ (partsZ z).dropLast, 0 ≤ p ∧ p.natAbs < z.natAbs := by
 intro p hp
 rw [Zbu, List.dropLast_concat] at hp
 obtain ⟨x, hx, hx2⟩ := (Zkk (N := z.natAbs) (naf z) [] (fun t ht => Zbf ht)).1.pre
 refine ⟨?_, hx2 p (by rw [hx] at hp; simpa using hp)⟩
 have hC : ∀ (n : Nat) (y : Int) (s : List Int), y.natAbs < n → 0 ≤ y → (∀ p ∈ s, 0 ≤ p) → ∀ p ∈ vis y s, (0 : Int) ≤ p := by
   intro n
   induction n with
   | zero => intro y s h; omega
   | succ n ih =>
     intro y s h hy hs
     by_cases hys : y ∈ s
     · rw [Zig hys]; exact hs
     · rw [Zc5 hys]
       have hL : ∀ (l : List Tm) (s : List Int), (∀ t ∈ l, t.2 < y.natAbs) → (∀ p ∈ s, 0 ≤ p) → ∀ p ∈ visL l s, (0 : Int) ≤ p := by
         intro l
         induction l with
         | nil => exact fun s _ hs => hs
         | cons t l ih2 =>
           intro s hl hs
           rw [Zcv]
           have := hl t (List.mem_cons_self ..)
           exact ih2 _ (fun u hu => hl u (List.mem_cons_of_mem _ hu)) (ih t.2 s (by omega) (by omega) hs)
       intro p hp
       rcases List.mem_append.1 hp with e | e
       · exact hL (naf y) s (fun t ht => Zbf ht) hs p e
       · rw [List.mem_singleton.1 e]; exact hy
 have hL : ∀ (l : List Tm) (s : List Int), (∀ p ∈ s, 0 ≤ p) → ∀ p ∈ visL l s, (0 : Int) ≤ p := by
   intro l
   induction l with
   | nil => exact fun s hs => hs
   | cons t l ih2 =>
     intro s hs
     rw [Zcv]
     exact ih2 _ (hC _ t.2 s (Nat.lt_succ_self _) (by omega) hs)
 exact hL (naf z) [] (by simp) p hp
end
section
def twoN (n : Nat) : List Nat := [n / 256 % 256, n % 256]
def termBy (ps : List Int) (t : Tm) : List Nat := (if t.1 then 1 else 0) :: twoN (ps.idxOf (t.2 : Int))
def termsBy (ps : List Int) (l : List Tm) : List Nat := l.flatMap (termBy ps)
def partBy (ps : List Int) (p : Int) : List Nat := twoN (naf p).length ++ termsBy ps (naf p)
def bytesZ (z : Int) : List Nat := twoN (listZ z).length ++ (listZ z).flatMap (partBy (listZ z))
def readTwo : List Nat → Option (Nat × List Nat)
 | a :: b :: r => some (a * 256 + b, r)
 | _ => none
def readTerms (ps : List Int) : Nat → Nat → Bool → List Nat → Option (List Tm × List Nat)
 | 0, _, _, bs => some ([], bs)
 | c + 1, above, later, s :: a :: b :: r =>
   if 1 < s ∨ above ≤ a * 256 + b ∨ (later = true ∧ a * 256 + b + 1 = above ∧ ps[above]? = some (ps.getD (a * 256 + b) 0 + 1)) then none
   else match readTerms ps c (a * 256 + b) true r with
     | some (l, r') => some ((s == 1, (ps.getD (a * 256 + b) 0).toNat) :: l, r')
     | none => none
 | _ + 1, _, _, _ => none
def readPart (ps : List Int) (bs : List Nat) : Option (Int × List Nat) :=
 match readTwo bs with
 | none => none
 | some (c, r) => if 300 < c then none else
   match readTerms ps c ps.length false r with
   | none => none
   | some (l, r') => some (val l, r')
def readParts : Nat → List Int → List Nat → Option (List Int × List Nat)
 | 0, ps, bs => some (ps, bs)
 | n + 1, ps, bs =>
   match readPart ps bs with
   | none => none
   | some (z, r) => if ps.getLast?.any (fun y => decide (z ≤ y)) then none else readParts n (ps ++ [z]) r
open Classical in
noncomputable def loadP (bs : List Nat) : Option Int :=
 match readTwo bs with
 | none => none
 | some (c, r) => if c = 0 ∨ 2000 < c then none else
   match readParts (c - 1) [] r with
   | none => none
   | some (ps, r) =>
     match readPart ps r with
     | none => none
     | some (z, r) => if r = [] ∧ allowedZ z ∧ weightZ z = c then some z else none
theorem Zdm {n : Nat} (h : n < 65536) (r : List Nat) : readTwo (twoN n ++ r) = some (n, r) := by
 simp only [twoN, List.cons_append, List.nil_append, readTwo]
 congr 2
 omega
theorem Zlm {fs ps x : List Int} (e : fs = ps ++ x) {y : Int} (h : y ∈ ps) : fs.idxOf y < ps.length ∧ ps[fs.idxOf y]? = some y := by
 subst e
 rw [List.idxOf_append, if_pos h]
 have := List.idxOf_lt_length_of_mem h
 exact ⟨this, by rw [List.getElem?_eq_getElem this, List.getElem_idxOf]⟩
theorem Zqn {ps : List Int} (hs : ps.Pairwise (· < ·)) {i j : Nat} {a b : Int} (hi : ps[i]? = some a) (hj : ps[j]? = some b) (h : a < b) : i < j := by
 obtain ⟨h1, e1⟩ := List.getElem?_eq_some_iff.1 hi
 obtain ⟨h2, e2⟩ := List.getElem?_eq_some_iff.1 hj
 rcases Nat.lt_trichotomy i j with x | x | x
 · exact x
 · subst x; rw [e1] at e2; omega
 · have := List.pairwise_iff_getElem.1 hs j i h2 h1 x
   omega
theorem Zfg {ps fs x : List Int} (e : fs = ps ++ x) (hs : ps.Pairwise (· < ·)) (hsz : ps.length < 65536) : ∀ (l : List Tm) (above : Nat) (later : Bool) (r : List Nat), NA l → (∀ t ∈ l, (t.2 : Int) ∈ ps) →
   (later = false → above = ps.length) → (later = true → ∃ q, ps[above]? = some q ∧ ∀ t ∈ l, (t.2 : Int) + 2 ≤ q) → readTerms ps l.length above later (termsBy fs l ++ r) = some (l, r)
 | [], above, later, r, _, _, _, _ => by simp [readTerms, termsBy]
 | t :: l, above, later, r, hn, hm, h1, h2 => by
   obtain ⟨i1, i2⟩ := Zlm e (hm t (List.mem_cons_self ..))
   have hab : fs.idxOf (t.2 : Int) < above := by
     cases later with
     | false => rw [h1 rfl]; exact i1
     | true =>
       obtain ⟨q, q1, q2⟩ := h2 rfl
       exact Zqn hs i2 q1 (by have := q2 t (List.mem_cons_self ..); omega)
   have hpl : fs.idxOf (t.2 : Int) / 256 % 256 * 256 + fs.idxOf (t.2 : Int) % 256 = fs.idxOf (t.2 : Int) := by omega
   have hget : ps.getD (fs.idxOf (t.2 : Int)) 0 = (t.2 : Int) := by simp [List.getD, i2]
   have ih := Zfg e hs hsz l (fs.idxOf (t.2 : Int)) true r hn.tail (fun u hu => hm u (List.mem_cons_of_mem _ hu)) (fun h => by cases h) (fun _ => ⟨_, i2, fun u hu => by have := hn.head u hu; omega⟩)
   have hs1 : ¬ (1 < (if t.1 then 1 else 0 : Nat)) := by split <;> omega
   have hb : ¬ (later = true ∧ fs.idxOf (t.2 : Int) + 1 = above ∧ ps[above]? = some (ps.getD (fs.idxOf (t.2 : Int)) 0 + 1)) := by
     rintro ⟨a1, a2, a3⟩
     obtain ⟨q, q1, q2⟩ := h2 a1
     rw [hget, q1] at a3
     have := q2 t (List.mem_cons_self ..)
     have := Option.some.inj a3
     omega
   have hl : termsBy fs (t :: l) ++ r = (if t.1 then 1 else 0) :: (fs.idxOf (t.2 : Int) / 256 % 256) :: (fs.idxOf (t.2 : Int) % 256) :: (termsBy fs l ++ r) := by
     simp [termsBy, termBy, twoN]
   rw [hl, List.length_cons, readTerms, hpl, if_neg (by
     rintro (a | a | a)
     · exact hs1 a
     · omega
     · exact hb a), ih, hget]
   obtain ⟨m, n⟩ := t
   cases m <;> simp
theorem Zf9 {ps fs x : List Int} (e : fs = ps ++ x) (hs : ps.Pairwise (· < ·)) (hsz : ps.length < 65536) {p : Int} (hw : wt p ≤ 300) (hm : ∀ t ∈ naf p, (t.2 : Int) ∈ ps) (r : List Nat) : readPart ps (partBy fs p ++ r) = some (p, r) := by
 unfold readPart partBy
 have hl : (naf p).length ≤ 300 := hw
 rw [List.append_assoc, Zdm (by omega)]
 simp only
 rw [if_neg (by omega), Zfg e hs hsz (naf p) ps.length false r (Za3 p) hm (fun _ => rfl) (fun h => by cases h)]
 simp only
 rw [Zam]
theorem Zfh {fs : List Int} (hfs : fs.length < 65536) (hw : ∀ p ∈ fs, wt p ≤ 300) (hx : ∀ (i : Nat) (p : Int), fs[i]? = some p → ∀ t ∈ naf p, (t.2 : Int) ∈ fs.take i) : ∀ (n i : Nat) (r : List Nat), (fs.take (i + n)).Pairwise (· < ·) → i + n ≤ fs.length →
   readParts n (fs.take i) (((fs.drop i).take n).flatMap (partBy fs) ++ r) = some (fs.take (i + n), r)
 | 0, i, r, hs, hl => by simp [readParts]
 | n + 1, i, r, hs, hl => by
   have hi : i < fs.length := by omega
   have hd : (fs.drop i).take (n + 1) = fs[i] :: (fs.drop (i + 1)).take n := by
     rw [List.drop_eq_getElem_cons hi, List.take_succ_cons]
   have hsi : (fs.take (i + 1)).Pairwise (· < ·) := by
     have : fs.take (i + 1) = (fs.take (i + (n + 1))).take (i + 1) := by rw [List.take_take]; congr 1; omega
     rw [this]; exact List.Pairwise.sublist (List.take_sublist ..) hs
   have hti : fs.take (i + 1) = fs.take i ++ [fs[i]] := List.take_succ_eq_append_getElem hi
   have hs0 : (fs.take i).Pairwise (· < ·) := by rw [hti] at hsi; exact (List.pairwise_append.1 hsi).1
   rw [hd, List.flatMap_cons, List.append_assoc, readParts, Zf9 (x := fs.drop i) (List.take_append_drop i fs).symm hs0 (by rw [List.length_take]; omega) (hw _ (List.getElem_mem hi)) (hx i _ (List.getElem?_eq_getElem hi))]
   simp only
   have hlast : (fs.take i).getLast?.any (fun y => decide (fs[i] ≤ y)) = false := by
     cases hL : (fs.take i).getLast? with
     | none => rfl
     | some y =>
       obtain ⟨ys, hy⟩ := List.getLast?_eq_some_iff.1 hL
       rw [hti, hy] at hsi
       have := (List.pairwise_append.1 hsi).2.2 y (by simp) fs[i] (by simp)
       simp; omega
   rw [hlast, ← hti]
   simp only [Bool.false_eq_true, if_false]
   rw [show i + (n + 1) = (i + 1) + n by omega]
   exact Zfh hfs hw hx n (i + 1) r (by rw [show i + 1 + n = i + (n + 1) by omega]; exact hs) (by omega)
theorem Zhx {l : List Int} (h : l.Pairwise (· ≤ ·)) (hn : l.Nodup) : l.Pairwise (· < ·) :=
 (List.pairwise_and_iff.2 ⟨h, hn⟩).imp (fun ⟨a, b⟩ => by omega)
theorem Zd9 (z : Int) : (sortZ (partsZ z).dropLast).Pairwise (· < ·) :=
 Zhx (Zd8 _) ((Zdh _).nodup_iff.2 (List.Nodup.sublist (List.dropLast_sublist _) (Zbx z)))
theorem Zb0 {z p : Int} : p ∈ listZ z ↔ p ∈ partsZ z := (Zeg z).mem_iff
theorem Zdn (z : Int) (i : Nat) (p : Int) (h : (listZ z)[i]? = some p) : ∀ t ∈ naf p, (t.2 : Int) ∈ (listZ z).take i := by
 intro t ht
 obtain ⟨hi, e⟩ := List.getElem?_eq_some_iff.1 h
 have hp : p ∈ partsZ z := Zb0.1 (e ▸ List.getElem_mem hi)
 have hq : (t.2 : Int) ∈ listZ z := Zb0.2 (Zaz z p hp t ht)
 have hlt := Zbf ht
 obtain ⟨j, hj, ej⟩ := List.getElem_of_mem hq
 have hjl : j < i := by
   have hsl := Zd9 z
   have hlen : (listZ z).length = (sortZ (partsZ z).dropLast).length + 1 := by simp [listZ]
   -- where the exponent and the part stand
   have hpz := Zc3 z
   by_cases hpz' : i < (sortZ (partsZ z).dropLast).length
   · have e1 : (sortZ (partsZ z).dropLast)[i]? = some p := by
       rw [← h]; unfold listZ; rw [List.getElem?_append_left hpz']
     have hpd : p ∈ (partsZ z).dropLast := (Zdh _).mem_iff.1 (List.mem_of_getElem? e1)
     have hp0 := (Zni p hpd)
     by_cases hjs : j < (sortZ (partsZ z).dropLast).length
     · have e2 : (sortZ (partsZ z).dropLast)[j]? = some (t.2 : Int) := by
         have : (listZ z)[j]? = some (t.2 : Int) := by rw [List.getElem?_eq_getElem hj, ej]
         rw [← this]; unfold listZ; rw [List.getElem?_append_left hjs]
       exact Zqn hsl e2 e1 (by omega)
     · have e2 : (listZ z)[j]? = some (t.2 : Int) := by rw [List.getElem?_eq_getElem hj, ej]
       unfold listZ at e2
       rw [List.getElem?_append_right (by omega)] at e2
       have : j - (sortZ (partsZ z).dropLast).length = 0 := by omega
       rw [this] at e2
       simp at e2
       omega
   · have e1 := h
     unfold listZ at e1
     rw [List.getElem?_append_right (by omega)] at e1
     have : i - (sortZ (partsZ z).dropLast).length = 0 := by omega
     rw [this] at e1
     simp at e1
     subst e1
     rcases Nat.lt_or_ge j i with x | x
     · exact x
     · have hji : j = i := by omega
       subst hji
       rw [ej] at e
       omega
 rw [List.mem_iff_getElem?]
 exact ⟨j, by rw [List.getElem?_take, if_pos hjl, List.getElem?_eq_getElem hj, ej]⟩
theorem Zb7 (z : Int) : 0 < weightZ z := List.length_pos_of_mem (Za5 z)
theorem Zdo {z : Int} (h : allowedZ z) : loadP (bytesZ z) = some z := by
 have hw := h.1
 have hlen := Zce z
 have hpos := Zb7 z
 unfold loadP bytesZ
 rw [Zdm (by omega)]
 simp only
 rw [if_neg (by omega)]
 have hsp : listZ z = sortZ (partsZ z).dropLast ++ [z] := rfl
 have hd : (sortZ (partsZ z).dropLast).length = weightZ z - 1 := by
   rw [← hlen, hsp]; simp
 have htk : (listZ z).take (weightZ z - 1) = sortZ (partsZ z).dropLast := by rw [hsp, ← hd]; simp
 have hw3 : ∀ p ∈ listZ z, wt p ≤ 300 := fun p hp => h.2.2 p (Zb0.1 hp)
 have h1 := Zfh (fs := listZ z) (by omega) hw3 (Zdn z) (weightZ z - 1) 0 (partBy (listZ z) z ++ []) (by rw [Nat.zero_add, htk]; exact Zd9 z) (by omega)
 simp only [List.take_zero, List.drop_zero, Nat.zero_add] at h1
 have hfl : (listZ z).flatMap (partBy (listZ z)) = ((listZ z).take (weightZ z - 1)).flatMap (partBy (listZ z)) ++ (partBy (listZ z) z ++ []) := by
   rw [htk]
   conv => lhs; rw [hsp]
   rw [List.flatMap_append]
   simp [← hsp]
 rw [hlen, hfl, h1]
 simp only
 have hz : (listZ z)[weightZ z - 1]? = some z := by rw [hsp, List.getElem?_append_right (by omega), hd]; simp
 rw [Zf9 (x := [z]) (by rw [htk]; exact hsp) (by rw [htk]; exact Zd9 z) (by rw [List.length_take]; omega) (h.2.2 z (Za5 z)) (Zdn z _ z hz)]
 simp only
 rw [if_pos ⟨rfl, h, rfl⟩]
end
section
set_option maxRecDepth 10000
def ByteL (bs : List Nat) : Prop := ∀ b ∈ bs, b < 256
theorem ByteL.tail {b : Nat} {bs : List Nat} (h : ByteL (b :: bs)) : ByteL bs := fun c hc => h c (List.mem_cons_of_mem _ hc)
theorem ByteL.right {a b : List Nat} (h : ByteL (a ++ b)) : ByteL b := fun c hc => h c (List.mem_append_right _ hc)
theorem Zqo {a b : Nat} (ha : a < 256) (hb : b < 256) : twoN (a * 256 + b) = [a, b] := by
 unfold twoN
 rw [show (a * 256 + b) / 256 % 256 = a by omega, show (a * 256 + b) % 256 = b by omega]
theorem Znj {ps : List Int} (hs : ps.Pairwise (· < ·)) {i : Nat} {y : Int} (h : ps[i]? = some y) : ps.idxOf y = i := by
 obtain ⟨hi, e⟩ := List.getElem?_eq_some_iff.1 h
 have hm : y ∈ ps := e ▸ List.getElem_mem hi
 have hl := List.idxOf_lt_length_of_mem hm
 have hg : ps[ps.idxOf y]? = some y := by rw [List.getElem?_eq_getElem hl, List.getElem_idxOf]
 rcases Nat.lt_trichotomy (ps.idxOf y) i with x | x | x
 · have := List.pairwise_iff_getElem.1 hs _ _ hl hi x
   rw [List.getElem_idxOf, e] at this; omega
 · exact x
 · have := List.pairwise_iff_getElem.1 hs _ _ hi hl x
   rw [List.getElem_idxOf, e] at this; omega
theorem Zc6 {ps : List Int} (hs : ps.Pairwise (· < ·)) (h0 : ∀ p ∈ ps, 0 ≤ p) : ∀ (c above : Nat) (later : Bool) (bs : List Nat) (l : List Tm) (r : List Nat), ByteL bs → above ≤ ps.length → (later = true → above < ps.length) → readTerms ps c above later bs = some (l, r) →
   l.length = c ∧ bs = termsBy ps l ++ r ∧ NA l ∧ (∀ t ∈ l, (t.2 : Int) ∈ ps) ∧ (∀ q, later = true → ps[above]? = some q → ∀ t ∈ l, (t.2 : Int) + 2 ≤ q)
 | 0, above, later, bs, l, r, hb, ha, hl, h => by
   simp only [readTerms, Option.some.injEq, Prod.mk.injEq] at h
   obtain ⟨rfl, rfl⟩ := h
   simp [termsBy, NA]
 | c + 1, above, later, [], l, r, hb, ha, hl, h => by simp [readTerms] at h
 | c + 1, above, later, [s], l, r, hb, ha, hl, h => by simp [readTerms] at h
 | c + 1, above, later, [s, a], l, r, hb, ha, hl, h => by simp [readTerms] at h
 | c + 1, above, later, s :: a :: b :: bs, l, r, hb, ha, hl, h => by
   have ih := Zc6 hs h0 c
   rw [readTerms] at h
   have hbb : b < 256 := hb b (by simp)
   have haa : a < 256 := hb a (by simp)
   have two := Zqo haa hbb
   obtain ⟨p, hpp⟩ : ∃ p, p = a * 256 + b := ⟨_, rfl⟩
   rw [← hpp] at h two
   by_cases hc : 1 < s ∨ above ≤ p ∨ (later = true ∧ p + 1 = above ∧ ps[above]? = some (ps.getD p 0 + 1))
   · rw [if_pos hc] at h; cases h
   rw [if_neg hc] at h
   have hs1 : s ≤ 1 := by
     rcases Nat.lt_or_ge 1 s with x | x
     · exact absurd (.inl x) hc
     · exact x
   have hab : p < above := by
     rcases Nat.lt_or_ge p above with x | x
     · exact x
     · exact absurd (.inr (.inl x)) hc
   have hnb : ¬ (later = true ∧ p + 1 = above ∧ ps[above]? = some (ps.getD p 0 + 1)) := fun x => hc (.inr (.inr x))
   have hpl : p < ps.length := by omega
   obtain ⟨y, hget⟩ : ∃ y, ps[p]? = some y := ⟨_, List.getElem?_eq_getElem hpl⟩
   have hyy : ps[p] = y := by rw [List.getElem?_eq_getElem hpl] at hget; exact Option.some.inj hget
   have hgd : ps.getD p 0 = y := by simp [List.getD, hget]
   have hpos : 0 ≤ y := h0 _ (List.mem_of_getElem? hget)
   rw [hgd] at h hnb
   cases hr : readTerms ps c p true bs with
   | none => rw [hr] at h; cases h
   | some lr =>
     obtain ⟨l1, r1⟩ := lr
     rw [hr] at h
     simp only [Option.some.injEq, Prod.mk.injEq] at h
     obtain ⟨rfl, rfl⟩ := h
     obtain ⟨i1, i2, i3, i4, i5⟩ := ih p true bs l1 r1 hb.tail.tail.tail (by omega) (fun _ => hpl) hr
     have i6 := i5 y rfl hget
     have hy : ((y.toNat : Nat) : Int) = y := by omega
     refine ⟨by simp [i1], ?_, ?_, ?_, ?_⟩
     · simp only [termsBy, List.flatMap_cons, termBy]
       rw [hy, Znj hs hget, two]
       have : (if (s == 1) = true then 1 else 0 : Nat) = s := by
         rcases Nat.lt_or_ge s 1 with x | x
         · rw [show s = 0 by omega]; rfl
         · rw [show s = 1 by omega]; rfl
       rw [this]
       conv => lhs; rw [i2]
       simp [termsBy]
     · refine List.pairwise_cons.2 ⟨fun u hu => ?_, i3⟩
       have := i6 u hu
       simp only
       omega
     · intro t ht
       rcases List.mem_cons.1 ht with rfl | ht
       · simp only; rw [hy]; exact List.mem_of_getElem? hget
       · exact i4 t ht
     · intro q hq hqa t ht
       obtain ⟨hal, hqe⟩ := List.getElem?_eq_some_iff.1 hqa
       have hyq : y + 2 ≤ q := by
         have h1 := List.pairwise_iff_getElem.1 hs p above hpl hal hab
         rw [hyy, hqe] at h1
         by_cases hn : p + 1 = above
         · have : q ≠ y + 1 := fun e => hnb ⟨hq, hn, by rw [hqa, e]⟩
           omega
         · have h2 := List.pairwise_iff_getElem.1 hs p (p + 1) hpl (by omega) (by omega)
           have h3 := List.pairwise_iff_getElem.1 hs (p + 1) above (by omega) hal (by omega)
           rw [hyy] at h2
           rw [hqe] at h3
           omega
       rcases List.mem_cons.1 ht with rfl | ht
       · simp only; rw [hy]; exact hyq
       · have := i6 t ht; omega
theorem Zga {bs : List Nat} {c : Nat} {r : List Nat} (hb : ByteL bs) (h : readTwo bs = some (c, r)) : bs = twoN c ++ r ∧ c < 65536 := by
 match bs, h with
 | a :: b :: r', h =>
   simp only [readTwo, Option.some.injEq, Prod.mk.injEq] at h
   obtain ⟨rfl, rfl⟩ := h
   have ha := hb a (by simp)
   have hb' := hb b (by simp)
   rw [Zqo ha hb']
   exact ⟨rfl, by omega⟩
theorem Zdp {ps : List Int} (hs : ps.Pairwise (· < ·)) (h0 : ∀ p ∈ ps, 0 ≤ p) {bs : List Nat} {z : Int} {r : List Nat} (hb : ByteL bs) (h : readPart ps bs = some (z, r)) :
   bs = partBy ps z ++ r ∧ wt z ≤ 300 ∧ (∀ t ∈ naf z, (t.2 : Int) ∈ ps) := by
 unfold readPart at h
 cases h2 : readTwo bs with
 | none => rw [h2] at h; cases h
 | some cr =>
   obtain ⟨c, r1⟩ := cr
   obtain ⟨e1, _⟩ := Zga hb h2
   rw [h2] at h
   simp only at h
   by_cases hc : 300 < c
   · rw [if_pos hc] at h; cases h
   rw [if_neg hc] at h
   cases h3 : readTerms ps c ps.length false r1 with
   | none => rw [h3] at h; cases h
   | some lr =>
     obtain ⟨l, r2⟩ := lr
     rw [h3] at h
     simp only [Option.some.injEq, Prod.mk.injEq] at h
     obtain ⟨rfl, rfl⟩ := h
     subst e1
     obtain ⟨i1, i2, i3, i4, _⟩ := Zc6 hs h0 c ps.length false r1 l r2 hb.right (Nat.le_refl _) (fun h => by cases h) h3
     have hn := Zbn i3
     refine ⟨?_, by unfold wt; rw [hn]; omega, by rw [hn]; exact i4⟩
     unfold partBy
     rw [hn, i1, List.append_assoc, ← i2]
theorem Znk {ps x : List Int} {t : Tm} (h : (t.2 : Int) ∈ ps) : termBy (ps ++ x) t = termBy ps t := by
 unfold termBy
 rw [List.idxOf_append, if_pos h]
theorem Zft {ps x : List Int} {p : Int} (h : ∀ t ∈ naf p, (t.2 : Int) ∈ ps) : partBy (ps ++ x) p = partBy ps p := by
 unfold partBy termsBy
 congr 1
 generalize naf p = l at h
 induction l with
 | nil => rfl
 | cons t l ih =>
   rw [List.flatMap_cons, List.flatMap_cons, Znk (h t (by simp)), ih (fun u hu => h u (List.mem_cons_of_mem _ hu))]
structure Rising (ps : List Int) : Prop where
 so : ps.Pairwise (· < ·)
 z : ∀ p ∈ ps, 0 ≤ p
 cl : ClosedL ps
 w : ∀ p ∈ ps, wt p ≤ 300
theorem Zep {bs : List Nat} {z : Int} {r : List Nat} (h : readPart [] bs = some (z, r)) : z = 0 := by
 unfold readPart at h
 cases h2 : readTwo bs with
 | none => rw [h2] at h; cases h
 | some cr =>
   obtain ⟨c, r1⟩ := cr
   rw [h2] at h
   simp only at h
   by_cases hc : 300 < c
   · rw [if_pos hc] at h; cases h
   rw [if_neg hc] at h
   cases c with
   | zero => simp [readTerms] at h; rw [← h.1]; rfl
   | succ c =>
     match r1, h with
     | [], h => simp [readTerms] at h
     | [_], h => simp [readTerms] at h
     | [_, _], h => simp [readTerms] at h
     | _ :: _ :: _ :: _, h => simp [readTerms] at h
theorem Zeq : ∀ (n : Nat) (ps : List Int) (bs : List Nat) (ps' : List Int) (r : List Nat), Rising ps → ByteL bs → readParts n ps bs = some (ps', r) →
   ∃ x, ps' = ps ++ x ∧ x.length = n ∧ Rising ps' ∧ bs = x.flatMap (partBy ps') ++ r
 | 0, ps, bs, ps', r, hp, hb, h => by
   simp only [readParts, Option.some.injEq, Prod.mk.injEq] at h
   obtain ⟨rfl, rfl⟩ := h
   exact ⟨[], by simp, rfl, hp, by simp⟩
 | n + 1, ps, bs, ps', r, hp, hb, h => by
   rw [readParts] at h
   cases h1 : readPart ps bs with
   | none => rw [h1] at h; cases h
   | some zr =>
     obtain ⟨z, r1⟩ := zr
     rw [h1] at h
     simp only at h
     by_cases hl : ps.getLast?.any (fun y => decide (z ≤ y)) = true
     · rw [if_pos hl] at h; cases h
     rw [if_neg hl] at h
     obtain ⟨e1, w1, m1⟩ := Zdp hp.so hp.z hb h1
     have hlt : ∀ p ∈ ps, p < z := by
       intro p hpm
       cases hL : ps.getLast? with
       | none => rw [List.getLast?_eq_none_iff.1 hL] at hpm; simp at hpm
       | some y =>
         obtain ⟨ys, hy⟩ := List.getLast?_eq_some_iff.1 hL
         rw [hL] at hl
         simp at hl
         have hso := hp.so
         rw [hy] at hso hpm
         rcases List.mem_append.1 hpm with x | x
         · have := (List.pairwise_append.1 hso).2.2 p x y (by simp); omega
         · rw [List.mem_singleton.1 x]; exact hl
     have hz : 0 ≤ z := by
       cases ps with
       | nil => rw [Zep h1]; exact Int.le_refl _
       | cons p ps => have := hlt p (by simp); have := hp.z p (by simp); omega
     have hp' : Rising (ps ++ [z]) := by
       refine ⟨List.pairwise_append.2 ⟨hp.so, by simp, fun p hpm q hq => by rw [List.mem_singleton.1 hq]; exact hlt p hpm⟩, fun p hpm => ?_, fun p hpm t ht => ?_, fun p hpm => ?_⟩
       · rcases List.mem_append.1 hpm with x | x
         · exact hp.z p x
         · rw [List.mem_singleton.1 x]; exact hz
       · rcases List.mem_append.1 hpm with x | x
         · exact List.mem_append_left _ (hp.cl p x t ht)
         · rw [List.mem_singleton.1 x] at ht; exact List.mem_append_left _ (m1 t ht)
       · rcases List.mem_append.1 hpm with x | x
         · exact hp.w p x
         · rw [List.mem_singleton.1 x]; exact w1
     subst e1
     obtain ⟨x, e2, l2, r2, b2⟩ := Zeq n (ps ++ [z]) r1 ps' r hp' hb.right h
     refine ⟨z :: x, by rw [e2]; simp, by simp [l2], r2, ?_⟩
     rw [List.flatMap_cons, List.append_assoc, ← b2, e2, List.append_assoc, Zft m1]
theorem Zhe : ∀ (l K : List Int), l.Nodup → (∀ p ∈ l, p ∈ K) → K.length ≤ l.length → l.Perm K
 | [], K, _, _, h => by rw [List.length_eq_zero_iff.1 (Nat.le_zero.1 h)]
 | a :: l, K, h, hs, hl => by
   have ha := hs a (List.mem_cons_self ..)
   have h1 := List.nodup_cons.1 h
   have hle := List.length_erase_of_mem ha
   have h2 := Zhe l (K.erase a) h1.2 (fun p hp => (List.mem_erase_of_ne (by rintro rfl; exact h1.1 hp)).2 (hs p (List.mem_cons_of_mem _ hp))) (by simp only [List.length_cons] at hl; omega)
   exact (h2.cons a).trans (List.perm_cons_erase ha).symm
theorem Znl {bs : List Nat} {z : Int} (hb : ByteL bs) (h : loadP bs = some z) : allowedZ z ∧ bs = bytesZ z := by
 unfold loadP at h
 cases h1 : readTwo bs with
 | none => rw [h1] at h; cases h
 | some cr =>
   obtain ⟨c, r1⟩ := cr
   obtain ⟨e1, hc0⟩ := Zga hb h1
   rw [h1] at h
   simp only at h
   by_cases hc : c = 0 ∨ 2000 < c
   · rw [if_pos hc] at h; cases h
   rw [if_neg hc] at h
   subst e1
   cases h2 : readParts (c - 1) [] r1 with
   | none => rw [h2] at h; cases h
   | some pr =>
     obtain ⟨ps, r2⟩ := pr
     rw [h2] at h
     simp only at h
     obtain ⟨x, e2, l2, rs, b2⟩ := Zeq (c - 1) [] r1 ps r2 ⟨by simp, by simp, fun p hp => by simp at hp, by simp⟩ hb.right h2
     rw [List.nil_append] at e2
     subst e2
     cases h3 : readPart ps r2 with
     | none => rw [h3] at h; cases h
     | some zr =>
       obtain ⟨y, r3⟩ := zr
       rw [h3] at h
       simp only at h
       by_cases hz : r3 = [] ∧ allowedZ y ∧ weightZ y = c
       · rw [if_pos hz] at h
         obtain rfl : y = z := Option.some.inj h
         obtain ⟨rfl, ha, hw⟩ := hz
         have hbr : ByteL r2 := by
           have := hb.right
           rw [b2] at this
           exact this.right
         obtain ⟨b3, w3, m3⟩ := Zdp rs.so rs.z hbr h3
         have hcl : ClosedL (ps ++ [y]) := by
           intro p hp t ht
           rcases List.mem_append.1 hp with e | e
           · exact List.mem_append_left _ (rs.cl p e t ht)
           · rw [List.mem_singleton.1 e] at ht; exact List.mem_append_left _ (m3 t ht)
         have hny : y ∉ ps := by
           intro hm
           have := Zfe rs.cl hm
           unfold weightZ at hw
           omega
         have hnd : ps.Nodup := rs.so.imp (fun h => by omega)
         have hsub := Zb6 hcl (z := y) (by simp)
         have hperm : (partsZ y).Perm (ps ++ [y]) := by
           refine Zhe _ _ (Zbx y) hsub ?_
           unfold weightZ at hw
           rw [List.length_append, List.length_singleton]; omega
         have hd : (partsZ y).dropLast.Perm ps := by
           have := Zc3 y
           rw [this] at hperm
           exact (List.perm_append_right_iff [y]).1 hperm
         have hps : ps = sortZ (partsZ y).dropLast := Zjj hd.symm (rs.so.imp (fun h => by omega))
         have hlist : listZ y = ps ++ [y] := by unfold listZ; rw [← hps]
         refine ⟨ha, ?_⟩
         unfold bytesZ
         rw [Zce, hw, hlist, List.flatMap_append, b2, b3]
         have hfl : ps.flatMap (partBy (ps ++ [y])) = ps.flatMap (partBy ps) := by
           rw [List.flatMap_def, List.flatMap_def]
           congr 1
           refine List.map_congr_left fun p hp => ?_
           exact Zft (fun t ht => rs.cl p hp t ht)
         rw [hfl]
         simp only [List.flatMap_cons, List.flatMap_nil]
         rw [Zft m3]
       · rw [if_neg hz] at h; cases h
end
section
theorem Zo4 : ∀ (l : List Tm) (b : Nat), NA l → (∀ t ∈ l, t.2 < b) → l.length ≤ b
 | [], b, _, _ => by simp
 | t :: l, b, h, hb => by
   have ht := hb t (List.mem_cons_self ..)
   have := Zo4 l t.2 h.tail (fun u hu => by have := h.head u hu; omega)
   simp only [List.length_cons]; omega
theorem Zih {z : Int} {b : Nat} (h1 : z ≤ 2 ^ b) (h2 : -(2 ^ b) ≤ z) : ∀ t ∈ naf z, t.2 < b + 2 := by
 intro t ht
 have hz := Zam z
 have hn := Za3 z
 cases hl : naf z with
 | nil => rw [hl] at ht; simp at ht
 | cons u l =>
   rw [hl] at ht hn hz
   have hu : t.2 ≤ u.2 := by
     rcases List.mem_cons.1 ht with rfl | h
     · omega
     · have := hn.head t h; omega
   have hf := (Zbm hn).1
   rw [hz] at hf
   rcases Nat.lt_or_ge t.2 (b + 2) with x | x
   · exact x
   · have p := Zc2 (a := b + 2) (b := u.2) (by omega)
     rw [show b + 2 = (b + 1) + 1 from rfl, Zai, Zai] at p
     have := pow_pos b
     rcases Zay u.1 with ⟨_, e⟩ | ⟨_, e⟩ <;> rw [e] at hf <;> omega
theorem Zea {z : Int} {b : Nat} (h1 : z ≤ 2 ^ b) (h2 : -(2 ^ b) ≤ z) (hb : b ≤ 90) : allowedZ z ∧ weightZ z ≤ b + 3 ∧ wt z ≤ b + 2 := by
 have he := Zih h1 h2
 have hC : ClosedL (z :: (List.range (b + 2)).map (fun n : Nat => (n : Int))) := by
   intro p hp t ht
   refine List.mem_cons_of_mem _ ?_
   rw [List.mem_map]
   refine ⟨t.2, List.mem_range.2 ?_, rfl⟩
   rcases List.mem_cons.1 hp with rfl | hp
   · exact he t ht
   · obtain ⟨n, hn, rfl⟩ := List.mem_map.1 hp
     have := List.mem_range.1 hn
     have := Zbf ht
     omega
 have hw : ∀ p ∈ partsZ z, wt p ≤ b + 2 := by
   intro p hp
   refine Zo4 _ _ (Za3 p) (fun t ht => ?_)
   have hm := Zb6 hC (List.mem_cons_self ..) p hp
   rcases List.mem_cons.1 hm with rfl | hm
   · exact he t ht
   · obtain ⟨n, hn, rfl⟩ := List.mem_map.1 hm
     have := List.mem_range.1 hn
     have := Zbf ht
     omega
 have hwt : weightZ z ≤ b + 3 := by
   have := Zfe hC (List.mem_cons_self ..)
   simp at this
   unfold weightZ; omega
 refine ⟨⟨by omega, Zmo (fun t ht => ?_), fun p hp => by have := hw p hp; omega⟩, hwt, hw z (Za5 z)⟩
 have := he t ht
 have := Zo3 _ (t.2 : Int) (Nat.lt_succ_self _)
 omega
theorem Zb8 {z : Int} (h : -9223372036854775808 ≤ z ∧ z ≤ 9223372036854775807) : allowedZ z := (Zea (b := 63) (by omega) (by omega) (by omega)).1
theorem Zkl {z : Int} {t : Tm} (ht : t ∈ naf z) : weightZ (t.2 : Int) + 1 ≤ weightZ z := by
 have hlt := Zbf ht
 have hsub := Zb6 (z := (t.2 : Int)) (Zaz z) (Zaz z z (Za5 z) t ht)
 have hz : z ∉ partsZ (t.2 : Int) := by
   intro h
   obtain ⟨x, hx, hx2⟩ := (vis_P (t.2 : Int) []).pre
   unfold partsZ at h
   rw [hx, List.nil_append] at h
   have := hx2 z h
   omega
 have := Zdg (z :: partsZ (t.2 : Int)) (partsZ z) (List.nodup_cons.2 ⟨hz, Zbx _⟩) (fun p hp => by
   rcases List.mem_cons.1 hp with rfl | hp
   · exact Za5 _
   · exact hsub p hp)
 simpa [weightZ] using this
theorem Zb1 : ∀ (n : Nat) (z : Int), z.natAbs < n → hgt z ≤ weightZ z
 | 0, _, h => by omega
 | n + 1, z, h => Zmo fun t ht => by
   have h1 := Zbf ht
   have h2 := Zb1 n t.2 (by omega)
   have h3 := Zkl ht
   omega
theorem Zgb {z : Int} {C : List Int} (hC : ClosedL C) (hz : z ∈ C) : hgt z ≤ C.length := Nat.le_trans (Zb1 _ z (Nat.lt_succ_self _)) (Zfe hC hz)
def hgtL (l : List Tm) : Nat := l.foldl (fun h t => max h (hgt (t.2 : Int) + 1)) 0
theorem Zkm (l : List Tm) (t : Tm) : hgtL (l ++ [t]) = max (hgtL l) (hgt (t.2 : Int) + 1) := by simp [hgtL]
theorem hgt_L (z : Int) : hgt z = hgtL (naf z) := Zeo z
theorem Zii (e : Nat) : partsZ (2 ^ e) = partsZ e ++ [2 ^ e] := by
 rw [Zbu, Zjc]; rfl
theorem Zhf (e : Nat) : weightZ (2 ^ e) = weightZ e + 1 := by unfold weightZ; rw [Zii]; simp
theorem Zrc (e : Nat) : hgt (2 ^ e) = hgt e + 1 := by rw [Zeo, Zjc]; simp
theorem Zo5 (e : Nat) : wt (2 ^ e) = 1 := by unfold wt; rw [Zjc]; rfl
theorem Zhg {e : Nat} (h : allowedZ e) (h1 : weightZ e ≤ 1999) (h2 : hgt e ≤ 99) : allowedZ (2 ^ e) := by
 refine ⟨by rw [Zhf]; omega, by rw [Zrc]; omega, fun p hp => ?_⟩
 rw [Zii] at hp
 rcases List.mem_append.1 hp with x | x
 · exact h.2.2 p x
 · rw [List.mem_singleton.1 x, Zo5]; omega
theorem Zln {e : Nat} (h : 2 ≤ e) : naf (2 ^ e + 1) = [(false, e), (false, 0)] := Zdb (by simp [NA]; omega) (by simp [val, tv, sg])
theorem naf0 : naf 0 = [] := Zef
theorem naf1 : naf 1 = [(false, 0)] := Zdb (by simp [NA]) (by simp [val, tv, sg])
theorem naf2 : naf 2 = [(false, 1)] := Zdb (by simp [NA]) (by simp [val, tv, sg])
theorem naf3 : naf 3 = [(false, 2), (true, 0)] := Zdb (by simp [NA]) (by simp [val, tv, sg])
theorem naf7 : naf 7 = [(false, 3), (true, 0)] := Zdb (by simp [NA]) (by simp [val, tv, sg])
theorem parts7 : partsZ 7 = [0, 1, 2, 3, 7] := by
 have v0 : vis 0 [] = [0] := by rw [Zc5 (by simp), naf0]; rfl
 have v1 : vis 1 [] = [0, 1] := by rw [Zc5 (by simp), naf1]; simp [visL, v0]
 have v2 : vis 2 [] = [0, 1, 2] := by rw [Zc5 (by simp), naf2]; simp [visL, v1]
 have v3 : vis 3 [] = [0, 1, 2, 3] := by
   rw [Zc5 (by simp), naf3]; simp only [visL, List.foldl_cons, List.foldl_nil]
   rw [show ((2 : Nat) : Int) = 2 from rfl, v2, show ((0 : Nat) : Int) = 0 from rfl, Zig (by simp)]; rfl
 unfold partsZ
 rw [Zc5 (by simp), naf7]; simp only [visL, List.foldl_cons, List.foldl_nil]
 rw [show ((3 : Nat) : Int) = 3 from rfl, v3, show ((0 : Nat) : Int) = 0 from rfl, Zig (by simp)]; rfl
theorem weight7 : weightZ 7 = 5 := by unfold weightZ; rw [parts7]; rfl
theorem hgt7 : hgt 7 = 4 := by
 have h0 : hgt 0 = 0 := by rw [Zeo, naf0]; rfl
 have h1 : hgt 1 = 1 := by rw [Zeo, naf1]; simp [h0]
 have h2 : hgt 2 = 2 := by rw [Zeo, naf2]; simp [h1]
 have h3 : hgt 3 = 3 := by rw [Zeo, naf3]; simp [h2, h0]
 rw [Zeo, naf7]; simp [h3, h0]
theorem wt7 : (naf 7).length = 2 := by rw [naf7]; rfl
theorem Zhh (ps : List Int) (l : List Tm) : (termsBy ps l).length = 3 * l.length := by
 induction l with
 | nil => rfl
 | cons t l ih => simp only [termsBy, List.flatMap_cons, List.length_append, List.length_cons] at ih ⊢; rw [ih]; simp [termBy, twoN]; omega
theorem Znm (z : Int) : (bytesZ z).length = 2 + ((listZ z).map (fun p => 2 + 3 * (naf p).length)).sum := by
 unfold bytesZ
 rw [List.length_append, List.length_flatMap]
 congr 1
 congr 1
 refine List.map_congr_left fun p _ => ?_
 unfold partBy
 rw [List.length_append, Zhh]; rfl
theorem bytes7 : (bytesZ 7).length = 30 := by
 rw [Znm, ((Zeg 7).map _).sum_nat, parts7]
 simp [naf0, naf1, naf2, naf3, naf7]
end
end Go.Proofs.YtlkmgclbckojgaaGreatDoor

