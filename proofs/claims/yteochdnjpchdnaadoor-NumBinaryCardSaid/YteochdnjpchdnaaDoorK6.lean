import Derived.Test.YteochdnjpchdnaaDoorO0
import Derived.Deep.CutRange
import Derived.Deep.LoopGhost
import Derived.Lib.SmallJoins
import Derived.OwnWalk
import Derived.Test.YteochdnjpchdnaaDoorK7
set_option linter.unusedVariables false
set_option linter.unusedSimpArgs false
namespace Go.Proofs.YteochdnjpchdnaaDoor
open Go.RowKit
set_option linter.unusedVariables false

/-! Lists of ints as numbers: how often each power of two is in them (for NumBinary). -/
def intV (l : List Int) : List Value := l.map (fun n : Int => Value.int .i64 n)
theorem intV_len (l : List Int) : (intV l).length = l.length := by simp [intV]
theorem intV_get {l : List Int} {i : Nat} (h : i < l.length) : (intV l)[i]? = some (.int .i64 l[i]) := by simp [intV, h]
theorem intV_append (l m : List Int) : intV (l ++ m) = intV l ++ intV m := by simp [intV]
theorem infoeI : (Tryd.prog.info? 3).map (fun i => (i.zero, i.size, i.bytes)) = some (some (.int .i64 0), 1, 8) := by kernel_rfl
/-- the number -/
def valB : List Int → Int
  | [] => 0
  | d :: l => d + 2 * valB l
theorem valB_append : ∀ (l m : List Int), valB (l ++ m) = valB l + 2 ^ l.length * valB m
  | [], m => by simp [valB]
  | d :: l, m => by
    have h := valB_append l m
    simp only [List.cons_append, valB, List.length_cons]
    rw [h, Int.pow_succ, Int.mul_add, ← Int.mul_assoc 2, Int.mul_comm 2 (2 ^ l.length)]
    omega
theorem valB_snoc (l : List Int) (x : Int) : valB (l ++ [x]) = valB l + x * 2 ^ l.length := by
  rw [valB_append]; simp [valB, Int.mul_comm]
theorem valB_digits : ∀ (l : List Int), (∀ d ∈ l, d = 0 ∨ d = 1) → 0 ≤ valB l ∧ valB l < 2 ^ l.length ∧ (valB l = 0 ↔ ∀ d ∈ l, d = 0)
  | [], _ => by simp [valB]
  | d :: l, h => by
    obtain ⟨h1, h2, h3⟩ := valB_digits l (fun x hx => h x (List.mem_cons_of_mem _ hx))
    have hd := h d (List.mem_cons_self ..)
    simp only [valB, List.length_cons, Int.pow_succ, List.forall_mem_cons]
    refine ⟨by omega, by omega, ?_⟩
    constructor
    · intro k
      exact ⟨by omega, h3.1 (by omega)⟩
    · rintro ⟨k1, k2⟩
      have := h3.2 k2
      omega

/-- in the midst of Carry -/
def CaR (w : World) (l : List Int) (k : Nat) (o : Value) (z : Int) (wl : World) : Prop :=
  ∃ ds : List Int, ds.length = k ∧ (∀ d ∈ ds, d = 0 ∨ d = 1) ∧ valB (l.take k) = valB ds + z * 2 ^ k ∧ -1000000001 ≤ z ∧ z ≤ 1000000001 ∧ wl.ownsRow w.heap.size 3 1 o k (intV ds) ∧ Below w.heap.size w wl

set_option maxRecDepth 100000 in
set_option maxHeartbeats 4000000 in
/-- Carry -/
theorem Carry_calls {w : World} {v : Value} {l : List Int} (hr : RowV w 1 v l.length (intV l)) (hb : ∀ x ∈ l, -1000000000 ≤ x ∧ x ≤ 1000000000) (hlen : l.length ≤ 100000) :
    Calls Tryd.prog 49 #[v] w fun e w' => ∃ (a : Option Addr) (c : Nat) (z : Int), e = .returned (.tuple #[.slice a l.length c, .int .i64 z]) ∧ CaR w l l.length (.slice a l.length c) z w' := by
  obtain ⟨ax, cx, rfl⟩ := hr.shape
  have hst : CaR w l 0 (.slice (some ⟨w.heap.size, 0, none⟩) 0 0) 0 (w.alloc (.cells #[] 3)) :=
    ⟨[], rfl, by simp, by simp [valB], by omega, by omega, World.ownsRow_lit w #[] 0 (Nat.le_refl _) (by decide) rfl, (Below.refl _ _).alloc (Nat.le_refl _) _⟩
  have HST := Lib.hid hst
  have HX := Lib.hid (And.intro hr hb)
  have hl9 : (l.length : Int) ≤ 100000 := by omega
  clear hst hr hb
  go_enter Tryd.func49, Tryd.ntmps49
  go_wp2
  go_loopw [6, 4, 5] (fun i o cc wl => ∃ (k : Nat) (a : Option Addr) (c : Nat) (z : Int), k ≤ l.length ∧ i = .int .i64 k ∧ o = .slice a k c ∧ cc = .int .i64 z ∧ CaR w l k (.slice a k c) z wl) (fun i _ _ _ => l.length - (intOf i).toNat)
  case atStart => exact ⟨0, _, _, 0, by omega, by simp, rfl, rfl, HST.out⟩
  case round =>
    obtain ⟨k, a, c, z, hkl, rfl, rfl, rfl, hR⟩ := hrel
    clear HST
    by_cases hlt : k < l.length
    · obtain ⟨hr, hb⟩ := HX.out
      obtain ⟨ds, hdl, hdd, hdv, hz1, hz2, hown, hbl⟩ := hR
      obtain ⟨b, o, rfl⟩ : ∃ bx ox, ax = some ⟨bx, ox, none⟩ := by
        rcases hr.2 with ⟨e, h0⟩ | ⟨b1, off1, cap1, e1, p1, p2, p3, p4⟩
        · omega
        · cases e1; exact ⟨_, _, rfl⟩
      have x0 := (hr.below hbl (Nat.le_refl _)).rowC k _ (intV_get hlt)
      obtain ⟨hx1, hx2⟩ := hb _ (List.getElem_mem hlt)
      have htk : valB (l.take (k + 1)) = valB (l.take k) + l[k] * 2 ^ k := by
        rw [List.take_succ_eq_append_getElem hlt, valB_snoc, List.length_take, Nat.min_eq_left (by omega)]
      generalize l[k] = x at x0 hx1 hx2 htk
      obtain ⟨i1, hi1, hy1, hy2, hy3⟩ := info_parts infoeI
      have HH := Lib.hid (And.intro hi1 (And.intro hy1 (And.intro hy2 hy3)))
      have HQ := Lib.hid (And.intro hdl (And.intro hdd (And.intro hdv (And.intro hown (And.intro hbl htk)))))
      have hlt' : (k : Int) < (l.length : Int) := by omega
      have hsz := hbl.size
      clear hr hb hdl hdd hdv hown hbl htk hi1 hy1 hy2 hy3
      go_upto_region 7 with fail
      have hv1 : -2000000001 ≤ x + z := by omega
      have hv2 : x + z ≤ 2000000001 := by omega
      obtain ⟨vv, hvv⟩ : ∃ vv, vv = x + z := ⟨_, rfl⟩
      rw [← hvv] at hv1 hv2 ⊢
      have HV := Lib.hid (And.intro hvv (And.intro hx1 (And.intro hx2 (And.intro hz1 hz2))))
      have t1 := Int.tmod_lt_of_pos vv (show (0 : Int) < 2 by omega)
      have t2 := Int.lt_tmod_of_pos vv (show (0 : Int) < 2 by omega)
      have m3 : (vv.tmod 2 + 2).tmod 2 = vv % 2 := by
        rw [Int.tmod_eq_emod_of_nonneg (by omega), Int.add_emod_right]
        have h := Int.mul_tdiv_add_tmod vv 2
        conv => rhs; rw [← h]
        rw [Int.mul_add_emod_self_left]
      have m4 : (vv.tmod 2 + 2) % 2 = vv % 2 := (Int.tmod_eq_emod_of_nonneg (a := vv.tmod 2 + 2) (b := 2) (by omega)).symm.trans m3
      have e1 : 0 ≤ vv % 2 ∧ vv % 2 ≤ 1 := by omega
      have m5 : (vv - vv % 2).tdiv 2 = vv / 2 := by
        have h : vv - vv % 2 = vv / 2 * 2 := by omega
        rw [h, Int.mul_tdiv_cancel _ (by omega)]
      have m6 : (vv - vv % 2) / 2 = vv / 2 := by omega
      have w1 : IntKind.i64.wrap (vv.tmod 2) = vv.tmod 2 := IntWalk.i64_in _ (by omega)
      have w2 : IntKind.i64.wrap (vv.tmod 2 + 2) = vv.tmod 2 + 2 := IntWalk.i64_in _ (by omega)
      have w3 : IntKind.i64.wrap (vv % 2) = vv % 2 := IntWalk.i64_in _ (by omega)
      have w5 : IntKind.i64.wrap (vv / 2) = vv / 2 := IntWalk.i64_in _ (by omega)
      have w6 : IntKind.i64.wrap (vv - vv % 2) = vv - vv % 2 := IntWalk.i64_in _ (by omega)
      clear hvv hx1 hx2 hz1 hz2 t1 t2
      go_upto_region 8 with fail
      generalize hdg : vv % 2 = d at *
      generalize hdq : vv / 2 = q at *
      have HD := Lib.hid (And.intro hdg hdq)
      clear hdg hdq m3 m4 w1 w2
      go_wp2_with (first
        | (at_builtin; refine wpList_append_own_at _ rfl _ _ 26 rfl w.heap.size 3 i1 (.int .i64 0) 1 8 Tryd.underlying26 HH.out.1 HH.out.2.1 HH.out.2.2.1 HH.out.2.2.2 rfl (by decide) _ _ _ rfl (HQ.out.2.2.2.1.alloc _) ⟨wr.heap.size, 0, none⟩ 1 1 [.int .i64 d] rfl rfl (news_alloc wr _ _ _) (by simp [Value.oneCell']) (by unfold maxLen; omega) (by omega) (by simp; omega) ?_; intro v7 w7 hown7 hg7 _ hat7
           obtain ⟨a7, c7, rfl⟩ := (RowV.of_own hown7).shape
           have H7 := Lib.hid (And.intro hown7 hg7)
           clear hown7 hg7 hat7))
      obtain ⟨hdl, hdd, hdv, hown, hbl, htk⟩ := HQ.out
      obtain ⟨hvv, hx1, hx2, hz1, hz2⟩ := HV.out
      obtain ⟨hdg, hdq⟩ := HD.out
      obtain ⟨hown7, hg7⟩ := H7.out
      refine ⟨⟨k + 1, a7, c7, q, by omega, by go_num, rfl, rfl, ds ++ [d], by simp [hdl], ?_, ?_, by omega, by omega, ?_, ?_⟩, by simp [intOf]; omega⟩
      · intro y hy
        rcases List.mem_append.1 hy with h | h
        · exact hdd y h
        · rw [List.mem_singleton.1 h]; omega
      · rw [htk, hdv, valB_snoc, hdl, Int.pow_succ]
        have h : x + z = d + q * 2 := by omega
        have h2 : x = d + q * 2 - z := by omega
        rw [h2, Int.sub_mul, Int.add_mul, Int.mul_assoc q 2, Int.mul_comm 2 (2 ^ k)]
        omega
      · rw [intV_append]; exact hown7
      · have hA : ∀ o, Below wr.heap.size wr (wr.alloc o) := fun o => (Below.refl _ _).alloc (Nat.le_refl _) _
        exact (hbl.trans ((hA _).mono hbl.size)).grown hg7 (by simp; omega) (fun j hj => (hown.lt j hj).1)
    · have hkn : k = l.length := by omega
      subst hkn
      have hlt' : ¬ ((l.length : Int) < (l.length : Int)) := by omega
      have HR := Lib.hid hR
      clear hR
      go_wp2
      refine bodyPost_ret (v := .tuple #[.slice a l.length c, .int .i64 z]) (by simp [results, Tryd.results49, go_sem, *]) rfl ⟨a, c, z, rfl, HR.out⟩

set_option maxRecDepth 100000 in
set_option maxHeartbeats 4000000 in
/-- Signed -/
theorem Signed_calls {w : World} {v : Value} {l : List Int} (hr : RowV w 1 v l.length (intV l)) (hb : ∀ x ∈ l, -1000000000 ≤ x ∧ x ≤ 1000000000) (hlen : l.length ≤ 100000) :
    Calls Tryd.prog 24 #[v] w fun e w' => e = .returned (.int .i64 (sgn (valB l))) ∧ Below w.heap.size w w' := by
  obtain ⟨ax, cx, rfl⟩ := hr.shape
  have hc := Carry_calls hr hb hlen
  have HC := Lib.hid hc
  have hl9 : (l.length : Int) ≤ 100000 := by omega
  clear hc hr hb
  go_enter Tryd.func24, Tryd.ntmps24
  go_upto_region 2 with (first
    | (go_at_call 49; refine HC.out.mono ?_; rintro e1 w1 ⟨a, c, z, rfl, hR⟩
       have HR := Lib.hid hR
       clear hR))
  obtain ⟨ds, hdl, hdd, hdv, hz1, hz2, hown, hbl⟩ := HR.out
  obtain ⟨hv1, hv2, hv3⟩ := valB_digits ds hdd
  rw [List.take_length] at hdv
  rw [hdl] at hv2
  have hp : (0 : Int) < 2 ^ l.length := Int.pow_pos (by decide)
  by_cases hz : z = 0
  · subst hz
    have hsv : valB l = valB ds := by rw [hdv]; simp
    have HQ := Lib.hid (And.intro hdl (And.intro hdd (And.intro hown (And.intro hbl (And.intro hv3 (And.intro hsv hv1))))))
    generalize hll : l.length = n at *
    clear hdl hdd hdv hz1 hz2 hown hbl hv1 hv2 hv3 hp hsv HR
    go_wp2
    go_loopw [5] (fun i wl => ∃ k : Nat, k ≤ n ∧ i = .int .i64 k ∧ (∀ j, j < k → ds[j]? = some 0) ∧ wl = w1) (fun i _ => n - (intOf i).toNat)
    case atStart => exact ⟨0, by omega, by simp, fun j h => by omega, rfl⟩
    case round =>
      obtain ⟨k, hkl, rfl, hall, rfl⟩ := hrel
      by_cases hlt : k < n
      · obtain ⟨hdl, hdd, hown, hbl, hv3, hsv, hv1⟩ := HQ.out
        have hkd : k < ds.length := by omega
        obtain ⟨b, rfl⟩ : ∃ b, a = some ⟨b, 0, none⟩ := by
          obtain ⟨g', cap, e⟩ := Go.Joins.ownsRow_form hown (by omega)
          cases e; exact ⟨g', rfl⟩
        have x0 := (hown.cellAt k (by omega)).trans (intV_get hkd)
        have hgk : ds[k]? = some ds[k] := List.getElem?_eq_getElem hkd
        have hd := hdd _ (List.getElem_mem hkd)
        have hmem := List.getElem_mem hkd
        generalize ds[k] = d at x0 hgk hd hmem
        have hlt' : (k : Int) < (n : Int) := by omega
        by_cases h0 : d = 0
        · subst h0
          have HA := Lib.hid (And.intro hall hgk)
          clear hdl hdd hown hbl hv3 hsv hv1 hall hgk hd hmem
          go_wp2
          obtain ⟨hall, hgk⟩ := HA.out
          refine ⟨⟨k + 1, by omega, by go_num, fun j hj => ?_, by first | rfl | trivial⟩, by simp [intOf]; omega⟩
          by_cases e : j = k
          · subst e; exact hgk
          · exact hall j (by omega)
        · have hf : (d != 0) = true := by simp [h0]
          have hsg : sgn (valB l) = 1 := by
            rw [hsv]
            refine sgn_pos ?_
            have : valB ds ≠ 0 := fun e => h0 (hv3.1 e d hmem)
            omega
          have HA := Lib.hid (And.intro hsg hbl)
          clear hdl hdd hown hbl hv3 hsv hv1 hall hgk hd hmem h0 hsg
          go_wp2
          refine bodyPost_ret (v := .int .i64 1) (by simp [results, Tryd.results24, go_sem, *]) rfl ⟨by rw [HA.out.1], HA.out.2⟩
      · have hkn : k = n := by omega
        subst hkn
        obtain ⟨hdl, hdd, hown, hbl, hv3, hsv, hv1⟩ := HQ.out
        have hlt' : ¬ ((k : Int) < (k : Int)) := by omega
        have hsg : sgn (valB l) = 0 := by
          rw [hsv, hv3.2 (fun d hd => ?_)]
          · rfl
          · obtain ⟨j, hj, rfl⟩ := List.mem_iff_getElem.1 hd
            have := hall j (by omega)
            rw [List.getElem?_eq_getElem hj] at this
            exact Option.some.inj this
        have HA := Lib.hid (And.intro hsg hbl)
        clear hdl hdd hown hbl hv3 hsv hv1 hall hsg
        go_wp2
        refine bodyPost_ret (v := .int .i64 0) (by simp [results, Tryd.results24, go_sem, *]) rfl ⟨by rw [HA.out.1], HA.out.2⟩
  · have hf : (z != 0) = true := by simp [hz]
    by_cases hn : z < 0
    · have hsg : sgn (valB l) = -1 := by
        refine sgn_lt ?_
        have h1 : z * 2 ^ l.length ≤ -1 * 2 ^ l.length := Int.mul_le_mul_of_nonneg_right (by omega) (by omega)
        rw [hdv]; omega
      have HA := Lib.hid (And.intro hsg hbl)
      clear hdl hdd hdv hz1 hz2 hown hbl hv1 hv2 hv3 hp hsg HR hz
      go_wp2
      refine bodyPost_ret (v := .int .i64 (-1)) (by simp [results, Tryd.results24, go_sem, *]) rfl ⟨by rw [HA.out.1], HA.out.2⟩
    · have hsg : sgn (valB l) = 1 := by
        refine sgn_pos ?_
        have h1 : 1 * 2 ^ l.length ≤ z * 2 ^ l.length := Int.mul_le_mul_of_nonneg_right (by omega) (by omega)
        rw [hdv]; omega
      have HA := Lib.hid (And.intro hsg hbl)
      clear hdl hdd hdv hz1 hz2 hown hbl hv1 hv2 hv3 hp hsg HR hz
      go_wp2
      refine bodyPost_ret (v := .int .i64 1) (by simp [results, Tryd.results24, go_sem, *]) rfl ⟨by rw [HA.out.1], HA.out.2⟩
end Go.Proofs.YteochdnjpchdnaaDoor

namespace Go.Proofs.YteochdnjpchdnaaDoor
open Go.RowKit
set_option linter.unusedVariables false

/-! Sums and products of such lists. -/
def seqI (f : Nat → Int) (m : Nat) : List Int := (List.range m).map f
theorem seqI_len (f : Nat → Int) (m : Nat) : (seqI f m).length = m := by simp [seqI]
theorem seqI_get (f : Nat → Int) {m i : Nat} (h : i < m) : (intV (seqI f m))[i]? = some (.int .i64 (f i)) := by simp [seqI, intV, h]
def updI (f : Nat → Int) (j : Nat) (x : Int) : Nat → Int := fun i => if i = j then x else f i
theorem seqI_set (f : Nat → Int) {m j : Nat} (h : j < m) (x : Int) : (intV (seqI f m)).set j (.int .i64 x) = intV (seqI (updI f j x) m) := by
  refine List.ext_getElem (by simp [seqI, intV]) fun i h1 h2 => ?_
  simp only [seqI, intV, List.getElem_set, List.getElem_map, List.getElem_range, updI]
  by_cases e : j = i
  · subst e; simp
  · rw [if_neg e, if_neg (fun h => e h.symm)]
theorem seqI_eq {f g : Nat → Int} {m : Nat} (h : ∀ i, i < m → f i = g i) : seqI f m = seqI g m := List.map_congr_left (fun i hi => h i (List.mem_range.1 hi))
theorem seqI_succ (f : Nat → Int) (m : Nat) : seqI f (m + 1) = seqI f m ++ [f m] := by simp [seqI, List.range_succ]
theorem valB_zero : ∀ m, valB (seqI (fun _ => 0) m) = 0
  | 0 => rfl
  | m + 1 => by rw [seqI_succ, valB_snoc, valB_zero m]; simp
theorem valB_add (f g : Nat → Int) (b : Int) : ∀ m, valB (seqI (fun i => f i + b * g i) m) = valB (seqI f m) + b * valB (seqI g m)
  | 0 => by simp [seqI, valB]
  | m + 1 => by
    rw [seqI_succ, seqI_succ, seqI_succ, valB_snoc, valB_snoc, valB_snoc, valB_add f g b m]
    simp only [seqI_len]
    rw [Int.add_mul, Int.mul_add, Int.mul_assoc]
    omega
theorem valB_upd (f : Nat → Int) (j : Nat) (x : Int) : ∀ m, j < m → valB (seqI (updI f j (f j + x)) m) = valB (seqI f m) + x * 2 ^ j
  | 0, h => by omega
  | m + 1, h => by
    rw [seqI_succ, seqI_succ, valB_snoc, valB_snoc]
    simp only [seqI_len]
    by_cases e : j = m
    · subst e
      have h1 : seqI (updI f j (f j + x)) j = seqI f j := seqI_eq (fun i hi => by simp [updI]; omega)
      rw [h1]
      have h3 : updI f j (f j + x) j = f j + x := by simp [updI]
      rw [h3, Int.add_mul]; omega
    · rw [valB_upd f j x m (by omega)]
      have h2 : updI f j (f j + x) m = f m := by simp [updI]; omega
      rw [h2]; omega
/-- a list, and no more behind it -/
theorem valB_getD (l : List Int) : ∀ m, l.length ≤ m → valB (seqI (fun i => l.getD i 0) m) = valB l := by
  have h0 : seqI (fun i => l.getD i 0) l.length = l := by
    refine List.ext_getElem (by simp [seqI]) fun i h1 h2 => ?_
    simp [seqI, List.getD_eq_getElem?_getD, h2]
  intro m hm
  induction m with
  | zero =>
    have : l.length = 0 := by omega
    rw [this] at h0
    rw [h0]
  | succ m ih =>
    by_cases e : l.length = m + 1
    · rw [← e, h0]
    · rw [seqI_succ, valB_snoc, ih (by omega)]
      have : l.getD m 0 = 0 := by simp [List.getD_eq_getElem?_getD, show l.length ≤ m by omega]
      rw [this]; simp

/-- the cell of a row of ints at every world below -/
theorem int_cell {w W : World} {b o n c : Nat} {l : List Int} (hr : RowV w 1 (.slice (some ⟨b, o, none⟩) n c) n (intV l)) (hn : n = l.length) (hW : Below w.heap.size w W) {i : Nat} (hi : i < l.length) : W.cell? ⟨b, o + i, none⟩ = some (.int .i64 (l.getD i 0)) := by
  have h := (hr.below hW (Nat.le_refl _)).rowC i _ (intV_get hi)
  rw [h]
  simp [List.getD_eq_getElem?_getD, hi]
theorem row_some {w : World} {a : Option Addr} {n c size : Nat} {xs : List Value} (hr : RowV w size (.slice a n c) n xs) (h : 0 < n) : ∃ b o, a = some ⟨b, o, none⟩ := by
  rcases hr.2 with ⟨e, h0⟩ | ⟨b1, off1, cap1, e1, p1, p2, p3, p4⟩
  · omega
  · cases e1; exact ⟨_, _, rfl⟩

/-- in the midst of Sums and Products: a row of the call's own -/
def SmR (w : World) (m : Nat) (f : Nat → Int) (wl : World) : Prop := Below w.heap.size w wl ∧ wl.ownsRow w.heap.size 3 1 (.slice (some ⟨w.heap.size, 0, none⟩) m m) m (intV (seqI f m))
theorem SmR.set {w wl : World} {m j : Nat} {f : Nat → Int} (h : SmR w m f wl) (hj : j < m) (x : Int) : SmR w m (updI f j x) (wl.setCell ⟨w.heap.size, j, none⟩ (.int .i64 x)) :=
  ⟨h.1.setCell (p := ⟨w.heap.size, j, none⟩) (Nat.le_refl _) _, by rw [← seqI_set f hj]; exact (h.2.stored j _).1⟩
theorem SmR.drew {w wl : World} {m : Nat} {f : Nat → Int} (h : SmR w m f wl) : SmR w m f wl.drew := ⟨h.1.drew, h.2.drew⟩
theorem made_zero (m : Nat) : (madeCells (Value.int .i64 0).cells (m * 1)).toList = intV (seqI (fun _ => 0) m) := by
  refine List.ext_getElem? fun i => ?_
  by_cases hi : i < m
  · rw [seqI_get _ hi]
    simp [madeCells, hi, Value.cells, Nat.mod_one]
  · simp [madeCells, hi, seqI, intV]

/-- what Sums and Products answer: a row of ints -/
abbrev ResI (w : World) (z B : Int) (N : Nat) (e : Ending) (w' : World) : Prop :=
  ∃ (a : Option Addr) (c : Nat) (l : List Int), e = .returned (.slice a l.length c) ∧ RowV w' 1 (.slice a l.length c) l.length (intV l) ∧ valB l = z ∧ (∀ x ∈ l, -B ≤ x ∧ x ≤ B) ∧ l.length ≤ N ∧ Below w.heap.size w w'

set_option maxRecDepth 100000 in
set_option maxHeartbeats 4000000 in
/-- Sums -/
theorem Sums_calls {w : World} {va vb : Value} {la lb : List Int} (ha : RowV w 1 va la.length (intV la)) (hb : RowV w 1 vb lb.length (intV lb)) (A : Int) (hA : A ≤ 100000000) (hA0 : 0 ≤ A) (ba : ∀ x ∈ la, -A ≤ x ∧ x ≤ A) (bb : ∀ x ∈ lb, -A ≤ x ∧ x ≤ A) (na : la.length ≤ 100000) (nb : lb.length ≤ 100000) (y : Int) (hy : y = 1 ∨ y = -1) :
    Calls Tryd.prog 21 #[va, vb, .int .i64 y] w (ResI w (valB la + y * valB lb) (2 * A) 100000) := by
  obtain ⟨aa, ca, rfl⟩ := ha.shape
  obtain ⟨ab, cb, rfl⟩ := hb.shape
  obtain ⟨m, hm⟩ : ∃ m, m = max la.length lb.length := ⟨_, rfl⟩
  have hma : la.length ≤ m := by omega
  have hmb : lb.length ≤ m := by omega
  have hm9 : m ≤ 100000 := by omega
  have gb : ∀ (l : List Int), (∀ x ∈ l, -A ≤ x ∧ x ≤ A) → ∀ i, -A ≤ l.getD i 0 ∧ l.getD i 0 ≤ A := fun l h i => by
    by_cases hi : i < l.length
    · have := h _ (List.getElem_mem hi)
      simpa [List.getD_eq_getElem?_getD, hi] using this
    · have e0 : l.getD i 0 = 0 := by simp [List.getD_eq_getElem?_getD, show l.length ≤ i by omega]
      rw [e0]; omega
  have hba := gb la ba
  have hbb := gb lb bb
  have va0 := valB_getD la m hma
  have vb0 := valB_getD lb m hmb
  obtain ⟨i1, hi1, hz1, hz2, hz3⟩ := info_parts infoeI
  have hmI : (m : Int) = max (la.length : Int) (lb.length : Int) := by omega
  have hby : i1.bytes * m ≤ 281474976710656 := by rw [hz3]; omega
  have HX := Lib.hid (And.intro ha (And.intro hb (And.intro hba (And.intro hbb (And.intro va0 (And.intro vb0 hy))))))
  have HH := Lib.hid (And.intro hi1 (And.intro hz1 (And.intro hz2 (And.intro hmI hby))))
  have hnl : (la.length : Int) ≤ 100000 := by omega
  have hnl2 : (lb.length : Int) ≤ 100000 := by omega
  clear ha hb ba bb gb hba hbb va0 vb0 hi1 hz1 hz2 hz3 hm hmI hby hy
  go_enter Tryd.func21, Tryd.ntmps21
  go_wp2_with (first
    | (refine wpList_make_full _ rfl _ _ _ rfl w.heap.size 3 i1 (.int .i64 0) 1 Tryd.underlying26 HH.out.1 HH.out.2.1 HH.out.2.2.1 .i64 .i64 _ _ m rfl rfl (by rw [HH.out.2.2.2.1]) (by rw [HH.out.2.2.2.1]) HH.out.2.2.2.2 (by unfold maxLen; omega) (Nat.le_refl _) ?_; intro w1 hown1 hg1
       have H1 := Lib.hid (And.intro hown1 hg1)
       clear hown1 hg1))
  obtain ⟨hown1, hg1⟩ := H1.out
  rw [made_zero] at hown1
  have hst : SmR w m (fun _ => 0) w1 := ⟨(Below.refl _ _).grown hg1 (Nat.le_refl _) (fun k hk => by cases hk), hown1⟩
  have HST := Lib.hid hst
  obtain ⟨N, hN⟩ : ∃ N, N = la.length := ⟨_, rfl⟩
  obtain ⟨M, hM⟩ : ∃ M, M = lb.length := ⟨_, rfl⟩
  rw [← hN] at hma hnl ⊢
  rw [← hM] at hmb hnl2 ⊢
  have HN := Lib.hid (And.intro hN hM)
  clear hst hown1 hg1 H1 hN hM na nb
  go_loopw [8] (fun i wl => ∃ (k : Nat) (f : Nat → Int), k ≤ N ∧ i = .int .i64 k ∧ SmR w m f wl ∧ ∀ i, f i = if i < k then la.getD i 0 else 0) (fun i _ => N - (intOf i).toNat)
  case atStart => exact ⟨0, fun _ => 0, by omega, by simp, HST.out, fun i => by simp⟩
  case round =>
    obtain ⟨k, f, hkl, rfl, hS, hf⟩ := hrel
    clear HST
    by_cases hlt : k < N
    · obtain ⟨ha, hb, hba, hbb, va0, vb0, hy⟩ := HX.out
      obtain ⟨hN, hM⟩ := HN.out
      obtain ⟨b, o, rfl⟩ := row_some ha (by omega)
      have x0 := int_cell ha rfl hS.1 (i := k) (by omega)
      have y0 := (hS.2.cellAt k (by omega)).trans (seqI_get f (by omega))
      have f0 := hS.2.frozenAt k
      generalize hx : la.getD k 0 = x at x0
      have hlt' : (k : Int) < (N : Int) := by omega
      have hkm : (k : Int) < (m : Int) := by omega
      have HQ := Lib.hid (And.intro hS (And.intro hf hx))
      clear ha hb hba hbb va0 vb0 hy hN hM hS hf hx
      go_wp2
      obtain ⟨hS, hf, hx⟩ := HQ.out
      refine ⟨⟨k + 1, _, by omega, by go_num, hS.set (j := k) (by omega) x, fun i => ?_⟩, by simp [intOf]; omega⟩
      simp only [updI]
      by_cases e : i = k
      · subst e; rw [if_pos rfl, if_pos (by omega), hx]
      · rw [if_neg e, hf i]
        by_cases e2 : i < k
        · rw [if_pos e2, if_pos (by omega)]
        · rw [if_neg e2, if_neg (by omega)]
    · have hkn : k = N := by omega
      subst hkn
      have hlt' : ¬ ((k : Int) < (k : Int)) := by omega
      have hf2 : ∀ i, f i = la.getD i 0 := fun i => by
        rw [hf i]
        by_cases e : i < k
        · rw [if_pos e]
        · rw [if_neg e]
          have hN := HN.out.1
          simp [List.getD_eq_getElem?_getD, show la.length ≤ i by omega]
      have HST := Lib.hid (And.intro hS hf2)
      clear hS hf hf2 hlt
      go_wp2
      go_loopw [9] (fun i wl => ∃ (j : Nat) (f : Nat → Int), j ≤ M ∧ i = .int .i64 j ∧ SmR w m f wl ∧ ∀ i, f i = if i < j then la.getD i 0 + y * lb.getD i 0 else la.getD i 0) (fun i _ => M - (intOf i).toNat)
      case atStart => exact ⟨0, f, by omega, by simp, HST.out.1, fun i => by simp [HST.out.2 i]⟩
      case round =>
        obtain ⟨j, f2, hjl, rfl, hS, hf⟩ := hrel
        clear HST
        obtain ⟨ha, hb, hba, hbb, va0, vb0, hy⟩ := HX.out
        obtain ⟨hN, hM⟩ := HN.out
        by_cases hlt : j < M
        · obtain ⟨b, o, rfl⟩ := row_some hb (by omega)
          have x0 := int_cell hb rfl hS.1 (i := j) (by omega)
          have y0 := (hS.2.cellAt j (by omega)).trans (seqI_get f2 (by omega))
          have f0 := hS.2.frozenAt j
          have hfj : f2 j = la.getD j 0 := by rw [hf j, if_neg (by omega)]
          rw [hfj] at y0
          have hb1 := hba j
          have hb2 := hbb j
          generalize hx : lb.getD j 0 = x at x0 hb2
          generalize hu : la.getD j 0 = u at y0 hb1
          have hyx : -A ≤ y * x ∧ y * x ≤ A := by rcases hy with rfl | rfl <;> omega
          have hw1 : IntKind.i64.wrap (y * x) = y * x := IntWalk.i64_in _ (by omega)
          have hw2 : IntKind.i64.wrap (u + y * x) = u + y * x := IntWalk.i64_in _ (by omega)
          have hlt' : (j : Int) < (M : Int) := by omega
          have hkm : (j : Int) < (m : Int) := by omega
          have HQ := Lib.hid (And.intro hS (And.intro hf (And.intro hx hu)))
          clear ha hb hba hbb va0 vb0 hy hN hM hS hf hx hu hfj
          have HW := Lib.hid (And.intro hyx hb1)
          clear hw1 hw2 hyx hb1 hb2
          go_wp2
          (try go_region)
          (try go_wp2)
          obtain ⟨hS, hf, hx, hu⟩ := HQ.out
          have hww : wrap64 (u + wrap64 (y * x)) = u + y * x := by
            have h1 := HW.out.1
            have h2 := HW.out.2
            rw [wrap64_of (show i64 (y * x) by unfold i64; omega), wrap64_of (show i64 (u + y * x) by unfold i64; omega)]
          refine ⟨⟨j + 1, updI f2 j (u + y * x), by omega, by go_num, by rw [hww]; exact (hS.set (j := j) (by omega) (u + y * x)).drew, fun i => ?_⟩, by simp [intOf]; omega⟩
          simp only [updI]
          by_cases e : i = j
          · subst e; rw [if_pos rfl, if_pos (by omega), hx, hu]
          · rw [if_neg e, hf i]
            by_cases e2 : i < j
            · rw [if_pos e2, if_pos (by omega)]
            · rw [if_neg e2, if_neg (by omega)]
        · have hjn : j = M := by omega
          subst hjn
          have hlt' : ¬ ((j : Int) < (j : Int)) := by omega
          have hff : ∀ i, f2 i = la.getD i 0 + y * lb.getD i 0 := fun i => by
            rw [hf i]
            by_cases e : i < j
            · rw [if_pos e]
            · rw [if_neg e]
              have : lb.getD i 0 = 0 := by simp [List.getD_eq_getElem?_getD, show lb.length ≤ i by omega]
              rw [this]; omega
          have hval : valB (seqI f2 m) = valB la + y * valB lb := by
            rw [seqI_eq (g := fun i => la.getD i 0 + y * lb.getD i 0) (fun i _ => hff i), valB_add, va0, vb0]
          have hbd : ∀ x ∈ seqI f2 m, -(2 * A) ≤ x ∧ x ≤ 2 * A := fun x hx => by
            obtain ⟨i, _, rfl⟩ := List.mem_map.1 hx
            rw [hff i]
            have h1 := hba i
            have h2 := hbb i
            rcases hy with rfl | rfl <;> omega
          have HQ := Lib.hid (And.intro hS (And.intro hval hbd))
          clear ha hb hba hbb va0 vb0 hy hN hM hS hf hff hval hbd
          go_wp2
          obtain ⟨hS, hval, hbd⟩ := HQ.out
          refine bodyPost_ret (v := .slice (some ⟨w.heap.size, 0, none⟩) m m) (by simp [results, Tryd.results21, go_sem, *]) rfl ⟨some ⟨w.heap.size, 0, none⟩, m, seqI f2 m, by rw [seqI_len], by rw [seqI_len]; exact RowV.of_own hS.2, hval, hbd, by rw [seqI_len]; omega, hS.1⟩

set_option maxRecDepth 100000 in
set_option maxHeartbeats 4000000 in
/-- Products -/
theorem Products_calls {w : World} {va vb : Value} {la lb : List Int} (ha : RowV w 1 va la.length (intV la)) (hb : RowV w 1 vb lb.length (intV lb)) (ba : ∀ x ∈ la, -10 ≤ x ∧ x ≤ 10) (bb : ∀ x ∈ lb, -10 ≤ x ∧ x ≤ 10) (na : la.length ≤ 600) (nb : lb.length ≤ 600) :
    Calls Tryd.prog 22 #[va, vb] w (ResI w (valB la * valB lb) 36000000 1200) := by
  obtain ⟨aa, ca, rfl⟩ := ha.shape
  obtain ⟨ab, cb, rfl⟩ := hb.shape
  obtain ⟨m, hm⟩ : ∃ m, m = la.length + lb.length := ⟨_, rfl⟩
  have hm9 : m ≤ 1200 := by omega
  obtain ⟨i1, hi1, hz1, hz2, hz3⟩ := info_parts infoeI
  have hmI : (m : Int) = (la.length : Int) + (lb.length : Int) := by omega
  have hby : i1.bytes * m ≤ 281474976710656 := by rw [hz3]; omega
  have HX := Lib.hid (And.intro ha (And.intro hb (And.intro ba bb)))
  have HH := Lib.hid (And.intro hi1 (And.intro hz1 (And.intro hz2 (And.intro hmI hby))))
  have hnl : (la.length : Int) ≤ 600 := by omega
  have hnl2 : (lb.length : Int) ≤ 600 := by omega
  clear ha hb ba bb hi1 hz1 hz2 hz3 hmI hby
  go_enter Tryd.func22, Tryd.ntmps22
  go_wp2_with (first
    | (refine wpList_make_full _ rfl _ _ _ rfl w.heap.size 3 i1 (.int .i64 0) 1 Tryd.underlying26 HH.out.1 HH.out.2.1 HH.out.2.2.1 .i64 .i64 _ _ m rfl rfl (by rw [HH.out.2.2.2.1]) (by rw [HH.out.2.2.2.1]) HH.out.2.2.2.2 (by unfold maxLen; omega) (Nat.le_refl _) ?_; intro w1 hown1 hg1
       have H1 := Lib.hid (And.intro hown1 hg1)
       clear hown1 hg1))
  obtain ⟨hown1, hg1⟩ := H1.out
  rw [made_zero] at hown1
  have hst : SmR w m (fun _ => 0) w1 := ⟨(Below.refl _ _).grown hg1 (Nat.le_refl _) (fun k hk => by cases hk), hown1⟩
  have HST := Lib.hid hst
  obtain ⟨N, hN⟩ : ∃ N, N = la.length := ⟨_, rfl⟩
  obtain ⟨M, hM⟩ : ∃ M, M = lb.length := ⟨_, rfl⟩
  rw [← hN] at hm hnl ⊢
  rw [← hM] at hm hnl2 ⊢
  have HN := Lib.hid (And.intro hN hM)
  have hmN : (N : Int) + (M : Int) ≤ (m : Int) := by omega
  have hmN2 : (m : Int) ≤ (N : Int) + (M : Int) := by omega
  clear hst hown1 hg1 H1 hN hM na nb hm
  go_loopw [6] (fun i wl => ∃ (k : Nat) (f : Nat → Int), k ≤ N ∧ i = .int .i64 k ∧ SmR w m f wl ∧ valB (seqI f m) = valB (la.take k) * valB lb ∧ ∀ i, -60000 * (k : Int) ≤ f i ∧ f i ≤ 60000 * (k : Int)) (fun i _ => N - (intOf i).toNat)
  case atStart => exact ⟨0, fun _ => 0, by omega, by simp, HST.out, by rw [valB_zero]; simp [valB], fun i => by simp⟩
  case round =>
    obtain ⟨k, f, hkl, rfl, hS, hv, hf⟩ := hrel
    clear HST
    by_cases hlt : k < N
    · have hlt' : (k : Int) < (N : Int) := by omega
      have HST := Lib.hid (And.intro hS (And.intro hv hf))
      clear hS hv hf
      go_wp2
      go_loopw [7] (fun i wl => ∃ (j : Nat) (f : Nat → Int), j ≤ M ∧ i = .int .i64 j ∧ SmR w m f wl ∧ valB (seqI f m) = valB (la.take k) * valB lb + 2 ^ k * la.getD k 0 * valB (lb.take j) ∧ ∀ i, -60000 * (k : Int) - 100 * (j : Int) ≤ f i ∧ f i ≤ 60000 * (k : Int) + 100 * (j : Int)) (fun i _ => M - (intOf i).toNat)
      case atStart => exact ⟨0, f, by omega, by simp, HST.out.1, by rw [HST.out.2.1]; simp [valB], fun i => by have := HST.out.2.2 i; omega⟩
      case round =>
        obtain ⟨j, f2, hjl, rfl, hS, hv, hf⟩ := hrel
        clear HST
        obtain ⟨ha, hb, ba, bb⟩ := HX.out
        obtain ⟨hN, hM⟩ := HN.out
        by_cases hlt2 : j < M
        · obtain ⟨b, o, rfl⟩ := row_some ha (by omega)
          obtain ⟨b2, o2, rfl⟩ := row_some hb (by omega)
          have x0 := int_cell ha rfl hS.1 (i := k) (by omega)
          have x1 := int_cell hb rfl hS.1 (i := j) (by omega)
          have y0 := (hS.2.cellAt (k + j) (by omega)).trans (seqI_get f2 (show k + j < m by omega))
          have f0 := hS.2.frozenAt (k + j)
          have hgk : la.getD k 0 = la[k]'(by omega) := by simp [List.getD_eq_getElem?_getD, show k < la.length by omega]
          have hgj : lb.getD j 0 = lb[j]'(by omega) := by simp [List.getD_eq_getElem?_getD, show j < lb.length by omega]
          have h1 := ba _ (List.getElem_mem (show k < la.length by omega))
          have h2 := bb _ (List.getElem_mem (show j < lb.length by omega))
          rw [← hgk] at h1
          rw [← hgj] at h2
          have htj : valB (lb.take (j + 1)) = valB (lb.take j) + lb.getD j 0 * 2 ^ j := by
            rw [List.take_succ_eq_append_getElem (show j < lb.length by omega), valB_snoc, List.length_take, Nat.min_eq_left (by omega), hgj]
          have hfj := hf (k + j)
          generalize la.getD k 0 = x at x0 h1 hv
          generalize lb.getD j 0 = y at x1 h2 htj
          generalize hu : f2 (k + j) = u at y0 hfj
          have hp1 : x * y ≤ 100 ∧ -100 ≤ x * y := by
            have a1 : (x * y).natAbs ≤ 10 * 10 := by rw [Int.natAbs_mul]; exact Nat.mul_le_mul (by omega) (by omega)
            omega
          have hw1 : IntKind.i64.wrap (x * y) = x * y := IntWalk.i64_in _ (by omega)
          have hw2 : IntKind.i64.wrap (u + x * y) = u + x * y := IntWalk.i64_in _ (by omega)
          have hj' : (j : Int) < (M : Int) := by omega
          have hq1 : (k : Int) + (j : Int) < (m : Int) := by omega
          have hq2 : (0 : Int) ≤ (k : Int) + (j : Int) := by omega
          have hq3 : ((k : Int) + (j : Int)).toNat = k + j := by omega
          have HQ := Lib.hid (And.intro hS (And.intro hv (And.intro hf (And.intro hu (And.intro htj hp1)))))
          have hk6 : (k : Int) ≤ 600 := by omega
          have hj6 : (j : Int) ≤ 600 := by omega
          clear ha hb ba bb hN hM hS hv hf hu htj hgk hgj h1 h2 hp1
          have HU := Lib.hid (And.intro hfj (And.intro hk6 hj6))
          clear hw1 hw2 hfj
          go_wp2
          (try go_region)
          (try go_wp2)
          obtain ⟨hS, hv, hf, hu, htj, hp1⟩ := HQ.out
          have hww : wrap64 (u + wrap64 (x * y)) = u + x * y := by
            have h2 := HU.out
            rw [wrap64_of (show i64 (x * y) by unfold i64; omega), wrap64_of (show i64 (u + x * y) by unfold i64; omega)]
          refine ⟨⟨j + 1, updI f2 (k + j) (u + x * y), by omega, by go_num, by rw [hww]; exact (hS.set (j := k + j) (by omega) (u + x * y)).drew, ?_, fun i => ?_⟩, by simp [intOf]; omega⟩
          · rw [← hu, valB_upd _ _ _ _ (by omega), hv, htj, Int.mul_add, Int.pow_add]
            rw [show x * y * (2 ^ k * 2 ^ j) = 2 ^ k * x * (y * 2 ^ j) by simp only [Int.mul_assoc, Int.mul_left_comm, Int.mul_comm]]
            omega
          · simp only [updI]
            have h3 := hf i
            have h4 := hf (k + j)
            rw [hu] at h4
            by_cases e : i = k + j
            · rw [if_pos e]; omega
            · rw [if_neg e]; omega
        · have hjn : j = M := by omega
          subst hjn
          have hj' : ¬ ((j : Int) < (j : Int)) := by omega
          have hgk : la.getD k 0 = la[k]'(by omega) := by simp [List.getD_eq_getElem?_getD, show k < la.length by omega]
          have htk : valB (la.take (k + 1)) = valB (la.take k) + la.getD k 0 * 2 ^ k := by
            rw [List.take_succ_eq_append_getElem (show k < la.length by omega), valB_snoc, List.length_take, Nat.min_eq_left (by omega), hgk]
          rw [hM, List.take_length] at hv
          have hv2 : valB (seqI f2 m) = valB (la.take (k + 1)) * valB lb := by
            rw [hv, htk, Int.add_mul, Int.mul_comm (la.getD k 0) (2 ^ k)]
          have HQ := Lib.hid (And.intro hS (And.intro hv2 hf))
          clear ha hb ba bb hN hM hS hv hv2 hf hgk htk
          go_wp2
          obtain ⟨hS, hv2, hf⟩ := HQ.out
          exact ⟨⟨k + 1, f2, by omega, by go_num, hS, hv2, fun i => by have := hf i; omega⟩, by simp [intOf]; omega⟩
    · have hkn : k = N := by omega
      subst hkn
      have hlt' : ¬ ((k : Int) < (k : Int)) := by omega
      have hN := HN.out.1
      rw [hN, List.take_length] at hv
      have hbd : ∀ x ∈ seqI f m, -36000000 ≤ x ∧ x ≤ 36000000 := fun x hx => by
        obtain ⟨i, _, rfl⟩ := List.mem_map.1 hx
        have := hf i
        omega
      have HQ := Lib.hid (And.intro hS (And.intro hv hbd))
      have hmk : k + M = m := by omega
      clear hS hv hf hbd hN
      go_wp2
      obtain ⟨hS, hval, hbd⟩ := HQ.out
      refine bodyPost_ret (v := .slice (some ⟨w.heap.size, 0, none⟩) m m) (by simp [results, Tryd.results22, go_sem, *]) rfl ⟨some ⟨w.heap.size, 0, none⟩, m, seqI f m, by rw [seqI_len], by rw [seqI_len]; exact RowV.of_own hS.2, hval, hbd, by rw [seqI_len]; omega, hS.1⟩
end Go.Proofs.YteochdnjpchdnaaDoor

namespace Go.Proofs.YteochdnjpchdnaaDoor
open Go.RowKit
set_option linter.unusedVariables false
variable {B : Nat → Prop}

/-! How often each power of two is in a number. -/
def SpR (wq : World) (z : Int) (i : Nat) (o : Value) (M : Nat) (f : Nat → Int) (wl : World) : Prop :=
  Below wq.heap.size wq wl ∧ wl.ownsRow wq.heap.size 3 1 o M (intV (seqI f M)) ∧ (∀ j, M ≤ j → f j = 0) ∧ (∀ j, -1 ≤ f j ∧ f j ≤ 1) ∧ valB (seqI f M) = val ((naf z).take i) ∧ M ≤ 1000
def SpreadR (w : World) (z : Int) (e : Ending) (w' : World) : Prop :=
  ∃ (a : Option Addr) (c : Nat) (l : List Int), e = .returned (.tuple #[.slice a l.length c, .bool true]) ∧ RowV w' 1 (.slice a l.length c) l.length (intV l) ∧ valB l = z ∧ (∀ x ∈ l, -1 ≤ x ∧ x ≤ 1) ∧ l.length ≤ 1000 ∧ Below w.heap.size w w'
theorem val_snoc (l : List Tm) (t : Tm) : val (l ++ [t]) = val l + tv t := by rw [val_append]; simp [val]
theorem SpR.put {wq wl : World} {z : Int} {i M b c : Nat} {f : Nat → Int} {u : Tm} (h : SpR wq z i (.slice (some ⟨b, 0, none⟩) M c) M f wl) (hu : u.2 < M) (h0 : f u.2 = 0) (ht : val ((naf z).take (i + 1)) = val ((naf z).take i) + tv u) :
    SpR wq z (i + 1) (.slice (some ⟨b, 0, none⟩) M c) M (updI f u.2 (sg u.1)) (wl.setCell ⟨b, u.2, none⟩ (.int .i64 (sg u.1))) := by
  obtain ⟨h1, h2, h3, h4, h5, h6⟩ := h
  refine ⟨h1.setCell (p := ⟨b, u.2, none⟩) (h2.lt b rfl).1 _, by rw [← seqI_set f hu]; exact (h2.stored u.2 _).1, fun j hj => ?_, fun j => ?_, ?_, h6⟩
  · simp only [updI]; rw [if_neg (by omega)]; exact h3 j hj
  · simp only [updI]
    by_cases e : j = u.2
    · rw [if_pos e]; rcases sg_cases u.1 with ⟨_, k⟩ | ⟨_, k⟩ <;> omega
    · rw [if_neg e]; exact h4 j
  · have h7 := valB_upd f u.2 (sg u.1) M hu
    rw [h0, Int.zero_add] at h7
    rw [h7, h5, ht]; rfl

theorem SpR.put2 {wq wl : World} {z : Int} {i M b c : Nat} {f : Nat → Int} {u : Tm} (h : SpR wq z i (.slice (some ⟨b, 0, none⟩) M c) M f wl) (hu : u.2 < M) (h0 : f u.2 = 0) (ht : val ((naf z).take (i + 1)) = val ((naf z).take i) + tv u) :
    SpR wq z (i + 1) (.slice (some ⟨b, 0, none⟩) M c) M (updI f u.2 (sg u.1)) ((wl.setCell ⟨b, u.2, none⟩ (.int .i64 1)).setCell ⟨b, u.2, none⟩ (.int .i64 (sg u.1))) := by
  have hp := h.put hu h0 ht
  obtain ⟨h1, h2, _⟩ := h
  have hb := (h2.lt b rfl).1
  refine ⟨(h1.setCell (p := ⟨b, u.2, none⟩) hb _).setCell (p := ⟨b, u.2, none⟩) hb _, ?_, hp.2.2⟩
  have h3 := ((h2.stored u.2 (.int .i64 1)).1.stored u.2 (.int .i64 (sg u.1))).1
  rw [List.set_set, seqI_set f hu] at h3
  exact h3

set_option maxRecDepth 100000 in
set_option maxHeartbeats 8000000 in
/-- spread -/
theorem spread_calls {w : World} {s z : Int} {g : Option Addr} (h : LawW w) (hx : NumA B w s g z) (he : ∀ u ∈ naf z, u.2 < 1000) :
    Calls Tryd.prog 39 #[.agg #[.int .i64 s, .pointer g]] w (SpreadR w z) := by
  have hb1 : Below w.heap.size w (w.alloc (.cells #[.int .i64 s, .pointer g] 29)) := (Below.refl _ _).alloc (Nat.le_refl _) _
  have hT := h.terms0 hx _ hb1
  have HT := Lib.hid hT
  have HX := Lib.hid (And.intro he (And.intro hb1 hx.wt))
  clear hT h hx he hb1
  go_enter Tryd.func39, Tryd.ntmps39
  go_upto_region 2 with (first
    | (go_at_call 28; refine HT.out.mono ?_; rintro e5 w5 ⟨a5, c5, ts, rfl, hl5, ho5, hf5, hb5⟩
       have H5 := Lib.hid (And.intro hl5 (And.intro ho5 (And.intro hf5 hb5)))
       clear hl5 ho5 hf5 hb5))
  obtain ⟨hl5, ho5, hf5, hb5⟩ := H5.out
  obtain ⟨he, hb1, hw3⟩ := HX.out
  have hbw : Below w.heap.size w w5 := hb1.trans (hb5.mono hb1.size)
  have hrow : ∀ W, Below w5.heap.size w5 W → RowV W 3 (.slice a5 ts.length c5) ts.length (flatT ts) := fun W hW => RowV.of_own (ownsRow_belowAll ho5 hW)
  have hst : SpR w5 z 0 (.slice (some ⟨w5.heap.size, 0, none⟩) 0 0) 0 (fun _ => 0) (w5.alloc (.cells #[] 3)) :=
    ⟨(Below.refl _ _).alloc (Nat.le_refl _) _, World.ownsRow_lit w5 #[] 0 (Nat.le_refl _) (by decide) rfl, fun _ _ => rfl, fun _ => by show (-1 : Int) ≤ 0 ∧ (0 : Int) ≤ 1; omega, by simp [seqI, valB, val], by omega⟩
  have HST := Lib.hid hst
  obtain ⟨n, hn⟩ : ∃ n, n = ts.length := ⟨_, rfl⟩
  have hnl : n = (naf z).length := by rw [hn, hl5]; rfl
  have HR := Lib.hid (And.intro hrow (And.intro hf5 (And.intro hbw (And.intro hn hnl))))
  rw [← hn]
  have hn9 : (n : Int) ≤ 300 := by rw [hl5] at hn; omega
  clear hst hrow hl5 ho5 hf5 hb5 hb1 hw3 hbw hnl H5 HT hn he
  go_wp2
  go_loopg [5, 6, 7] n (fun rem o la iv wl => ∃ (i : Nat) (a : Option Addr) (c M : Nat) (f : Nat → Int) (L : Int), i + rem = n ∧ iv = .int .i64 i ∧ o = .slice a M c ∧ la = .int .i64 L ∧ SpR w5 z i (.slice a M c) M f wl ∧ (∀ j : Nat, (j : Int) < L → f j = 0) ∧ (∀ u, (naf z)[i]? = some u → (u.2 : Int) + 2 ≤ L) ∧ 0 ≤ L ∧ L ≤ 1048576)
  case atStart =>
    refine ⟨0, _, _, 0, fun _ => 0, 1048576, by omega, by simp, rfl, rfl, HST.out, fun _ _ => rfl, fun u hu => ?_, by omega, by omega⟩
    have := HX.out.1 u (List.mem_of_getElem? hu)
    omega
  case round =>
    obtain ⟨i, a, c, M, f, L, hir, rfl, rfl, rfl, hS, hz, hL, hL0, hL9⟩ := hrel
    clear HST
    obtain ⟨gq, hgq⟩ : ∃ gq, gq = gk := ⟨_, rfl⟩
    subst hgq
    by_cases hlt : i < n
    · obtain ⟨hrow, hf5, hbw, hn, hnl⟩ := HR.out
      have hit : i < ts.length := by omega
      have hin : i < (naf z).length := by omega
      obtain ⟨b5, o5, rfl⟩ := row_some (hrow _ (Below.refl _ _)) (by omega)
      obtain ⟨x0, x1, x2⟩ := RowC.term (hrow _ hS.1).rowC i hit
      obtain ⟨hm, hnu⟩ := hf5.get i hit (by simp; omega)
      have hgu : ((naf z).map ofT)[i]'(by simp; omega) = ofT (naf z)[i] := by simp
      rw [hgu] at hm hnu
      have hou : (naf z)[i]? = some (naf z)[i] := List.getElem?_eq_getElem hin
      have hlu := hL _ hou
      have heu := HX.out.1 _ (List.getElem_mem hin)
      have hnx : ∀ u2, (naf z)[i + 1]? = some u2 → u2.2 + 2 ≤ ((naf z)[i]).2 := fun u2 h2 => by
        have hna := List.pairwise_iff_getElem.1 (naf_NA z) i (i + 1) hin (List.getElem?_eq_some_iff.1 h2).1 (by omega)
        rw [(List.getElem?_eq_some_iff.1 h2).2] at hna
        exact hna
      have htk : val ((naf z).take (i + 1)) = val ((naf z).take i) + tv (naf z)[i] := by rw [List.take_succ_eq_append_getElem hin, val_snoc]
      generalize ts[i] = tt at x0 x1 x2 hm hnu
      generalize (naf z)[i] = u at hm hnu hou hlu heu hnx htk
      obtain ⟨tm, tsg, tg⟩ := tt
      obtain ⟨um, ue⟩ := u
      simp only [ofT] at x0 x1 x2 hm hnu hlu heu
      subst hm
      have hint := fun W => Int_num (W := W) hnu
      have hsm : smallZ (ue : Int) = ue := by unfold smallZ; rw [if_pos (by unfold i64; omega)]
      have hdi : decide (i64 (ue : Int)) = true := decide_eq_true (by unfold i64; omega)
      rw [hsm, hdi] at hint
      have hC : ∀ W, Below w5.heap.size w5 W → W.cell? ⟨b5, o5 + i * 3, none⟩ = some (.bool tm) := fun W hW => by
        have h5 := hf5
        have hb5 := (hrow _ (Below.refl _ _)).lt b5 rfl
        have hb6 : wr.cell? ⟨b5, o5 + i * 3, none⟩ = w5.cell? ⟨b5, o5 + i * 3, none⟩ := hS.1.cell (p := ⟨b5, o5 + i * 3, none⟩) hb5
        exact (hW.cell (p := ⟨b5, o5 + i * 3, none⟩) hb5).trans (hb6.symm.trans x0)
      have HC := Lib.hid hC
      have HI := Lib.hid hint
      have HS := Lib.hid (And.intro hS (And.intro hz (And.intro hnx htk)))
      have hlt' : (i : Int) < (n : Int) := by omega
      have hu0 : ¬ (ue : Int) < 0 := by omega
      have hu1 : ¬ L - 1 ≤ (ue : Int) := by omega
      have hu9 : (ue : Int) < 1000 := by omega
      have hM9 : (M : Int) ≤ 1000 := by have := hS.2.2.2.2.2; omega
      clear hrow hf5 hbw hn hnl hit hin hnu hou hlu heu hnx htk hsm hdi hint hC hS hz hL hgu
      go_upto_region 10 with (first
        | (go_at_call 38; refine (HI.out _).mono ?_; rintro e6 w6 ⟨rfl, hb6⟩
           have H6 := Lib.hid hb6
           clear hb6))
      have hS := HS.out.1
      have hS6 : SpR w5 z i (.slice a M c) M f w6 := ⟨hS.1.trans (H6.out.mono hS.1.size), ownsRow_belowAll hS.2.1 H6.out, hS.2.2⟩
      have HST := Lib.hid hS6
      clear hS hS6 x0 x1 x2 hu1
      go_wp2
      go_loopg [5] (ue + 1 - M) (fun rem o wl => ∃ (a : Option Addr) (c M' : Nat), o = .slice a M' c ∧ ue + 1 ≤ M' + rem ∧ M' ≤ 1000 ∧ SpR w5 z i (.slice a M' c) M' f wl)
      case atStart => exact ⟨a, c, M, rfl, by omega, by omega, HST.out⟩
      case round =>
        obtain ⟨a, c, M', rfl, hmr, hm9, hS⟩ := hrel
        clear HST
        by_cases hle : M' ≤ ue
        · obtain ⟨i1, hi1, hz1, hz2, hz3⟩ := info_parts infoeI
          have HH := Lib.hid (And.intro hi1 (And.intro hz1 (And.intro hz2 hz3)))
          have hle' : (M' : Int) ≤ (ue : Int) := by omega
          have hsz := hS.1.size
          have HQ := Lib.hid hS
          clear hS hi1 hz1 hz2 hz3
          go_wp2_with (first
            | (at_builtin; refine wpList_append_own_at _ rfl _ _ 26 rfl w5.heap.size 3 i1 (.int .i64 0) 1 8 Tryd.underlying26 HH.out.1 HH.out.2.1 HH.out.2.2.1 HH.out.2.2.2 rfl (by decide) _ _ _ rfl (HQ.out.2.1.alloc _) ⟨wr.heap.size, 0, none⟩ 1 1 [.int .i64 0] rfl rfl (news_alloc wr _ _ _) (by simp [Value.oneCell']) (by unfold maxLen; omega) (by omega) (by simp; omega) ?_; intro v7 w7 hown7 hg7 _ hat7
               obtain ⟨a7, c7, rfl⟩ := (RowV.of_own hown7).shape
               have H7 := Lib.hid (And.intro hown7 hg7)
               clear hown7 hg7 hat7))
          obtain ⟨h1, h2, h3, h4, h5, h6⟩ := HQ.out
          obtain ⟨hown7, hg7⟩ := H7.out
          have hA : ∀ o, Below wr.heap.size wr (wr.alloc o) := fun o => (Below.refl _ _).alloc (Nat.le_refl _) _
          have h0 : f M' = 0 := h3 M' (Nat.le_refl _)
          go_roundg (gk - 1)
          case measure => omega
          case rel =>
            refine ⟨a7, c7, M' + 1, rfl, by omega, by omega, (h1.trans ((hA _).mono h1.size)).grown hg7 (by simp; omega) (fun j hj => (h2.lt j hj).1), ?_, fun j hj => h3 j (by omega), h4, ?_, by omega⟩
            · rw [seqI_succ, intV_append, h0]; exact hown7
            · rw [seqI_succ, valB_snoc, h0, h5]; simp
        · have hle' : ¬ (M' : Int) ≤ (ue : Int) := by omega
          obtain ⟨hown, hrest⟩ : (wr.ownsRow w5.heap.size 3 1 (.slice a M' c) M' (intV (seqI f M'))) ∧ True := ⟨hS.2.1, trivial⟩
          obtain ⟨b, rfl⟩ : ∃ b, a = some ⟨b, 0, none⟩ := by
            obtain ⟨g', cap, e⟩ := Go.Joins.ownsRow_form hown (by omega)
            cases e; exact ⟨g', rfl⟩
          have y0 := (hown.cellAt ue (by omega)).trans (seqI_get f (show ue < M' by omega))
          have f0 := hown.frozenAt ue
          have hgm : (ue : Int) < (M' : Int) := by omega
          have hbb := (hown.lt b rfl).1
          have x0 := HC.out _ ((hS.1).setCell (p := ⟨b, ue, none⟩) hbb (.int .i64 1))
          have s1 := (hown.stored ue (.int .i64 1)).1
          have y1 := (s1.cellAt ue (by omega)).trans (show ((intV (seqI f M')).set ue (.int .i64 1))[ue]? = some (.int .i64 1) by rw [List.getElem?_set_self (by rw [intV_len, seqI_len]; omega)])
          have f1 := s1.frozenAt ue
          have HQ := Lib.hid hS
          have HU := Lib.hid hL0
          clear hS hown hrest s1 hbb
          cases tm
          · go_wp2
            obtain ⟨hS0, hz, hnx, htk⟩ := HS.out
            have hp := HQ.out.put (u := (false, ue)) (by simp only; omega) (hz ue (by omega)) htk
            simp only [sg] at hp
            go_roundg (gq - 1)
            case measure => omega
            case rel =>
              refine ⟨i + 1, _, _, _, _, (ue : Int), by omega, by go_num, rfl, rfl, hp, fun j hj => ?_, fun u2 h2 => by have := hnx u2 h2; omega, by omega, by omega⟩
              simp only [updI]
              rw [if_neg (by omega)]
              exact hz j (by omega)
          · go_wp2
            obtain ⟨hS0, hz, hnx, htk⟩ := HS.out
            have hp := HQ.out.put2 (u := (true, ue)) (by simp only; omega) (hz ue (by omega)) htk
            simp only [sg] at hp
            go_roundg (gq - 1)
            case measure => omega
            case rel =>
              refine ⟨i + 1, _, _, _, _, (ue : Int), by omega, by go_num, rfl, rfl, hp, fun j hj => ?_, fun u2 h2 => by have := hnx u2 h2; omega, by omega, by omega⟩
              simp only [updI]
              rw [if_neg (by omega)]
              exact hz j (by omega)
    · have hin : i = n := by omega
      subst hin
      have hlt' : ¬ ((i : Int) < (i : Int)) := by omega
      have HQ := Lib.hid hS
      clear hS hz hL
      go_wp2
      obtain ⟨h1, h2, h3, h4, h5, h6⟩ := HQ.out
      obtain ⟨hrow, hf5, hbw, hn, hnl⟩ := HR.out
      rw [hnl, List.take_length, naf_val] at h5
      refine bodyPost_ret (v := .tuple #[.slice a M c, .bool true]) (by simp [results, Tryd.results39, go_sem, *]) rfl ⟨a, c, seqI f M, by rw [seqI_len], by rw [seqI_len]; exact RowV.of_own h2, h5, fun x hx => ?_, by rw [seqI_len]; exact h6, hbw.trans (h1.mono hbw.size)⟩
      obtain ⟨j, _, rfl⟩ := List.mem_map.1 hx
      exact h4 j

set_option maxRecDepth 100000 in
set_option maxHeartbeats 4000000 in
/-- is: the number is the sum of so many of each power -/
theorem is_calls {w : World} {s z : Int} {g : Option Addr} {v : Value} {l : List Int} (h : LawW w) (hx : NumA B w s g z) (he : ∀ u ∈ naf z, u.2 < 1000) (hr : RowV w 1 v l.length (intV l)) (hl : valB l = z) (hb : ∀ x ∈ l, -100000000 ≤ x ∧ x ≤ 100000000) (hn : l.length ≤ 100000) :
    Calls Tryd.prog 15 #[.agg #[.int .i64 s, .pointer g], v] w fun e w' => e = .returned (.bool true) ∧ Below w.heap.size w w' := by
  have hb1 : Below w.heap.size w (w.alloc (.cells #[.int .i64 s, .pointer g] 29)) := (Below.refl _ _).alloc (Nat.le_refl _) _
  have p0 := heap_alloc_new w (.cells #[.int .i64 s, .pointer g] 29)
  have hsp := spread_calls (h.on hb1) (hx.below hb1) he
  obtain ⟨e0, e1⟩ := num_cells p0
  have HX := Lib.hid (And.intro h (And.intro hx (And.intro hr (And.intro hl (And.intro hb (And.intro hn (And.intro hb1 p0)))))))
  have HSP := Lib.hid hsp
  clear h hx hr hl hb hn hb1 p0 hsp he
  go_enter Tryd.func15, Tryd.ntmps15
  go_upto_region 2 with (first
    | (go_at_call 39; refine HSP.out.mono ?_; rintro e5 w5 ⟨a, c, l5, rfl, hr5, hv5, hd5, hn5, hb5⟩
       have H5 := Lib.hid (And.intro hr5 (And.intro hv5 (And.intro hd5 (And.intro hn5 hb5))))
       clear hr5 hv5 hd5 hn5 hb5))
  obtain ⟨hr5, hv5, hd5, hn5, hb5⟩ := H5.out
  obtain ⟨h, hx, hr, hl, hb, hn, hb1, p0⟩ := HX.out
  have hbw := hb1.trans (hb5.mono hb1.size)
  have hrw := hr.below hbw (Nat.le_refl _)
  have hsm := Sums_calls hr5 hrw 100000000 (by omega) (by omega) (fun x hx => by have := hd5 x hx; omega) hb (by omega) hn (-1) (.inr rfl)
  have hz : valB l5 + -1 * valB l = 0 := by rw [hv5, hl]; omega
  rw [hz] at hsm
  have hsg : ∀ W, Below w.heap.size w W → Calls Tryd.prog 24 #[v] W fun e w' => e = .returned (.int .i64 (sgn z)) ∧ Below W.heap.size W w' := fun W hW => by
    have k := Signed_calls (hr.below hW (Nat.le_refl _)) (fun x hx => by have := hb x hx; omega) hn
    rw [hl] at k
    exact k
  have hsn := fun W hW => (h.sign hx) W hW
  have p5 := (hb5.block _ (lt_of_some p0)).trans p0
  obtain ⟨e0, e1⟩ := num_cells p5
  have HS := Lib.hid hsm
  have HG := Lib.hid hsg
  have HN := Lib.hid hsn
  have HB := Lib.hid (And.intro hbw p5)
  clear hr5 hv5 hd5 hn5 hb5 h hx hr hl hb hn hb1 p0 hbw hrw hsm hz hsg hsn p5 H5 HX HSP
  go_wp2_with (first
    | (have hq := H9
       go_at_call 24; refine (HG.out _ hq.out).mono ?_; rintro e8 w8 ⟨rfl, hb8⟩
       have H10 := Lib.hid (hq.out.trans (hb8.mono hq.out.size))
       clear hb8 hq)
    | (have hq := H7
       go_at_call 29; refine (HN.out _ hq.out.1).mono ?_; rintro e8 w8 ⟨rfl, hb8⟩
       have H9 := Lib.hid hb8
       clear hb8 hq)
    | (have hq := H6
       go_at_call 24; refine hq.out.1.mono ?_; rintro e7 w7 ⟨rfl, hb7⟩
       have p7 := (hb7.block _ (lt_of_some hq.out.2.2)).trans hq.out.2.2
       obtain ⟨y0, y1⟩ := num_cells p7
       have H7 := Lib.hid (And.intro (hq.out.2.1.trans (hb7.mono hq.out.2.1.size)) p7)
       clear hb7 hq p7)
    | (go_at_call 21; refine HS.out.mono ?_; rintro e6 w6 ⟨a6, c6, l6, rfl, hr6, hv6, hd6, hn6, hb6⟩
       have hk := Signed_calls hr6 (fun x hx => by have := hd6 x hx; omega) hn6
       rw [hv6, show sgn 0 = 0 from rfl] at hk
       have H6 := Lib.hid (And.intro hk (And.intro (HB.out.1.trans (hb6.mono HB.out.1.size)) ((hb6.block _ (lt_of_some HB.out.2)).trans HB.out.2)))
       clear hr6 hv6 hd6 hn6 hb6 hk))
  refine bodyPost_ret (v := .bool true) (by simp [results, Tryd.results15, go_sem, *]) rfl ⟨rfl, H10.out⟩
end Go.Proofs.YteochdnjpchdnaaDoor

namespace Go.Proofs.YteochdnjpchdnaaDoor
open Go.RowKit
set_option linter.unusedVariables false
variable {B : Nat → Prop}

/-! Powers of two that are counted. -/
def tK (g : Nat → Int) (i : Nat) : List (Bool × Int) := List.replicate (g i).natAbs (decide (g i < 0), (i : Int))
def vsK (g : Nat → Int) (κ : Nat → Nat) (j : Nat) : List (Bool × Int) := (List.range j).flatMap (fun i => tK g (κ i))
theorem vsK_succ (g : Nat → Int) (κ : Nat → Nat) (j : Nat) : vsK g κ (j + 1) = vsK g κ j ++ tK g (κ j) := by simp [vsK, List.range_succ]
theorem sumZ_append (a b : List (Bool × Int)) : sumZ (a ++ b) = sumZ a + sumZ b := by unfold sumZ; rw [List.map_append, val_append]
theorem sumZ_rep (m : Bool) (k : Nat) : ∀ r, sumZ (List.replicate r (m, (k : Int))) = r * (sg m * 2 ^ k)
  | 0 => by simp [sumZ, val]
  | r + 1 => by
    rw [List.replicate_succ', sumZ_snoc, sumZ_rep m k r]
    have h : tv (tmOf (m, (k : Int))) = sg m * 2 ^ k := by simp [tv, tmOf]
    rw [h, show ((r + 1 : Nat) : Int) = (r : Int) + 1 by omega, Int.add_mul]; omega
theorem sumZ_tK (g : Nat → Int) (i : Nat) : sumZ (tK g i) = g i * 2 ^ i := by
  unfold tK
  rw [sumZ_rep]
  by_cases h : g i < 0
  · rw [decide_eq_true h]
    simp only [sg, if_true]
    rw [show (((g i).natAbs : Nat) : Int) = -(g i) by omega, Int.neg_mul, Int.neg_mul, Int.one_mul, Int.mul_neg, Int.neg_neg]
  · rw [decide_eq_false h]
    simp only [sg]
    rw [show (((g i).natAbs : Nat) : Int) = g i by omega]
    simp
theorem sumZ_vsK (g : Nat → Int) : ∀ n, sumZ (vsK g (fun i => i) n) = valB (seqI g n)
  | 0 => by simp [vsK, sumZ, val, seqI, valB]
  | n + 1 => by rw [vsK_succ, sumZ_append, sumZ_vsK g n, sumZ_tK, seqI_succ, valB_snoc, seqI_len]
theorem vsK_back (g : Nat → Int) (n : Nat) : (vsK g (fun i => n - 1 - i) n).Perm (vsK g (fun i => i) n) := by
  have e : vsK g (fun i => n - 1 - i) n = ((List.range n).map (fun i => n - 1 - i)).flatMap (tK g) := by simp [vsK, List.flatMap_map]
  have hr : (List.range n).map (fun i => n - 1 - i) = (List.range n).reverse := by
    refine List.ext_getElem (by simp) fun i h1 h2 => ?_
    simp at h1 h2 ⊢
  rw [e, hr]
  exact List.Perm.flatMap_right _ (List.reverse_perm _)
def κB (back : Bool) (n : Nat) : Nat → Nat := fun i => if back = true then n - 1 - i else i
theorem sumZ_κB (g : Nat → Int) (back : Bool) (n : Nat) : sumZ (vsK g (κB back n) n) = valB (seqI g n) := by
  cases back
  · have e : κB false n = fun i => i := by funext i; simp [κB]
    rw [e, sumZ_vsK]
  · have e : κB true n = fun i => n - 1 - i := by funext i; simp [κB]
    rw [e, sumZ_perm (vsK_back g n), sumZ_vsK]
theorem vsK_len {g : Nat → Int} {κ : Nat → Nat} {b : Nat} (h : ∀ i, (g i).natAbs ≤ b) : ∀ j, (vsK g κ j).length ≤ b * j
  | 0 => by simp [vsK]
  | j + 1 => by
    have h1 := vsK_len (κ := κ) h j
    have h2 := h (κ j)
    rw [vsK_succ, List.length_append, Nat.mul_succ]
    have h3 : (tK g (κ j)).length = (g (κ j)).natAbs := by simp [tK]
    omega
theorem vsK_mem {g : Nat → Int} {κ : Nat → Nat} {n : Nat} (hκ : ∀ i, i < n → κ i < n) : ∀ p ∈ vsK g κ n, 0 ≤ p.2 ∧ p.2 < n := fun p hp => by
  obtain ⟨i, hi, hp2⟩ := List.mem_flatMap.1 hp
  have h1 := hκ i (List.mem_range.1 hi)
  rw [(List.mem_replicate.1 hp2).2]
  simp only
  omega
theorem valB_bound : ∀ (l : List Int) (b : Int), 0 ≤ b → (∀ x ∈ l, -b ≤ x ∧ x ≤ b) → valB l ≤ b * 2 ^ l.length - b ∧ -(b * 2 ^ l.length - b) ≤ valB l
  | [], b, h, _ => by simp [valB]
  | x :: l, b, h, hx => by
    obtain ⟨h1, h2⟩ := valB_bound l b h (fun y hy => hx y (List.mem_cons_of_mem _ hy))
    have h3 := hx x (List.mem_cons_self ..)
    simp only [valB, List.length_cons, Int.pow_succ]
    rw [← Int.mul_assoc]
    omega
def toTV (p : Bool × Int) : TV := (p.1, p.2, none)
theorem fitsK {w : World} {g : Nat → Int} {κ : Nat → Nat} {n : Nat} (hκ : ∀ i, i < n → κ i < n) (hn : n ≤ 1000) : FitsV B w ((vsK g κ n).map toTV) (vsK g κ n) := by
  have h := fits_map (B := B) (w := w) (f := toTV) (g := fun p => p) (vsK g κ n) (fun p hp => by
    have h1 := vsK_mem hκ p hp
    exact ⟨rfl, NumA.small w (show i64 p.2 by unfold i64; omega)⟩)
  simpa using h
/-- small lists make allowed numbers -/
theorem allowed_small {X : Int} {b : Nat} (h1 : X ≤ 2 ^ b) (h2 : -(2 ^ b) ≤ X) (hb : b ≤ 596) : allowedZ X ∧ (∀ u ∈ naf X, u.2 < b + 2) ∧ 2 * wt X ≤ b + 3 := by
  have he := exp_boundP h1 h2
  have hw := NA_half _ _ (naf_NA X) he
  refine ⟨(allowed_range (fun t ht => by have := he t ht; omega) (by unfold wt; omega)).1, he, by unfold wt; omega⟩
end Go.Proofs.YteochdnjpchdnaaDoor

namespace Go.Proofs.YteochdnjpchdnaaDoor
open Go.RowKit
set_option linter.unusedVariables false
variable {B : Nat → Prop}

/-- what counted answers: the list, and its number -/
def CountR (w : World) (n : Nat) (e : Ending) (w' : World) : Prop :=
  ∃ (a : Option Addr) (c : Nat) (g : Nat → Int) (s : Int) (q : Option Addr), e = .returned (.tuple #[.slice a n c, .agg #[.int .i64 s, .pointer q], .int .i64 0]) ∧ RowV w' 1 (.slice a n c) n (intV (seqI g n)) ∧ (∀ i, (g i).natAbs ≤ 4) ∧ (160 < n → ∀ i, (g i).natAbs ≤ 1) ∧ NumA cold w' s q (valB (seqI g n)) ∧ Below w.heap.size w w'

/-- in the midst of counted -/
def CoR (w : World) (pk : Value) (g : Nat → Int) (f l : Value) (j : Nat) (vs : List (Bool × Int)) (wl : World) : Prop :=
  Below w.heap.size w wl ∧ wl.heap[w.heap.size]? = some (.cells #[pk] 24 (0, 0)) ∧ wl.heap[w.heap.size + 1]? = some (.cells #[.int .i64 0, .pointer none] 29 (0, 0)) ∧
    wl.ownsRow w.heap.size 3 1 f j (intV (seqI g j)) ∧ wl.ownsRow w.heap.size 50 3 l vs.length (flatT (vs.map toTV))
section
variable {w wl W w7 : World} {pk f l o' : Value} {g : Nat → Int} {j : Nat} {vs : List (Bool × Int)}
theorem own_apart {base base' n n' s s' : Nat} {e e' : TypeId} {v v' : Value} {xs xs' : List Value} (h : wl.ownsRow base e s v n xs) (h' : wl.ownsRow base' e' s' v' n' xs') (hne : e ≠ e') : v.ownBlock = none ∨ v.ownBlock ≠ v'.ownBlock := by
  rcases hv : v.ownBlock with _ | k
  · exact .inl rfl
  · refine .inr fun hk => ?_
    obtain ⟨c, h1⟩ := own_type h k hv
    obtain ⟨c', h2⟩ := own_type h' k hk.symm
    rw [h1] at h2
    cases h2
    exact hne rfl
theorem own_box {base n s x : Nat} {e t : TypeId} {v : Value} {xs : List Value} {cs : Array Value} (h : wl.ownsRow base e s v n xs) (hx : wl.heap[x]? = some (.cells cs t (0, 0))) (hne : e ≠ t) : some x ≠ v.ownBlock := fun hk => by
  obtain ⟨c, h1⟩ := own_type h x hk.symm
  rw [h1] at hx
  cases hx
  exact hne rfl
theorem CoR.below (h : CoR w pk g f l j vs wl) (hb : Below wl.heap.size wl W) : CoR w pk g f l j vs W :=
  ⟨h.1.trans (hb.mono h.1.size), (hb.block _ (lt_ofO h.2.1)).trans h.2.1, (hb.block _ (lt_ofO h.2.2.1)).trans h.2.2.1, ownsRow_belowAll h.2.2.2.1 hb, ownsRow_belowAll h.2.2.2.2 hb⟩
theorem CoR.pushF (h : CoR w pk g f l j vs wl) (hW : Below wl.heap.size wl W) (ho : w7.ownsRow w.heap.size 3 1 o' (j + 1) (intV (seqI g j) ++ [.int .i64 (g j)])) (hg : W.grownBy w7 f.ownBlock) : CoR w pk g o' l (j + 1) vs w7 := by
  have hw := h.below hW
  have h1 := h.1.size
  have h2 := hW.size
  refine ⟨hw.1.grown hg (by omega) (fun k hk => (hw.2.2.2.1.lt k hk).1), ?_, ?_, by rw [seqI_succ, intV_append]; exact ho, hw.2.2.2.2.kept hg (own_apart hw.2.2.2.2 hw.2.2.2.1 (by decide))⟩
  · exact (hg.block _ (lt_ofO hw.2.1) (own_box hw.2.2.2.1 hw.2.1 (by decide))).trans hw.2.1
  · exact (hg.block _ (lt_ofO hw.2.2.1) (own_box hw.2.2.2.1 hw.2.2.1 (by decide))).trans hw.2.2.1
theorem CoR.pushL {p : Bool × Int} (h : CoR w pk g f l j vs wl) (hW : Below wl.heap.size wl W) (ho : w7.ownsRow w.heap.size 50 3 o' (vs.length + 1) (flatT (vs.map toTV) ++ cellsT (toTV p))) (hg : W.grownBy w7 l.ownBlock) : CoR w pk g f o' j (vs ++ [p]) w7 := by
  have hw := h.below hW
  have h1 := h.1.size
  have h2 := hW.size
  refine ⟨hw.1.grown hg (by omega) (fun k hk => (hw.2.2.2.2.lt k hk).1), ?_, ?_, hw.2.2.2.1.kept hg (own_apart hw.2.2.2.1 hw.2.2.2.2 (by decide)), by rw [List.map_append, List.map_cons, List.map_nil, flatT_append, List.length_append]; exact ho⟩
  · exact (hg.block _ (lt_ofO hw.2.1) (own_box hw.2.2.2.2 hw.2.1 (by decide))).trans hw.2.1
  · exact (hg.block _ (lt_ofO hw.2.2.1) (own_box hw.2.2.2.2 hw.2.2.1 (by decide))).trans hw.2.2.1
end

set_option maxRecDepth 100000 in
set_option maxHeartbeats 8000000 in
/-- counted -/
theorem counted_calls {w : World} {ap : Option Addr} {cp : Nat} {ws : List Int} (back : Bool) (hL : LawW w) (hw : RowV w 1 (.slice ap ws.length cp) ws.length (ws.map (fun c : Int => Value.int .i8 c))) (hi8 : ∀ c ∈ ws, -128 ≤ c ∧ c ≤ 127) (hlen : ws.length ≤ 590) :
    Calls Tryd.prog 14 #[.agg #[.slice ap ws.length cp], .bool back] w (CountR w ws.length) := by
  obtain ⟨n, hn⟩ : ∃ n, n = ws.length := ⟨_, rfl⟩
  obtain ⟨mo, hmo⟩ : ∃ mo : Int, mo = if 160 < n then 2 else 5 := ⟨_, rfl⟩
  obtain ⟨g, hg⟩ : ∃ g : Nat → Int, g = fun i => (ws.getD i 0).tmod mo := ⟨_, rfl⟩
  have hmo2 : (2 : Int) ≤ mo ∧ mo ≤ 5 := by rw [hmo]; split <;> omega
  have hg4 : ∀ i, -mo < g i ∧ g i < mo := fun i => by
    rw [hg]
    exact ⟨Int.lt_tmod_of_pos _ (by omega), Int.tmod_lt_of_pos _ (by omega)⟩
  have hg1 : ∀ i, (g i).natAbs ≤ 4 := fun i => by have := hg4 i; omega
  have hg2 : 160 < n → ∀ i, (g i).natAbs ≤ 1 := fun h i => by
    have h2 := hg4 i
    rw [hmo, if_pos h] at h2
    omega
  have hWC : ∀ i, i < n → (-128 ≤ ws.getD i 0 ∧ ws.getD i 0 ≤ 127) ∧ ∃ bw ow, ap = some ⟨bw, ow, none⟩ ∧ ∀ W, Below w.heap.size w W → W.cell? ⟨bw, ow + i, none⟩ = some (.int .i8 (ws.getD i 0)) := fun i hi => by
    have hi2 : i < ws.length := by omega
    have e : ws.getD i 0 = ws[i] := by simp [List.getD_eq_getElem?_getD, hi2]
    refine ⟨by rw [e]; exact hi8 _ (List.getElem_mem hi2), ?_⟩
    rcases hw.2 with ⟨e1, h0⟩ | ⟨bw, ow, cap, e1, p1, p2, p3, p4⟩
    · omega
    · cases e1
      refine ⟨bw, ow, rfl, fun W hW => ?_⟩
      have h4 := p4 i (.int .i8 (ws.getD i 0)) (by rw [e]; simp [hi2])
      exact (hW.cell (p := ⟨bw, ow + i, none⟩) p3).trans h4
  rw [← hn] at hlen ⊢
  obtain ⟨pk, hpk⟩ : ∃ pk : Value, pk = .slice ap n cp := ⟨_, rfl⟩
  have hst : CoR w (.slice ap n cp) g (.slice (some ⟨w.heap.size + 1 + 1, 0, none⟩) 0 0) (.slice (some ⟨w.heap.size + 1 + 1 + 1, 0, none⟩) 0 0) 0 [] ((((w.alloc (.cells #[.slice ap n cp] 24)).alloc (.cells #[.int .i64 0, .pointer none] 29)).alloc (.cells #[] 3)).alloc (.cells #[] 50)) := by
    have b1 : Below w.heap.size w (w.alloc (.cells #[.slice ap n cp] 24)) := (Below.refl _ _).alloc (Nat.le_refl _) _
    have b2 : Below w.heap.size w ((w.alloc (.cells #[.slice ap n cp] 24)).alloc (.cells #[.int .i64 0, .pointer none] 29)) := b1.alloc b1.size _
    obtain ⟨a0, a1⟩ := alloc2_heap w (.cells #[.slice ap n cp] 24) (.cells #[.int .i64 0, .pointer none] 29)
    have hs2 : ((w.alloc (.cells #[.slice ap n cp] 24)).alloc (.cells #[.int .i64 0, .pointer none] 29)).heap.size = w.heap.size + 1 + 1 := by simp
    generalize (w.alloc (.cells #[.slice ap n cp] 24)).alloc (.cells #[.int .i64 0, .pointer none] 29) = w2 at *
    have o1 : (w2.alloc (.cells #[] 3)).ownsRow w.heap.size 3 1 (.slice (some ⟨w2.heap.size, 0, none⟩) 0 0) 0 [] := World.ownsRow_lit w2 #[] 0 b2.size (by decide) rfl
    have b3 : Below w2.heap.size w2 (w2.alloc (.cells #[] 3)) := (Below.refl _ _).alloc (Nat.le_refl _) _
    have b4 : Below (w2.alloc (.cells #[] 3)).heap.size (w2.alloc (.cells #[] 3)) ((w2.alloc (.cells #[] 3)).alloc (.cells #[] 50)) := (Below.refl _ _).alloc (Nat.le_refl _) _
    have o2 : ((w2.alloc (.cells #[] 3)).alloc (.cells #[] 50)).ownsRow w.heap.size 50 3 (.slice (some ⟨(w2.alloc (.cells #[] 3)).heap.size, 0, none⟩) 0 0) 0 [] := World.ownsRow_lit (w2.alloc (.cells #[] 3)) #[] 0 (Nat.le_trans b2.size b3.size) (by decide) rfl
    rw [show (w2.alloc (.cells #[] 3)).heap.size = w2.heap.size + 1 by simp, hs2] at o2
    rw [hs2] at o1
    have b34 := b3.trans (b4.mono b3.size)
    exact ⟨b2.trans (b34.mono b2.size), (b34.block _ (lt_ofO a0)).trans a0, (b34.block _ (lt_ofO a1)).trans a1, ownsRow_belowAll o1 b4, o2⟩
  have HST := Lib.hid hst
  have HWC := Lib.hid hWC
  have HG := Lib.hid (And.intro hg4 (And.intro hg1 hg2))
  have HGD := Lib.hid hg
  have HLW := Lib.hid hL
  have hn9 : (n : Int) ≤ 590 := by omega
  have hmo3 := hmo2.1
  have hmo4 := hmo2.2
  have hmo5 : (1 : Int) ≤ mo := by omega
  have HMO := Lib.hid hmo
  clear hst hWC hg4 hg1 hg2 hg hL hw hi8 hmo2 hpk hn hmo pk
  go_enter Tryd.func14, Tryd.ntmps14
  have c0 : ((((w.alloc (.cells #[.slice ap n cp] 24)).alloc (.cells #[.int .i64 0, .pointer none] 29)).alloc (.cells #[] 3)).alloc (.cells #[] 50)).cell? ⟨w.heap.size, 0, none⟩ = some (.slice ap n cp) := by have := HST.out.2.1; simp only [World.cell?, this]; rfl
  obtain ⟨w0, hw0⟩ : ∃ w0, w0 = (((w.alloc (.cells #[.slice ap n cp] 24)).alloc (.cells #[.int .i64 0, .pointer none] 29)).alloc (.cells #[] 3)).alloc (.cells #[] 50) := ⟨_, rfl⟩
  rw [← hw0] at HST c0
  have HW0 := Lib.hid hw0
  clear hw0
  go_upto_if 20 with fail
  go_cut [9] from 17 to 20 (fun vm wx => vm = .int .i8 mo ∧ wx = w0)
  case first =>
    have hmo := HMO.out
    by_cases h160 : 160 < n
    · have h1 : (160 : Int) < (n : Int) := by omega
      rw [if_pos h160] at hmo
      subst hmo
      go_wp2_with fail
      go_meet
      exact ⟨rfl, by first | exact HW0.out.symm | rfl⟩
    · have h1 : ¬ (160 : Int) < (n : Int) := by omega
      rw [if_neg h160] at hmo
      subst hmo
      go_wp2_with fail
      go_meet
      exact ⟨rfl, by first | exact HW0.out.symm | rfl⟩
  case rest =>
  obtain ⟨rfl, hwx⟩ := hcut
  have hwx2 := hwx.symm
  clear hwx
  subst hwx2
  obtain ⟨κ, hκ⟩ : ∃ κ, κ = κB back n := ⟨_, rfl⟩
  have hκn : ∀ i, i < n → κ i < n := fun i hi => by rw [hκ]; unfold κB; split <;> omega
  have HK := Lib.hid (And.intro hκ hκn)
  clear hκ hκn
  go_wp2
  go_loopg [7, 8, 10] n (fun rem f l i wl => ∃ (j : Nat) (af al : Option Addr) (cf cl : Nat), j + rem = n ∧ i = .int .i64 j ∧ f = .slice af j cf ∧ l = .slice al (vsK g κ j).length cl ∧ CoR w (.slice ap n cp) g (.slice af j cf) (.slice al (vsK g κ j).length cl) j (vsK g κ j) wl)
  case atStart => exact ⟨0, _, _, _, _, by omega, by simp, rfl, rfl, HST.out⟩
  case round =>
    obtain ⟨j, af, al, cf, cl, hjr, rfl, rfl, rfl, hS⟩ := hrel
    clear HST c0
    obtain ⟨gq, hgq⟩ : ∃ gq, gq = gk := ⟨_, rfl⟩
    subst hgq
    have c0 : wr.cell? ⟨w.heap.size, 0, none⟩ = some (.slice ap n cp) := by have := hS.2.1; simp only [World.cell?, this]; rfl
    by_cases hlt : j < n
    · have hlt' : (j : Int) < (n : Int) := by omega
      have hj0 : (0 : Int) ≤ (j : Int) := by omega
      obtain ⟨kk, hkk⟩ : ∃ kk, kk = κ j := ⟨_, rfl⟩
      have hkn : kk < n := by rw [hkk]; exact HK.out.2 j hlt
      have hk' : (kk : Int) < (n : Int) := by omega
      have hk0 : (0 : Int) ≤ (kk : Int) := by omega
      obtain ⟨⟨hx1, hx2⟩, bw, ow, rfl, hcx⟩ := HWC.out j hlt
      obtain ⟨⟨hy1, hy2⟩, bw2, ow2, he2, hcy⟩ := HWC.out kk hkn
      cases he2
      have hgj : g j = (ws.getD j 0).tmod mo := by rw [HGD.out]
      have hgk : g kk = (ws.getD kk 0).tmod mo := by rw [HGD.out]
      have x0 := hcx _ hS.1
      have y0 := hcy _ hS.1
      generalize ws.getD j 0 = xj at *
      generalize ws.getD kk 0 = xk at *
      have g1 := HG.out.1 j
      have g2 := HG.out.1 kk
      have w1 : IntKind.i8.wrap (xj.tmod mo) = g j := by rw [← hgj]; exact IntWalk.i8_in _ (by omega)
      have w2 : IntKind.i8.wrap (xk.tmod mo) = g kk := by rw [← hgk]; exact IntWalk.i8_in _ (by omega)
      have w3 : IntKind.i64.wrap (g j) = g j := IntWalk.i64_in _ (by omega)
      have w4 : IntKind.i64.wrap (g kk) = g kk := IntWalk.i64_in _ (by omega)
      have HCX := Lib.hid hcx
      have HS := Lib.hid (And.intro hS hkk)
      have HGJ := Lib.hid (And.intro hgj hgk)
      clear hcx hcy hS hgj hgk hkk
      go_upto_if 29 with fail
      go_cut [11] from 28 to 35 (fun vk wx => vk = .int .i64 (kk : Int) ∧ wx = wr)
      case first =>
        have hkk := HS.out.2
        rw [HK.out.1] at hkk
        cases back
        · go_wp2_with fail
          go_meet
          exact ⟨by rw [hkk]; simp [κB], rfl⟩
        · have hb1 : (1 : Int) ≤ (n : Int) := by omega
          go_wp2_with fail
          go_meet
          exact ⟨by rw [hkk]; simp [κB]; omega, rfl⟩
      case rest =>
        obtain ⟨rfl, hwx⟩ := hcut
        have hwx2 := hwx.symm
        clear hwx
        subst hwx2
        clear c0
        have c0 : wr.cell? ⟨w.heap.size, 0, none⟩ = some (.slice (some ⟨bw, ow, none⟩) n cp) := by have := HS.out.1.2.1; simp only [World.cell?, this]; rfl
        go_upto_region 12 with fail
        go_cut [12] from 36 to 43 (fun vn wx => vn = .int .i64 (g kk) ∧ wx = wr)
        case first =>
          go_wp2_with fail
          go_meet
          exact ⟨by first | rfl | (rw [HGJ.out.2, wrap64_of (by unfold i64; have := HGJ.out.2; omega)]) | (simp only [w2, w4]), rfl⟩
        case rest =>
        obtain ⟨rfl, hwx⟩ := hcut
        have hwx2 := hwx.symm
        clear hwx
        subst hwx2
        obtain ⟨i1, hi1, hz1, hz2, hz3⟩ := info_parts infoeI
        have HH := Lib.hid (And.intro hi1 (And.intro hz1 (And.intro hz2 hz3)))
        have hsz := HS.out.1.1.size
        clear hi1 hz1 hz2 hz3
        go_upto_region 13 with fail
        go_cut [7] from 44 to 54 (fun vf wx => ∃ (a7 : Option Addr) (c7 : Nat), vf = .slice a7 (j + 1) c7 ∧ CoR w (.slice (some ⟨bw, ow, none⟩) n cp) g (.slice a7 (j + 1) c7) (.slice al (vsK g κ j).length cl) (j + 1) (vsK g κ j) wx)
        case first =>
          go_wp2_with (first
            | (at_builtin; go_loud (refine wpList_append_own_at _ rfl _ _ 26 rfl w.heap.size 3 i1 (.int .i64 0) 1 8 Tryd.underlying26 HH.out.1 HH.out.2.1 HH.out.2.2.1 HH.out.2.2.2 rfl (by decide) _ _ _ rfl (HS.out.1.2.2.2.1.alloc _) ⟨wr.heap.size, 0, none⟩ 1 1 [.int .i64 (wrap64 (xj.tmod mo))] rfl rfl (news_alloc wr _ _ _) (by simp [Value.oneCell']) (by unfold maxLen; omega) (by omega) (by simp; omega) ?_); intro v7 w7 hown7 hg7 _ hat7
               obtain ⟨a7, c7, rfl⟩ := (RowV.of_own hown7).shape
               have H7 := Lib.hid (And.intro hown7 hg7)
               clear hown7 hg7 hat7))
          go_meet
          obtain ⟨hown7, hg7⟩ := H7.out
          have hgg : wrap64 (xj.tmod mo) = g j := by rw [wrap64_of (by unfold i64; have := HGJ.out.1; omega), HGJ.out.1]
          rw [hgg] at hown7
          exact ⟨a7, c7, rfl, HS.out.1.pushF ((Below.refl _ _).alloc (Nat.le_refl _) _) hown7 hg7⟩
        case rest =>
        obtain ⟨a7, c7, rfl, hS⟩ := hcut
        obtain ⟨wn, hwn⟩ : ∃ wn, wn = wc := ⟨_, rfl⟩
        subst hwn
        have HST := Lib.hid hS
        have hG4 := HG.out.2.1 kk
        have HKK := Lib.hid HS.out.2
        clear hS c0 x0 y0 w1 w2 w3 w4 HS g1 g2 HH
        go_wp2
        go_loopg [8, 12] (g kk).natAbs (fun rem l nn wl => ∃ (nv : Int) (al : Option Addr) (cl : Nat) (vs : List (Bool × Int)), nn = .int .i64 nv ∧ nv.natAbs = rem ∧ rem ≤ (g kk).natAbs ∧ (nv ≠ 0 → (decide (nv < 0) = decide (g kk < 0))) ∧ vs = vsK g κ j ++ List.replicate ((g kk).natAbs - rem) (decide (g kk < 0), (kk : Int)) ∧ l = .slice al vs.length cl ∧ CoR w (.slice (some ⟨bw, ow, none⟩) n cp) g (.slice a7 (j + 1) c7) (.slice al vs.length cl) (j + 1) vs wl)
        case atStart => exact ⟨g kk, al, cl, _, rfl, rfl, Nat.le_refl _, fun _ => rfl, by simp, rfl, HST.out⟩
        case round =>
          obtain ⟨nv, al, cl, vs, rfl, hnr, hrG, hng, hvs, rfl, hS⟩ := hrel
          clear HST
          obtain ⟨gr, hgr⟩ : ∃ gr, gr = gk := ⟨_, rfl⟩
          subst hgr
          by_cases hn0 : nv = 0
          · have hn1 : (nv != 0) = false := by simp [hn0]
            have HQ := Lib.hid (And.intro hS (And.intro hvs (And.intro hnr hn0)))
            clear hS hvs hnr hn0 hng
            go_wp2
            obtain ⟨hS, hvs, hnr, hn0⟩ := HQ.out
            have hve : vs = vsK g κ (j + 1) := by
              rw [hvs, vsK_succ, ← HKK.out]
              unfold tK
              congr 2
              omega
            subst hve
            go_roundg (gq - 1)
            case measure => omega
            case rel => exact ⟨j + 1, a7, al, c7, cl, by omega, by go_num, rfl, rfl, hS⟩
          · have hn1 : (nv != 0) = true := by simp [hn0]
            have hn4 : -4 ≤ nv := by omega
            have hn5 : nv ≤ 4 := by omega
            have hdn := hng hn0
            obtain ⟨i1, hi1, hz1, hz2, hz3⟩ := info_parts infoeT
            have HH := Lib.hid (And.intro hi1 (And.intro hz1 (And.intro hz2 hz3)))
            have hsz := hS.1.size
            have hvl : vs.length ≤ 4 * j + 4 := by
              rw [hvs, List.length_append, List.length_replicate]
              have := vsK_len (κ := κ) HG.out.2.1 j
              omega
            have HQ := Lib.hid (And.intro hS (And.intro hvs (And.intro hnr hdn)))
            clear hS hvs hdn hng hi1 hz1 hz2 hz3
            by_cases hneg : nv < 0
            · have hdv : decide (nv < 0) = true := by simp [hneg]
              have HDV := Lib.hid hdv
              clear hdv
              go_wp2_with (first
                | (at_builtin; refine wpList_append_own_at _ rfl _ _ 47 rfl w.heap.size 50 i1 zT 3 24 Tryd.underlying47 HH.out.1 HH.out.2.1 HH.out.2.2.1 HH.out.2.2.2 rfl (by decide) _ _ _ rfl ((ownsRow_belowAll HQ.out.1.2.2.2.2 H3.out).alloc _) ⟨w3.heap.size, 0, none⟩ 1 1 (cellsT (true, (kk : Int), none)) rfl rfl (news_alloc w3 _ _ _) (by simp [cellsT, Value.oneCell']) (by unfold maxLen; omega) (by omega) (by have := H3.out.size; simp; omega) ?_; intro v7 w7 hown7 hg7 _ hat7
                   obtain ⟨a8, c8, rfl⟩ := (RowV.of_own hown7).shape
                   have H7 := Lib.hid (And.intro hown7 hg7)
                   clear hown7 hg7 hat7)
                | (go_at_call 18; refine (of_calls _ _).mono ?_; rintro e3 w3 ⟨rfl, hb3⟩
                   have H3 := Lib.hid hb3
                   clear hb3))
              obtain ⟨hS, hvs, hnr, hdn⟩ := HQ.out
              obtain ⟨hown7, hg7⟩ := H7.out
              have hp := hS.pushL (p := (decide (nv < 0), (kk : Int))) (H3.out.alloc H3.out.size _) (by rw [HDV.out]; exact hown7) hg7
              go_roundg (gr - 1)
              case measure => omega
              case rel =>
                refine ⟨_, a8, c8, vs ++ [(decide (nv < 0), (kk : Int))], rfl, by omega, by omega, fun h => ?_, ?_, by rw [List.length_append]; rfl, by rw [List.length_append]; exact hp⟩
                · rw [← hdn]; congr 1; apply propext; omega
                · rw [hvs, hdn, List.append_assoc, ← List.replicate_succ', show (g kk).natAbs - gr + 1 = (g kk).natAbs - (gr - 1) by omega]
            · have hdv : decide (nv < 0) = false := by simp [hneg]
              have HDV := Lib.hid hdv
              clear hdv
              go_wp2_with (first
                | (at_builtin; refine wpList_append_own_at _ rfl _ _ 47 rfl w.heap.size 50 i1 zT 3 24 Tryd.underlying47 HH.out.1 HH.out.2.1 HH.out.2.2.1 HH.out.2.2.2 rfl (by decide) _ _ _ rfl ((ownsRow_belowAll HQ.out.1.2.2.2.2 H3.out).alloc _) ⟨w3.heap.size, 0, none⟩ 1 1 (cellsT (false, (kk : Int), none)) rfl rfl (news_alloc w3 _ _ _) (by simp [cellsT, Value.oneCell']) (by unfold maxLen; omega) (by omega) (by have := H3.out.size; simp; omega) ?_; intro v7 w7 hown7 hg7 _ hat7
                   obtain ⟨a8, c8, rfl⟩ := (RowV.of_own hown7).shape
                   have H7 := Lib.hid (And.intro hown7 hg7)
                   clear hown7 hg7 hat7)
                | (go_at_call 18; refine (of_calls _ _).mono ?_; rintro e3 w3 ⟨rfl, hb3⟩
                   have H3 := Lib.hid hb3
                   clear hb3))
              obtain ⟨hS, hvs, hnr, hdn⟩ := HQ.out
              obtain ⟨hown7, hg7⟩ := H7.out
              have hp := hS.pushL (p := (decide (nv < 0), (kk : Int))) (H3.out.alloc H3.out.size _) (by rw [HDV.out]; exact hown7) hg7
              go_roundg (gr - 1)
              case measure => omega
              case rel =>
                refine ⟨_, a8, c8, vs ++ [(decide (nv < 0), (kk : Int))], rfl, by omega, by omega, fun h => ?_, ?_, by rw [List.length_append]; rfl, by rw [List.length_append]; exact hp⟩
                · rw [← hdn]; congr 1; apply propext; omega
                · rw [hvs, hdn, List.append_assoc, ← List.replicate_succ', show (g kk).natAbs - gr + 1 = (g kk).natAbs - (gr - 1) by omega]
    · have hjn : j = n := by omega
      subst hjn
      have hlt' : ¬ ((j : Int) < (j : Int)) := by omega
      have hvl : (vsK g κ j).length ≤ 640 := by
        by_cases h160 : 160 < j
        · have h1 := vsK_len (κ := κ) (HG.out.2.2 h160) j
          omega
        · have h1 := vsK_len (κ := κ) HG.out.2.1 j
          omega
      obtain ⟨X, hX⟩ : ∃ X, X = valB (seqI g j) := ⟨_, rfl⟩
      have hsX : sumZ (vsK g κ j) = X := by rw [HK.out.1, sumZ_κB, hX]
      have hall : allowedZ X := by
        have hq : ∀ b : Nat, (∀ i, (g i).natAbs ≤ b) → valB (seqI g j) ≤ (b : Int) * 2 ^ j - b ∧ -((b : Int) * 2 ^ j - b) ≤ valB (seqI g j) := fun b hb => by
          have h := valB_bound (seqI g j) (b : Int) (by omega) (fun x hx => by
            obtain ⟨i, _, rfl⟩ := List.mem_map.1 hx
            have := hb i
            omega)
          rw [seqI_len] at h
          exact h
        have h590 : ∀ k, k ≤ 590 → (2 : Int) ^ k ≤ 2 ^ 590 := fun k hk => pow_le hk
        rw [hX]
        by_cases h160 : 160 < j
        · have h1 := hq 1 (HG.out.2.2 h160)
          have h2 := h590 j hlen
          exact (allowed_small (b := 590) (by omega) (by omega) (by omega)).1
        · have h1 := hq 4 HG.out.2.1
          have h2 : (2 : Int) ^ (j + 2) ≤ 2 ^ 590 := h590 (j + 2) (by omega)
          rw [Int.pow_succ, Int.pow_succ] at h2
          have h3 := pow_pos 590
          exact (allowed_small (b := 590) (by omega) (by omega) (by omega)).1
      have hfit := fitsK (B := cold) (w := wr) (g := g) (κ := κ) (n := j) HK.out.2 (by omega)
      have hc := (HLW.out.on hS.1).sumU (v := .slice al (vsK g κ j).length cl) (ts := (vsK g κ j).map toTV) (by rw [List.length_map]; exact RowV.of_own hS.2.2.2.2) hfit (by rw [List.length_map]; omega)
      have hnn : ∀ p ∈ vsK g κ j, 0 ≤ p.2 := fun p hp => (vsK_mem HK.out.2 p hp).1
      have he : errU (vsK g κ j) = 0 ∧ valU (vsK g κ j) = X := by
        unfold errU valU
        rw [hsX, if_neg (fun ⟨p, a, b⟩ => by have := hnn p a; omega), if_pos hall, if_pos ⟨hnn, hall⟩]
        exact ⟨rfl, rfl⟩
      rw [he.1, he.2] at hc
      have p1 := hS.2.2.1
      have HC := Lib.hid hc
      have HQ := Lib.hid (And.intro hS hX)
      clear hS hX hsX hall hfit hc hnn he hlt
      go_upto_region 20 with (first
        | (go_at_call 31; refine HC.out.mono ?_; rintro e9 w9 ⟨r9, q9, rfl, hn9, hb9⟩
           have H9 := Lib.hid (And.intro hn9 hb9)
           clear hn9 hb9))
      obtain ⟨hn9, hb9⟩ := H9.out
      have hbA := hb9.alloc hb9.size (.cells #[.int .i64 r9, .pointer q9] 29)
      have p2 := (hbA.block _ (lt_ofO p1)).trans p1
      have p3 := heap_alloc_new w9 (.cells #[.int .i64 r9, .pointer q9] 29)
      have hnA := hn9.below ((Below.refl w9.heap.size w9).alloc (Nat.le_refl _) (.cells #[.int .i64 r9, .pointer q9] 29))
      obtain ⟨c1, c2⟩ := num_cells p2
      obtain ⟨c3, c4⟩ := num_frozen p2
      obtain ⟨c5, c6⟩ := num_cells p3
      have hlt9 : w.heap.size + 1 < w9.heap.size := Nat.lt_of_lt_of_le (lt_ofO p1) hb9.size
      have hne9 : ¬ w9.heap.size = w.heap.size + 1 := by omega
      have hne8 : ¬ w.heap.size + 1 = w9.heap.size := by omega
      have hbA := HQ.out.1.below hbA
      clear hn9 hb9 p1 p3 H9 HC
      generalize w9.alloc (.cells #[.int .i64 r9, .pointer q9] 29) = wA at *
      generalize w9.heap.size = b13 at *
      have HZ := Lib.hid (And.intro hbA (And.intro p2 hnA))
      clear hbA p2 hnA
      go_region
      all_goals (try go_wp2)
      obtain ⟨hA, p2, hnA⟩ := HZ.out
      obtain ⟨hS, hX⟩ := HQ.out
      refine bodyPost_ret (v := .tuple #[.slice af j cf, .agg #[.int .i64 r9, .pointer q9], .int .i64 0]) (by simp [results, Tryd.results14, go_sem, *]) rfl ?_
      have hp := NumA.put hnA p2 (.int .i64 r9) (.pointer q9)
      have hrow := ownsRow_setCell_other (ownsRow_setCell_other hA.2.2.2.1 (a := ⟨w.heap.size + 1, 0, none⟩) (fun e => own_box hA.2.2.2.1 p2 (by decide) e.symm) (.int .i64 r9)) (a := ⟨w.heap.size + 1, 1, none⟩) (fun e => own_box hA.2.2.2.1 p2 (by decide) e.symm) (.pointer q9)
      exact ⟨af, cf, g, r9, q9, rfl, RowV.of_own hrow, HG.out.2.1, HG.out.2.2, by rw [← hX]; exact hp.below ((Below.refl _ _).drew), ((hA.1.setCell (p := ⟨w.heap.size + 1, 0, none⟩) (by simp) _).setCell (p := ⟨w.heap.size + 1, 1, none⟩) (by simp) _).drew⟩
end Go.Proofs.YteochdnjpchdnaaDoor

namespace Go.Proofs.YteochdnjpchdnaaDoor
open Go.RowKit
set_option linter.unusedVariables false
variable {B : Nat → Prop}

/-! What NumBinary needs of its numbers. -/
/-- the bounds of a number that counted makes of n powers -/
theorem count_bounds {g : Nat → Int} {n : Nat} (hn : n ≤ 590) (h4 : ∀ i, (g i).natAbs ≤ 4) (h1 : 160 < n → ∀ i, (g i).natAbs ≤ 1) :
    (valB (seqI g n) ≤ 2 ^ 590 ∧ -(2 ^ 590) ≤ valB (seqI g n)) ∧ (n ≤ 160 → valB (seqI g n) ≤ 2 ^ 162 ∧ -(2 ^ 162) ≤ valB (seqI g n)) := by
  have hq : ∀ b : Nat, (∀ i, (g i).natAbs ≤ b) → valB (seqI g n) ≤ (b : Int) * 2 ^ n - b ∧ -((b : Int) * 2 ^ n - b) ≤ valB (seqI g n) := fun b hb => by
    have h := valB_bound (seqI g n) (b : Int) (by omega) (fun x hx => by
      obtain ⟨i, _, rfl⟩ := List.mem_map.1 hx
      have := hb i
      omega)
    rw [seqI_len] at h
    exact h
  have hp : ∀ a b, a ≤ b → (2 : Int) ^ a ≤ 2 ^ b := fun a b hk => pow_le hk
  have h5 : n ≤ 160 → valB (seqI g n) ≤ 2 ^ 162 ∧ -(2 ^ 162) ≤ valB (seqI g n) := fun h => by
    have k1 := hq 4 h4
    have k2 := hp (n + 2) 162 (by omega)
    rw [Int.pow_succ, Int.pow_succ] at k2
    omega
  refine ⟨?_, h5⟩
  by_cases h160 : 160 < n
  · have k1 := hq 1 (h1 h160)
    have k2 := hp n 590 hn
    omega
  · have k1 := h5 (by omega)
    have k2 := hp 162 590 (by omega)
    omega
theorem two_591 : (2 : Int) ^ 591 = 2 ^ 590 + 2 ^ 590 := by rw [Int.pow_succ]; omega
/-- exponents below 1000, not too many terms: what is needed of each number -/
theorem sum_small {X Y : Int} (hX : X ≤ 2 ^ 590 ∧ -(2 ^ 590) ≤ X) (hY : Y ≤ 2 ^ 590 ∧ -(2 ^ 590) ≤ Y) : (allowedZ (X + Y) ∧ ∀ u ∈ naf (X + Y), u.2 < 1000) ∧ (allowedZ (X - Y) ∧ ∀ u ∈ naf (X - Y), u.2 < 1000) := by
  have h := two_591
  have k1 := allowed_small (X := X + Y) (b := 591) (by omega) (by omega) (by omega)
  have k2 := allowed_small (X := X - Y) (b := 591) (by omega) (by omega) (by omega)
  exact ⟨⟨k1.1, fun u hu => by have := k1.2.1 u hu; omega⟩, ⟨k2.1, fun u hu => by have := k2.2.1 u hu; omega⟩⟩
theorem mul_small {X Y : Int} (hX : X ≤ 2 ^ 162 ∧ -(2 ^ 162) ≤ X) (hY : Y ≤ 2 ^ 162 ∧ -(2 ^ 162) ≤ Y) : allowedZ (X * Y) ∧ wt X * wt Y ≤ 10000 ∧ ∀ u ∈ naf (X * Y), u.2 < 1000 := by
  have k1 := allowed_small hX.1 hX.2 (by omega)
  have k2 := allowed_small hY.1 hY.2 (by omega)
  have hm : (X * Y).natAbs ≤ 2 ^ 162 * 2 ^ 162 := by
    rw [Int.natAbs_mul]
    have e : ((2 ^ 162 : Nat) : Int) = (2 : Int) ^ 162 := by rw [Int.natCast_pow]; rfl
    exact Nat.mul_le_mul (by omega) (by omega)
  have e : ((2 ^ 162 * 2 ^ 162 : Nat) : Int) = (2 : Int) ^ 324 := by rw [Int.natCast_mul, Int.natCast_pow, ← Int.pow_add]; rfl
  have k3 := allowed_small (X := X * Y) (b := 324) (by omega) (by omega) (by omega)
  exact ⟨k3.1, Nat.le_trans (Nat.mul_le_mul (show wt X ≤ 100 by omega) (show wt Y ≤ 100 by omega)) (by decide), fun u hu => by have := k3.2.1 u hu; omega⟩
theorem shift_small {X : Int} (hX : X ≤ 2 ^ 590 ∧ -(2 ^ 590) ≤ X) {k : Nat} (hk : k ≤ 200) : allowedZ (X * 2 ^ k) ∧ (∀ u ∈ naf (X * 2 ^ k), u.2 < 1000) := by
  have k1 := allowed_small hX.1 hX.2 (by omega)
  have hn : naf (X * 2 ^ k) = (naf X).map (shT (k : Int)) := by rw [← shiftZ_nat]; exact naf_shift (reaches_nat X k)
  have he : ∀ u ∈ naf (X * 2 ^ k), u.2 < 1000 := fun u hu => by
    rw [hn] at hu
    obtain ⟨v, hv, rfl⟩ := List.mem_map.1 hu
    have := k1.2.1 v hv
    simp only [shT]; omega
  exact ⟨(allowed_range he (by unfold wt; rw [hn, List.length_map]; have := k1.2.2; unfold wt at this; omega)).1, he⟩
theorem neg_small {X : Int} (hX : X ≤ 2 ^ 590 ∧ -(2 ^ 590) ≤ X) : ∀ u ∈ naf (-X), u.2 < 1000 := fun u hu => by
  have k1 := allowed_small (X := -X) (b := 590) (by omega) (by omega) (by omega)
  have := k1.2.1 u hu
  omega
theorem self_small {X : Int} (hX : X ≤ 2 ^ 590 ∧ -(2 ^ 590) ≤ X) : allowedZ X ∧ ∀ u ∈ naf X, u.2 < 1000 := by
  have k1 := allowed_small hX.1 hX.2 (by omega)
  exact ⟨k1.1, fun u hu => by have := k1.2.1 u hu; omega⟩
/-- the row of one power -/
theorem power_val (k : Nat) : valB (seqI (updI (fun _ => 0) k 1) (k + 1)) = 2 ^ k := by
  have h := valB_upd (fun _ => 0) k 1 (k + 1) (by omega)
  simp only [Int.zero_add] at h
  rw [h, valB_zero]
  omega
theorem power_bd (k : Nat) : ∀ x ∈ seqI (updI (fun _ => 0) k 1) (k + 1), -10 ≤ x ∧ x ≤ 10 := fun x hx => by
  obtain ⟨i, _, rfl⟩ := List.mem_map.1 hx
  simp only [updI]
  split <;> omega
theorem seq_bd {g : Nat → Int} {n : Nat} (h : ∀ i, (g i).natAbs ≤ 4) : ∀ x ∈ seqI g n, -10 ≤ x ∧ x ≤ 10 := fun x hx => by
  obtain ⟨i, _, rfl⟩ := List.mem_map.1 hx
  have := h i
  omega
end Go.Proofs.YteochdnjpchdnaaDoor
