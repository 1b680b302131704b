import Derived.Test.YtlclanmbebjfkaaDoorO0
import Derived.Test.YtlclanmbebjfkaaDoorR5
import Derived.Deep.CutRange
import Derived.Deep.RegionHeld3
import Derived.Deep.DrawnRows
import Derived.Maps.AppendAt
set_option linter.unusedVariables false
set_option linter.unusedSimpArgs false
namespace Go.Proofs.YtlclanmbebjfkaaDoor
open Go.RowKit
set_option linter.unusedVariables false
variable {B : Nat → Prop}

theorem FitsV.append {w : World} : ∀ {ts us : List TV} {vs xs : List (Bool × Int)}, FitsV B w ts vs → FitsV B w us xs → FitsV B w (ts ++ us) (vs ++ xs)
  | [], _, [], _, _, h => h
  | t :: ts, _, p :: vs, _, h, k => ⟨h.1, FitsV.append h.2 k⟩
  | [], _, p :: vs, _, h, _ => h.elim
  | t :: ts, _, [], _, h, _ => h.elim
/-- a term of the law's sum -/
def tmB (n z y : Int) (i : Nat) : Bool × Int := (bits .and .i64 (n / 2 ^ i) 1 == 1, if (bits .and .i64 (n / 2 ^ (8 + i)) 1 == 1) = true then y else z)
/-- in the midst of the law's terms -/
def LawT (B : Nat → Prop) (w : World) (n s s' z y : Int) (g g' : Option Addr) (k : Nat) (o : Value) (wl : World) : Prop :=
  ∃ (ts : List TV) (vs : List (Bool × Int)), wl.ownsRow w.heap.size 31 3 o k (flatT ts) ∧ ts.length = k ∧ FitsV B w ts vs ∧ vs = (List.range k).map (tmB n z y) ∧ Below w.heap.size w wl ∧
    wl.heap[w.heap.size]? = some (.cells #[.int .i64 s, .pointer g] 28 (0, 0)) ∧ wl.heap[w.heap.size + 1]? = some (.cells #[.int .i64 s', .pointer g'] 28 (0, 0))
theorem LawT.push {w : World} {n s s' z y : Int} {g g' : Option Addr} {k : Nat} {a : Option Addr} {c : Nat} {wl : World} {ts : List TV} {vs : List (Bool × Int)} (hown : wl.ownsRow w.heap.size 31 3 (.slice a k c) k (flatT ts)) (hl : ts.length = k) (hv : FitsV B w ts vs) (hm : vs = (List.range k).map (tmB n z y)) (hb : Below w.heap.size w wl)
    (p0 : wl.heap[w.heap.size]? = some (.cells #[.int .i64 s, .pointer g] 28 (0, 0))) (p1 : wl.heap[w.heap.size + 1]? = some (.cells #[.int .i64 s', .pointer g'] 28 (0, 0))) {x xs : Int} {xg : Option Addr} (m : Bool) (hn : NumA B w xs xg x) (hx : tmB n z y k = (m, x)) {W w7 : World} (hW : Below wl.heap.size wl W) {o' : Value}
    (ho : w7.ownsRow w.heap.size 31 3 o' (k + 1) (flatT ts ++ cellsT (m, xs, xg))) (hg : W.grownBy w7 (Value.slice a k c).ownBlock) : LawT B w n s s' z y g g' (k + 1) o' w7 := by
  have hownW := ownsRow_belowAll hown hW
  have hlt := hown.lt
  have n0 := own_ne' hown p0
  have n1 := own_ne' hown p1
  have hsz := hW.size
  refine ⟨ts ++ [(m, xs, xg)], vs ++ [(m, x)], ?_, by simp [hl], hv.append ⟨⟨rfl, hn⟩, trivial⟩, ?_, ?_, ?_, ?_⟩
  · rw [flatT_append]; exact ho
  · rw [hm, List.range_succ, List.map_append, List.map_cons, hx]; rfl
  · exact ((hb.trans (hW.mono hb.size)).grown hg (by have := hb.size; omega) (fun k hk => (hlt k hk).1))
  · exact (hg.block _ (Nat.lt_of_lt_of_le (lt_of_some p0) hsz) (fun e => n0 _ e.symm rfl)).trans ((hW.block _ (lt_of_some p0)).trans p0)
  · exact (hg.block _ (Nat.lt_of_lt_of_le (lt_of_some p1) hsz) (fun e => n1 _ e.symm rfl)).trans ((hW.block _ (lt_of_some p1)).trans p1)

set_option maxRecDepth 100000 in
set_option maxHeartbeats 4000000 in
/-- terms that a law asks the sum of -/
theorem lawTerms_calls {w : World} {s s' z y : Int} {g g' : Option Addr} (hx : NumA B w s g z) (hy : NumA B w s' g' y) (n : Int) (hn : i64 n) :
    Calls Tryd.prog 35 #[.agg #[.int .i64 s, .pointer g], .agg #[.int .i64 s', .pointer g'], .int .i64 n] w fun e w' => ∃ (a : Option Addr) (c : Nat), e = .returned (.slice a 8 c) ∧ LawT B w n s s' z y g g' 8 (.slice a 8 c) w' := by
  have hb3 : Below w.heap.size w ((w.alloc (.cells #[.int .i64 s, .pointer g] 28)).alloc (.cells #[.int .i64 s', .pointer g'] 28)) := by repeat (first | exact Below.refl _ _ | refine Below.alloc ?_ (by simp <;> omega) _)
  obtain ⟨a0, a1⟩ := alloc2_heap w (.cells #[.int .i64 s, .pointer g] 28) (.cells #[.int .i64 s', .pointer g'] 28)
  generalize hw2 : (w.alloc (.cells #[.int .i64 s, .pointer g] 28)).alloc (.cells #[.int .i64 s', .pointer g'] 28) = w2 at *
  have hst : LawT B w n s s' z y g g' 0 (.slice (some ⟨w2.heap.size, 0, none⟩) 0 0) (w2.alloc (.cells #[] 31)) :=
    ⟨[], [], World.ownsRow_lit w2 #[] 0 hb3.size (by decide) rfl, rfl, trivial, rfl, hb3.alloc hb3.size _, (Below.heap_alloc _ _ _ (lt_ofO a0)).trans a0, (Below.heap_alloc _ _ _ (lt_ofO a1)).trans a1⟩
  have hs2 : w2.heap.size = w.heap.size + 1 + 1 := by rw [← hw2]; simp
  rw [hs2] at hst
  have HST := Lib.hid hst
  have HX := Lib.hid (And.intro hx hy)
  clear hx hy hb3 a0 a1 hst hs2
  subst hw2
  go_enter Tryd.func35, Tryd.ntmps35
  go_wp2
  go_loopw [8, 7] (fun i o wl => ∃ (k : Nat) (a : Option Addr) (c : Nat), k ≤ 8 ∧ i = .int .i64 k ∧ o = .slice a k c ∧ LawT B w n s s' z y g g' k (.slice a k c) wl) (fun i _ _ => 8 - (intOf i).toNat)
  case atStart => exact ⟨0, _, _, by omega, by simp, rfl, HST.out⟩
  case round =>
    obtain ⟨k, a, c, hkl, rfl, rfl, hR⟩ := hrel
    clear HST
    by_cases hlt : k < 8
    · have hlt' : (k : Int) < 8 := by omega
      obtain ⟨ts, vs, hown, hl, hv, hm, hb, p0, p1⟩ := hR
      obtain ⟨y0, y1⟩ := num_cells p0
      have hc1 : ∀ o, (wr.alloc o).heap[w.heap.size + 1]? = some (.cells #[.int .i64 s', .pointer g'] 28 (0, 0)) := fun o => (Below.heap_alloc _ _ _ (lt_ofO p1)).trans p1
      obtain ⟨i1, hi1, hz1, hz2, hz3⟩ := info_parts infoeT
      have HH := Lib.hid (And.intro hi1 (And.intro hz1 (And.intro hz2 hz3)))
      obtain ⟨m5, h5⟩ : ∃ m5, m5 = (bits .and .i64 (n / 2 ^ k) 1 == 1) := ⟨_, rfl⟩
      obtain ⟨m6, h6⟩ : ∃ m6, m6 = (bits .and .i64 (n / 2 ^ (8 + k)) 1 == 1) := ⟨_, rfl⟩
      have htm : tmB n z y k = (m5, if m6 = true then y else z) := by rw [h5, h6]; rfl
      have HQ := Lib.hid (And.intro htm (And.intro hown (And.intro hl (And.intro hv (And.intro hm (And.intro hb (And.intro p0 p1)))))))
      have hsz := hb.size
      have hk9 := hkl
      have h6' := h6.symm
      have h5' := h5.symm
      clear hown hl hv hm hb p0 hi1 hz1 hz2 hz3 htm h5 h6
      cases m6
      · obtain ⟨y4, y5⟩ := num_cells (hc1 (.cells #[.bool m5, .int .i64 s, .pointer g] 31))
        go_wp2_with (first
          | (at_builtin; refine wpList_append_own_at _ rfl _ _ 25 rfl w.heap.size 31 i1 zT 3 24 Tryd.underlying25 HH.out.1 HH.out.2.1 HH.out.2.2.1 HH.out.2.2.2 rfl (by decide) _ _ _ rfl ((HQ.out.2.1.alloc _).alloc _) ⟨wr.heap.size + 1, 0, none⟩ 1 1 (cellsT (m5, s, g)) rfl rfl (news_alloc2 wr _ _ _ _) (by simp [cellsT, Value.oneCell']) (by unfold maxLen; omega) (by omega) (by simp; omega) ?_; intro v7 w7 hown7 hg7 _ hat7
             obtain ⟨a7, c7, rfl⟩ := (RowV.of_own hown7).shape
             have H7 := Lib.hid (And.intro hown7 hg7)
             clear hown7 hg7 hat7))
        obtain ⟨htm, hown, hl, hv, hm, hb, p0, p1⟩ := HQ.out
        obtain ⟨hx, hy⟩ := HX.out
        obtain ⟨hown7, hg7⟩ := H7.out
        refine ⟨⟨k + 1, a7, c7, by omega, by go_num, rfl, ?_⟩, by simp [intOf]; omega⟩
        exact LawT.push hown hl hv hm hb p0 p1 m5 hx (by rw [htm]; rfl) (((Below.refl _ _).alloc (Nat.le_refl _) _).alloc (by simp) _) hown7 hg7
      · obtain ⟨y4, y5⟩ := num_cells (hc1 (.cells #[.bool m5, .int .i64 s, .pointer g] 31))
        go_wp2_with (first
          | (at_builtin; refine wpList_append_own_at _ rfl _ _ 25 rfl w.heap.size 31 i1 zT 3 24 Tryd.underlying25 HH.out.1 HH.out.2.1 HH.out.2.2.1 HH.out.2.2.2 rfl (by decide) _ _ _ rfl ((HQ.out.2.1.alloc _).alloc _) ⟨wr.heap.size + 1, 0, none⟩ 1 1 (cellsT (m5, s', g')) rfl rfl (news_alloc2 wr _ _ _ _) (by simp [cellsT, Value.oneCell']) (by unfold maxLen; omega) (by omega) (by simp; omega) ?_; intro v7 w7 hown7 hg7 _ hat7
             obtain ⟨a7, c7, rfl⟩ := (RowV.of_own hown7).shape
             have H7 := Lib.hid (And.intro hown7 hg7)
             clear hown7 hg7 hat7))
        obtain ⟨htm, hown, hl, hv, hm, hb, p0, p1⟩ := HQ.out
        obtain ⟨hx, hy⟩ := HX.out
        obtain ⟨hown7, hg7⟩ := H7.out
        refine ⟨⟨k + 1, a7, c7, by omega, by go_num, rfl, ?_⟩, by simp [intOf]; omega⟩
        exact LawT.push hown hl hv hm hb p0 p1 m5 hy (by rw [htm]; rfl) (((Below.refl _ _).alloc (Nat.le_refl _) _).alloc (by simp) _) hown7 hg7
    · have hkn : k = 8 := by omega
      subst hkn
      have HQ := Lib.hid hR
      clear hR
      go_wp2
      refine bodyPost_ret (v := .slice a 8 c) (by simp [results, Tryd.results35, go_sem, *]) rfl ⟨a, c, rfl, HQ.out⟩
end Go.Proofs.YtlclanmbebjfkaaDoor

namespace Go.Proofs.YtlclanmbebjfkaaDoor
open Go.RowKit
set_option linter.unusedVariables false
variable {B B' : Nat → Prop}

/-- numbers that lie side by side -/
def NumsV (B : Nat → Prop) (w : World) : List NV → List Int → Prop
  | [], [] => True
  | t :: ts, z :: zs => NumA B w t.1 t.2 z ∧ NumsV B w ts zs
  | _, _ => False
theorem NumsV.len {w : World} : ∀ {ts : List NV} {zs : List Int}, NumsV B w ts zs → ts.length = zs.length
  | [], [], _ => rfl
  | t :: ts, z :: zs, h => by simp only [List.length_cons]; rw [NumsV.len h.2]
  | [], z :: zs, h => h.elim
  | t :: ts, [], h => h.elim
theorem NumsV.get {w : World} : ∀ {ts : List NV} {zs : List Int}, NumsV B w ts zs → ∀ (i : Nat) (h1 : i < ts.length) (h2 : i < zs.length), NumA B w ts[i].1 ts[i].2 zs[i]
  | t :: ts, z :: zs, h, 0, _, _ => h.1
  | t :: ts, z :: zs, h, i + 1, h1, h2 => NumsV.get h.2 i (by simpa using h1) (by simpa using h2)
theorem NumsV.imp {w W : World} (hm : ∀ s g z, NumA B w s g z → NumA B' W s g z) : ∀ {ts : List NV} {zs : List Int}, NumsV B w ts zs → NumsV B' W ts zs
  | [], [], _ => trivial
  | t :: ts, z :: zs, h => ⟨hm _ _ _ h.1, NumsV.imp hm h.2⟩
  | [], z :: zs, h => h.elim
  | t :: ts, [], h => h.elim
theorem NumsV.below {w W : World} {ts : List NV} {zs : List Int} (h : NumsV B w ts zs) (hb : Below w.heap.size w W) : NumsV B W ts zs := h.imp (fun _ _ _ h => h.below hb)
theorem NumsV.append {w : World} : ∀ {ts us : List NV} {zs ys : List Int}, NumsV B w ts zs → NumsV B w us ys → NumsV B w (ts ++ us) (zs ++ ys)
  | [], _, [], _, _, h => h
  | t :: ts, _, z :: zs, _, h, k => ⟨h.1, NumsV.append h.2 k⟩
  | [], _, z :: zs, _, h, _ => h.elim
  | t :: ts, _, [], _, h, _ => h.elim
theorem FitsV.below {w W : World} : ∀ {ts : List TV} {vs : List (Bool × Int)}, FitsV B w ts vs → Below w.heap.size w W → FitsV B W ts vs
  | [], [], _, _ => trivial
  | t :: ts, p :: vs, h, hb => ⟨⟨h.1.1, h.1.2.below hb⟩, FitsV.below h.2 hb⟩
  | [], p :: vs, h, _ => h.elim
  | t :: ts, [], h, _ => h.elim

/-- what a law's call comes to: a number, or 0 and an error -/
def ResC (B : Nat → Prop) (w : World) (e : Ending) (w' : World) : Prop :=
  ∃ (r : Int) (q : Option Addr) (v er : Int), e = .returned (.tuple #[.agg #[.int .i64 r, .pointer q], .int .i64 er]) ∧ NumA B w' r q v ∧ (er ≠ 0 → v = 0) ∧ Below w.heap.size w w'
theorem ResA.C {w w' : World} {z : Int} {e : Ending} (h : ResA B w z e w') : ResC B w e w' := by
  obtain ⟨hb, ⟨_, r, q, he, hn⟩ | ⟨_, he⟩⟩ := h
  · exact ⟨r, q, z, 0, he, hn, fun h => absurd rfl h, hb⟩
  · exact ⟨0, none, 0, 5, he, NumA.small _ i64_0, fun _ => rfl, hb⟩
theorem ResS.C {w w' : World} {z y : Int} {e : Ending} (h : ResS B w z y e w') : ResC B w e w' := by
  obtain ⟨hb, ⟨_, he⟩ | ⟨_, _, r, q, he, hn⟩ | ⟨_, _, he⟩⟩ := h
  · exact ⟨0, none, 0, 4, he, NumA.small _ i64_0, fun _ => rfl, hb⟩
  · exact ⟨r, q, _, 0, he, hn, fun h => absurd rfl h, hb⟩
  · exact ⟨0, none, 0, 5, he, NumA.small _ i64_0, fun _ => rfl, hb⟩
theorem ResM.C {w w' : World} {z y : Int} {e : Ending} (h : ResM B w z y e w') : ResC B w e w' := by
  obtain ⟨hb, ⟨_, _, r, q, he, hn⟩ | ⟨_, he⟩⟩ := h
  · exact ⟨r, q, _, 0, he, hn, fun h => absurd rfl h, hb⟩
  · exact ⟨0, none, 0, 5, he, NumA.small _ i64_0, fun _ => rfl, hb⟩
theorem ResSum.C {w w' : World} {vs : List (Bool × Int)} {e : Ending} (h : ResSum B w vs e w') : ResC B w e w' := by
  obtain ⟨hb, ⟨_, he⟩ | ⟨_, _, _, r, q, he, hn⟩ | ⟨_, _, he⟩⟩ := h
  · exact ⟨0, none, 0, 1, he, NumA.small _ i64_0, fun _ => rfl, hb⟩
  · exact ⟨r, q, _, 0, he, hn, fun h => absurd rfl h, hb⟩
  · exact ⟨0, none, 0, 5, he, NumA.small _ i64_0, fun _ => rfl, hb⟩

theorem two_new (X : World) (s1 s2 : Int) (g1 g2 : Option Addr) : ∃ b6 b7, Value.pointer (some ⟨X.heap.size, 0, none⟩) = .pointer (some ⟨b6, 0, none⟩) ∧ Value.pointer (some ⟨X.heap.size + 1, 0, none⟩) = .pointer (some ⟨b7, 0, none⟩) ∧
    Below X.heap.size X ((X.alloc (.cells #[.int .i64 s1, .pointer g1] 28)).alloc (.cells #[.int .i64 s2, .pointer g2] 28)).drew ∧ ((X.alloc (.cells #[.int .i64 s1, .pointer g1] 28)).alloc (.cells #[.int .i64 s2, .pointer g2] 28)).drew.heap[b6]? = some (.cells #[.int .i64 s1, .pointer g1] 28 (0, 0)) ∧
    ((X.alloc (.cells #[.int .i64 s1, .pointer g1] 28)).alloc (.cells #[.int .i64 s2, .pointer g2] 28)).drew.heap[b7]? = some (.cells #[.int .i64 s2, .pointer g2] 28 (0, 0)) := by
  obtain ⟨a0, a1⟩ := alloc2_heap X (.cells #[.int .i64 s1, .pointer g1] 28) (.cells #[.int .i64 s2, .pointer g2] 28)
  exact ⟨_, _, rfl, rfl, by refine Below.drew ?_; repeat (first | exact Below.refl _ _ | refine Below.alloc ?_ (by simp <;> omega) _), a0, a1⟩
theorem two_new' (X : World) (s1 s2 : Int) (g1 g2 : Option Addr) : ∃ b6 b7, Value.pointer (some ⟨X.heap.size + 1, 0, none⟩) = .pointer (some ⟨b6, 0, none⟩) ∧ Value.pointer (some ⟨X.heap.size, 0, none⟩) = .pointer (some ⟨b7, 0, none⟩) ∧
    Below X.heap.size X ((X.alloc (.cells #[.int .i64 s2, .pointer g2] 28)).alloc (.cells #[.int .i64 s1, .pointer g1] 28)).drew ∧ ((X.alloc (.cells #[.int .i64 s2, .pointer g2] 28)).alloc (.cells #[.int .i64 s1, .pointer g1] 28)).drew.heap[b6]? = some (.cells #[.int .i64 s1, .pointer g1] 28 (0, 0)) ∧
    ((X.alloc (.cells #[.int .i64 s2, .pointer g2] 28)).alloc (.cells #[.int .i64 s1, .pointer g1] 28)).drew.heap[b7]? = some (.cells #[.int .i64 s2, .pointer g2] 28 (0, 0)) := by
  obtain ⟨a0, a1⟩ := alloc2_heap X (.cells #[.int .i64 s2, .pointer g2] 28) (.cells #[.int .i64 s1, .pointer g1] 28)
  exact ⟨_, _, rfl, rfl, by refine Below.drew ?_; repeat (first | exact Below.refl _ _ | refine Below.alloc ?_ (by simp <;> omega) _), a1, a0⟩
/-- a call's answer, written into the result -/
theorem ResC.fin {w wx w9 : World} {r v er : Int} {q : Option Addr} {x : Nat} (hbw : Below w.heap.size w wx) (hx : w.heap.size ≤ x) (hn : NumA B w9 r q v) (hv : er ≠ 0 → v = 0) (hb : Below wx.heap.size wx w9) (hp : w9.heap[x]? = some (.cells #[.int .i64 0, .pointer none] 28 (0, 0))) :
    ResC B w (.returned (.tuple #[.agg #[.int .i64 r, .pointer q], .int .i64 er])) ((w9.setCell ⟨x, 0, none⟩ (.int .i64 r)).setCell ⟨x, 1, none⟩ (.pointer q)) :=
  ⟨r, q, v, er, rfl, NumA.put hn hp _ _, hv, ((hbw.trans (hb.mono hbw.size)).setCell hx _).setCell hx _⟩

set_option maxRecDepth 100000 in
set_option maxHeartbeats 8000000 in
/-- what a call answers -/
theorem called_calls {w : World} {a : Option Addr} {c : Nat} {ns : List NV} {zs : List Int} (hr : RowV w 2 (.slice a ns.length c) ns.length (flatN ns)) (hn : NumsV B w ns zs) (hpos : 0 < ns.length) (hmax : ns.length ≤ 1000) (k x1 x2 n : Int) (i1 : i64 x1) (i2 : i64 x2) (i3 : i64 n) (tab : Tab w) (h0 : 0 < w.heap.size) (hB : ∀ k, B k → k < w.heap.size) :
    Calls Tryd.prog 16 #[.slice a ns.length c, .agg #[.int .i64 k, .int .i64 x1, .int .i64 x2, .int .i64 n]] w (ResC B w) := by
  obtain ⟨b, o, rfl⟩ : ∃ bx ox, a = some ⟨bx, ox, none⟩ := by
    rcases hr.2 with ⟨e, h0⟩ | ⟨b1, off1, cap1, e1, p1, p2, p3, p4⟩
    · omega
    · cases e1; exact ⟨_, _, rfl⟩
  have hbl := hr.lt b rfl
  have hL : (0 : Int) < (ns.length : Int) := by omega
  obtain ⟨j1, hj1⟩ := Int.eq_ofNat_of_zero_le (Int.emod_nonneg x1 (show (ns.length : Int) ≠ 0 by omega))
  obtain ⟨j2, hj2⟩ := Int.eq_ofNat_of_zero_le (Int.emod_nonneg x2 (show (ns.length : Int) ≠ 0 by omega))
  have hl1 : j1 < ns.length := by have := Int.emod_lt_of_pos x1 hL; omega
  have hl2 : j2 < ns.length := by have := Int.emod_lt_of_pos x2 hL; omega
  have hR1 : ∀ W, Calls Tryd.prog 34 #[.int .i64 x1, .int .i64 (ns.length : Int)] W fun e w' => e = .returned (.int .i64 (j1 : Int)) ∧ W = w' := fun W => by rw [← hj1]; exact rest_calls x1 _ i1 hL (by omega) W
  have hR2 : ∀ W, Calls Tryd.prog 34 #[.int .i64 x2, .int .i64 (ns.length : Int)] W fun e w' => e = .returned (.int .i64 (j2 : Int)) ∧ W = w' := fun W => by rw [← hj2]; exact rest_calls x2 _ i2 hL (by omega) W
  have hz1 : j1 < zs.length := by rw [← hn.len]; exact hl1
  have hz2 : j2 < zs.length := by rw [← hn.len]; exact hl2
  have hn1 := hn.get j1 hl1 hz1
  have hn2 := hn.get j2 hl2 hz2
  obtain ⟨w3, hw3⟩ : ∃ w3, w3 = (w.alloc (.cells #[.int .i64 k, .int .i64 x1, .int .i64 x2, .int .i64 n] 46)).alloc (.cells #[.int .i64 0, .pointer none] 28) := ⟨_, rfl⟩
  have hb3 : Below w.heap.size w w3 := by rw [hw3]; repeat (first | exact Below.refl _ _ | refine Below.alloc ?_ (by simp <;> omega) _)
  obtain ⟨p0, p1⟩ := alloc2_heap w (.cells #[.int .i64 k, .int .i64 x1, .int .i64 x2, .int .i64 n] 46) (.cells #[.int .i64 0, .pointer none] 28)
  rw [← hw3] at p0 p1
  have hr3 := hr.below hb3 (Nat.le_refl _)
  obtain ⟨q0, q1⟩ := RowC.num hr3.rowC j1 hl1
  obtain ⟨q2, q3⟩ := RowC.num hr3.rowC j2 hl2
  generalize ns[j1] = t1 at q0 q1 hn1
  generalize ns[j2] = t2 at q2 q3 hn2
  generalize zs[j1] = z1 at hn1
  generalize zs[j2] = z2 at hn2
  obtain ⟨s1, g1⟩ := t1
  obtain ⟨s2, g2⟩ := t2
  simp only at q0 q1 q2 q3 hn1 hn2
  have hc0 : w3.cell? ⟨w.heap.size, 0, none⟩ = some (.int .i64 k) := by simp [World.cell?, p0]
  have hc1 : w3.cell? ⟨w.heap.size, 1, none⟩ = some (.int .i64 x1) := by simp [World.cell?, p0]
  have hc2 : w3.cell? ⟨w.heap.size, 2, none⟩ = some (.int .i64 x2) := by simp [World.cell?, p0]
  have hs3 : w3.heap.size = w.heap.size + 1 + 1 := by rw [hw3]; simp
  have HX := Lib.hid (And.intro hb3 (And.intro p0 (And.intro p1 (And.intro hn1 (And.intro hn2 (And.intro tab (And.intro h0 (And.intro hB hs3))))))))
  generalize hpl : ns.length = L at *
  clear hr hn hr3 hn1 hn2 hb3 p0 p1 tab hB hj1 hj2 hz1 hz2 hpl
  subst hw3
  go_enter Tryd.func16, Tryd.ntmps16
  go_upto_region 1 with fail
  have hj0 : (0 : Int) ≤ (j1 : Int) := by omega
  have hj3 : (0 : Int) ≤ (j2 : Int) := by omega
  have hj4 : (j1 : Int) < (L : Int) := by omega
  have hj5 : (j2 : Int) < (L : Int) := by omega
  generalize hXw : (w.alloc (.cells #[.int .i64 k, .int .i64 x1, .int .i64 x2, .int .i64 n] 46)).alloc (.cells #[.int .i64 0, .pointer none] 28) = X at *
  have hbX : b < X.heap.size := by omega
  have hoX : w.heap.size < X.heap.size := by omega
  have hn1 : ¬ b = X.heap.size := by omega
  have hn2 : ¬ X.heap.size = b := by omega
  have hn3 : ¬ b = X.heap.size + 1 := by omega
  have hn4 : ¬ X.heap.size + 1 = b := by omega
  have hn5 : ¬ w.heap.size = X.heap.size := by omega
  have hn6 : ¬ X.heap.size = w.heap.size := by omega
  have hn7 : ¬ w.heap.size = X.heap.size + 1 := by omega
  have hn8 : ¬ X.heap.size + 1 = w.heap.size := by omega
  clear hXw hs3
  go_cut [6, 7] from 8 to 78 (fun v6 v7 wx => ∃ b6 b7, v6 = .pointer (some ⟨b6, 0, none⟩) ∧ v7 = .pointer (some ⟨b7, 0, none⟩) ∧ Below X.heap.size X wx ∧ wx.heap[b6]? = some (.cells #[.int .i64 s1, .pointer g1] 28 (0, 0)) ∧ wx.heap[b7]? = some (.cells #[.int .i64 s2, .pointer g2] 28 (0, 0)))
  case first =>
    first
      | go_region_held3 (fun w' => w'.cell? ⟨w.heap.size, 1, none⟩ = some (.int .i64 x1) ∧ w'.cell? ⟨w.heap.size, 2, none⟩ = some (.int .i64 x2) ∧ w'.cell? ⟨b, o + j1 * 2, none⟩ = some (.int .i64 s1) ∧ w'.cell? ⟨b, o + j1 * 2 + 1, none⟩ = some (.pointer g1) ∧
          w'.cell? ⟨b, o + j2 * 2, none⟩ = some (.int .i64 s2) ∧ w'.cell? ⟨b, o + j2 * 2 + 1, none⟩ = some (.pointer g2)) (first | (go_keep; done) | ((try dsimp only); refine ⟨?_, ?_, ?_, ?_, ?_, ?_⟩ <;> (go_keep; done)))
        (first
        | (have hq := H1
           go_at_call 34; refine (hR2 _).mono ?_; rintro e6 w6 ⟨rfl, rfl⟩)
        | (go_at_call 34; refine (hR1 _).mono ?_; rintro e5 w5 ⟨rfl, rfl⟩
           have H1 := Lib.hid True.intro))
      | fail
    all_goals
      (try go_wp2)
      go_meet
      first | exact two_new _ _ _ _ _ | exact two_new' _ _ _ _ _
  case rest =>
    obtain ⟨b6, b7, rfl, rfl, hbx, h6, h7⟩ := hcut
    obtain ⟨hb3, p0, p1, hn1, hn2, tab, h0, hB, hs3⟩ := HX.out
    have hbw := hb3.trans (hbx.mono hb3.size)
    have q0 := (hbx.block _ (lt_of_some p0)).trans p0
    have q1 := (hbx.block _ (lt_of_some p1)).trans p1
    have m1 := hn1.below hbw
    have m2 := hn2.below hbw
    have tab' := tab_below tab h0 hbw
    have h0' : 0 < wc.heap.size := by have := hbw.size; omega
    have hB' := ltB hB hbw
    obtain ⟨y0, y1⟩ := num_cells h6
    obtain ⟨y2, y3⟩ := num_cells h7
    have c0 : wc.cell? ⟨w.heap.size, 0, none⟩ = some (.int .i64 k) := by simp [World.cell?, q0]
    have c3 : wc.cell? ⟨w.heap.size, 3, none⟩ = some (.int .i64 n) := by simp [World.cell?, q0]
    have hC1 : Calls Tryd.prog 21 #[.agg #[.int .i64 s1, .pointer g1], .agg #[.int .i64 s2, .pointer g2]] wc (ResC B wc) := (Add_calls m1 m2 tab' h0' hB').mono (fun _ _ h => h.C)
    have hC2 : Calls Tryd.prog 7 #[.agg #[.int .i64 s1, .pointer g1], .agg #[.int .i64 s2, .pointer g2]] wc (ResC B wc) := (Sub_calls m1 m2 tab' h0' hB').mono (fun _ _ h => h.C)
    have hC4 : Calls Tryd.prog 30 #[.agg #[.int .i64 s1, .pointer g1], .agg #[.int .i64 s2, .pointer g2]] wc (ResC B wc) := (Shift_calls m1 m2 tab' h0' hB').mono (fun _ _ h => h.C)
    have hC5 : Calls Tryd.prog 31 #[.agg #[.int .i64 s1, .pointer g1], .agg #[.int .i64 s2, .pointer g2]] wc (ResC B wc) := (Mul_calls m1 m2 tab' h0' hB').mono (fun _ _ h => h.C)
    have hC3 := Neg_calls m1 tab' h0' hB'
    have hC6 : ∀ W, Below wc.heap.size wc W → Calls Tryd.prog 30 #[.agg #[.int .i64 1, .pointer none], .agg #[.int .i64 s1, .pointer g1]] W (fun e w' => ResC B wc e w') := by
      intro W hW
      refine (Shift_calls (NumA.small W (show i64 1 by unfold i64; omega)) (m1.below hW) (tab_below tab' h0' hW) (by have := hW.size; omega) (ltB hB' hW)).mono ?_
      rintro e w' h
      obtain ⟨r, q, v, er, he, h1, h2, h3⟩ := h.C
      exact ⟨r, q, v, er, he, h1, h2, hW.trans (h3.mono hW.size)⟩
    have hC7 := lawTerms_calls m1 m2 n i3
    have hC8 : ∀ (a : Option Addr) (c : Nat) (W : World), LawT B wc n s1 s2 z1 z2 g1 g2 8 (.slice a 8 c) W → Calls Tryd.prog 11 #[.slice a 8 c] W (fun e w' => ResC B wc e w') := by
      intro a c W hT
      obtain ⟨ts, vs, hown, hl, hv, hm, hb, _⟩ := hT
      refine (Sum_calls (B := B) (ts := ts) (vs := vs) (by rw [hl]; exact RowV.of_own hown) (hv.below hb) (by omega) (tab_below tab' h0' hb) (by have := hb.size; omega) (ltB hB' hb)).mono ?_
      rintro e w' h
      obtain ⟨r, q, v, er, he, h1, h2, h3⟩ := h.C
      exact ⟨r, q, v, er, he, h1, h2, hb.trans (h3.mono hb.size)⟩
    have hfin := fun (w9 : World) (r v er : Int) (q : Option Addr) (hn : NumA B w9 r q v) (hv : er ≠ 0 → v = 0) (hb : Below wc.heap.size wc w9) => ResC.fin hbw (x := w.heap.size + 1) (by omega) hn hv hb ((hb.block _ (lt_of_some q1)).trans q1)
    have HF := Lib.hid (And.intro hfin (And.intro q1 (And.intro hC6 (And.intro hC7 (And.intro hC8 (And.intro i3 h6))))))
    clear hb3 p0 p1 hn1 hn2 tab h0 hB hs3 hbx h6 h7 hbw q0 m1 m2 tab' h0' hB' HX hfin hC6 hC7 hC8 hR1 hR2 hl1 hl2 hpos hmax hL hbl i1 i2 hc0 hc1 hc2
    have hk : k = 0 ∨ k = 1 ∨ k = 2 ∨ k = 3 ∨ k = 4 ∨ k = 5 ∨ k = 6 ∨ ((k == 0) = false ∧ (k == 1) = false ∧ (k == 2) = false ∧ (k == 3) = false ∧ (k == 4) = false ∧ (k == 5) = false ∧ (k == 6) = false) := by
      simp only [beq_eq_false_iff_ne]
      omega
    rcases hk with rfl | rfl | rfl | rfl | rfl | rfl | rfl | ⟨k0, k1, k2, k3, k4, k5, k6⟩
    · go_wp2_with (first
        | (go_at_call 9; refine (of_calls _ _).mono ?_; rintro e9 w9 ⟨rfl, hb9⟩
           have pr := (hb9.block _ (lt_of_some HF.out.2.1)).trans HF.out.2.1
           obtain ⟨y4, y5⟩ := num_cells pr
           obtain ⟨y6, y7⟩ := num_frozen pr
           have H9 := Lib.hid (And.intro hb9 pr)
           clear hb9 pr))
      refine bodyPost_ret (v := .tuple #[.agg #[.int .i64 n, .pointer none], .int .i64 0]) (by simp [results, Tryd.results16, go_sem, *]) rfl ?_
      exact HF.out.1 _ _ n 0 none (NumA.small _ HF.out.2.2.2.2.2.1) (fun h => absurd rfl h) H9.out.1
    · go_wp2_with (first
        | (go_at_call 21; refine hC1.mono ?_; rintro e9 w9 ⟨r9, q9, v9, er9, rfl, hn9, hv9, hb9⟩
           have pr := (hb9.block _ (lt_of_some HF.out.2.1)).trans HF.out.2.1
           obtain ⟨y4, y5⟩ := num_cells pr
           obtain ⟨y6, y7⟩ := num_frozen pr
           have H9 := Lib.hid (And.intro hn9 (And.intro hv9 hb9))
           clear hn9 hv9 hb9 pr))
      refine bodyPost_ret (v := .tuple #[.agg #[.int .i64 r9, .pointer q9], .int .i64 er9]) (by simp [results, Tryd.results16, go_sem, *]) rfl ?_
      exact HF.out.1 _ _ v9 er9 _ H9.out.1 H9.out.2.1 H9.out.2.2
    · go_wp2_with (first
        | (go_at_call 7; refine hC2.mono ?_; rintro e9 w9 ⟨r9, q9, v9, er9, rfl, hn9, hv9, hb9⟩
           have pr := (hb9.block _ (lt_of_some HF.out.2.1)).trans HF.out.2.1
           obtain ⟨y4, y5⟩ := num_cells pr
           obtain ⟨y6, y7⟩ := num_frozen pr
           have H9 := Lib.hid (And.intro hn9 (And.intro hv9 hb9))
           clear hn9 hv9 hb9 pr))
      refine bodyPost_ret (v := .tuple #[.agg #[.int .i64 r9, .pointer q9], .int .i64 er9]) (by simp [results, Tryd.results16, go_sem, *]) rfl ?_
      exact HF.out.1 _ _ v9 er9 _ H9.out.1 H9.out.2.1 H9.out.2.2
    · go_wp2_with (first
        | (go_at_call 22; refine hC3.mono ?_; rintro e9 w9 ⟨r9, q9, rfl, hn9, hb9⟩
           have pr := (hb9.block _ (lt_of_some HF.out.2.1)).trans HF.out.2.1
           obtain ⟨y4, y5⟩ := num_cells pr
           obtain ⟨y6, y7⟩ := num_frozen pr
           have H9 := Lib.hid (And.intro hn9 hb9)
           clear hn9 hb9 pr))
      refine bodyPost_ret (v := .tuple #[.agg #[.int .i64 r9, .pointer q9], .int .i64 0]) (by simp [results, Tryd.results16, go_sem, *]) rfl ?_
      exact HF.out.1 _ _ _ 0 _ H9.out.1 (fun h => absurd rfl h) H9.out.2
    · go_wp2_with (first
        | (go_at_call 30; refine hC4.mono ?_; rintro e9 w9 ⟨r9, q9, v9, er9, rfl, hn9, hv9, hb9⟩
           have pr := (hb9.block _ (lt_of_some HF.out.2.1)).trans HF.out.2.1
           obtain ⟨y4, y5⟩ := num_cells pr
           obtain ⟨y6, y7⟩ := num_frozen pr
           have H9 := Lib.hid (And.intro hn9 (And.intro hv9 hb9))
           clear hn9 hv9 hb9 pr))
      refine bodyPost_ret (v := .tuple #[.agg #[.int .i64 r9, .pointer q9], .int .i64 er9]) (by simp [results, Tryd.results16, go_sem, *]) rfl ?_
      exact HF.out.1 _ _ v9 er9 _ H9.out.1 H9.out.2.1 H9.out.2.2
    · go_wp2_with (first
        | (go_at_call 31; refine hC5.mono ?_; rintro e9 w9 ⟨r9, q9, v9, er9, rfl, hn9, hv9, hb9⟩
           have pr := (hb9.block _ (lt_of_some HF.out.2.1)).trans HF.out.2.1
           obtain ⟨y4, y5⟩ := num_cells pr
           obtain ⟨y6, y7⟩ := num_frozen pr
           have H9 := Lib.hid (And.intro hn9 (And.intro hv9 hb9))
           clear hn9 hv9 hb9 pr))
      refine bodyPost_ret (v := .tuple #[.agg #[.int .i64 r9, .pointer q9], .int .i64 er9]) (by simp [results, Tryd.results16, go_sem, *]) rfl ?_
      exact HF.out.1 _ _ v9 er9 _ H9.out.1 H9.out.2.1 H9.out.2.2
    · go_wp2
      first
        | go_region_with (first
          | (go_at_call 30; refine (HF.out.2.2.1 _ H8.out).mono ?_; rintro e9 w9 ⟨r9, q9, v9, er9, rfl, hn9, hv9, hb9⟩
             have pr := (hb9.block _ (lt_of_some HF.out.2.1)).trans HF.out.2.1
             obtain ⟨y4, y5⟩ := num_cells pr
             obtain ⟨y6, y7⟩ := num_frozen pr
             have H9 := Lib.hid (And.intro hn9 (And.intro hv9 hb9))
             clear hn9 hv9 hb9 pr)
          | (go_at_call 9; refine (of_calls _ _).mono ?_; rintro e8 w8 ⟨rfl, hb8⟩
             have hb8' : Below wc.heap.size wc w8 := Below.trans (by repeat (first | exact Below.refl _ _ | refine Below.drew ?_)) (hb8.mono (by first | exact Nat.le_refl _ | simp))
             have p6 := (hb8'.block _ (lt_of_some HF.out.2.2.2.2.2.2)).trans HF.out.2.2.2.2.2.2
             obtain ⟨yy0, yy1⟩ := num_cells p6
             have H8 := Lib.hid hb8'
             clear hb8 hb8' p6))
        | fail
      all_goals
        (try go_wp2)
        refine bodyPost_ret (v := .tuple #[.agg #[.int .i64 r9, .pointer q9], .int .i64 er9]) (by simp [results, Tryd.results16, go_sem, *]) rfl ?_
        exact HF.out.1 _ _ v9 er9 _ H9.out.1 H9.out.2.1 H9.out.2.2
    · go_wp2_with (first
        | (go_at_call 35; refine HF.out.2.2.2.1.mono ?_; rintro e8 w8 ⟨a8, c8, rfl, hT8⟩
           have H8 := Lib.hid hT8
           clear hT8)
        | (go_at_call 11; refine (HF.out.2.2.2.2.1 _ _ _ H8.out).mono ?_; rintro e9 w9 ⟨r9, q9, v9, er9, rfl, hn9, hv9, hb9⟩
           have pr := (hb9.block _ (lt_of_some HF.out.2.1)).trans HF.out.2.1
           obtain ⟨y4, y5⟩ := num_cells pr
           obtain ⟨y6, y7⟩ := num_frozen pr
           have H9 := Lib.hid (And.intro hn9 (And.intro hv9 hb9))
           clear hn9 hv9 hb9 pr))
      refine bodyPost_ret (v := .tuple #[.agg #[.int .i64 r9, .pointer q9], .int .i64 er9]) (by simp [results, Tryd.results16, go_sem, *]) rfl ?_
      exact HF.out.1 _ _ v9 er9 _ H9.out.1 H9.out.2.1 H9.out.2.2
end Go.Proofs.YtlclanmbebjfkaaDoor

namespace Go.Proofs.YtlclanmbebjfkaaDoor
open Go.RowKit
set_option linter.unusedVariables false
variable {B B' : Nat → Prop}

/-- a call of a script: its kind, two places, a number -/
abbrev OV := Int × Int × Int × Int
def cellsO (t : OV) : List Value := [.int .i64 t.1, .int .i64 t.2.1, .int .i64 t.2.2.1, .int .i64 t.2.2.2]
def flatO (l : List OV) : List Value := l.flatMap cellsO
theorem flatO_cons (t : OV) (l : List OV) : flatO (t :: l) = .int .i64 t.1 :: .int .i64 t.2.1 :: .int .i64 t.2.2.1 :: .int .i64 t.2.2.2 :: flatO l := rfl
theorem flatO_len (l : List OV) : (flatO l).length = l.length * 4 := by
  induction l with
  | nil => rfl
  | cons t l ih => rw [flatO_cons]; simp [ih]; omega
theorem flatO_get : ∀ (l : List OV) (i : Nat) (h : i < l.length), (flatO l)[i * 4]? = some (.int .i64 l[i].1) ∧ (flatO l)[i * 4 + 1]? = some (.int .i64 l[i].2.1) ∧ (flatO l)[i * 4 + 2]? = some (.int .i64 l[i].2.2.1) ∧ (flatO l)[i * 4 + 3]? = some (.int .i64 l[i].2.2.2)
  | t :: l, 0, _ => by rw [flatO_cons]; simp
  | t :: l, i + 1, h => by
    have := flatO_get l i (by simpa using h)
    rw [flatO_cons, show (i + 1) * 4 = i * 4 + 4 by omega, show i * 4 + 4 + 1 = (i * 4 + 1) + 4 by omega, show i * 4 + 4 + 2 = (i * 4 + 2) + 4 by omega, show i * 4 + 4 + 3 = (i * 4 + 3) + 4 by omega]
    simpa using this
theorem RowC.op {w : World} {b off : Nat} {l : List OV} (h : RowC w b off (flatO l)) (i : Nat) (hi : i < l.length) :
    w.cell? ⟨b, off + i * 4, none⟩ = some (.int .i64 l[i].1) ∧ w.cell? ⟨b, off + i * 4 + 1, none⟩ = some (.int .i64 l[i].2.1) ∧ w.cell? ⟨b, off + i * 4 + 2, none⟩ = some (.int .i64 l[i].2.2.1) ∧ w.cell? ⟨b, off + i * 4 + 3, none⟩ = some (.int .i64 l[i].2.2.2) := by
  obtain ⟨a1, a2, a3, a4⟩ := flatO_get l i hi
  exact ⟨h _ _ a1, h _ _ a2, h _ _ a3, h _ _ a4⟩

/-- the block of a row -/
def ownB (o : Value) : Nat → Prop := fun j => o.ownBlock = some j
/-- the numbers that a script has made so far -/
def MadeR (w : World) (o : Value) (n : Nat) (wl : World) : Prop :=
  ∃ (ns : List NV) (zs : List Int), ns.length = n ∧ wl.ownsRow w.heap.size 28 2 o n (flatN ns) ∧ NumsV (ownB o) wl ns zs ∧ Below w.heap.size w wl ∧ ∀ z ∈ zs, wt z ≤ 40 ∧ weightZ z ≤ 120
theorem NumA.grown {W w7 : World} {o o' : Value} {s z : Int} {g : Option Addr} (h : NumA (ownB o) W s g z) (hg : W.grownBy w7 o.ownBlock) (hat : ∀ k, o'.ownBlock = some k → o.ownBlock = some k ∨ W.heap.size ≤ k) : NumA (ownB o') w7 s g z := by
  have h1 : NumA (orA (ownB o) (fun k => W.heap.size ≤ k)) W s g z := h.grow (fun i hi => hi)
  have h2 := h1.2.keeps (w' := w7) ⟨hg.os, hg.tape, hg.output, hg.size, fun k a b => hg.block k a (fun e => b (.inl e.symm))⟩
  exact ⟨h.1, h2.shrink (fun i hi => hat i hi)⟩
theorem MadeR.push {w wl W w7 : World} {a : Option Addr} {n c : Nat} {ns : List NV} {zs : List Int} (hl : ns.length = n) (hv : NumsV (ownB (.slice a n c)) wl ns zs) (hb : Below w.heap.size w wl) (hm : ∀ z ∈ zs, wt z ≤ 40 ∧ weightZ z ≤ 120)
    (hW : Below wl.heap.size wl W) (hlt : ∀ k, (Value.slice a n c).ownBlock = some k → w.heap.size ≤ k) {r v : Int} {q : Option Addr} (hn : NumA (ownB (.slice a n c)) W r q v) (hv1 : wt v ≤ 40 ∧ weightZ v ≤ 120) {o' : Value}
    (ho : w7.ownsRow w.heap.size 28 2 o' (n + 1) (flatN ns ++ cellsN (r, q))) (hg : W.grownBy w7 (Value.slice a n c).ownBlock) (hat : ∀ k, o'.ownBlock = some k → (Value.slice a n c).ownBlock = some k ∨ W.heap.size ≤ k) : MadeR w o' (n + 1) w7 := by
  refine ⟨ns ++ [(r, q)], zs ++ [v], by simp [hl], by rw [flatN_append]; exact ho, ?_, ?_, ?_⟩
  · refine NumsV.append (NumsV.imp (fun s g z h => ?_) (hv.below hW)) ⟨hn.grown hg hat, trivial⟩
    exact h.grown hg hat
  · exact (hb.trans (hW.mono hb.size)).grown hg (by have := hb.size; have := hW.size; omega) hlt
  · intro z hz
    rcases List.mem_append.1 hz with x | x
    · exact hm z x
    · rw [List.mem_singleton.1 x]; exact hv1
theorem modest_small {z : Int} (h : z = 0 ∨ z = 1 ∨ z = 2) : wt z ≤ 40 ∧ weightZ z ≤ 120 := by
  have h1 := allowed_bits (z := z) (b := 7) (by rcases h with rfl | rfl | rfl <;> decide) (by rcases h with rfl | rfl | rfl <;> decide) (by omega)
  omega
theorem MadeR.below {w wl W : World} {o : Value} {n : Nat} (h : MadeR w o n wl) (hb : Below wl.heap.size wl W) : MadeR w o n W := by
  obtain ⟨ns, zs, h1, h2, h3, h4, h5⟩ := h
  exact ⟨ns, zs, h1, ownsRow_belowAll h2 hb, h3.below hb, h4.trans (hb.mono h4.size), h5⟩

set_option maxRecDepth 100000 in
set_option maxHeartbeats 8000000 in
/-- ████ the numbers that a script makes -/
theorem made_calls {w : World} {v : Value} {os : List OV} (hr : RowV w 4 v os.length (flatO os)) (hi : ∀ o ∈ os, i64 o.2.1 ∧ i64 o.2.2.1 ∧ i64 o.2.2.2) (tab : Tab w) (h0 : 0 < w.heap.size) :
    Calls Tryd.prog 4 #[v] w fun e w' => ∃ (a : Option Addr) (n c : Nat), e = .returned (.slice a n c) ∧ 3 ≤ n ∧ n ≤ 27 ∧ MadeR w (.slice a n c) n w' := by
  obtain ⟨ax, cx, rfl⟩ := hr.shape
  have HX := Lib.hid (And.intro hr (And.intro hi (And.intro tab h0)))
  clear hr hi tab h0
  go_enter Tryd.func4, Tryd.ntmps4
  go_wp2_with (first
    | (have hq := H2
       go_at_call 9; refine (of_calls _ _).mono ?_; rintro e3 w3 ⟨rfl, hb3⟩
       have H3 := Lib.hid (hq.out.trans (hb3.mono hq.out.size))
       clear hb3 hq)
    | (have hq := H1
       go_at_call 9; refine (of_calls _ _).mono ?_; rintro e2 w2 ⟨rfl, hb2⟩
       have H2 := Lib.hid (hq.out.trans (hb2.mono hq.out.size))
       clear hb2 hq)
    | (go_at_call 9; refine (of_calls _ _).mono ?_; rintro e1 w1 ⟨rfl, hb1⟩
       have H1 := Lib.hid hb1
       clear hb1))
  have hst : MadeR w (.slice (some ⟨w3.heap.size, 0, none⟩) 3 3) 3 (w3.alloc (.cells #[.int .i64 0, .pointer none, .int .i64 1, .pointer none, .int .i64 2, .pointer none] 28)) := by
    have hb := H3.out
    refine ⟨[(0, none), (1, none), (2, none)], [0, 1, 2], rfl, ?_, ⟨NumA.small _ (by unfold i64; omega), NumA.small _ (by unfold i64; omega), NumA.small _ (by unfold i64; omega), trivial⟩, hb.alloc hb.size _, fun z hz => modest_small (by simpa using hz)⟩
    exact World.ownsRow_lit w3 #[.int .i64 0, .pointer none, .int .i64 1, .pointer none, .int .i64 2, .pointer none] 3 hb.size (by decide) rfl
  have HST := Lib.hid hst
  clear hst H1 H2
  go_loopw [4, 3] (fun i o wl => ∃ (k n : Nat) (a : Option Addr) (c : Nat), i = .int .i64 k ∧ o = .slice a n c ∧ 3 ≤ n ∧ n ≤ 3 + k ∧ k ≤ 24 ∧ MadeR w (.slice a n c) n wl) (fun i _ _ => 24 - (intOf i).toNat)
  case atStart => exact ⟨0, 3, _, 3, by simp, rfl, by omega, by omega, by omega, HST.out⟩
  case round =>
    obtain ⟨k, n, a, c, rfl, rfl, hn3, hnk, hk24, hM⟩ := hrel
    clear HST H3
    by_cases hlt : k < os.length
    · by_cases h24 : k < 24
      · obtain ⟨hr, hi, tab, h0⟩ := HX.out
        have hM0 := hM
        obtain ⟨ns, zs, hl, hown, hv, hb, hm⟩ := hM
        obtain ⟨b, o, rfl⟩ : ∃ bx ox, ax = some ⟨bx, ox, none⟩ := by
          rcases hr.2 with ⟨e, h0⟩ | ⟨b1, off1, cap1, e1, p1, p2, p3, p4⟩
          · simp only [Value.slice.injEq] at e; omega
          · cases e1; exact ⟨_, _, rfl⟩
        obtain ⟨q0, q1, q2, q3⟩ := RowC.op (hr.below hb (Nat.le_refl _)).rowC k hlt
        obtain ⟨i1, i2, i3⟩ := hi _ (List.getElem_mem hlt)
        generalize os[k] = ok at q0 q1 q2 q3 i1 i2 i3
        obtain ⟨ok0, ok1, ok2, ok3⟩ := ok
        simp only at q0 q1 q2 q3 i1 i2 i3
        have hlt1 := hown.lt
        have hcc : Calls Tryd.prog 16 #[.slice a n c, .agg #[.int .i64 ok0, .int .i64 ok1, .int .i64 ok2, .int .i64 ok3]] wr (ResC (ownB (.slice a n c)) wr) := by
          have := called_calls (B := ownB (.slice a n c)) (w := wr) (a := a) (c := c) (ns := ns) (zs := zs) (by rw [hl]; exact RowV.of_own hown) hv (by omega) (by omega) ok0 ok1 ok2 ok3 i1 i2 i3 (tab_below tab h0 hb) (by have := hb.size; omega) (fun k hk => (hlt1 k hk).2)
          rw [hl] at this
          exact this
        have hlt' : (k : Int) < (os.length : Int) := by omega
        have h24' : (k : Int) < 24 := by omega
        have hlb := hb.size
        have HQ := Lib.hid (And.intro hM0 (And.intro hown (And.intro hl (And.intro hv (And.intro hb (And.intro hm hlt1))))))
        clear hM0 hown hl hv hb hm hlt1 hr hi tab h0 i1 i2 i3
        go_upto_region 6 with (first
          | (go_at_call 16; refine hcc.mono ?_; rintro e5 w5 ⟨r5, q5, v5, er, rfl, hn5, hv5, hb5⟩
             have H5 := Lib.hid (And.intro hn5 (And.intro hv5 hb5))
             clear hn5 hv5 hb5))
        obtain ⟨hn5, hv5, hb5⟩ := H5.out
        have hbA : Below w5.heap.size w5 (w5.alloc (.cells #[.int .i64 r5, .pointer q5] 28)) := (Below.refl _ _).alloc (Nat.le_refl _) _
        have p5 := heap_alloc_new w5 (.cells #[.int .i64 r5, .pointer q5] 28)
        have hb5A := hb5.trans (hbA.mono hb5.size)
        have hnA := hn5.below hbA
        clear hbA
        generalize w5.alloc (.cells #[.int .i64 r5, .pointer q5] 28) = w6 at *
        by_cases he : er = 0
        · subst he
          have hmo := modest_calls hnA
          obtain ⟨y0, y1⟩ := num_cells p5
          by_cases hmd : wt v5 ≤ 40 ∧ weightZ v5 ≤ 120
          · rw [decide_eq_true hmd] at hmo
            obtain ⟨i0, hi0, hz0, hz1, hz2⟩ := info_parts infoeN
            have HH := Lib.hid (And.intro hi0 (And.intro hz0 (And.intro hz1 hz2)))
            have HZ := Lib.hid (And.intro hb5A (And.intro hnA (And.intro hmd p5)))
            clear hn5 hv5 hb5 p5 hb5A hnA hmd hi0 hz0 hz1 hz2 hcc H5
            go_wp2_with (first
              | (go_at_call 17; refine hmo.mono ?_; rintro e7 w7 ⟨rfl, hb7⟩
                 have p7 := (hb7.block _ (lt_of_some HZ.out.2.2.2)).trans HZ.out.2.2.2
                 obtain ⟨y2, y3⟩ := num_cells p7
                 have hown7 := ownsRow_belowAll HQ.out.2.1 (HZ.out.1.trans (hb7.mono HZ.out.1.size))
                 have hs7 : w.heap.size ≤ w7.heap.size := by have := hb7.size; have := HZ.out.1.size; omega
                 have H7 := Lib.hid (And.intro hb7 hown7)
                 clear hb7 p7 hown7)
              | (at_builtin; refine wpList_append_own_at _ rfl _ _ 23 rfl w.heap.size 28 i0 zN 2 16 Tryd.underlying23 HH.out.1 HH.out.2.1 HH.out.2.2.1 HH.out.2.2.2 rfl (by decide) _ _ _ rfl (H7.out.2.alloc _) ⟨w7.heap.size, 0, none⟩ 1 1 (cellsN (r5, q5)) rfl rfl (news_alloc w7 _ _ _) (by simp [cellsN, Value.oneCell']) (by unfold maxLen; omega) (by omega) (by simp; omega) ?_; intro v8 w8 hown8 hg8 _ hat8
                 obtain ⟨a8, c8, rfl⟩ := (RowV.of_own hown8).shape
                 have H8 := Lib.hid (And.intro hown8 (And.intro hg8 hat8))
                 clear hown8 hg8 hat8))
            obtain ⟨hM0, hown, hl, hv, hb, hm, hlt1⟩ := HQ.out
            obtain ⟨hb5A, hnA, hmd, p5⟩ := HZ.out
            obtain ⟨hown8, hg8, hat8⟩ := H8.out
            have hb7 := H7.out.1
            have hbE : Below w7.heap.size w7 (w7.alloc (.cells #[.int .i64 r5, .pointer q5] 28)) := (Below.refl _ _).alloc (Nat.le_refl _) _
            refine ⟨⟨k + 1, n + 1, a8, c8, by go_num, rfl, by omega, by omega, by omega, ?_⟩, by simp [intOf]; omega⟩
            refine MadeR.push hl hv hb hm ((hb5A.trans (hb7.mono hb5A.size)).trans (hbE.mono (by have := hb7.size; have := hb5A.size; omega))) (fun k hk => (hlt1 k hk).1) ((hnA.below hb7).below hbE) hmd hown8 hg8 ?_
            intro j hj
            rcases hat8 with e | e
            · exact .inl (e ▸ hj)
            · rw [e] at hj; cases hj; exact .inr (by simp)
          · rw [decide_eq_false hmd] at hmo
            have HZ := Lib.hid hb5A
            clear hn5 hv5 hb5 p5 hb5A hnA hmd hcc H5
            go_wp2_with (first
              | (go_at_call 17; refine hmo.mono ?_; rintro e7 w7 ⟨rfl, hb7⟩
                 have H7 := Lib.hid hb7
                 clear hb7))
            refine ⟨⟨k + 1, n, a, c, by go_num, rfl, by omega, by omega, by omega, ?_⟩, by simp [intOf]; omega⟩
            exact HQ.out.1.below (HZ.out.trans (H7.out.mono HZ.out.size))
        · have he' : (er == 0) = false := by rw [beq_eq_false_iff_ne]; exact he
          have HZ := Lib.hid hb5A
          clear hn5 hv5 hb5 p5 hb5A hnA hcc H5 he
          go_wp2
          refine ⟨⟨k + 1, n, a, c, by go_num, rfl, by omega, by omega, by omega, ?_⟩, by simp [intOf]; omega⟩
          exact HQ.out.1.below HZ.out
      · have hlt' : (k : Int) < (os.length : Int) := by omega
        have h24' : ¬ (k : Int) < 24 := by omega
        have HM := Lib.hid hM
        clear hM
        go_wp2
        refine bodyPost_ret (v := .slice a n c) (by simp [results, Tryd.results4, go_sem, *]) rfl ⟨a, n, c, rfl, hn3, by omega, HM.out⟩
    · have hlt' : ¬ (k : Int) < (os.length : Int) := by omega
      have HM := Lib.hid hM
      clear hM
      go_wp2
      refine bodyPost_ret (v := .slice a n c) (by simp [results, Tryd.results4, go_sem, *]) rfl ⟨a, n, c, rfl, hn3, by omega, HM.out⟩
end Go.Proofs.YtlclanmbebjfkaaDoor

namespace Go.Proofs.YtlclanmbebjfkaaDoor
open Go.RowKit
set_option linter.unusedVariables false

section
variable {P : Program} {ops : Array Oper} {Q : Exit → Act → World → Prop} {md : Region.Mode} {S : World → Prop}

/-- an operation finds in a what it finds in a0 -/
def Finds (P : Program) (ops : Array Oper) (o : Oper) (a0 a : Act) : Prop :=
  execOp a.eval o = execOp a0.eval o ∧ Region.wanted o (yielded ops a.tmps) = Region.wanted o (yielded ops a0.tmps)

/-- what another operation does that is apart from this one: this one finds the same behind it, and its value may be written ahead of it as well as behind it -/
theorem Finds.beside {j : Nat} {oi oj : Oper} {v : Value} {a0 a : Act} {w : World} {K : Act → World → Prop} (hj : ops[j]? = some oj) (hap : oi.apart ops oj = true)
    (hi : ∀ cs b, oi.op ≠ .select cs b) (hjs : ∀ cs b, oj.op ≠ .select cs b) (hQ : ∀ c a w, Q (.panic c) (a.put oi.dst v) w → Q (.panic c) a w)
    (hF : Finds P ops oi a0 a) (h : wpOp P ops Q j K (a.put oi.dst v) w) : wpOp P ops Q j (fun a' w' => Finds P ops oi a0 a' ∧ K (a'.put oi.dst v) w') a w := by
  obtain ⟨n1, n2, n3⟩ := Oper.apart_spec hap
  have on : ∀ b : Act, Finds P ops oi a0 b → ∀ u, Finds P ops oi a0 (b.put oj.dst u) := fun b hb u =>
    ⟨(execOp_put oi hi b oj.dst u n3).trans hb.1, (wanted_put oi b oj.dst u n3).trans hb.2⟩
  have fin : ∀ (b : Act) (u : Value) (w' : World), Finds P ops oi a0 b → K ((b.put oi.dst v).put oj.dst u) w' → Finds P ops oi a0 (b.put oj.dst u) ∧ K ((b.put oj.dst u).put oi.dst v) w' := fun b u w' hb hk =>
    ⟨on b hb u, by rw [← Act.put_comm b v u n2]; exact hk⟩
  have hex := execOp_put (ops := ops) oj hjs a oi.dst v n1
  unfold wpOp at h ⊢
  rw [hj] at h ⊢
  dsimp only at h ⊢
  rw [wanted_put oj a oi.dst v n1] at h
  by_cases hw : Region.wanted oj (yielded ops a.tmps) = true
  · rw [if_pos hw] at h ⊢
    rcases h with h | ⟨h, hl⟩
    · refine .inl ?_
      unfold Oper.wp at h ⊢
      rw [hex] at h
      cases hr : (execOp a.eval oj).run P w with
      | ok x w' =>
        rw [hr] at h
        cases x with
        | value u => exact fin a u w' hF h
        | skip => exact fin a undef w' hF h
        | defer d =>
          have h' : K ({ a.put oi.dst v with defers := d :: (a.put oi.dst v).defers }.put oj.dst undef) w' := h
          rw [Act.put_defers] at h'
          exact fin ({ a with defers := d :: a.defers } : Act) undef w' ⟨hF.1, hF.2⟩ h'
        | enter f xs =>
          refine Calls.mono (show Calls P f xs w' _ from h) fun e w2 he => ?_
          cases e with
          | returned u => exact fin a u w2 hF he
          | panicked c => exact hQ _ _ _ he
          | outgrown => exact he
        | row r xs => exact Rows.mono (show Rows P r xs w' _ from h) fun u w2 he => fin a u w2 hF he
        | _ => exact h
      | halt x w' =>
        rw [hr] at h
        cases x with
        | panic u => exact hQ _ _ _ h
        | _ => exact h
    · refine .inr ⟨?_, hl⟩
      unfold Oper.asks at h ⊢
      rw [hex] at h
      exact h
  · rw [if_neg hw] at h ⊢
    exact fin a undef w hF h

/-- a call that yields its value and leaves the world as it is, wherever S holds, may be taken first -/
theorem call_first {i : Nat} {oi : Oper} {v : Value} {f : FuncId} {xs : Array Value} {a0 : Act} (hi : ops[i]? = some oi) (hsel : ∀ (j : Nat) (o : Oper) cs b, ops[j]? = some o → o.op ≠ .select cs b)
    (hQ : ∀ c a w, Q (.panic c) (a.put oi.dst v) w → Q (.panic c) a w) (hw : Region.wanted oi (yielded ops a0.tmps) = true) (hrun : ∀ w, (execOp a0.eval oi).run P w = .ok (.enter f xs) w)
    (hc : ∀ w, S w → Calls P f xs w fun e w' => e = .returned v ∧ w = w') :
    ∀ (fuel : Nat) (listed : Array Bool) (a : Act) (w : World),
      (∀ j oj, ops[j]? = some oj → j ≠ i → listed.getD j true = false → (∀ e ∈ oj.after, Region.binds md e = true → e.on ≠ i) → oi.apart ops oj = true) →
      i ∈ Region.ready md ops listed → Finds P ops oi a0 a → S w → wpAnyH P md ops Q S fuel (listed.setIfInBounds i true) (a.put oi.dst v) w → wpAnyH P md ops Q S (fuel + 1) listed a w := by
  have now : ∀ (a : Act) (w : World) (K : Act → World → Prop), Finds P ops oi a0 a → S w → K (a.put oi.dst v) w → wpOp P ops Q i K a w := by
    intro a w K hF hS hk
    unfold wpOp
    rw [hi]
    dsimp only
    rw [hF.2, if_pos hw]
    refine .inl ?_
    unfold Oper.wp
    rw [hF.1, hrun w]
    refine Calls.mono (hc w hS) fun e w2 he => ?_
    obtain ⟨rfl, rfl⟩ := he
    exact hk
  intro fuel
  induction fuel with
  | zero =>
    intro listed a w _ hr hF hS H
    refine ⟨fun e => absurd hr (by rw [e]; simp), fun j hj => ?_⟩
    by_cases hji : j = i
    · rw [hji]; exact now a w _ hF hS ⟨hS, by rw [← hji]; rw [← hji] at H; exact H⟩
    · have := ready_mono hj hji
      rw [H.1] at this
      simp at this
  | succ fuel ih =>
    intro listed a w hfree hr hF hS H
    refine ⟨fun e => absurd hr (by rw [e]; simp), fun j hj => ?_⟩
    by_cases hji : j = i
    · rw [hji]; exact now a w _ hF hS ⟨hS, H⟩
    · obtain ⟨hun, oj, hoj, hall⟩ := mem_ready.1 hj
      have hun' := (mem_ready.1 hr).1
      have hno : ∀ e ∈ oj.after, Region.binds md e = true → e.on ≠ i := fun e he hb heq => by
        have h1 := hall e he hb
        rw [heq] at h1
        by_cases hs : i < listed.size
        · simp [hs] at h1 hun'
          rw [hun'] at h1
          exact absurd h1 (by simp)
        · simp [Array.getElem?_eq_none (show listed.size ≤ i by omega)] at h1
      refine wpOp_mono (fun a' w' hk => ⟨hk.2.1, ih (listed.setIfInBounds j true) a' w' ?_ (ready_mono hr (Ne.symm hji)) hk.1 hk.2.1 ?_⟩)
        (Finds.beside hoj (hfree j oj hoj hji hun hno) (fun cs b => hsel i oi cs b hi) (fun cs b => hsel j oj cs b hoj) hQ hF (H.2 j (ready_mono hj hji)))
      · intro l ol hl hli hlu hln
        refine hfree l ol hl hli ?_ hln
        by_cases hjl : j = l
        · rw [← hjl]; exact hun
        · rw [getD_set_ne true hjl] at hlu; exact hlu
      · rw [Array.setIfInBounds_comm _ _ hji]; exact hk.2.2

/-- the same, its conditions by looking -/
theorem call_take {i : Nat} {oi : Oper} {v : Value} {f : FuncId} {xs : Array Value} {fuel : Nat} {listed : Array Bool} {a : Act} {w : World} (hi : ops[i]? = some oi)
    (hs : Region.noSelect ops = true) (hf : Region.free md ops listed i = true) (hr : (Region.ready md ops listed).contains i = true) (hQ : ∀ c a w, Q (.panic c) (a.put oi.dst v) w → Q (.panic c) a w)
    (hw : Region.wanted oi (yielded ops a.tmps) = true) (hrun : ∀ w, (execOp a.eval oi).run P w = .ok (.enter f xs) w) (hc : ∀ w, Calls P f xs w fun e w' => e = .returned v ∧ w = w') (hS : S w)
    (h : wpAnyH P md ops Q S fuel (listed.setIfInBounds i true) (a.put oi.dst v) w) : wpAnyH P md ops Q S (fuel + 1) listed a w :=
  call_first hi (Region.noSelect_spec hs) hQ hw hrun (fun w _ => hc w) fuel listed a w (Region.free_spec hi hf) (by simpa using hr) ⟨rfl, rfl⟩ hS h
end
end Go.Proofs.YtlclanmbebjfkaaDoor
