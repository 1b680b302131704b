import Derived.Test.YtlclanmbebjfkaaDoorR7
import Derived.Deep.AppendLies
import Derived.Deep.CutRange
import Derived.Deep.RegionHeld3
import Derived.Deep.DrawnRows
set_option linter.unusedVariables false
set_option linter.unusedSimpArgs false
namespace Go.Proofs.YtlclanmbebjfkaaDoor
open Go.RowKit
set_option linter.unusedVariables false
variable {B : Nat → Prop}

theorem NumA.exp2 {w : World} {s z : Int} {g : Option Addr} (h : NumA B w s g z) : ∀ u ∈ naf z, ∀ v ∈ naf (u.2 : Int), Go.Proofs.YtlclanmbebjfkaaDoor.wt (v.2 : Int) ≤ 29900 := fun u hu v hv => by
  have := h.1.2.2 _ (partsZ_closed z _ (partsZ_closed z z (partsZ_mem z) u hu) v hv)
  omega

/-- in the midst of a row of products: the row's term lies at tb -/
def MuI (B : Nat → Prop) (w : World) (sb rb base : Nat) (D : Addr → Option Int) (rs : List (Value × List TV)) (l : List Tm) (n : Nat) (o : Value) (tb : Nat) (t : TV) (wl : World) : Prop :=
  MuR B w sb rb base D rs l n o wl ∧ wl.heap[tb]? = some (.cells #[.bool t.1, .int .i64 t.2.1, .pointer t.2.2] 31 (0, 0)) ∧ o.ownBlock ≠ some tb
theorem MuI.below {w : World} {sb rb base : Nat} {D : Addr → Option Int} {rs : List (Value × List TV)} {l : List Tm} {n : Nat} {o : Value} {tb : Nat} {t : TV} {wl W : World} (h : MuI B w sb rb base D rs l n o tb t wl) (hb : Below wl.heap.size wl W) : MuI B w sb rb base D rs l n o tb t W :=
  ⟨h.1.below hb, (hb.block _ (lt_of_some h.2.1)).trans h.2.1, h.2.2⟩
theorem MuR.row {w : World} {sb rb base : Nat} {D : Addr → Option Int} {rs : List (Value × List TV)} {l : List Tm} {n : Nat} {o : Value} {wl : World} (h : MuR B w sb rb base D rs l n o wl) (t : TV) :
    MuI B w sb rb base D rs l n o wl.heap.size t (wl.alloc (.cells #[.bool t.1, .int .i64 t.2.1, .pointer t.2.2] 31)) := by
  refine ⟨h.below ((Below.refl _ _).alloc (Nat.le_refl _) _), heap_alloc_new wl _, fun e => ?_⟩
  obtain ⟨Dr, ps, hC, hown, htv, hmo, hrb⟩ := h
  have := (hown.lt _ e).2
  omega
theorem CallQ.less {w : World} {sb : Nat} {A A' : Nat → Prop} {n : Nat} {wr : World} {Dr : Addr → Option Int} {rs : List (Value × List TV)} (h : CallQ B w sb A n wr Dr rs) (hA : ∀ k, A' k → A k) : CallQ B w sb A' n wr Dr rs := by
  obtain ⟨F, K, G, h1, h2, h3, h4, h5, h6, hB, h7⟩ := h
  have hh : ∀ i, hot (orA A' B) F i → hot (orA A B) F i := fun i hi => by
    rcases hi with (x | x) | x
    · exact .inl (.inl (hA i x))
    · exact .inl (.inr x)
    · exact .inr x
  exact ⟨F, K, G, h1, h2.shrink hh, h3, h4, h5, fun k hk => h6 k (hA k hk), hB, fun r hr => (h7 r hr).shrink hh⟩
theorem CallQ.shape {w : World} {sb : Nat} {A : Nat → Prop} {n : Nat} {wr : World} {Dr : Addr → Option Int} {rs : List (Value × List TV)} (h : CallQ B w sb A n wr Dr rs) {v : Value} {ts : List TV} (hr : (v, ts) ∈ rs) : ∃ a c, v = .slice a ts.length c := (h.row hr).shape
theorem MuR.rowV {w : World} {sb rb base : Nat} {D : Addr → Option Int} {rs : List (Value × List TV)} {l : List Tm} {n : Nat} {o : Value} {wl : World} (h : MuR B w sb rb base D rs l n o wl) {v : Value} {ts : List TV} (hr : (v, ts) ∈ rs) : RowV wl 3 v ts.length (flatT ts) := by
  obtain ⟨Dr, ps, hC, _⟩ := h
  exact hC.row hr
theorem MuR.size {w : World} {sb rb base : Nat} {D : Addr → Option Int} {rs : List (Value × List TV)} {l : List Tm} {n : Nat} {o : Value} {wl : World} (h : MuR B w sb rb base D rs l n o wl) : w.heap.size ≤ wl.heap.size := by
  obtain ⟨Dr, ps, hC, _⟩ := h
  exact hC.call.all.size
theorem MuR.more {w : World} {sb rb base : Nat} {D : Addr → Option Int} {rs : List (Value × List TV)} {l : List Tm} {n n' : Nat} {o : Value} {wl : World} (h : MuR B w sb rb base D rs l n o wl) (hn : n ≤ n') : MuR B w sb rb base D rs l n' o wl := by
  obtain ⟨Dr, ps, hC, r⟩ := h
  exact ⟨Dr, ps, hC.more hn, r⟩
theorem MuI.more {w : World} {sb rb base : Nat} {D : Addr → Option Int} {rs : List (Value × List TV)} {l : List Tm} {n n' : Nat} {o : Value} {tb : Nat} {t : TV} {wl : World} (h : MuI B w sb rb base D rs l n o tb t wl) (hn : n ≤ n') : MuI B w sb rb base D rs l n' o tb t wl := ⟨h.1.more hn, h.2⟩
theorem MuR.start {w : World} {sb rb base n : Nat} {D : Addr → Option Int} {rs : List (Value × List TV)} {wl : World} (h : CallQ B w sb (fun k => k = rb) n wl D rs) (hrb : wl.heap[rb]? = some (.cells #[.int .i64 0, .pointer none] 28 (0, 0))) : MuR B w sb rb base D rs [] n (.slice none 0 0) wl :=
  ⟨D, [], h.less (fun k hk => hk.elim (fun x => x) (fun x => by simp [Value.ownBlock] at x)), World.ownsRow_nil _ _ _ _, trivial, fun _ _ h => h, hrb⟩
/-- the sum of the products -/
theorem MuR.sum {w : World} {sb rb base n : Nat} {D : Addr → Option Int} {rs : List (Value × List TV)} {l : List Tm} {o : Value} {wl : World} (h : MuR B w sb rb base D rs l n o wl) (hbase : w.heap.size ≤ base) (hl : l.length ≤ 10000) (hW : ∀ u ∈ l, wt (u.2 : Int) ≤ 29900) (hn : n ≤ 100000000) :
    Calls Tryd.prog 27 #[.pointer (some ⟨sb, 0, none⟩), o] wl fun x w' => ∃ (r : Int) (q : Option Addr) (Dn : Addr → Option Int), x = .returned (.agg #[.int .i64 r, .pointer q]) ∧ ValD Dn r q (val l) ∧ CallM B w sb (fun k => k = rb) 200000000 w' Dn ∧
      w'.heap[rb]? = some (.cells #[.int .i64 0, .pointer none] 28 (0, 0)) := by
  obtain ⟨Dr, ps, hC, hown, htv, hmo, hrb⟩ := h
  have hb := big_eq
  have hlen := htv.len
  refine ((hC.less (A' := fun k => k = rb) (fun k hk => .inl hk)).call.sum hown hbase (own_ne' hown hrb) (by omega) htv hW (by omega)).mono ?_
  rintro x w' ⟨r, q, Dn, rfl, h1, h2, h3, h4⟩
  exact ⟨r, q, Dn, rfl, h1, h2.more (by omega), h4 _ _ _ _ hrb (by decide) (by decide) (by decide)⟩
theorem MuR.len {w : World} {sb rb base : Nat} {D : Addr → Option Int} {rs : List (Value × List TV)} {l : List Tm} {n : Nat} {o : Value} {wl : World} (h : MuR B w sb rb base D rs l n o wl) : ∃ a c, o = .slice a l.length c := by
  obtain ⟨Dr, ps, hC, hown, htv, hmo, hrb⟩ := h
  obtain ⟨a, c, e⟩ := (RowV.of_own hown).shape
  exact ⟨a, c, by rw [e, htv.len]⟩

theorem termT_cells {w : World} {b : Nat} {m : Bool} {s : Int} {g : Option Addr} (h : w.heap[b]? = some (.cells #[.bool m, .int .i64 s, .pointer g] 31 (0, 0))) :
    w.cell? ⟨b, 0, none⟩ = some (.bool m) ∧ w.cell? ⟨b, 1, none⟩ = some (.int .i64 s) ∧ w.cell? ⟨b, 2, none⟩ = some (.pointer g) := by
  exact ⟨by simp [World.cell?, h], by simp [World.cell?, h], by simp [World.cell?, h]⟩

/-- a product's exponent is made: z -/
def MuJ (B : Nat → Prop) (w : World) (sb rb base : Nat) (D : Addr → Option Int) (rs : List (Value × List TV)) (l : List Tm) (n m : Nat) (o : Value) (tb : Nat) (t : TV) (ub : Nat) (u : TV) (z : Int) (ps : List TV) (r : Int) (q : Option Addr) (wl : World) : Prop :=
  ∃ (Dr : Addr → Option Int), CallQ B w sb (fun k => k = rb ∨ o.ownBlock = some k) n wl Dr rs ∧ wl.ownsRow base 31 3 o m (flatT ps) ∧ ps.length = m ∧ TVals Dr ps l ∧ (∀ p z, D p = some z → Dr p = some z) ∧
    wl.heap[rb]? = some (.cells #[.int .i64 0, .pointer none] 28 (0, 0)) ∧ wl.heap[tb]? = some (.cells #[.bool t.1, .int .i64 t.2.1, .pointer t.2.2] 31 (0, 0)) ∧ wl.heap[ub]? = some (.cells #[.bool u.1, .int .i64 u.2.1, .pointer u.2.2] 31 (0, 0)) ∧
    o.ownBlock ≠ some tb ∧ o.ownBlock ≠ some ub ∧ ValD Dr r q z

theorem MuI.add {w : World} {sb rb base : Nat} {D : Addr → Option Int} {rs : List (Value × List TV)} {l : List Tm} {n m : Nat} {o : Value} {tb : Nat} {t : TV} {wl : World} (h : MuI B w sb rb base D rs l n o tb t wl) (hm : l.length = m) (u : TV) {x y : Int} (ht : ValD D t.2.1 t.2.2 x) (hu : ValD D u.2.1 u.2.2 y)
    (hx : wt x ≤ 300) (hy : wt y ≤ 300) (hex : ∀ v ∈ naf x, wt (v.2 : Int) ≤ 29900) (hey : ∀ v ∈ naf y, wt (v.2 : Int) ≤ 29900) (hn : n + 7201 ≤ big) (W : World) (hW : Below (wl.alloc (.cells #[.bool u.1, .int .i64 u.2.1, .pointer u.2.2] 31)).heap.size (wl.alloc (.cells #[.bool u.1, .int .i64 u.2.1, .pointer u.2.2] 31)) W) :
    Calls Tryd.prog 37 #[.pointer (some ⟨sb, 0, none⟩), .agg #[.int .i64 t.2.1, .pointer t.2.2], .agg #[.int .i64 u.2.1, .pointer u.2.2]] W fun e w' => ∃ (ps : List TV) (r : Int) (q : Option Addr), e = .returned (.agg #[.int .i64 r, .pointer q]) ∧ MuJ B w sb rb base D rs l (n + 7201) m o tb t wl.heap.size u (x + y) ps r q w' := by
  obtain ⟨_, hub0, hne2⟩ := h.1.row u
  have hub := (hW.block _ (lt_of_some hub0)).trans hub0
  have hWl : Below wl.heap.size wl W := ((Below.refl _ _).alloc (Nat.le_refl _) _).trans (hW.mono (by simp))
  obtain ⟨⟨Dr, ps, hC, hown, htv, hmo, hrb⟩, htb, hne⟩ := h.below hWl
  refine (hC.add (ht.mono hmo) (hu.mono hmo) (by omega) hex hey (by omega)).mono ?_
  rintro e w' ⟨r, q, Dn, rfl, h1, h2, h3, h4⟩
  have hl := htv.len
  refine ⟨ps, r, q, rfl, Dn, h2.more (by omega), ?_, by omega, htv.mono h3, fun p z h => h3 _ _ (hmo _ _ h), h4 _ _ _ _ hrb (by decide) (by decide) (by decide), h4 _ _ _ _ htb (by decide) (by decide) (by decide), h4 _ _ _ _ hub (by decide) (by decide) (by decide), hne, hne2, h1⟩
  rw [← hm, ← hl]
  exact ownsRow_others hown h4

theorem MuJ.push {w : World} {sb rb base : Nat} {D : Addr → Option Int} {rs : List (Value × List TV)} {l : List Tm} {n m : Nat} {o : Value} {tb ub : Nat} {t u : TV} {z r : Int} {ps : List TV} {q : Option Addr} {wa : World} (h : MuJ B w sb rb base D rs l n m o tb t ub u z ps r q wa) (h0 : 0 < w.heap.size) (hbase : w.heap.size ≤ base)
    {mx : Bool} {tm : Tm} (hm : mx = tm.1) (hz : z = (tm.2 : Int)) (W : World) (hW : Below wa.heap.size wa W) (g7 c7 : Nat) (w7 : World) (ho : w7.ownsRow base 31 3 (.slice (some ⟨g7, 0, none⟩) (m + 1) c7) (m + 1) (flatT ps ++ cellsT (mx, r, q))) (hg : W.grownBy w7 o.ownBlock) (hat : o.ownBlock = some g7 ∨ g7 = W.heap.size) :
    MuI B w sb rb base D rs (l ++ [tm]) n (.slice (some ⟨g7, 0, none⟩) (m + 1) c7) tb t w7 ∧ w7.heap[ub]? = some (.cells #[.bool u.1, .int .i64 u.2.1, .pointer u.2.2] 31 (0, 0)) := by
  obtain ⟨Dr, hC, hown, hl, htv, hmo, hrb, htb, hub, hne, hne2, hv⟩ := h
  have hownW := ownsRow_belowAll hown hW
  have hnr := own_ne' hown hrb
  have hat' : (Value.slice (some ⟨g7, 0, none⟩) (m + 1) c7).ownBlock = o.ownBlock ∨ (Value.slice (some ⟨g7, 0, none⟩) (m + 1) c7).ownBlock = some W.heap.size := by
    rcases hat with e | e
    · exact .inl e.symm
    · exact .inr (by rw [e]; rfl)
  have hP := (hC.below hW).push (C := fun k => k = rb) h0 hownW hbase (fun k hk e => hnr k e hk) ho hg hat'
  have hsz := hW.size
  refine ⟨⟨⟨Dr, ps ++ [(mx, r, q)], hP, ?_, ?_, hmo, ?_⟩, ?_, ?_⟩, ?_⟩
  · rw [List.length_append, List.length_singleton, flatT_append, hl]; exact ho
  · refine htv.append ⟨⟨hm, ?_⟩, trivial⟩
    rw [← hz]; exact hv
  · exact (hg.block rb (Nat.lt_of_lt_of_le (lt_of_some hrb) hsz) (fun e => hnr rb e.symm rfl)).trans ((hW.block _ (lt_of_some hrb)).trans hrb)
  · exact (hg.block tb (Nat.lt_of_lt_of_le (lt_of_some htb) hsz) (fun e => hne e.symm)).trans ((hW.block _ (lt_of_some htb)).trans htb)
  · rcases hat' with e | e
    · rw [e]; exact hne
    · rw [e]
      intro e2
      have := lt_of_some htb
      cases e2
      omega
  · exact (hg.block ub (Nat.lt_of_lt_of_le (lt_of_some hub) hsz) (fun e => hne2 e.symm)).trans ((hW.block _ (lt_of_some hub)).trans hub)
end Go.Proofs.YtlclanmbebjfkaaDoor

namespace Go.Proofs.YtlclanmbebjfkaaDoor
open Go.RowKit
set_option linter.unusedVariables false
variable {B : Nat → Prop}
attribute [local go_sem ↓] Go.wp_at_zero Go.wp_at_succ

/-- the rows whose terms are multiplied -/
def RowsR (B : Nat → Prop) (w : World) (sb rb : Nat) (z z' : Int) (v1 v2 : Value) (wx : World) : Prop :=
  ∃ (ts1 ts2 : List TV) (Dn : Addr → Option Int), CallQ B w sb (fun k => k = rb) 4000 wx Dn [(v1, ts1), (v2, ts2)] ∧ TVals Dn ts1 (naf z) ∧ TVals Dn ts2 (naf z') ∧ wx.heap[rb]? = some (.cells #[.int .i64 0, .pointer none] 28 (0, 0))
theorem others_below {W W' : World} (hb : Below W.heap.size W W') : Others W W' := fun x c t fr h _ _ _ => (hb.block _ (lt_of_some h)).trans h

set_option maxRecDepth 100000 in
set_option maxHeartbeats 8000000 in
/-- Mul, where there are not too many products -/
theorem Mul_few {w : World} {s s' z z' : Int} {g g' : Option Addr} (hx : NumA B w s g z) (hy : NumA B w s' g' z') (tab : Tab w) (h0 : 0 < w.heap.size) (hB : ∀ k, B k → k < w.heap.size) (hsm : wt z * wt z' ≤ 10000) :
    Calls Tryd.prog 31 #[.agg #[.int .i64 s, .pointer g], .agg #[.int .i64 s', .pointer g']] w (ResM B w z z') := by
  have hb3 : Below w.heap.size w (((w.alloc (.cells #[.int .i64 s, .pointer g] 28)).alloc (.cells #[.int .i64 s', .pointer g'] 28)).alloc (.cells #[.int .i64 0, .pointer none] 28)) := by repeat (first | exact Below.refl _ _ | refine Below.alloc ?_ (by simp <;> omega) _)
  obtain ⟨a0, a1, a2, hz3⟩ := alloc3_all w (.cells #[.int .i64 s, .pointer g] 28) (.cells #[.int .i64 s', .pointer g'] 28) (.cells #[.int .i64 0, .pointer none] 28)
  generalize hw3 : ((w.alloc (.cells #[.int .i64 s, .pointer g] 28)).alloc (.cells #[.int .i64 s', .pointer g'] 28)).alloc (.cells #[.int .i64 0, .pointer none] 28) = w3 at hb3 a0 a1 a2 hz3
  have hm := fun W => mulSmall_calls s s' g g' hy.i64 W
  obtain ⟨e0, e1⟩ := num_cells a0
  obtain ⟨e2, e3⟩ := num_cells a1
  have HX := Lib.hid (And.intro hx (And.intro hy (And.intro hb3 (And.intro tab (And.intro a0 (And.intro a1 (And.intro a2 (And.intro hz3 hB))))))))
  clear hx hy hb3 tab a0 a1 a2 hz3 hB
  subst hw3
  go_enter Tryd.func31, Tryd.ntmps31
  go_wp2_with (first
    | (go_at_call 53; refine (hm _).mono ?_; rintro x4 w4 ⟨n4, ok, rfl, hok, hb4⟩
       obtain ⟨hx, hy, hb3, tab, a0, a1, a2, hz3, hB⟩ := HX.out
       have hbA : Below w4.heap.size w4 (w4.alloc (.cells #[.int .i64 n4, .pointer none] 28)) := (Below.refl _ _).alloc (Nat.le_refl _) _
       have b0 := (hb4.block _ (lt_of_some a0)).trans a0
       have b1 := (hb4.block _ (lt_of_some a1)).trans a1
       have b2 := (hb4.block _ (lt_of_some a2)).trans a2
       have c0 := (hbA.block _ (lt_of_some b0)).trans b0
       have c1 := (hbA.block _ (lt_of_some b1)).trans b1
       have c2 := (hbA.block _ (lt_of_some b2)).trans b2
       obtain ⟨y0, y1⟩ := num_cells c2
       obtain ⟨y2, y3⟩ := num_frozen c2
       obtain ⟨y4, y5⟩ := num_cells c0
       obtain ⟨y6, y7⟩ := num_cells c1
       have hbW := (hb3.trans (hb4.mono hb3.size)).trans (hbA.mono (Nat.le_trans hb3.size hb4.size))
       have H4 := Lib.hid (And.intro hok (And.intro hbW (And.intro c0 (And.intro c1 c2))))
       clear hok hb4 hx hy hb3 tab a0 a1 a2 hz3 b0 b1 b2 c0 c1 c2 hbA hbW hB
       cases ok))
  rotate_left
  · refine bodyPost_ret (v := .tuple #[.agg #[.int .i64 n4, .pointer none], .int .i64 0]) (by simp [results, Tryd.results31, go_sem, *]) rfl ?_
    obtain ⟨hok, hbW, c0, c1, c2⟩ := H4.out
    obtain ⟨hx, hy, hb3, tab, a0, a1, a2, hz3, hB⟩ := HX.out
    obtain ⟨rfl, rfl, rfl, e4⟩ := hok trivial
    obtain ⟨rfl, i1⟩ := hx.none
    obtain ⟨rfl, i2⟩ := hy.none
    have h1 := wt_i64 i1
    have h2 := wt_i64 i2
    have h3 := Nat.mul_le_mul h1 h2
    exact ⟨(hbW.setCell (p := ⟨w.heap.size + 1 + 1, 0, none⟩) (by show w.heap.size ≤ w.heap.size + 1 + 1; omega) _).setCell (p := ⟨w.heap.size + 1 + 1, 1, none⟩) (by show w.heap.size ≤ w.heap.size + 1 + 1; omega) _, .inl ⟨allowed_i64 e4, by omega, _, none, rfl, NumA.small _ e4⟩⟩
  obtain ⟨hok, hbX, c0, c1, c2⟩ := H4.out
  clear H4
  generalize w4.alloc (.cells #[.int .i64 n4, .pointer none] 28) = X at *
  have hT2 : ∀ W, Below X.heap.size X W → Calls Tryd.prog 19 #[.agg #[.int .i64 s', .pointer g']] W fun x w' => ∃ (a : Option Addr) (c : Nat), x = .returned (.slice a (wt z') c) ∧ Below X.heap.size X w' := by
    intro W hW
    refine (HX.out.2.1.terms (hbX.trans (hW.mono hbX.size))).mono ?_
    rintro x w' ⟨v, ts, rfl, h1, h2, h3⟩
    obtain ⟨a, c, rfl⟩ := h1.shape
    rw [h2]
    exact ⟨a, c, rfl, hW.trans (h3.mono hW.size)⟩
  have hT1 : ∀ W, Below X.heap.size X W → Calls Tryd.prog 19 #[.agg #[.int .i64 s, .pointer g]] W fun x w' => ∃ (a : Option Addr) (c : Nat), x = .returned (.slice a (wt z) c) ∧ Below X.heap.size X w' := by
    intro W hW
    refine (HX.out.1.terms (hbX.trans (hW.mono hbX.size))).mono ?_
    rintro x w' ⟨v, ts, rfl, h1, h2, h3⟩
    obtain ⟨a, c, rfl⟩ := h1.shape
    rw [h2]
    exact ⟨a, c, rfl, hW.trans (h3.mono hW.size)⟩
  have H4 := Lib.hid (And.intro hbX (And.intro c0 (And.intro c1 c2)))
  clear hok hbX c0 c1 c2 hm e0 e1 e2 e3
  have hP1 : IntKind.i64.wrap ((wt z : Int) * (wt z' : Int)) = ((wt z * wt z' : Nat) : Int) := by
    rw [← Int.natCast_mul, wrap_eq]; exact wrap64_of (by unfold Go.Proofs.YtlclanmbebjfkaaDoor.i64; omega)
  have HSM := Lib.hid hsm
  obtain ⟨P, hP⟩ : ∃ P, P = wt z * wt z' := ⟨_, rfl⟩
  rw [← hP] at hP1 hsm
  have hsm' : ¬ (10000 : Int) < (P : Int) := by omega
  clear hP hsm
  go_upto_region 4 with fail
  go_cut [31] from 23 to 72 (fun t wx => t = .bool false ∧ Below X.heap.size X wx)
  case first =>
    first
      | go_region_with (first
        | (have hq := HT1
           go_at_call 19; refine (hT2 _ hq.out).mono ?_; rintro x6 w6 ⟨a6, c6, rfl, hb6⟩
           have HT2 := Lib.hid hb6
           clear hb6 hq)
        | (go_at_call 19; refine (hT1 _ (by first | exact (Below.refl _ _).drew | exact Below.refl _ _)).mono ?_; rintro x5 w5 ⟨a5, c5, rfl, hb5⟩
           have d1 := (hb5.block _ (lt_of_some H4.out.2.2.1)).trans H4.out.2.2.1
           obtain ⟨k4, k5⟩ := num_cells d1
           have HT1 := Lib.hid hb5
           clear hb5 d1))
      | fail
    all_goals
      (try go_wp2)
      go_meet
      exact ⟨by rw [decide_eq_false (show ¬ (10000 : Int) < (P : Int) by omega)], HT2.out⟩
  case rest =>
    obtain ⟨rfl, hbx⟩ := hcut
    obtain ⟨hbX, c0, c1, c2⟩ := H4.out
    obtain ⟨hx, hy, hb3, tab, a0, a1, a2, hz3, hB⟩ := HX.out
    have hbw := hbX.trans (hbx.mono hbX.size)
    have d0 := (hbx.block _ (lt_of_some c0)).trans c0
    have d1 := (hbx.block _ (lt_of_some c1)).trans c1
    have d2 := (hbx.block _ (lt_of_some c2)).trans c2
    have hC := CallQ.of (CallM.start (B := B) (A := fun k => k = w.heap.size + 1 + 1) hbw tab h0 hB (by rintro k rfl; exact ⟨by omega, Own.of d2 (by decide) (by decide) (by decide)⟩))
    have hbS : Below wc.heap.size wc (wc.alloc (.cells #[.map none, .map none, .map none, .map none, .map none] 59)) := (Below.refl _ _).alloc (Nat.le_refl _) _
    have f0 := (hbS.block _ (lt_of_some d0)).trans d0
    have f1 := (hbS.block _ (lt_of_some d1)).trans d1
    have f2 := (hbS.block _ (lt_of_some d2)).trans d2
    obtain ⟨S, hS⟩ : ∃ S, S = wc.alloc (.cells #[.map none, .map none, .map none, .map none, .map none] 59) := ⟨_, rfl⟩
    rw [← hS] at hC f0 f1 f2
    obtain ⟨sb, hsb⟩ : ∃ sb, sb = wc.heap.size := ⟨_, rfl⟩
    rw [← hsb] at hC
    have hbe := big_eq
    have hK1 : ∀ W, Below S.heap.size S W → Calls Tryd.prog 25 #[.pointer (some ⟨sb, 0, none⟩), .agg #[.int .i64 s, .pointer g]] W fun x w' => ∃ (s' : Int) (g' : Option Addr) (Dn : Addr → Option Int), x = .returned (.agg #[.int .i64 s', .pointer g']) ∧ ValD Dn s' g' z ∧ CallQ B w sb (fun k => k = w.heap.size + 1 + 1) (0 + 2000) w' Dn [] ∧ Others S w' := by
      intro W hW
      refine ((hC.below hW).take hx.2 (by omega)).mono ?_
      rintro x w' ⟨s1, g1, Dn, rfl, h1, h2, h3, h4⟩
      exact ⟨s1, g1, Dn, rfl, h1, h2, fun x c t fr h q1 q2 q3 => h4 _ _ _ _ (others_below hW _ _ _ _ h q1 q2 q3) q1 q2 q3⟩
    have hK2 : ∀ (Dr : Addr → Option Int) (rs : List (Value × List TV)) (wx : World), CallQ B w sb (fun k => k = w.heap.size + 1 + 1) (0 + 2000) wx Dr rs → ∀ W, Below wx.heap.size wx W → Calls Tryd.prog 25 #[.pointer (some ⟨sb, 0, none⟩), .agg #[.int .i64 s', .pointer g']] W fun x w' => ∃ (s1 : Int) (g1 : Option Addr) (Dn : Addr → Option Int), x = .returned (.agg #[.int .i64 s1, .pointer g1]) ∧ ValD Dn s1 g1 z' ∧ CallQ B w sb (fun k => k = w.heap.size + 1 + 1) 4000 w' Dn rs ∧ (∀ p z, Dr p = some z → Dn p = some z) ∧ Others wx w' := by
      intro Dr rs wx hq W hW
      refine ((hq.below hW).take hy.2 (by omega)).mono ?_
      rintro x w' ⟨s1, g1, Dn, rfl, h1, h2, h3, h4⟩
      exact ⟨s1, g1, Dn, rfl, h1, h2, h3, fun x c t fr h q1 q2 q3 => h4 _ _ _ _ (others_below hW _ _ _ _ h q1 q2 q3) q1 q2 q3⟩
    have hg0 := num_cells f0
    have hg1 := num_cells f1
    obtain ⟨y0, y1⟩ := hg0
    obtain ⟨y2, y3⟩ := hg1
    have HQ := Lib.hid (And.intro hx (And.intro hy (And.intro h0 (And.intro f1 (And.intro f2 (And.intro hbw hK2))))))
    have HSB := Lib.hid (And.intro hsb hS)
    clear hbX c0 c1 c2 hx hy hb3 tab a0 a1 a2 hz3 hB hbw d0 d1 d2 hC hbS f0 f1 f2 hbe hT1 hT2 HX H4 hbx hK2 hsm' hP1 hsb
    subst hS
    go_upto_region 8 with fail
    rw [← HSB.out.1]
    go_cut [10, 11] from 33 to 72 (fun v1 v2 wx => RowsR B w sb (w.heap.size + 1 + 1) z z' v1 v2 wx)
    case first =>
      first
        | go_region_with (first
          | (have hq := HD3
             go_at_call 19; refine (hq.out.1 _ (by repeat (first | exact Below.refl _ _ | refine Below.drew ?_))).mono ?_; rintro xd wd ⟨vd, ts2, rfl, hqd, htd, hbd⟩
             obtain ⟨ad, cd, rfl⟩ := hqd.shape (List.mem_append_right _ (List.mem_singleton.2 rfl))
             have HD4 := Lib.hid (And.intro hqd (And.intro htd (And.intro hq.out.2.1 ((hbd.block _ (lt_of_some hq.out.2.2)).trans hq.out.2.2))))
             clear hqd htd hbd hq)
          | (have hq := HD2
             go_at_call 25; refine (HQ.out.2.2.2.2.2.2 _ _ _ hq.out.1 _ (by repeat (first | exact Below.refl _ _ | refine Below.drew ?_))).mono ?_; rintro xc wc2 ⟨sc, gc, Dc, rfl, hvc, hqc, hmc, hoc⟩
             have HD3 := Lib.hid (And.intro (fun (W : World) (hW : Below wc2.heap.size wc2 W) => (hqc.below hW).terms hvc) (And.intro (hq.out.2.1.mono hmc) (hoc _ _ _ _ hq.out.2.2 (by decide) (by decide) (by decide))))
             clear hvc hqc hmc hoc hq)
          | (have hq := HD1
             go_at_call 19; refine (hq.out.1 _ (by repeat (first | exact Below.refl _ _ | refine Below.drew ?_))).mono ?_; rintro xb wb ⟨vb, ts1, rfl, hqb, htb, hbb⟩
             obtain ⟨ab, cb, rfl⟩ := hqb.shape (List.mem_append_right _ (List.mem_singleton.2 rfl))
             have k1 := (hbb.block _ (lt_of_some hq.out.2.1)).trans hq.out.2.1
             obtain ⟨y6, y7⟩ := num_cells k1
             have HD2 := Lib.hid (And.intro hqb (And.intro htb ((hbb.block _ (lt_of_some hq.out.2.2)).trans hq.out.2.2)))
             clear hqb htb hbb k1 hq)
          | (go_at_call 25; refine (hK1 _ (by repeat (first | exact Below.refl _ _ | refine Below.drew ?_))).mono ?_; rintro xa wa ⟨sa, ga, Da, rfl, hva, hqa, hoa⟩
             have k1 := hoa _ _ _ _ HQ.out.2.2.2.1 (by decide) (by decide) (by decide)
             have k2 := hoa _ _ _ _ HQ.out.2.2.2.2.1 (by decide) (by decide) (by decide)
             obtain ⟨y4, y5⟩ := num_cells k1
             have HD1 := Lib.hid (And.intro (fun (W : World) (hW : Below wa.heap.size wa W) => (hqa.below hW).terms hva) (And.intro k1 k2))
             clear hva hqa hoa k1 k2))
        | fail
      all_goals
        (try go_wp2)
        go_meet
        obtain ⟨h1, h2, h3, h4⟩ := HD4.out
        exact ⟨ts1, ts2, _, h1, h3, h2, h4⟩
    case rest =>
      obtain ⟨ts1, ts2, Dn, hq0, ht1, ht2, hrb⟩ := hcut
      obtain ⟨ar, cr, rfl⟩ := hq0.shape (List.mem_cons_self ..)
      obtain ⟨ac, cc, rfl⟩ := hq0.shape (List.mem_cons_of_mem _ (List.mem_cons_self ..))
      obtain ⟨hx, hy, h0, f1, f2, hbw, hK2⟩ := HQ.out
      obtain ⟨rs, hrs⟩ : ∃ rs, rs = [(Value.slice ar ts1.length cr, ts1), (Value.slice ac ts2.length cc, ts2)] := ⟨_, rfl⟩
      have hm1 : (Value.slice ar ts1.length cr, ts1) ∈ rs := by rw [hrs]; exact List.mem_cons_self ..
      have hm2 : (Value.slice ac ts2.length cc, ts2) ∈ rs := by rw [hrs]; exact List.mem_cons_of_mem _ (List.mem_cons_self ..)
      rw [← hrs] at hq0
      have hst := MuR.start (base := w.heap.size) hq0 hrb
      have hl1 := ht1.len
      have hl2 := ht2.len
      have hw1 := hx.wt
      have hw2 := hy.wt
      have hpr : ts1.length * ts2.length ≤ 10000 := by rw [hl1, hl2]; exact HSM.out
      have hle1 : ts1.length ≤ 300 := by rw [hl1]; exact hw1
      have hle2 : ts2.length ≤ 300 := by rw [hl2]; exact hw2
      have HL := Lib.hid (And.intro ht1 (And.intro ht2 (And.intro hx (And.intro hy (And.intro h0 (And.intro hm1 (And.intro hm2 hpr)))))))
      have HST := Lib.hid hst
      have hi1 : (ts1.length : Int) ≤ 300 := by omega
      have hi2 : (ts2.length : Int) ≤ 300 := by omega
      clear hq0 ht1 ht2 hrb hx hy h0 f1 f2 hbw hK2 hrs hm1 hm2 hst hl1 hl2 hw1 hw2 hpr HQ HSB hK1 y0 y1 y2 y3 y4 y5 y6 y7
      go_wp2
      go_loopw [41, 9] (fun i o wl => ∃ (k : Nat) (a : Option Addr) (m c : Nat), k ≤ ts1.length ∧ i = .int .i64 k ∧ o = .slice a m c ∧ m = k * ts2.length ∧ MuR B w sb (w.heap.size + 1 + 1) w.heap.size Dn rs (prodL ((naf z).take k) (naf z')) (4000 + 7201 * (k * ts2.length)) (.slice a m c) wl) (fun i _ _ => ts1.length - (intOf i).toNat)
      case atStart => exact ⟨0, none, 0, 0, by omega, by simp, rfl, by simp, by simpa [prodL] using HST.out⟩
      case round =>
        obtain ⟨k, a, m, c, hkl, rfl, rfl, hmk, hR⟩ := hrel
        clear HST
        obtain ⟨ht1, ht2, hx, hy, h0, hm1, hm2, hpr⟩ := HL.out
        by_cases hlt : k < ts1.length
        · have hrow := hR.rowV hm1
          obtain ⟨b1, o1, rfl⟩ : ∃ bx ox, ar = some ⟨bx, ox, none⟩ := by
            rcases hrow.2 with ⟨e, h0⟩ | ⟨b1, off1, cap1, e1, p1, p2, p3, p4⟩
            · simp only [Value.slice.injEq] at e; omega
            · cases e1; exact ⟨_, _, rfl⟩
          obtain ⟨q0, q1, q2⟩ := RowC.term hrow.rowC k hlt
          have hkz : k < (naf z).length := by rw [← ht1.len]; exact hlt
          obtain ⟨hgm, hgv⟩ := ht1.get k hlt hkz
          have hrowp := prodL_row (naf z) (naf z') hkz
          have hw1 := hx.exp _ (List.getElem_mem hkz)
          have hw2 := hx.exp2 _ (List.getElem_mem hkz)
          have hlp : (prodL ((naf z).take k) (naf z')).length = m := by rw [prodL_length, List.length_take, ← ht2.len, ← ht1.len, hmk, Nat.min_eq_left hkl]
          generalize (naf z)[k] = uk at hgm hgv hrowp hw1 hw2
          generalize ts1[k] = tk at q0 q1 q2 hgm hgv
          obtain ⟨mk, s1, g1⟩ := tk
          simp only at q0 q1 q2 hgm hgv
          obtain ⟨wq, hwq⟩ : ∃ wq, wq = wr := ⟨_, rfl⟩
          subst hwq
          have hI := hR.row (mk, s1, g1)
          have hlt' : (k : Int) < (ts1.length : Int) := by omega
          have hkm : k * ts2.length + ts2.length ≤ 10000 := by
            have h1 := Nat.mul_le_mul_right ts2.length (show k + 1 ≤ ts1.length by omega)
            rw [Nat.succ_mul] at h1
            omega
          have HI := Lib.hid (And.intro hI (And.intro hgm (And.intro hgv (And.intro hrowp (And.intro hw1 (And.intro hw2 (And.intro hmk (And.intro hlp hkm))))))))
          clear hrow hR hkz hgm hgv hrowp hw1 hw2 hI hmk hlp hkm ht1 ht2 hx hy h0 hm1 hm2 hpr
          go_wp2
          go_loopw [47, 9] (fun i o wl => ∃ (j : Nat) (a : Option Addr) (m c : Nat), j ≤ ts2.length ∧ i = .int .i64 j ∧ o = .slice a m c ∧ m = k * ts2.length + j ∧ MuI B w sb (w.heap.size + 1 + 1) w.heap.size Dn rs (prodL ((naf z).take k) (naf z') ++ ((naf z').take j).map (mulT uk)) (4000 + 7201 * (k * ts2.length + j)) (.slice a m c) wq.heap.size (mk, s1, g1) wl) (fun i _ _ => ts2.length - (intOf i).toNat)
          case atStart =>
            obtain ⟨hI, hgm, hgv, hrowp, hw1, hw2, hmk, hlp, hkm⟩ := HI.out
            exact ⟨0, a, m, c, by omega, by simp, rfl, by omega, by simpa using hI⟩
          case round =>
            obtain ⟨j, a, m, c, hjl, rfl, rfl, hmj, hJ⟩ := hrel
            obtain ⟨ht1, ht2, hx, hy, h0, hm1, hm2, hpr⟩ := HL.out
            obtain ⟨hI, hgm, hgv, hrowp, hw1, hw2, hmk, hlp, hkm⟩ := HI.out
            by_cases hlt2 : j < ts2.length
            · have hrow := hJ.1.rowV hm2
              obtain ⟨b2, o2, rfl⟩ : ∃ bx ox, ac = some ⟨bx, ox, none⟩ := by
                rcases hrow.2 with ⟨e, h0⟩ | ⟨b1, off1, cap1, e1, p1, p2, p3, p4⟩
                · simp only [Value.slice.injEq] at e; omega
                · cases e1; exact ⟨_, _, rfl⟩
              obtain ⟨x0, x1, x2⟩ := RowC.term hrow.rowC j hlt2
              have hjz : j < (naf z').length := by rw [← ht2.len]; exact hlt2
              obtain ⟨hum, huv⟩ := ht2.get j hlt2 hjz
              have htk := mul_row uk (naf z') hjz
              have hw3 := hy.exp _ (List.getElem_mem hjz)
              have hw4 := hy.exp2 _ (List.getElem_mem hjz)
              have hlm : (prodL ((naf z).take k) (naf z') ++ ((naf z').take j).map (mulT uk)).length = m := by rw [List.length_append, hlp, List.length_map, List.length_take]; omega
              generalize (naf z')[j] = uj at hum huv htk hw3 hw4
              generalize ts2[j] = tj at x0 x1 x2 hum huv
              obtain ⟨mj, s2, g2⟩ := tj
              simp only at x0 x1 x2 hum huv
              have hbe := big_eq
              have hA := hJ.add hlm (mj, s2, g2) hgv huv hw1 hw3 hw2 hw4 (by omega)
              have hA2 : ∀ W, Below (wr.alloc (.cells #[.bool mj, .int .i64 s2, .pointer g2] 31)).heap.size (wr.alloc (.cells #[.bool mj, .int .i64 s2, .pointer g2] 31)) W →
                  Calls Tryd.prog 37 #[.pointer (some ⟨sb, 0, none⟩), .agg #[.int .i64 s1, .pointer g1], .agg #[.int .i64 s2, .pointer g2]] W fun e w' => ∃ (ps : List TV) (r : Int) (q : Option Addr), e = .returned (.agg #[.int .i64 r, .pointer q]) ∧ w'.ownsRow w.heap.size 31 3 (.slice a m c) m (flatT ps) ∧ wr.heap.size < w'.heap.size ∧
                    w'.heap[wq.heap.size]? = some (.cells #[.bool mk, .int .i64 s1, .pointer g1] 31 (0, 0)) ∧ w'.heap[wr.heap.size]? = some (.cells #[.bool mj, .int .i64 s2, .pointer g2] 31 (0, 0)) ∧
                    ∀ mx, mx = (mk != mj) → ∀ W, Below w'.heap.size w' W → ∀ g7 c7 w7, w7.ownsRow w.heap.size 31 3 (.slice (some ⟨g7, 0, none⟩) (m + 1) c7) (m + 1) (flatT ps ++ cellsT (mx, r, q)) → W.grownBy w7 (Value.slice a m c).ownBlock → ((Value.slice a m c).ownBlock = some g7 ∨ g7 = W.heap.size) →
                      MuI B w sb (w.heap.size + 1 + 1) w.heap.size Dn rs (prodL ((naf z).take k) (naf z') ++ ((naf z').take j).map (mulT uk) ++ [mulT uk uj]) (4000 + 7201 * (k * ts2.length + j) + 7201) (.slice (some ⟨g7, 0, none⟩) (m + 1) c7) wq.heap.size (mk, s1, g1) w7 ∧ w7.heap[wr.heap.size]? = some (.cells #[.bool mj, .int .i64 s2, .pointer g2] 31 (0, 0)) := by
                intro W hW
                refine (hA W hW).mono ?_
                rintro e w' ⟨ps, r, q, rfl, hj⟩
                have hj2 := hj
                obtain ⟨Dr, _, h1, _, _, _, _, h2, h3, _⟩ := hj
                exact ⟨ps, r, q, rfl, h1, lt_of_some h3, h2, h3, fun mx hmx => hj2.push (tm := mulT uk uj) h0 (Nat.le_refl _) (by rw [hmx]; simp only [mulT, ← hgm, ← hum]) (by simp only [mulT]; omega)⟩
              have hSA : ∀ W, Below (wr.alloc (.cells #[.bool mj, .int .i64 s2, .pointer g2] 31)).heap.size (wr.alloc (.cells #[.bool mj, .int .i64 s2, .pointer g2] 31)) W → (W.cell? ⟨wq.heap.size, 0, none⟩ = some (.bool mk) ∧ W.cell? ⟨wq.heap.size, 1, none⟩ = some (.int .i64 s1) ∧ W.cell? ⟨wq.heap.size, 2, none⟩ = some (.pointer g1)) ∧
                  (W.cell? ⟨wr.heap.size, 0, none⟩ = some (.bool mj) ∧ W.cell? ⟨wr.heap.size, 1, none⟩ = some (.int .i64 s2) ∧ W.cell? ⟨wr.heap.size, 2, none⟩ = some (.pointer g2)) := by
                intro W hW
                have hWl : Below wr.heap.size wr W := ((Below.refl _ _).alloc (Nat.le_refl _) _).trans (hW.mono (by simp))
                exact ⟨termT_cells ((hWl.block _ (lt_of_some hJ.2.1)).trans hJ.2.1), termT_cells ((hW.block _ (by simp)).trans (heap_alloc_new wr _))⟩
              have htl := lt_of_some hJ.2.1
              have hws := hJ.1.size
              obtain ⟨i1, hi1, hz1, hz2, hz3⟩ := info_parts infoeT
              have HH := Lib.hid (And.intro hi1 (And.intro hz1 (And.intro hz2 hz3)))
              have HR := Lib.hid (And.intro hA2 (And.intro hSA (And.intro htk hmj)))
              have hlt2' : (j : Int) < (ts2.length : Int) := by omega
              have hm9 : m ≤ 10000 := by omega
              clear hrow hJ hjz hum huv htk hw3 hw4 hlm hbe hA hA2 hSA hi1 hz1 hz2 hz3 hI hgm hgv hrowp hw1 hw2 hmk hlp hkm ht1 ht2 hx hy h0 hm1 hm2 hpr hmj
              go_upto_region 15 with fail
              cases mk <;> cases mj
              · first
                  | go_region_held3 (fun w' => (w'.cell? ⟨wq.heap.size, 0, none⟩ = some (.bool false) ∧ w'.cell? ⟨wq.heap.size, 1, none⟩ = some (.int .i64 s1) ∧ w'.cell? ⟨wq.heap.size, 2, none⟩ = some (.pointer g1)) ∧ (w'.cell? ⟨wr.heap.size, 0, none⟩ = some (.bool false) ∧ w'.cell? ⟨wr.heap.size, 1, none⟩ = some (.int .i64 s2) ∧ w'.cell? ⟨wr.heap.size, 2, none⟩ = some (.pointer g2)))
                    (first | exact HK7.out | exact HK6.out _ (by repeat (first | exact Below.refl _ _ | refine Below.drew ?_ | refine Below.alloc ?_ (by simp) _)) | exact HR.out.2.1 _ (by repeat (first | exact Below.refl _ _ | refine Below.drew ?_ | refine Below.alloc ?_ (by simp) _)))
                    (first
                    | (go_at_call 37; refine (HR.out.1 _ (by repeat (first | exact Below.refl _ _ | refine Below.drew ?_ | refine Below.alloc ?_ (by simp) _))).mono ?_; rintro e6 w6 ⟨ps, r, q, rfl, o6, l6, p6, u6, n6⟩
                       have HK6 := Lib.hid (fun (W : World) (hW : Below w6.heap.size w6 W) => And.intro (termT_cells ((hW.block _ (lt_of_some p6)).trans p6)) (termT_cells ((hW.block _ (lt_of_some u6)).trans u6)))
                       have H6 := Lib.hid (And.intro o6 (n6 false rfl))
                       clear o6 p6 u6 n6)
                    | ((refine step_append_lies _ (by rfl) _ _ _ (by rfl) w.heap.size 31 i1 zT 3 24 Tryd.underlying25 HH.out.1 HH.out.2.1 HH.out.2.2.1 HH.out.2.2.2 (by rfl) (by decide) _ _ _ (by rfl) (H6.out.1.alloc _) ⟨w6.heap.size, 0, none⟩ 1 1 (cellsT (false, r, q)) (by rfl) (by rfl) (news_alloc w6 _ _ _) (by simp [cellsT, Value.oneCell']) (by decide) (by unfold maxLen; omega) (by omega) (by first | omega | (simp; omega)) _ rfl ?_; intro g7 c7 w7 hown7 hg7 hat7 hlt7
                        obtain ⟨hI7, hu7⟩ := H6.out.2 _ (by repeat (first | exact Below.refl _ _ | refine Below.drew ?_ | refine Below.alloc ?_ (by simp) _)) g7 c7 w7 hown7 hg7 hat7
                        have HK7 := Lib.hid (And.intro (termT_cells hI7.2.1) (termT_cells hu7))
                        have H7 := Lib.hid hI7
                        clear hown7 hg7 hat7 hI7 hu7)))
                  | fail
                all_goals
                  (try go_wp2)
                  obtain ⟨hA2, hSA, htk, hmj⟩ := HR.out
                  refine ⟨⟨j + 1, _, m + 1, _, by omega, by go_num, rfl, by omega, ?_⟩, by simp [intOf]; omega⟩
                  rw [htk, ← List.append_assoc]
                  exact H7.out.more (by omega)
              · first
                  | go_region_held3 (fun w' => (w'.cell? ⟨wq.heap.size, 0, none⟩ = some (.bool false) ∧ w'.cell? ⟨wq.heap.size, 1, none⟩ = some (.int .i64 s1) ∧ w'.cell? ⟨wq.heap.size, 2, none⟩ = some (.pointer g1)) ∧ (w'.cell? ⟨wr.heap.size, 0, none⟩ = some (.bool true) ∧ w'.cell? ⟨wr.heap.size, 1, none⟩ = some (.int .i64 s2) ∧ w'.cell? ⟨wr.heap.size, 2, none⟩ = some (.pointer g2)))
                    (first | exact HK7.out | exact HK6.out _ (by repeat (first | exact Below.refl _ _ | refine Below.drew ?_ | refine Below.alloc ?_ (by simp) _)) | exact HR.out.2.1 _ (by repeat (first | exact Below.refl _ _ | refine Below.drew ?_ | refine Below.alloc ?_ (by simp) _)))
                    (first
                    | (go_at_call 37; refine (HR.out.1 _ (by repeat (first | exact Below.refl _ _ | refine Below.drew ?_ | refine Below.alloc ?_ (by simp) _))).mono ?_; rintro e6 w6 ⟨ps, r, q, rfl, o6, l6, p6, u6, n6⟩
                       have HK6 := Lib.hid (fun (W : World) (hW : Below w6.heap.size w6 W) => And.intro (termT_cells ((hW.block _ (lt_of_some p6)).trans p6)) (termT_cells ((hW.block _ (lt_of_some u6)).trans u6)))
                       have H6 := Lib.hid (And.intro o6 (n6 true rfl))
                       clear o6 p6 u6 n6)
                    | ((refine step_append_lies _ (by rfl) _ _ _ (by rfl) w.heap.size 31 i1 zT 3 24 Tryd.underlying25 HH.out.1 HH.out.2.1 HH.out.2.2.1 HH.out.2.2.2 (by rfl) (by decide) _ _ _ (by rfl) (H6.out.1.alloc _) ⟨w6.heap.size, 0, none⟩ 1 1 (cellsT (true, r, q)) (by rfl) (by rfl) (news_alloc w6 _ _ _) (by simp [cellsT, Value.oneCell']) (by decide) (by unfold maxLen; omega) (by omega) (by first | omega | (simp; omega)) _ rfl ?_; intro g7 c7 w7 hown7 hg7 hat7 hlt7
                        obtain ⟨hI7, hu7⟩ := H6.out.2 _ (by repeat (first | exact Below.refl _ _ | refine Below.drew ?_ | refine Below.alloc ?_ (by simp) _)) g7 c7 w7 hown7 hg7 hat7
                        have HK7 := Lib.hid (And.intro (termT_cells hI7.2.1) (termT_cells hu7))
                        have H7 := Lib.hid hI7
                        clear hown7 hg7 hat7 hI7 hu7)))
                  | fail
                all_goals
                  (try go_wp2)
                  obtain ⟨hA2, hSA, htk, hmj⟩ := HR.out
                  refine ⟨⟨j + 1, _, m + 1, _, by omega, by go_num, rfl, by omega, ?_⟩, by simp [intOf]; omega⟩
                  rw [htk, ← List.append_assoc]
                  exact H7.out.more (by omega)
              · first
                  | go_region_held3 (fun w' => (w'.cell? ⟨wq.heap.size, 0, none⟩ = some (.bool true) ∧ w'.cell? ⟨wq.heap.size, 1, none⟩ = some (.int .i64 s1) ∧ w'.cell? ⟨wq.heap.size, 2, none⟩ = some (.pointer g1)) ∧ (w'.cell? ⟨wr.heap.size, 0, none⟩ = some (.bool false) ∧ w'.cell? ⟨wr.heap.size, 1, none⟩ = some (.int .i64 s2) ∧ w'.cell? ⟨wr.heap.size, 2, none⟩ = some (.pointer g2)))
                    (first | exact HK7.out | exact HK6.out _ (by repeat (first | exact Below.refl _ _ | refine Below.drew ?_ | refine Below.alloc ?_ (by simp) _)) | exact HR.out.2.1 _ (by repeat (first | exact Below.refl _ _ | refine Below.drew ?_ | refine Below.alloc ?_ (by simp) _)))
                    (first
                    | (go_at_call 37; refine (HR.out.1 _ (by repeat (first | exact Below.refl _ _ | refine Below.drew ?_ | refine Below.alloc ?_ (by simp) _))).mono ?_; rintro e6 w6 ⟨ps, r, q, rfl, o6, l6, p6, u6, n6⟩
                       have HK6 := Lib.hid (fun (W : World) (hW : Below w6.heap.size w6 W) => And.intro (termT_cells ((hW.block _ (lt_of_some p6)).trans p6)) (termT_cells ((hW.block _ (lt_of_some u6)).trans u6)))
                       have H6 := Lib.hid (And.intro o6 (n6 true rfl))
                       clear o6 p6 u6 n6)
                    | ((refine step_append_lies _ (by rfl) _ _ _ (by rfl) w.heap.size 31 i1 zT 3 24 Tryd.underlying25 HH.out.1 HH.out.2.1 HH.out.2.2.1 HH.out.2.2.2 (by rfl) (by decide) _ _ _ (by rfl) (H6.out.1.alloc _) ⟨w6.heap.size, 0, none⟩ 1 1 (cellsT (true, r, q)) (by rfl) (by rfl) (news_alloc w6 _ _ _) (by simp [cellsT, Value.oneCell']) (by decide) (by unfold maxLen; omega) (by omega) (by first | omega | (simp; omega)) _ rfl ?_; intro g7 c7 w7 hown7 hg7 hat7 hlt7
                        obtain ⟨hI7, hu7⟩ := H6.out.2 _ (by repeat (first | exact Below.refl _ _ | refine Below.drew ?_ | refine Below.alloc ?_ (by simp) _)) g7 c7 w7 hown7 hg7 hat7
                        have HK7 := Lib.hid (And.intro (termT_cells hI7.2.1) (termT_cells hu7))
                        have H7 := Lib.hid hI7
                        clear hown7 hg7 hat7 hI7 hu7)))
                  | fail
                all_goals
                  (try go_wp2)
                  obtain ⟨hA2, hSA, htk, hmj⟩ := HR.out
                  refine ⟨⟨j + 1, _, m + 1, _, by omega, by go_num, rfl, by omega, ?_⟩, by simp [intOf]; omega⟩
                  rw [htk, ← List.append_assoc]
                  exact H7.out.more (by omega)
              · first
                  | go_region_held3 (fun w' => (w'.cell? ⟨wq.heap.size, 0, none⟩ = some (.bool true) ∧ w'.cell? ⟨wq.heap.size, 1, none⟩ = some (.int .i64 s1) ∧ w'.cell? ⟨wq.heap.size, 2, none⟩ = some (.pointer g1)) ∧ (w'.cell? ⟨wr.heap.size, 0, none⟩ = some (.bool true) ∧ w'.cell? ⟨wr.heap.size, 1, none⟩ = some (.int .i64 s2) ∧ w'.cell? ⟨wr.heap.size, 2, none⟩ = some (.pointer g2)))
                    (first | exact HK7.out | exact HK6.out _ (by repeat (first | exact Below.refl _ _ | refine Below.drew ?_ | refine Below.alloc ?_ (by simp) _)) | exact HR.out.2.1 _ (by repeat (first | exact Below.refl _ _ | refine Below.drew ?_ | refine Below.alloc ?_ (by simp) _)))
                    (first
                    | (go_at_call 37; refine (HR.out.1 _ (by repeat (first | exact Below.refl _ _ | refine Below.drew ?_ | refine Below.alloc ?_ (by simp) _))).mono ?_; rintro e6 w6 ⟨ps, r, q, rfl, o6, l6, p6, u6, n6⟩
                       have HK6 := Lib.hid (fun (W : World) (hW : Below w6.heap.size w6 W) => And.intro (termT_cells ((hW.block _ (lt_of_some p6)).trans p6)) (termT_cells ((hW.block _ (lt_of_some u6)).trans u6)))
                       have H6 := Lib.hid (And.intro o6 (n6 false rfl))
                       clear o6 p6 u6 n6)
                    | ((refine step_append_lies _ (by rfl) _ _ _ (by rfl) w.heap.size 31 i1 zT 3 24 Tryd.underlying25 HH.out.1 HH.out.2.1 HH.out.2.2.1 HH.out.2.2.2 (by rfl) (by decide) _ _ _ (by rfl) (H6.out.1.alloc _) ⟨w6.heap.size, 0, none⟩ 1 1 (cellsT (false, r, q)) (by rfl) (by rfl) (news_alloc w6 _ _ _) (by simp [cellsT, Value.oneCell']) (by decide) (by unfold maxLen; omega) (by omega) (by first | omega | (simp; omega)) _ rfl ?_; intro g7 c7 w7 hown7 hg7 hat7 hlt7
                        obtain ⟨hI7, hu7⟩ := H6.out.2 _ (by repeat (first | exact Below.refl _ _ | refine Below.drew ?_ | refine Below.alloc ?_ (by simp) _)) g7 c7 w7 hown7 hg7 hat7
                        have HK7 := Lib.hid (And.intro (termT_cells hI7.2.1) (termT_cells hu7))
                        have H7 := Lib.hid hI7
                        clear hown7 hg7 hat7 hI7 hu7)))
                  | fail
                all_goals
                  (try go_wp2)
                  obtain ⟨hA2, hSA, htk, hmj⟩ := HR.out
                  refine ⟨⟨j + 1, _, m + 1, _, by omega, by go_num, rfl, by omega, ?_⟩, by simp [intOf]; omega⟩
                  rw [htk, ← List.append_assoc]
                  exact H7.out.more (by omega)
            · have hjn : j = ts2.length := by omega
              subst hjn
              have hlt2' : ¬ ((ts2.length : Int) < (ts2.length : Int)) := by omega
              have hR := hJ.1
              rw [show (naf z').take ts2.length = naf z' by rw [ht2.len]; exact List.take_length, ← hrowp] at hR
              have HRR := Lib.hid (And.intro hR hmj)
              clear hJ hR hI hgm hgv hrowp hw1 hw2 hmk hlp hkm ht1 ht2 hx hy h0 hm1 hm2 hpr hmj
              go_wp2
              obtain ⟨hR, hmj⟩ := HRR.out
              refine ⟨⟨k + 1, a, m, c, by omega, by go_num, rfl, by rw [Nat.succ_mul]; exact hmj, ?_⟩, by simp [intOf]; omega⟩
              have h9 : (k + 1) * ts2.length = k * ts2.length + ts2.length := by rw [Nat.add_mul, Nat.one_mul]
              exact hR.more (by omega)
        · have hkn : k = ts1.length := by omega
          subst hkn
          have hlt' : ¬ ((ts1.length : Int) < (ts1.length : Int)) := by omega
          have hR2 := hR
          rw [show (naf z).take ts1.length = naf z by rw [ht1.len]; exact List.take_length] at hR2
          have hsm2 := hR2.sum (Nat.le_refl _) (by rw [prodL_length, ← ht1.len, ← ht2.len]; exact hpr) (prodL_wt hx.exp hy.exp) (by omega)
          rw [val_prod] at hsm2
          clear hR hR2 hmk ht1 ht2 hx hy h0 hm1 hm2 hpr
          by_cases hall : allowedZ (z * z')
          · have HALL := Lib.hid hall
            clear hall
            go_wp2_with (first
              | (go_at_call 27; refine hsm2.mono ?_; rintro x7 w9 ⟨r7, q7, D7, rfl, hv7, hC7, hrb7⟩
                 have hN := hC7.numA hv7
                 have hlim := limited_yes (hN.shrink (fun i hi => hi.elim)) HALL.out
                 have HL7 := Lib.hid (And.intro hlim (And.intro hN (And.intro hrb7 hC7.all)))
                 clear hv7 hC7 hN hlim hrb7)
              | (go_at_call 26; refine HL7.out.1.mono ?_; rintro x8 w10 ⟨rfl, hb8⟩
                 obtain ⟨hlim, hN, r7b, hbe7⟩ := HL7.out
                 have r8 := (hb8.block _ (lt_of_some r7b)).trans r7b
                 obtain ⟨y0, y1⟩ := num_cells r8
                 obtain ⟨y2, y3⟩ := num_frozen r8
                 have H8 := Lib.hid (And.intro hb8 (And.intro hN hbe7))
                 clear hb8 r8 hlim hN r7b hbe7))
            refine bodyPost_ret (v := .tuple #[.agg #[.int .i64 r7, .pointer q7], .int .i64 0]) (by simp [results, Tryd.results31, go_sem, *]) rfl ?_
            obtain ⟨hb8, hN, hbe7⟩ := H8.out
            have hs7 := hbe7.size
            exact ⟨((hbe7.trans (hb8.mono hs7)).setCell (p := ⟨w.heap.size + 1 + 1, 0, none⟩) (by show w.heap.size ≤ w.heap.size + 1 + 1; omega) (.int .i64 r7)).setCell (p := ⟨w.heap.size + 1 + 1, 1, none⟩) (by show w.heap.size ≤ w.heap.size + 1 + 1; omega) (.pointer q7), .inl ⟨HALL.out, HSM.out, r7, q7, rfl, hN.put hb8 _ _ HALL.out⟩⟩
          · have HALL := Lib.hid hall
            clear hall
            go_wp2_with (first
              | (go_at_call 27; refine hsm2.mono ?_; rintro x7 w9 ⟨r7, q7, D7, rfl, hv7, hC7, hrb7⟩
                 have hN := hC7.numA hv7
                 have hlim := limited_no (hN.shrink (fun i hi => hi.elim)) HALL.out
                 have HL7 := Lib.hid (And.intro hlim (And.intro hN (And.intro hrb7 hC7.all)))
                 clear hv7 hC7 hN hlim hrb7)
              | (go_at_call 26; refine HL7.out.1.mono ?_; rintro x8 w10 ⟨rfl, hb8⟩
                 obtain ⟨hlim, hN, r7b, hbe7⟩ := HL7.out
                 have r8 := (hb8.block _ (lt_of_some r7b)).trans r7b
                 obtain ⟨y0, y1⟩ := num_cells r8
                 obtain ⟨y2, y3⟩ := num_frozen r8
                 have H8 := Lib.hid (And.intro hb8 (And.intro hN hbe7))
                 clear hb8 r8 hlim hN r7b hbe7))
            refine bodyPost_ret (v := .tuple #[.agg #[.int .i64 0, .pointer none], .int .i64 5]) (by simp [results, Tryd.results31, go_sem, *]) rfl ?_
            obtain ⟨hb8, hN, hbe7⟩ := H8.out
            have hs7 := hbe7.size
            exact ⟨((hbe7.trans (hb8.mono hs7)).setCell (p := ⟨w.heap.size + 1 + 1, 0, none⟩) (by show w.heap.size ≤ w.heap.size + 1 + 1; omega) (.int .i64 0)).setCell (p := ⟨w.heap.size + 1 + 1, 1, none⟩) (by show w.heap.size ≤ w.heap.size + 1 + 1; omega) (.pointer none), .inr ⟨.inl HALL.out, rfl⟩⟩

/-- ████ Mul -/
theorem Mul_calls {w : World} {s s' z z' : Int} {g g' : Option Addr} (hx : NumA B w s g z) (hy : NumA B w s' g' z') (tab : Tab w) (h0 : 0 < w.heap.size) (hB : ∀ k, B k → k < w.heap.size) :
    Calls Tryd.prog 31 #[.agg #[.int .i64 s, .pointer g], .agg #[.int .i64 s', .pointer g']] w (ResM B w z z') := by
  by_cases h : wt z * wt z' ≤ 10000
  · exact Mul_few hx hy tab h0 hB h
  · exact Mul_big hx hy tab h0 (by omega)
end Go.Proofs.YtlclanmbebjfkaaDoor
