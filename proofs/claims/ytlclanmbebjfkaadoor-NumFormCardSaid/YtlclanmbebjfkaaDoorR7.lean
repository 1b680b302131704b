import Derived.Test.YtlclanmbebjfkaaDoorR5
import Derived.Test.YtlclanmbebjfkaaDoorP8
set_option linter.unusedVariables false
set_option linter.unusedSimpArgs false
namespace Go.Proofs.YtlclanmbebjfkaaDoor
open Go.RowKit
set_option linter.unusedVariables false
variable {B : Nat → Prop}


/-- a call's own store, its variables A, and rows that stay as they are -/
def CallQ (B : Nat → Prop) (w : World) (sb : Nat) (A : Nat → Prop) (n : Nat) (wr : World) (Dr : Addr → Option Int) (rs : List (Value × List TV)) : Prop :=
  ∃ (F : Nat → Prop) (K : List Addr) (G : StG), StMem wr sb F G ∧ StInv wr (hot (orA A B) F) Dr K G ∧ Below w.heap.size w wr ∧ (∀ k, F k → w.heap.size ≤ k) ∧ K.length ≤ n ∧ (∀ k, A k → VarO w wr k) ∧ (∀ k, B k → k < w.heap.size) ∧ ∀ r ∈ rs, RowF wr (hot (orA A B) F) 3 r.1 r.2.length (flatT r.2)

section
variable {w : World} {sb : Nat} {A : Nat → Prop} {n : Nat} {wr W : World} {Dr : Addr → Option Int} {rs : List (Value × List TV)}
theorem CallQ.of (h : CallM B w sb A n wr Dr) : CallQ B w sb A n wr Dr [] := by
  obtain ⟨F, K, G, h1, h2, h3, h4, h5, h6, hB⟩ := h
  exact ⟨F, K, G, h1, h2, h3, h4, h5, h6, hB, fun r hr => by simp at hr⟩
theorem CallQ.call (h : CallQ B w sb A n wr Dr rs) : CallM B w sb A n wr Dr := by
  obtain ⟨F, K, G, h1, h2, h3, h4, h5, h6, hB, h7⟩ := h
  exact ⟨F, K, G, h1, h2, h3, h4, h5, h6, hB⟩
theorem CallQ.more (h : CallQ B w sb A n wr Dr rs) {n' : Nat} (hn : n ≤ n') : CallQ B w sb A n' wr Dr rs := by
  obtain ⟨F, K, G, h1, h2, h3, h4, h5, h6, hB, h7⟩ := h
  exact ⟨F, K, G, h1, h2, h3, h4, by omega, h6, hB, h7⟩
theorem CallQ.row (h : CallQ B w sb A n wr Dr rs) {r : Value × List TV} (hr : r ∈ rs) : RowV wr 3 r.1 r.2.length (flatT r.2) := by
  obtain ⟨F, K, G, h1, h2, h3, h4, h5, h6, hB, h7⟩ := h
  exact (h7 r hr).1
theorem hot_lt {F : Nat → Prop} {G : StG} (h1 : StMem wr sb F G) (h3 : Below w.heap.size w wr) (h6 : ∀ k, A k → VarO w wr k) (hB : ∀ k, B k → k < w.heap.size) : ∀ i, hot (orA A B) F i → i < wr.heap.size := by
  intro i hi
  rcases hi with (x | x) | x
  · exact (h6 i x).2.lt
  · exact Nat.lt_of_lt_of_le (hB i x) h3.size
  · exact h1.flt i x
theorem CallQ.below (h : CallQ B w sb A n wr Dr rs) (hb : Below wr.heap.size wr W) : CallQ B w sb A n W Dr rs := by
  obtain ⟨F, K, G, h1, h2, h3, h4, h5, h6, hB, h7⟩ := h
  have s := Step.of_below F hb
  exact ⟨F, K, G, h1.below hb, h2.step (s.hot _), h3.trans (hb.mono h3.size), h4, h5, fun k hk => (h6 k hk).same (hb.block k (h6 k hk).2.lt), hB, fun r hr => (h7 r hr).keeps (Keeps.of_below hb (Nat.le_refl _))⟩
/-- the terms of a number of the store stay as they are -/
theorem CallQ.terms (h : CallQ B w sb A n wr Dr rs) {s : Int} {g : Option Addr} {z : Int} (hv : ValD Dr s g z) :
    Calls Tryd.prog 19 #[.agg #[.int .i64 s, .pointer g]] wr fun x w' => ∃ (v : Value) (ts : List TV), x = .returned v ∧ CallQ B w sb A n w' Dr (rs ++ [(v, ts)]) ∧ TVals Dr ts (naf z) ∧ Below wr.heap.size wr w' := by
  have hq := h
  obtain ⟨F, K, G, h1, h2, h3, h4, h5, h6, hB, h7⟩ := h
  refine (terms_calls (F := hot (orA A B) F) s g z wr h2.forest hv (hot_lt h1 h3 h6 hB)).mono ?_
  rintro x w' ⟨v, ts, rfl, a1, a2, hb⟩
  refine ⟨v, ts, rfl, ?_, a2, hb⟩
  have s := Step.of_below F hb
  refine ⟨F, K, G, h1.below hb, h2.step (s.hot _), h3.trans (hb.mono h3.size), h4, h5, fun k hk => (h6 k hk).same (hb.block k (h6 k hk).2.lt), hB, fun r hr => ?_⟩
  rcases List.mem_append.1 hr with hr | hr
  · exact (h7 r hr).keeps (Keeps.of_below hb (Nat.le_refl _))
  · rw [List.mem_singleton.1 hr]; exact a1
/-- what a call leaves that may make forms -/
theorem CallQ.step {F F' : Nat → Prop} {K' : List Addr} {G G' : StG} {D' : Addr → Option Int} {w' : World} {n' : Nat} (h1 : StMem wr sb F G) (h3 : Below w.heap.size w wr) (h4 : ∀ k, F k → w.heap.size ≤ k) (h6 : ∀ k, A k → VarO w wr k) (hB : ∀ k, B k → k < w.heap.size) (h7 : ∀ r ∈ rs, RowF wr (hot (orA A B) F) 3 r.1 r.2.length (flatT r.2))
    (m2 : StMem w' sb F' G') (i2 : StInv w' (hot (orA A B) F') D' K' G') (st2 : Step wr w' F F') (hk2 : K'.length ≤ n') : CallQ B w sb A n' w' D' rs ∧ Others wr w' := by
  refine ⟨⟨F', K', G', m2, i2, h3.trans (st2.keeps.below (fun i hi => h4 i hi) h3.size), fun k hk => ?_, hk2, fun k hk => (h6 k hk).same (st2.keeps.block k (h6 k hk).2.lt (h1.notF (h6 k hk).2)), hB, fun r hr => ?_⟩, fun x c t fr hx q1 q2 q3 => Own.kept h1 st2.keeps hx q1 q2 q3⟩
  · rcases st2.grow k hk with y | y
    · exact h4 k y
    · have := h3.size; omega
  · have hr7 := h7 r hr
    have hk : Keeps (hot (orA A B) F) wr w' := ⟨st2.keeps.os, st2.keeps.tape, st2.keeps.output, st2.keeps.size, fun k a b => st2.keeps.block k a (fun e => b (.inr e))⟩
    refine ⟨(hr7.keeps hk).1, fun b hb hh => ?_⟩
    rcases hh with y | y
    · exact hr7.2 b hb (.inl y)
    · rcases st2.grow b y with y | y
      · exact hr7.2 b hb (.inr y)
      · have := hr7.1.lt b hb; omega
theorem CallQ.take (h : CallQ B w sb A n wr Dr rs) {L : Nat} {s : Int} {g : Option Addr} {z : Int} (hx : Num w B L s g z) (hbig : n + L ≤ big) :
    Calls Tryd.prog 25 #[.pointer (some ⟨sb, 0, none⟩), .agg #[.int .i64 s, .pointer g]] wr fun x w' => ∃ (s' : Int) (g' : Option Addr) (Dn : Addr → Option Int), x = .returned (.agg #[.int .i64 s', .pointer g']) ∧ ValD Dn s' g' z ∧ CallQ B w sb A (n + L) w' Dn rs ∧ (∀ p z, Dr p = some z → Dn p = some z) ∧ Others wr w' := by
  have hup := fun (F : Nat → Prop) (hF : ∀ k, F k → w.heap.size ≤ k) => h.call.hup hF
  have hlt := h.call.lt
  obtain ⟨F, K, G, h1, h2, h3, h4, h5, h6, hB, h7⟩ := h
  obtain ⟨Dx, S, f1, f2, f3, f4⟩ := hx.new h3 (hup F h4)
  refine (take_calls (orA A B) h1 h2 hlt f1 f2 f4 (by omega)).mono ?_
  rintro x w' ⟨s', g', F', D', K', G', rfl, a1, m2, i2, st2, gg2, hk2⟩
  obtain ⟨r1, r2⟩ := CallQ.step (n' := n + L) h1 h3 h4 h6 hB h7 m2 i2 st2 (by omega)
  exact ⟨s', g', D', rfl, a1, r1, gg2.d, r2⟩
theorem CallQ.add (h : CallQ B w sb A n wr Dr rs) {s s' z z' : Int} {g g' : Option Addr} (hx : ValD Dr s g z) (hy : ValD Dr s' g' z') (hlen : wt z + wt z' ≤ 30000) (hW : ∀ u ∈ naf z, wt (u.2 : Int) ≤ 29900) (hW' : ∀ u ∈ naf z', wt (u.2 : Int) ≤ 29900) (hbig : n + 12 * (wt z + wt z') + 1 ≤ big) :
    Calls Tryd.prog 37 #[.pointer (some ⟨sb, 0, none⟩), .agg #[.int .i64 s, .pointer g], .agg #[.int .i64 s', .pointer g']] wr fun x w' => ∃ (r : Int) (q : Option Addr) (Dn : Addr → Option Int), x = .returned (.agg #[.int .i64 r, .pointer q]) ∧ ValD Dn r q (z + z') ∧ CallQ B w sb A (n + (12 * (wt z + wt z') + 1)) w' Dn rs ∧ (∀ p z, Dr p = some z → Dn p = some z) ∧ Others wr w' := by
  have hlt := h.call.lt
  obtain ⟨F, K, G, h1, h2, h3, h4, h5, h6, hB, h7⟩ := h
  refine (add_calls h1 h2 hlt hx hy hlen hW hW' (by omega)).mono ?_
  rintro x w' ⟨r, q, F', D', K', G', rfl, a1, m2, i2, st2, gg2, hk2⟩
  obtain ⟨r1, r2⟩ := CallQ.step (n' := n + (12 * (wt z + wt z') + 1)) h1 h3 h4 h6 hB h7 m2 i2 st2 (by omega)
  exact ⟨r, q, D', rfl, a1, r1, gg2.d, r2⟩

/-- a growing row of the call's own stands among its variables -/
theorem CallQ.push {C : Nat → Prop} {o o' : Value} {base m m' : Nat} {cs cs' : List Value} (h : CallQ B w sb (fun k => C k ∨ o.ownBlock = some k) n wr Dr rs) (hw : 0 < w.heap.size) (hown : wr.ownsRow base 31 3 o m cs) (hbase : w.heap.size ≤ base)
    (hC : ∀ k, C k → o.ownBlock ≠ some k) (ho : W.ownsRow base 31 3 o' m' cs') (hg : wr.grownBy W o.ownBlock) (hat : o'.ownBlock = o.ownBlock ∨ o'.ownBlock = some wr.heap.size) : CallQ B w sb (fun k => C k ∨ o'.ownBlock = some k) n W Dr rs := by
  obtain ⟨F, K, G, h1, h2, h3, h4, h5, h6, hB, h7⟩ := h
  have hge := ownsRow_ownBlock hown
  have i1 : StInv wr (hot (orA (fun k => (C k ∨ o.ownBlock = some k) ∨ o'.ownBlock = some k) B) F) Dr K G := h2.grow (W := wr) (Nat.le_refl _) (fun i hx => by
    rcases hx with (x | x) | x
    · rcases x with x | x
      · exact .inl (.inl (.inl x))
      · rcases hat with e | e
        · rw [e] at x; exact .inl (.inl (.inl (.inr x)))
        · rw [e] at x; cases x; exact .inr (Nat.le_refl _)
    · exact .inl (.inl (.inr x))
    · exact .inl (.inr x))
  have i2 : StInv W (hot (orA (fun k => (C k ∨ o.ownBlock = some k) ∨ o'.ownBlock = some k) B) F) Dr K G := i1.keeps ⟨hg.os, hg.tape, hg.output, hg.size, fun k a b => hg.block k a (fun e => b (.inl (.inl (.inl (.inr e.symm)))))⟩
  refine ⟨F, K, G, h1.grownT hown (by decide) (by decide) (by decide) (by omega) hg, i2.shrink (fun i hx => by
    rcases hx with (x | x) | x
    · rcases x with x | x
      · exact .inl (.inl (.inl (.inl x)))
      · exact .inl (.inl (.inr x))
    · exact .inl (.inr x)
    · exact .inr x), ⟨hg.os.trans h3.os, hg.tape.trans h3.tape, hg.output.trans h3.output, Nat.le_trans h3.size hg.size, fun k a => ?_⟩, h4, h5, fun k hk => ?_, hB, fun r hr => ?_⟩
  · exact (hg.block k (Nat.lt_of_lt_of_le a h3.size) (fun e => by have := hge k e.symm; omega)).trans (h3.block k a)
  · rcases hk with x | x
    · exact (h6 k (.inl x)).same (hg.block k (h6 k (.inl x)).2.lt (fun e => hC k x e.symm))
    · obtain ⟨_, h2⟩ := ho
      rcases h2 with ⟨e, _⟩ | ⟨g', cap, cur, ev, hg, hh, _⟩
      · rw [e] at x; simp [Value.ownBlock] at x
      · rw [ev] at x
        simp only [Value.ownBlock, Option.some.injEq] at x
        subst x
        exact ⟨by omega, Own.of hh (by decide) (by decide) (by decide)⟩
  · have hr7 := h7 r hr
    have hk : Keeps (hot (orA (fun k => C k ∨ o.ownBlock = some k) B) F) wr W := ⟨hg.os, hg.tape, hg.output, hg.size, fun k a b => hg.block k a (fun e => b (.inl (.inl (.inr e.symm))))⟩
    refine ⟨(hr7.keeps hk).1, fun b hb hh => ?_⟩
    rcases hh with ((y | y) | y) | y
    · exact hr7.2 b hb (.inl (.inl (.inl y)))
    · rcases hat with e | e
      · rw [e] at y; exact hr7.2 b hb (.inl (.inl (.inr y)))
      · rw [e] at y; cases y; have := hr7.1.lt _ hb; omega
    · exact hr7.2 b hb (.inl (.inr y))
    · exact hr7.2 b hb (.inr y)
end


/-- in the midst of Mul: the products made so far -/
def MuR (B : Nat → Prop) (w : World) (sb rb base : Nat) (D : Addr → Option Int) (rs : List (Value × List TV)) (l : List Tm) (n : Nat) (o : Value) (wl : World) : Prop :=
  ∃ (Dr : Addr → Option Int) (ps : List TV), CallQ B w sb (fun k => k = rb ∨ o.ownBlock = some k) n wl Dr rs ∧ wl.ownsRow base 31 3 o ps.length (flatT ps) ∧ TVals Dr ps l ∧ (∀ p z, D p = some z → Dr p = some z) ∧
    wl.heap[rb]? = some (.cells #[.int .i64 0, .pointer none] 28 (0, 0))
theorem MuR.below {w : World} {sb rb base : Nat} {D : Addr → Option Int} {rs : List (Value × List TV)} {l : List Tm} {n : Nat} {o : Value} {wl W : World} (h : MuR B w sb rb base D rs l n o wl) (hb : Below wl.heap.size wl W) : MuR B w sb rb base D rs l n o W := by
  obtain ⟨Dr, ps, hC, hown, htv, hmo, hrb⟩ := h
  exact ⟨Dr, ps, hC.below hb, ownsRow_belowAll hown hb, htv, hmo, (hb.block _ (lt_of_some hrb)).trans hrb⟩
end Go.Proofs.YtlclanmbebjfkaaDoor

namespace Go.Proofs.YtlclanmbebjfkaaDoor
open Go.RowKit
set_option linter.unusedVariables false
variable {B : Nat → Prop}

theorem wt_i64 {z : Int} (h : i64 z) : wt z ≤ 65 := by
  have h2 : (2 : Int) ^ 64 = 18446744073709551616 := by decide
  unfold i64 at h
  rcases Int.le_total 0 z with h0 | h0
  · obtain ⟨k, rfl⟩ := Int.eq_ofNat_of_zero_le h0
    exact wt_pow_le 64 k (by rw [h2]; omega)
  · obtain ⟨k, hk⟩ := Int.eq_ofNat_of_zero_le (show 0 ≤ -z by omega)
    rw [← wt_neg, hk]
    exact wt_pow_le 64 k (by rw [h2]; omega)
theorem ValD.i64 {D : Addr → Option Int} {s : Int} {g : Option Addr} {z : Int} (h : ValD D s g z) : Go.Proofs.YtlclanmbebjfkaaDoor.i64 s := by
  cases g with
  | none => have := h.2; rw [← h.1] at this; exact this
  | some p => rw [h.1]; unfold Go.Proofs.YtlclanmbebjfkaaDoor.i64; omega
theorem NumA.i64 {w : World} {s : Int} {g : Option Addr} {z : Int} (h : NumA B w s g z) : Go.Proofs.YtlclanmbebjfkaaDoor.i64 s := by
  obtain ⟨_, D, S, h1, h2, h3, h4⟩ := h
  exact h4.i64
theorem NumA.none {w : World} {s z : Int} (h : NumA B w s none z) : s = z ∧ Go.Proofs.YtlclanmbebjfkaaDoor.i64 z := by
  obtain ⟨_, D, S, h1, h2, h3, h4⟩ := h
  exact h4
/-- the terms of a number -/
theorem NumA.terms {w W : World} {s z : Int} {g : Option Addr} (h : NumA B w s g z) (hW : Below w.heap.size w W) :
    Calls Tryd.prog 19 #[.agg #[.int .i64 s, .pointer g]] W fun x w' => ∃ (v : Value) (ts : List TV), x = .returned v ∧ RowV w' 3 v ts.length (flatT ts) ∧ ts.length = Go.Proofs.YtlclanmbebjfkaaDoor.wt z ∧ Below W.heap.size W w' := by
  obtain ⟨_, D, S, h1, h2, h3, h4⟩ := h
  refine (terms_calls s g z W ((h1.shrink (F' := cold) (fun i hi => hi.elim)).keeps ⟨hW.os, hW.tape, hW.output, hW.size, fun k hk _ => hW.block k hk⟩) h4 (fun i hi => hi.elim)).mono ?_
  rintro x w' ⟨v, ts, rfl, a1, a2, hb⟩
  exact ⟨v, ts, rfl, a1.1, a2.len, hb⟩

/-- what Mul answers -/
def ResM (B : Nat → Prop) (w : World) (z z' : Int) (e : Ending) (w' : World) : Prop :=
  Below w.heap.size w w' ∧ ((allowedZ (z * z') ∧ wt z * wt z' ≤ 10000 ∧ ∃ (r : Int) (q : Option Addr), e = .returned (.tuple #[.agg #[.int .i64 r, .pointer q], .int .i64 0]) ∧ NumA B w' r q (z * z')) ∨
    ((¬ allowedZ (z * z') ∨ 10000 < wt z * wt z') ∧ e = .returned (.tuple #[.agg #[.int .i64 0, .pointer none], .int .i64 5])))

set_option maxRecDepth 100000 in
set_option maxHeartbeats 4000000 in
/-- Mul, where there are too many products -/
theorem Mul_big {w : World} {s s' z z' : Int} {g g' : Option Addr} (hx : NumA B w s g z) (hy : NumA B w s' g' z') (tab : Tab w) (h0 : 0 < w.heap.size) (hbg : 10000 < wt z * wt z') :
    Calls Tryd.prog 31 #[.agg #[.int .i64 s, .pointer g], .agg #[.int .i64 s', .pointer g']] w (ResM B w z z') := by
  have hb3 : Below w.heap.size w (((w.alloc (.cells #[.int .i64 s, .pointer g] 28)).alloc (.cells #[.int .i64 s', .pointer g'] 28)).alloc (.cells #[.int .i64 0, .pointer none] 28)) := by repeat (first | exact Below.refl _ _ | refine Below.alloc ?_ (by simp <;> omega) _)
  obtain ⟨a0, a1, a2, hz3⟩ := alloc3_all w (.cells #[.int .i64 s, .pointer g] 28) (.cells #[.int .i64 s', .pointer g'] 28) (.cells #[.int .i64 0, .pointer none] 28)
  generalize hw3 : ((w.alloc (.cells #[.int .i64 s, .pointer g] 28)).alloc (.cells #[.int .i64 s', .pointer g'] 28)).alloc (.cells #[.int .i64 0, .pointer none] 28) = w3 at hb3 a0 a1 a2 hz3
  have hm := fun W => mulSmall_calls s s' g g' hy.i64 W
  obtain ⟨e0, e1⟩ := num_cells a0
  obtain ⟨e2, e3⟩ := num_cells a1
  have HX := Lib.hid (And.intro hx (And.intro hy (And.intro hb3 (And.intro tab (And.intro a0 (And.intro a1 (And.intro a2 hz3)))))))
  clear hx hy hb3 tab a0 a1 a2 hz3
  subst hw3
  go_enter Tryd.func31, Tryd.ntmps31
  go_wp2_with (first
    | (go_at_call 53; refine (hm _).mono ?_; rintro x4 w4 ⟨n4, ok, rfl, hok, hb4⟩
       obtain ⟨hx, hy, hb3, tab, a0, a1, a2, hz3⟩ := HX.out
       have hbA : Below w4.heap.size w4 (w4.alloc (.cells #[.int .i64 n4, .pointer none] 28)) := (Below.refl _ _).alloc (Nat.le_refl _) _
       have b0 := (hb4.block _ (lt_of_some a0)).trans a0
       have b1 := (hb4.block _ (lt_of_some a1)).trans a1
       have b2 := (hb4.block _ (lt_of_some a2)).trans a2
       have c0 := (hbA.block _ (lt_of_some b0)).trans b0
       have c1 := (hbA.block _ (lt_of_some b1)).trans b1
       have c2 := (hbA.block _ (lt_of_some b2)).trans b2
       obtain ⟨y0, y1⟩ := num_cells c2
       obtain ⟨y2, y3⟩ := num_frozen c2
       obtain ⟨y4, y5⟩ := num_cells c0
       obtain ⟨y6, y7⟩ := num_cells c1
       have hbW := (hb3.trans (hb4.mono hb3.size)).trans (hbA.mono (Nat.le_trans hb3.size hb4.size))
       have H4 := Lib.hid (And.intro hok (And.intro hbW (And.intro c0 (And.intro c1 c2))))
       clear hok hb4 hx hy hb3 tab a0 a1 a2 hz3 b0 b1 b2 c0 c1 c2 hbA hbW
       cases ok))
  rotate_left
  · refine bodyPost_ret (v := .tuple #[.agg #[.int .i64 n4, .pointer none], .int .i64 0]) (by simp [results, Tryd.results31, go_sem, *]) rfl ?_
    obtain ⟨hok, hbW, c0, c1, c2⟩ := H4.out
    obtain ⟨hx, hy, hb3, tab, a0, a1, a2, hz3⟩ := HX.out
    obtain ⟨rfl, rfl, rfl, e4⟩ := hok trivial
    obtain ⟨rfl, i1⟩ := hx.none
    obtain ⟨rfl, i2⟩ := hy.none
    have h1 := wt_i64 i1
    have h2 := wt_i64 i2
    have h3 := Nat.mul_le_mul h1 h2
    exact ⟨(hbW.setCell (p := ⟨w.heap.size + 1 + 1, 0, none⟩) (by show w.heap.size ≤ w.heap.size + 1 + 1; omega) _).setCell (p := ⟨w.heap.size + 1 + 1, 1, none⟩) (by show w.heap.size ≤ w.heap.size + 1 + 1; omega) _, .inl ⟨allowed_i64 e4, by omega, _, none, rfl, NumA.small _ e4⟩⟩
  obtain ⟨hok, hbX, c0, c1, c2⟩ := H4.out
  clear H4
  generalize w4.alloc (.cells #[.int .i64 n4, .pointer none] 28) = X at *
  have hT2 : ∀ W, Below w.heap.size w W → Calls Tryd.prog 19 #[.agg #[.int .i64 s', .pointer g']] W fun x w' => ∃ (a : Option Addr) (c : Nat), x = .returned (.slice a (wt z') c) ∧ Below w.heap.size w w' ∧ ∀ (k : Nat) (o : Obj), W.heap[k]? = some o → w'.heap[k]? = some o := by
    intro W hW
    refine (HX.out.2.1.terms hW).mono ?_
    rintro x w' ⟨v, ts, rfl, h1, h2, h3⟩
    obtain ⟨a, c, rfl⟩ := h1.shape
    rw [h2]
    exact ⟨a, c, rfl, hW.trans (h3.mono hW.size), fun k o hk => (h3.block _ (lt_of_some hk)).trans hk⟩
  have hT1 : ∀ W, Below X.heap.size X W → Calls Tryd.prog 19 #[.agg #[.int .i64 s, .pointer g]] W fun x w' => ∃ (a : Option Addr) (c : Nat), x = .returned (.slice a (wt z) c) ∧ Below w.heap.size w w' ∧ ∀ (k : Nat) (o : Obj), X.heap[k]? = some o → w'.heap[k]? = some o := by
    intro W hW
    have hW2 := hbX.trans (hW.mono hbX.size)
    refine (HX.out.1.terms hW2).mono ?_
    rintro x w' ⟨v, ts, rfl, h1, h2, h3⟩
    obtain ⟨a, c, rfl⟩ := h1.shape
    rw [h2]
    exact ⟨a, c, rfl, hW2.trans (h3.mono hW2.size), fun k o hk => (h3.block _ (by have := lt_of_some hk; have := hW.size; omega)).trans ((hW.block _ (lt_of_some hk)).trans hk)⟩
  have H4 := Lib.hid (And.intro hbX (And.intro c0 (And.intro c1 c2)))
  clear hok hbX c0 c1 c2 hm e0 e1 e2 e3
  have hl1 := HX.out.1.wt
  have hl2 := HX.out.2.1.wt
  have h3 := Nat.mul_le_mul hl1 hl2
  have hP1 : IntKind.i64.wrap ((wt z : Int) * (wt z' : Int)) = ((wt z * wt z' : Nat) : Int) := by
    rw [← Int.natCast_mul, wrap_eq]; exact wrap64_of (by unfold Go.Proofs.YtlclanmbebjfkaaDoor.i64; omega)
  have hres : ∀ e w', 10000 < wt z * wt z' → Below w.heap.size w w' → e = .returned (.tuple #[.agg #[.int .i64 0, .pointer none], .int .i64 5]) → ResM B w z z' e w' := fun e w' h1 h2 h3 => ⟨h2, .inr ⟨.inr h1, h3⟩⟩
  obtain ⟨P, hP⟩ : ∃ P, P = wt z * wt z' := ⟨_, rfl⟩
  rw [← hP] at hP1 hres h3
  have hbig : 10000 < P := by omega
  · have hbig' : (10000 : Int) < (P : Int) := by omega
    go_wp2
    first
      | go_region_with (first
        | (have hq := HT1
           go_at_call 19; refine (hT2 _ hq.out.1).mono ?_; rintro x6 w6 ⟨a6, c6, rfl, hb6, hk6⟩
           have d2 := hk6 _ _ hq.out.2
           obtain ⟨k0, k1⟩ := num_cells d2
           obtain ⟨k2, k3⟩ := num_frozen d2
           have HT2 := Lib.hid hb6
           clear hb6 d2 hk6 hq)
        | (go_at_call 19; refine (hT1 _ (by first | exact (Below.refl _ _).drew | exact Below.refl _ _)).mono ?_; rintro x5 w5 ⟨a5, c5, rfl, hb5, hk5⟩
           have d1 := hk5 _ _ H4.out.2.2.1
           have d2 := hk5 _ _ H4.out.2.2.2
           obtain ⟨k4, k5⟩ := num_cells d1
           have HT1 := Lib.hid (And.intro hb5 d2)
           clear hb5 d1 d2 hk5))
      | fail
    all_goals
      (try go_wp2)
      refine bodyPost_ret (v := .tuple #[.agg #[.int .i64 0, .pointer none], .int .i64 5]) (by simp [results, Tryd.results31, go_sem, *]) rfl ?_
      exact hres _ _ hbig ((HT2.out.setCell (p := ⟨w.heap.size + 1 + 1, 0, none⟩) (by show w.heap.size ≤ w.heap.size + 1 + 1; omega) _).setCell (p := ⟨w.heap.size + 1 + 1, 1, none⟩) (by show w.heap.size ≤ w.heap.size + 1 + 1; omega) _) rfl
end Go.Proofs.YtlclanmbebjfkaaDoor
