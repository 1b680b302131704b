import Derived.Test.YtlkmgclbckojgaaGreatDoorL1
import Derived.Lib.AppendZerosOnto
import Derived.Lib.SliceRun
import Derived.WalkSpells
import Derived.Laws.AppendOwnNone
set_option linter.unusedVariables false
set_option linter.unusedSimpArgs false
set_option maxHeartbeats 2000000
set_option maxRecDepth 100000
namespace Go.Proofs.YtlkmgclbckojgaaGreatDoor
section
open Go.RowKit
def lim : Nat := 16777216
theorem Za8 : lim = 16777216 := rfl
def RowC (w : World) (b off : Nat) (xs : List Value) : Prop := ∀ j u, xs[j]? = some u → w.cell? ⟨b, off + j, none⟩ = some u
def RowV (w : World) (size : Nat) (v : Value) (n : Nat) (xs : List Value) : Prop :=
 xs.length = n * size ∧ ((v = .slice none 0 0 ∧ n = 0) ∨ ∃ b off cap, v = .slice (some ⟨b, off, none⟩) n cap ∧ n ≤ cap ∧ cap ≤ maxLen ∧ b < w.heap.size ∧ RowC w b off xs)
theorem Zbl (b o i : Nat) : (⟨b, o, none⟩ : Addr).add i = ⟨b, o + i, none⟩ := by unfold Addr.add; split <;> simp_all
theorem RowC.below {B : Nat} {w w' : World} {b off : Nat} {xs : List Value} (h : RowC w b off xs) (hb : Below B w w') (hlt : b < B) : RowC w' b off xs :=
 fun j u hj => (hb.cell (p := ⟨b, off + j, none⟩) hlt).trans (h j u hj)
theorem RowV.below {B : Nat} {w w' : World} {size : Nat} {v : Value} {n : Nat} {xs : List Value} (h : RowV w size v n xs) (hb : Below B w w') (hB : w.heap.size ≤ B) : RowV w' size v n xs := by
 obtain ⟨h1, h2⟩ := h
 refine ⟨h1, ?_⟩
 rcases h2 with h2 | ⟨b, off, cap, e, h3, h4, h5, h6⟩
 · exact .inl h2
 · exact .inr ⟨b, off, cap, e, h3, h4, Nat.lt_of_lt_of_le h5 hb.size, h6.below hb (by omega)⟩
theorem RowV.of_own {w : World} {base : Nat} {e : TypeId} {size : Nat} {v : Value} {n : Nat} {xs : List Value} (h : w.ownsRow base e size v n xs) : RowV w size v n xs := by
 have h0 := h
 obtain ⟨h1, h2⟩ := h
 refine ⟨h1, ?_⟩
 rcases h2 with h2 | ⟨g, cap, cur, ev, hg, hh, hn, hm, hs, ht⟩
 · exact .inl h2
 · subst ev
   refine .inr ⟨g, 0, cap, rfl, hn, hm, ?_, fun j u hj => ?_⟩
   · rcases Nat.lt_or_ge g w.heap.size with h | h
     · exact h
     · simp [Array.getElem?_eq_none h] at hh
   · have := h0.cellAt j (by
       rcases Nat.lt_or_ge j xs.length with h | h
       · omega
       · simp [List.getElem?_eq_none h] at hj)
     rw [Nat.zero_add, this]; exact hj
abbrev zT : Value := .agg #[.bool false, .int .i64 0, .pointer none]
abbrev zN : Value := .agg #[.int .i64 0, .pointer none]
theorem infoeT : (Tryz.prog.info? 62).map (fun i => (i.zero, i.size, i.bytes)) = some (some zT, 3, 24) := by kernel_rfl
theorem Zbv (v : Value) (n : Nat) (xs : List Value) (w : World) (h : RowV w 3 v n xs) (h1 : ∀ u ∈ xs, u.oneCell' = true) (hn : n ≤ lim) :
   Calls Tryz.prog 65 #[v] w fun e w' => ∃ v', e = .returned v' ∧ w'.ownsRow w.heap.size 62 3 v' n xs ∧ Below w.heap.size w w' := by
 obtain ⟨i0, hi, hz0, hz1, hz2⟩ := info_parts infoeT
 obtain ⟨hl, h⟩ := h
 rcases h with ⟨rfl, rfl⟩ | ⟨b, off, cap, rfl, hc, hm, hb, hr⟩
 · obtain rfl : xs = [] := List.length_eq_zero_iff.1 (by simpa using hl)
   have eq0 := Lib.run_eql_slice_nil (P := Tryz.prog) w 59 62 none 0 0 0 0 Tryz.underlying59
   go_enter Tryz.func65, Tryz.ntmps65
   go_wp2
   go_ret
   exact ⟨_, rfl, World.ownsRow_nil _ _ _ _, zb⟩
 · have he : (w.alloc (.cells #[] 62)).ownsRow w.heap.size 62 3 (.slice (some ⟨w.heap.size, 0, none⟩) 0 0) 0 [] := World.ownsRow_lit _ _ _ (zl) (by unfold maxLen; omega) (by simp)
   have eq0 := Lib.run_eql_slice_nil (P := Tryz.prog) w 59 62 (some ⟨b, off, none⟩) n cap 0 0 Tryz.underlying59
   go_enter Tryz.func65, Tryz.ntmps65
   go_wp2_with (at_builtin; refine wpList_append_own _ rfl _ _ 59 rfl w.heap.size 62 i0 _ 3 24 Tryz.underlying59 hi hz0 hz1 hz2 rfl (by decide) _ 0 [] rfl he ⟨b, off, none⟩ n cap xs rfl hl (fun j u hj => by rw [Zbl, World.cell?_alloc_lt _ _ _ hb]; exact hr j u hj) h1 (by have := Za8; unfold maxLen; omega) (by have := Za8; omega) (by simp) ?_)
   intro v' w1 hown hg _
   go_wp2
   go_ret
   exact ⟨_, rfl, hown, ((zb).alloc (zl) _).grown hg (by simp) (by intro k hk; simp [Value.ownBlock] at hk; omega)⟩
theorem Zlh (n : Nat) (w : World) (hn : n ≤ lim) :
   Calls Tryz.prog 101 #[.slice none 0 0, .int .i64 n] w fun e w' => ∃ v', e = .returned v' ∧ w'.ownsRow w.heap.size 62 3 v' 0 [] ∧ Below w.heap.size w w' := by
 obtain ⟨i0, hi, hz0, hz1, hz2⟩ := info_parts infoeT
 have hl := Za8
 have h2 : wrap64 ((n : Int) - 0) = n := by unfold wrap64; omega
 rcases Nat.eq_zero_or_pos n with rfl | hp
 · go_enter Tryz.func101, Tryz.ntmps101
   go_wp2
   go_ret
   exact ⟨_, rfl, World.ownsRow_nil _ _ _ _, zb⟩
 · have hrz : ∀ ty, (Builtin.append_ #[59, 3] ty #[.slice none 0 0, .int .i64 n]).run Tryz.prog w =
     .ok (.slice (some ⟨w.heap.size, 0, none⟩) n (grownCap w n 0 62)) (w.drew.alloc (.cells (#[] ++ Builtin.zeroCells zT.cells n ++ Builtin.zeroCells zT.cells (grownCap w n 0 62 - n)) 62)) := fun ty => by
     have h := Lib.run_append_grow_zeros w 59 3 ty 62 i0 _ .i64 .i64 Tryz.underlying59 Tryz.underlying3 hi hz0 none 0 0 [] (run_firstCells_none w.drew i0.size 0 0 0) n (by omega) (by omega) (by omega) (by omega) (by rw [hz2]; omega) (by rw [hz2]; exact growslice_fits (by omega) (by omega))
     simpa using h
   have hge : n ≤ grownCap w n 0 62 := grownCap_ge w _ _ _
   have hle := grownCap_le_maxLen w n 0 62 (by unfold maxLen; omega)
   generalize hG : grownCap w n 0 62 = G at *
   have hsz : (#[] ++ Builtin.zeroCells zT.cells n ++ Builtin.zeroCells zT.cells (G - n)).size = G * 3 := by
     have hzc : zT.cells.size = 3 := rfl
     rw [Array.size_append, Array.size_append, size_zeroCells, size_zeroCells, hzc]; simp; omega
   generalize (#[] ++ Builtin.zeroCells zT.cells n ++ Builtin.zeroCells zT.cells (G - n)) = cur at *
   have hown := World.ownsRow_made (e := 62) (base := w.heap.size) w.drew cur G (zl) hle hsz
   have hnow : wrap64 (G : Int) = G := by unfold maxLen at hle; unfold wrap64; omega
   have HX : Hid ((w.drew.alloc (.cells cur 62)).ownsRow w.heap.size 62 3 (.slice (some ⟨w.heap.size, 0, none⟩) 0 G) 0 []) := hown
   clear hown hsz hG hi hz0 hz1 hz2
   have hle2 : (G : Int) ≤ 9223372036854775807 := by unfold maxLen at hle; omega
   go_enter Tryz.func101, Tryz.ntmps101
   go_wp2_with (at_builtin; refine Lib.wpList_append_run _ rfl _ _ _ _ rfl _ _ rfl rfl _ _ (hrz _) ?_)
   go_ret
   exact ⟨_, rfl, HX.out, ((zb).drew).alloc (zl) _⟩
theorem infoeN : (Tryz.prog.info? 28).map (fun i => (i.zero, i.size, i.bytes)) = some (some zN, 2, 16) := by kernel_rfl
theorem Zka (v : Value) (n : Nat) (xs : List Value) (w : World) (h : RowV w 2 v n xs) (h1 : ∀ u ∈ xs, u.oneCell' = true) (hn : n ≤ lim) :
   Calls Tryz.prog 79 #[v] w fun e w' => ∃ v', e = .returned v' ∧ w'.ownsRow w.heap.size 28 2 v' n xs ∧ Below w.heap.size w w' := by
 obtain ⟨i0, hi, hz0, hz1, hz2⟩ := info_parts infoeN
 obtain ⟨hl, h⟩ := h
 rcases h with ⟨rfl, rfl⟩ | ⟨b, off, cap, rfl, hc, hm, hb, hr⟩
 · obtain rfl : xs = [] := List.length_eq_zero_iff.1 (by simpa using hl)
   have eq0 := Lib.run_eql_slice_nil (P := Tryz.prog) w 30 28 none 0 0 0 0 Tryz.underlying30
   go_enter Tryz.func79, Tryz.ntmps79
   go_wp2
   go_ret
   exact ⟨_, rfl, World.ownsRow_nil _ _ _ _, zb⟩
 · have he : (w.alloc (.cells #[] 28)).ownsRow w.heap.size 28 2 (.slice (some ⟨w.heap.size, 0, none⟩) 0 0) 0 [] := World.ownsRow_lit _ _ _ (zl) (by unfold maxLen; omega) (by simp)
   have eq0 := Lib.run_eql_slice_nil (P := Tryz.prog) w 30 28 (some ⟨b, off, none⟩) n cap 0 0 Tryz.underlying30
   go_enter Tryz.func79, Tryz.ntmps79
   go_wp2_with (at_builtin; refine wpList_append_own _ rfl _ _ 30 rfl w.heap.size 28 i0 _ 2 16 Tryz.underlying30 hi hz0 hz1 hz2 rfl (by decide) _ 0 [] rfl he ⟨b, off, none⟩ n cap xs rfl hl (fun j u hj => by rw [Zbl, World.cell?_alloc_lt _ _ _ hb]; exact hr j u hj) h1 (by have := Za8; unfold maxLen; omega) (by have := Za8; omega) (by simp) ?_)
   intro v' w1 hown hg _
   go_wp2
   go_ret
   exact ⟨_, rfl, hown, ((zb).alloc (zl) _).grown hg (by simp) (by intro k hk; simp [Value.ownBlock] at hk; omega)⟩
theorem Zli (n : Nat) (w : World) (hn : n ≤ lim) :
   Calls Tryz.prog 105 #[.slice none 0 0, .int .i64 n] w fun e w' => ∃ v', e = .returned v' ∧ w'.ownsRow w.heap.size 28 2 v' 0 [] ∧ Below w.heap.size w w' := by
 obtain ⟨i0, hi, hz0, hz1, hz2⟩ := info_parts infoeN
 have hl := Za8
 have h2 : wrap64 ((n : Int) - 0) = n := by unfold wrap64; omega
 rcases Nat.eq_zero_or_pos n with rfl | hp
 · go_enter Tryz.func105, Tryz.ntmps105
   go_wp2
   go_ret
   exact ⟨_, rfl, World.ownsRow_nil _ _ _ _, zb⟩
 · have hrz : ∀ ty, (Builtin.append_ #[30, 3] ty #[.slice none 0 0, .int .i64 n]).run Tryz.prog w =
     .ok (.slice (some ⟨w.heap.size, 0, none⟩) n (grownCap w n 0 28)) (w.drew.alloc (.cells (#[] ++ Builtin.zeroCells zN.cells n ++ Builtin.zeroCells zN.cells (grownCap w n 0 28 - n)) 28)) := fun ty => by
     have h := Lib.run_append_grow_zeros w 30 3 ty 28 i0 _ .i64 .i64 Tryz.underlying30 Tryz.underlying3 hi hz0 none 0 0 [] (run_firstCells_none w.drew i0.size 0 0 0) n (by omega) (by omega) (by omega) (by omega) (by rw [hz2]; omega) (by rw [hz2]; exact growslice_fits (by omega) (by omega))
     simpa using h
   have hge : n ≤ grownCap w n 0 28 := grownCap_ge w _ _ _
   have hle := grownCap_le_maxLen w n 0 28 (by unfold maxLen; omega)
   generalize hG : grownCap w n 0 28 = G at *
   have hsz : (#[] ++ Builtin.zeroCells zN.cells n ++ Builtin.zeroCells zN.cells (G - n)).size = G * 2 := by
     have hzc : zN.cells.size = 2 := rfl
     rw [Array.size_append, Array.size_append, size_zeroCells, size_zeroCells, hzc]; simp; omega
   generalize (#[] ++ Builtin.zeroCells zN.cells n ++ Builtin.zeroCells zN.cells (G - n)) = cur at *
   have hown := World.ownsRow_made (e := 28) (base := w.heap.size) w.drew cur G (zl) hle hsz
   have hnow : wrap64 (G : Int) = G := by unfold maxLen at hle; unfold wrap64; omega
   have HX : Hid ((w.drew.alloc (.cells cur 28)).ownsRow w.heap.size 28 2 (.slice (some ⟨w.heap.size, 0, none⟩) 0 G) 0 []) := hown
   clear hown hsz hG hi hz0 hz1 hz2
   have hle2 : (G : Int) ≤ 9223372036854775807 := by unfold maxLen at hle; omega
   go_enter Tryz.func105, Tryz.ntmps105
   go_wp2_with (at_builtin; refine Lib.wpList_append_run _ rfl _ _ _ _ rfl _ _ rfl rfl _ _ (hrz _) ?_)
   go_ret
   exact ⟨_, rfl, HX.out, ((zb).drew).alloc (zl) _⟩
end
section
open Go.RowKit
theorem Zaf {P : Program} {w : World} {ops : Array Oper} {rest : List Oper} {o : Oper} {a : Act} {Q : Exit → Act → World → Prop} (hgd : o.guard = none) (s x : Operand) (t : TypeId)
   (ho : o.op = .call { callee := .builtin .append, args := #[s, x], argTypes := #[t, t] })
   (base : Nat) (e : TypeId) (i : TypeInfo) (z : Value) (size bytes : Nat) (ht : P.underlying t = some (.slice e)) (hi : P.info? e = some i) (hz : i.zero = some z)
   (hsize : i.size = size) (hby : i.bytes = bytes) (hzs : z.cells.size = size) (hsz : 0 < size)
   (v : Value) (n : Nat) (xs : List Value) (hs : a.eval s = v) (hown : w.ownsRow base e size v n xs)
   (sv : Value) (m : Nat) (news : List Value) (hx : a.eval x = sv) (hr : RowV w size sv m news) (h1 : ∀ u ∈ news, u.oneCell' = true)
   (h63 : n + m ≤ maxLen) (hbytes : (n + m) * bytes ≤ 140737488355328) (hbase : base ≤ w.heap.size)
   (h : ∀ v' w', w'.ownsRow base e size v' (n + m) (xs ++ news) → w.grownBy w' v.ownBlock → wpList P ops Q rest (a.put o.dst v') w') : wpList P ops Q (o :: rest) a w := by
 obtain ⟨hl, hr⟩ := hr
 rcases hr with ⟨rfl, rfl⟩ | ⟨b, off, cap, rfl, hc, hm, hb, hr⟩
 · obtain rfl : news = [] := List.length_eq_zero_iff.1 (by simpa using hl)
   refine wpList_append_own_none hgd s x t ho base e i size ht hi v n xs hs hown hx ?_
   exact h v w (by simpa using hown) ⟨rfl, rfl, rfl, zl, fun _ _ _ => rfl⟩
 · exact wpList_append_own w hgd s x t ho base e i z size bytes ht hi hz hsize hby hzs hsz v n xs hs hown ⟨b, off, none⟩ m cap news hx hl (fun j u hj => by rw [Zbl]; exact hr j u hj) h1 h63 hbytes hbase (fun v' w' a1 a2 _ => h v' w' a1 a2)
theorem RowV.shape {w : World} {size : Nat} {v : Value} {n : Nat} {xs : List Value} (h : RowV w size v n xs) : ∃ a c, v = .slice a n c := by
 obtain ⟨_, h⟩ := h
 rcases h with ⟨rfl, rfl⟩ | ⟨b, off, cap, rfl, _⟩
 · exact ⟨_, _, rfl⟩
 · exact ⟨_, _, rfl⟩
theorem Zah {w : World} {base base' : Nat} {e : TypeId} {size : Nat} {v : Value} {n : Nat} {xs : List Value} (h : w.ownsRow base e size v n xs) (hb : base' ≤ base) : w.ownsRow base' e size v n xs := by
 obtain ⟨h1, h2⟩ := h
 refine ⟨h1, ?_⟩
 rcases h2 with h2 | ⟨g, cap, cur, ev, hg, r⟩
 · exact .inl h2
 · exact .inr ⟨g, cap, cur, ev, by omega, r⟩
theorem Zak {w : World} {base : Nat} {e : TypeId} {size : Nat} {v : Value} {n : Nat} {xs : List Value} (h : w.ownsRow base e size v n xs) : ∀ k, v.ownBlock = some k → base ≤ k := fun k hk => (h.lt k hk).1
def upTo (n1 n2 : Nat) (k : Nat) : Nat := if k = 0 then 0 else if k = 1 then n1 else n1 + n2
def rowsTo (xs ys : List Value) (k : Nat) : List Value := if k = 0 then [] else if k = 1 then xs else xs ++ ys
theorem Zdj (g : Nat) (v1 v2 : Value) (n1 n2 : Nat) (xs ys : List Value) (w : World) (c1 : w.cell? ⟨g, 0, none⟩ = some v1) (c2 : w.cell? ⟨g, 1, none⟩ = some v2)
   (r1 : RowV w 3 v1 n1 xs) (r2 : RowV w 3 v2 n2 ys) (o1 : ∀ u ∈ xs, u.oneCell' = true) (o2 : ∀ u ∈ ys, u.oneCell' = true) (hn : n1 + n2 ≤ lim) :
   Calls Tryz.prog 87 #[.slice (some ⟨g, 0, none⟩) 2 2] w fun e w' => ∃ v', e = .returned v' ∧ w'.ownsRow w.heap.size 62 3 v' (n1 + n2) (xs ++ ys) ∧ Below w.heap.size w w' := by
 obtain ⟨i0, hi, hz0, hz1, hz2⟩ := info_parts infoeT
 have hl := Za8
 have hg : g < w.heap.size := World.block_lt_of_cell? _ _ c1
 obtain ⟨a1, k1, e1⟩ := r1.shape
 obtain ⟨a2, k2, e2⟩ := r2.shape
 rw [e1] at c1
 rw [e2] at c2
 have u0 : upTo n1 n2 0 = 0 := rfl
 have u1 : upTo n1 n2 1 = n1 := rfl
 have u2 : upTo n1 n2 2 = n1 + n2 := rfl
 have b1 : (n1 : Int) ≤ 16777216 := by omega
 have b2 : (n1 : Int) + n2 ≤ 16777216 := by omega
 clear hl
 go_enter Tryz.func87, Tryz.ntmps87
 go_wp2
 go_loop [3, 11] (fun s i => ∃ k : Nat, k ≤ 2 ∧ i = .int .i64 k ∧ s = .int .i64 (upTo n1 n2 k)) (fun _ i => 2 - (intOf i).toNat)
 case atStart => exact ⟨0, by omega, rfl, rfl⟩
 case round =>
   obtain ⟨k, hk, rfl, rfl⟩ := hrel
   rcases (by omega : k = 0 ∨ k = 1 ∨ k = 2) with rfl | rfl | rfl
   · go_wp2
     go_round
     case rel => exact ⟨1, by omega, rfl, by first | rfl | simp [upTo]⟩
     case measure => simp [intOf]
   · go_wp2
     go_round
     case rel => exact ⟨2, by omega, rfl, by first | rfl | simp [upTo]⟩
     case measure => simp [intOf]
   · go_wp2_with (go_at_call 101; refine (Zlh _ _ hn).mono ?_; rintro e w1 ⟨v', rfl, hown, hb1⟩)
     clear u0 u1 u2
     have d1 : w1.cell? ⟨g, 0, none⟩ = some (.slice a1 n1 k1) := (hb1.cell (p := ⟨g, 0, none⟩) hg).trans c1
     have d2 : w1.cell? ⟨g, 1, none⟩ = some (.slice a2 n2 k2) := (hb1.cell (p := ⟨g, 1, none⟩) hg).trans c2
     have r1' := e1 ▸ r1
     have r2' := e2 ▸ r2
     obtain ⟨wo, hwo⟩ : ∃ wo : World, wo = w := ⟨_, rfl⟩
     have HN := zh hn; clear hn
     have HB : Hid (Below w.heap.size w w1) := hb1
     clear hb1
     go_loopw [6, 27] (fun o i wr => ∃ k : Nat, k ≤ 2 ∧ i = .int .i64 k ∧ wr.ownsRow w.heap.size 62 3 o (upTo n1 n2 k) (rowsTo xs ys k) ∧ Below w.heap.size w wr) (fun _ i _ => 2 - (intOf i).toNat)
     case atStart => exact ⟨0, by omega, rfl, by simpa [upTo, rowsTo] using hown, HB.out⟩
     case round =>
       obtain ⟨k, hk, rfl, hown2, hbel⟩ := hrel
       have f1 : wr.cell? ⟨g, 0, none⟩ = some (.slice a1 n1 k1) := (hbel.cell (p := ⟨g, 0, none⟩) hg).trans c1
       have f2 : wr.cell? ⟨g, 1, none⟩ = some (.slice a2 n2 k2) := (hbel.cell (p := ⟨g, 1, none⟩) hg).trans c2
       have q1 := r1'.below hbel (zl)
       have q2 := r2'.below hbel (zl)
       have hn := HN.out
       have hl := Za8
       rcases (by omega : k = 0 ∨ k = 1 ∨ k = 2) with rfl | rfl | rfl
       · have hA : upTo n1 n2 0 + n1 ≤ maxLen := by simp [upTo, maxLen]; omega
         have hB : (upTo n1 n2 0 + n1) * 24 ≤ 140737488355328 := by simp [upTo]; omega
         have hC := hbel.size
         clear hl hn
         go_wp2_with (at_builtin; refine Zaf rfl _ _ 59 rfl w.heap.size 62 i0 _ 3 24 Tryz.underlying59 hi hz0 hz1 hz2 rfl (by decide) _ _ _ rfl hown2 _ n1 xs rfl q1 o1 hA hB hC ?_; intro v2' w2 hown3 hg3)
         go_roundw
         case rel => exact ⟨1, by omega, rfl, by simpa [upTo, rowsTo] using hown3, hbel.grown hg3 hC (Zak hown2)⟩
         case measure => simp [intOf]
       · have hA : upTo n1 n2 1 + n2 ≤ maxLen := by simp [upTo, maxLen]; omega
         have hB : (upTo n1 n2 1 + n2) * 24 ≤ 140737488355328 := by simp [upTo]; omega
         have hC := hbel.size
         clear hl hn
         go_wp2_with (at_builtin; refine Zaf rfl _ _ 59 rfl w.heap.size 62 i0 _ 3 24 Tryz.underlying59 hi hz0 hz1 hz2 rfl (by decide) _ _ _ rfl hown2 _ n2 ys rfl q2 o2 hA hB hC ?_; intro v2' w2 hown3 hg3)
         go_roundw
         case rel => exact ⟨2, by omega, rfl, by simpa [upTo, rowsTo] using hown3, hbel.grown hg3 hC (Zak hown2)⟩
         case measure => simp [intOf]
       · clear hl hn
         go_wp2
         go_ret
         exact ⟨_, rfl, hown2, hbel⟩
theorem Zdk (g : Nat) (v1 v2 : Value) (n1 n2 : Nat) (xs ys : List Value) (w : World) (c1 : w.cell? ⟨g, 0, none⟩ = some v1) (c2 : w.cell? ⟨g, 1, none⟩ = some v2)
   (r1 : RowV w 2 v1 n1 xs) (r2 : RowV w 2 v2 n2 ys) (o1 : ∀ u ∈ xs, u.oneCell' = true) (o2 : ∀ u ∈ ys, u.oneCell' = true) (hn : n1 + n2 ≤ lim) :
   Calls Tryz.prog 96 #[.slice (some ⟨g, 0, none⟩) 2 2] w fun e w' => ∃ v', e = .returned v' ∧ w'.ownsRow w.heap.size 28 2 v' (n1 + n2) (xs ++ ys) ∧ Below w.heap.size w w' := by
 obtain ⟨i0, hi, hz0, hz1, hz2⟩ := info_parts infoeN
 have hl := Za8
 have hg : g < w.heap.size := World.block_lt_of_cell? _ _ c1
 obtain ⟨a1, k1, e1⟩ := r1.shape
 obtain ⟨a2, k2, e2⟩ := r2.shape
 rw [e1] at c1
 rw [e2] at c2
 have u0 : upTo n1 n2 0 = 0 := rfl
 have u1 : upTo n1 n2 1 = n1 := rfl
 have u2 : upTo n1 n2 2 = n1 + n2 := rfl
 have b1 : (n1 : Int) ≤ 16777216 := by omega
 have b2 : (n1 : Int) + n2 ≤ 16777216 := by omega
 clear hl
 go_enter Tryz.func96, Tryz.ntmps96
 go_wp2
 go_loop [3, 11] (fun s i => ∃ k : Nat, k ≤ 2 ∧ i = .int .i64 k ∧ s = .int .i64 (upTo n1 n2 k)) (fun _ i => 2 - (intOf i).toNat)
 case atStart => exact ⟨0, by omega, rfl, rfl⟩
 case round =>
   obtain ⟨k, hk, rfl, rfl⟩ := hrel
   rcases (by omega : k = 0 ∨ k = 1 ∨ k = 2) with rfl | rfl | rfl
   · go_wp2
     go_round
     case rel => exact ⟨1, by omega, rfl, by first | rfl | simp [upTo]⟩
     case measure => simp [intOf]
   · go_wp2
     go_round
     case rel => exact ⟨2, by omega, rfl, by first | rfl | simp [upTo]⟩
     case measure => simp [intOf]
   · go_wp2_with (go_at_call 105; refine (Zli _ _ hn).mono ?_; rintro e w1 ⟨v', rfl, hown, hb1⟩)
     clear u0 u1 u2
     have d1 : w1.cell? ⟨g, 0, none⟩ = some (.slice a1 n1 k1) := (hb1.cell (p := ⟨g, 0, none⟩) hg).trans c1
     have d2 : w1.cell? ⟨g, 1, none⟩ = some (.slice a2 n2 k2) := (hb1.cell (p := ⟨g, 1, none⟩) hg).trans c2
     have r1' := e1 ▸ r1
     have r2' := e2 ▸ r2
     obtain ⟨wo, hwo⟩ : ∃ wo : World, wo = w := ⟨_, rfl⟩
     have HN := zh hn; clear hn
     have HB : Hid (Below w.heap.size w w1) := hb1
     clear hb1
     go_loopw [6, 27] (fun o i wr => ∃ k : Nat, k ≤ 2 ∧ i = .int .i64 k ∧ wr.ownsRow w.heap.size 28 2 o (upTo n1 n2 k) (rowsTo xs ys k) ∧ Below w.heap.size w wr) (fun _ i _ => 2 - (intOf i).toNat)
     case atStart => exact ⟨0, by omega, rfl, by simpa [upTo, rowsTo] using hown, HB.out⟩
     case round =>
       obtain ⟨k, hk, rfl, hown2, hbel⟩ := hrel
       have f1 : wr.cell? ⟨g, 0, none⟩ = some (.slice a1 n1 k1) := (hbel.cell (p := ⟨g, 0, none⟩) hg).trans c1
       have f2 : wr.cell? ⟨g, 1, none⟩ = some (.slice a2 n2 k2) := (hbel.cell (p := ⟨g, 1, none⟩) hg).trans c2
       have q1 := r1'.below hbel (zl)
       have q2 := r2'.below hbel (zl)
       have hn := HN.out
       have hl := Za8
       rcases (by omega : k = 0 ∨ k = 1 ∨ k = 2) with rfl | rfl | rfl
       · have hA : upTo n1 n2 0 + n1 ≤ maxLen := by simp [upTo, maxLen]; omega
         have hB : (upTo n1 n2 0 + n1) * 16 ≤ 140737488355328 := by simp [upTo]; omega
         have hC := hbel.size
         clear hl hn
         go_wp2_with (at_builtin; refine Zaf rfl _ _ 30 rfl w.heap.size 28 i0 _ 2 16 Tryz.underlying30 hi hz0 hz1 hz2 rfl (by decide) _ _ _ rfl hown2 _ n1 xs rfl q1 o1 hA hB hC ?_; intro v2' w2 hown3 hg3)
         go_roundw
         case rel => exact ⟨1, by omega, rfl, by simpa [upTo, rowsTo] using hown3, hbel.grown hg3 hC (Zak hown2)⟩
         case measure => simp [intOf]
       · have hA : upTo n1 n2 1 + n2 ≤ maxLen := by simp [upTo, maxLen]; omega
         have hB : (upTo n1 n2 1 + n2) * 16 ≤ 140737488355328 := by simp [upTo]; omega
         have hC := hbel.size
         clear hl hn
         go_wp2_with (at_builtin; refine Zaf rfl _ _ 30 rfl w.heap.size 28 i0 _ 2 16 Tryz.underlying30 hi hz0 hz1 hz2 rfl (by decide) _ _ _ rfl hown2 _ n2 ys rfl q2 o2 hA hB hC ?_; intro v2' w2 hown3 hg3)
         go_roundw
         case rel => exact ⟨2, by omega, rfl, by simpa [upTo, rowsTo] using hown3, hbel.grown hg3 hC (Zak hown2)⟩
         case measure => simp [intOf]
       · clear hl hn
         go_wp2
         go_ret
         exact ⟨_, rfl, hown2, hbel⟩
end
section
open Go.RowKit
abbrev TV := Bool × Int × Option Addr
def cellsT (t : TV) : List Value := [.bool t.1, .int .i64 t.2.1, .pointer t.2.2]
def flatT (l : List TV) : List Value := l.flatMap cellsT
theorem Zcb : flatT [] = [] := rfl
theorem Zbw (t : TV) (l : List TV) : flatT (t :: l) = .bool t.1 :: .int .i64 t.2.1 :: .pointer t.2.2 :: flatT l := rfl
theorem Zas (l m : List TV) : flatT (l ++ m) = flatT l ++ flatT m := by simp [flatT]
theorem Zd2 (l : List TV) : (flatT l).length = l.length * 3 := by
 induction l with
 | nil => rfl
 | cons t l ih => rw [Zbw]; simp [ih]; omega
theorem Zaw (l : List TV) : ∀ u ∈ flatT l, u.oneCell' = true := by
 induction l with
 | nil => intro u hu; simp [Zcb] at hu
 | cons t l ih =>
   intro u hu
   rw [Zbw] at hu
   simp only [List.mem_cons] at hu
   rcases hu with rfl | rfl | rfl | hu
   · rfl
   · rfl
   · rfl
   · exact ih u hu
theorem Zbi : ∀ (l : List TV) (i : Nat) (h : i < l.length), (flatT l)[i * 3]? = some (.bool l[i].1) ∧ (flatT l)[i * 3 + 1]? = some (.int .i64 l[i].2.1) ∧ (flatT l)[i * 3 + 2]? = some (.pointer l[i].2.2)
 | t :: l, 0, _ => by rw [Zbw]; simp
 | t :: l, i + 1, h => by
   have := Zbi l i (by simpa using h)
   rw [Zbw, show (i + 1) * 3 = i * 3 + 3 by omega, show i * 3 + 3 + 1 = (i * 3 + 1) + 3 by omega, show i * 3 + 3 + 2 = (i * 3 + 2) + 3 by omega]
   simpa using this
theorem Zcu : ∀ (l : List TV) (i : Nat) (t : TV), (((flatT l).set (i * 3) (.bool t.1)).set (i * 3 + 1) (.int .i64 t.2.1)).set (i * 3 + 2) (.pointer t.2.2) = flatT (l.set i t)
 | [], i, t => by simp [Zcb]
 | u :: l, 0, t => by rw [List.set_cons_zero, Zbw, Zbw]; simp
 | u :: l, i + 1, t => by
   have := Zcu l i t
   rw [List.set_cons_succ, Zbw, Zbw, show (i + 1) * 3 = i * 3 + 3 by omega, show i * 3 + 3 + 1 = (i * 3 + 1) + 3 by omega, show i * 3 + 3 + 2 = (i * 3 + 2) + 3 by omega]
   simp [this]
theorem RowC.term {w : World} {b off : Nat} {l : List TV} (h : RowC w b off (flatT l)) (i : Nat) (hi : i < l.length) :
   w.cell? ⟨b, off + i * 3, none⟩ = some (.bool l[i].1) ∧ w.cell? ⟨b, off + i * 3 + 1, none⟩ = some (.int .i64 l[i].2.1) ∧ w.cell? ⟨b, off + i * 3 + 2, none⟩ = some (.pointer l[i].2.2) := by
 obtain ⟨a1, a2, a3⟩ := Zbi l i hi
 exact ⟨h _ _ a1, h _ _ a2, h _ _ a3⟩
def revAt (ts : List TV) (k i : Nat) : TV := if i < k ∨ ts.length ≤ i + k then ts.getD (ts.length - 1 - i) default else ts.getD i default
def revTo (ts : List TV) (k : Nat) : List TV := (List.range ts.length).map (revAt ts k)
theorem Zkb (ts : List TV) (k : Nat) : (revTo ts k).length = ts.length := by simp [revTo]
theorem Znd (ts : List TV) : revTo ts 0 = ts := by
 refine List.ext_getElem (by simp [revTo]) fun i h1 h2 => ?_
 simp [revTo, revAt, h2]
 omega
theorem Zos (ts : List TV) (k : Nat) (h : ts.length ≤ 2 * k + 1) (h2 : 2 * k ≤ ts.length) : revTo ts k = ts.reverse := by
 refine List.ext_getElem (by simp [revTo]) fun i h1 h2 => ?_
 have hi : i < ts.length := by simpa [revTo] using h1
 simp [revTo, revAt]
 by_cases hc : i < k ∨ ts.length ≤ i + k
 · rw [if_pos hc, List.getElem?_eq_getElem (by omega)]; rfl
 · rw [if_neg hc, List.getElem?_eq_getElem hi]
   have : ts.length - 1 - i = i := by omega
   simp [this]
theorem Ze9 (ts : List TV) (k i : Nat) (hi : i < ts.length) : (revTo ts k)[i]'(by simpa [revTo] using hi) = revAt ts k i := by simp [revTo]
theorem Zne (ts : List TV) (k : Nat) (h : k < ts.length - 1 - k) :
   revTo ts (k + 1) = ((revTo ts k).set k (ts.getD (ts.length - 1 - k) default)).set (ts.length - 1 - k) (ts.getD k default) := by
 refine List.ext_getElem (by simp [revTo]) fun i h1 h2 => ?_
 have hi : i < ts.length := by simpa [revTo] using h1
 rw [Ze9 ts (k + 1) i hi, List.getElem_set, List.getElem_set]
 simp only [revAt]
 by_cases e1 : ts.length - 1 - k = i
 · rw [if_pos e1, if_pos (by omega)]
   congr 1; omega
 · rw [if_neg e1]
   by_cases e2 : k = i
   · rw [if_pos e2, if_pos (by omega), e2]
   · rw [if_neg e2, Ze9 ts k i hi, revAt]
     by_cases hc : i < k ∨ ts.length ≤ i + k
     · rw [if_pos hc, if_pos (by omega)]
     · rw [if_neg hc, if_neg (by omega)]
theorem Zbh {w w1 w2 : World} {row : Option Nat} (h : w.grownBy w1 row) (k : w1.grownBy w2 row) : w.grownBy w2 row :=
 ⟨k.os.trans h.os, k.tape.trans h.tape, k.output.trans h.output, Nat.le_trans h.size k.size, fun i hi hr => (k.block i (Nat.lt_of_lt_of_le hi h.size) hr).trans (h.block i hi hr)⟩
theorem Zf0 {w : World} {base : Nat} {e : TypeId} {size : Nat} {v : Value} {n : Nat} {xs : List Value} (h : w.ownsRow base e size v n xs) : w.drew.ownsRow base e size v n xs := h
theorem Znf (w : World) (row : Option Nat) : w.grownBy w.drew row := ⟨rfl, rfl, rfl, zl, fun _ _ _ => rfl⟩
theorem Zc4 (ts : List TV) (v : Value) (base : Nat) (w : World) (h : w.ownsRow base 62 3 v ts.length (flatT ts)) (hn : ts.length ≤ lim) :
   Calls Tryz.prog 98 #[v] w fun e w' => e = .returned (.tuple #[]) ∧ w'.ownsRow base 62 3 v ts.length (flatT ts.reverse) ∧ w.grownBy w' v.ownBlock := by
 obtain ⟨a, c, rfl⟩ := (RowV.of_own h).shape
 have hl := Za8
 generalize hm : ts.length = m at *
 have hm2 : (m : Int) ≤ 16777216 := by omega
 have HN := zh hn; clear hn hl
 have HM := zh hm; clear hm
 go_enter Tryz.func98, Tryz.ntmps98
 go_wp2
 go_loopw [2, 3] (fun i j wr => ∃ k : Nat, 2 * k ≤ m ∧ i = .int .i64 k ∧ j = .int .i64 (m - 1 - k : Int) ∧ wr.ownsRow base 62 3 (.slice a m c) m (flatT (revTo ts k)) ∧ w.grownBy wr (Value.slice a m c).ownBlock) (fun i _ _ => m - (intOf i).toNat)
 case atStart => exact ⟨0, by omega, rfl, by simp, by rw [Znd]; exact h, ⟨rfl, rfl, rfl, zl, fun _ _ _ => rfl⟩⟩
 case round =>
   obtain ⟨k, hk, rfl, rfl, hown, hg⟩ := hrel
   by_cases hlt : k < m - 1 - k
   · have hlt' : (k : Int) < (m : Int) - 1 - k := by omega
     obtain ⟨b, ec⟩ : ∃ b, a = some ⟨b, 0, none⟩ := by
       obtain ⟨_, h2⟩ := hown
       rcases h2 with ⟨_, h0⟩ | ⟨g, cap, cur, ev, _⟩
       · omega
       · cases ev; exact ⟨g, rfl⟩
     subst ec
     obtain ⟨j, hj⟩ : ∃ j : Nat, j = m - 1 - k := ⟨_, rfl⟩
     have hji : (m : Int) - 1 - k = j := by omega
     have hjm : j < m := by omega
     have hkj : k < j := by omega
     rw [hji]
     have R := (RowV.of_own hown)
     have hlr : (revTo ts k).length = m := by rw [Zkb]; exact HM.out
     have gk := Zbi (revTo ts k) k (by omega)
     have gj := Zbi (revTo ts k) j (by omega)
     have C : ∀ x, x < m * 3 → wr.cell? ⟨b, x, none⟩ = (flatT (revTo ts k))[x]? := fun x hx => hown.cellAt x hx
     have F : ∀ x, wr.frozen? ⟨b, x, none⟩ = false := fun x => hown.frozenAt x
     have k1 := (C (k * 3) (by omega)).trans gk.1
     have k2 := (C (k * 3 + 1) (by omega)).trans gk.2.1
     have k3 := (C (k * 3 + 2) (by omega)).trans gk.2.2
     have j1 := (C (j * 3) (by omega)).trans gj.1
     have j2 := (C (j * 3 + 1) (by omega)).trans gj.2.1
     have j3 := (C (j * 3 + 2) (by omega)).trans gj.2.2
     generalize hk0 : (revTo ts k)[k]'(by omega) = tk at *
     generalize hj0 : (revTo ts k)[j]'(by omega) = tj at *
     have hk1 : (revTo ts k)[k]? = some tk := by rw [List.getElem?_eq_getElem (by omega), hk0]
     have hj1 : (revTo ts k)[j]? = some tj := by rw [List.getElem?_eq_getElem (by omega), hj0]
     clear hk0 hj0
     obtain ⟨p1, p2, p3⟩ := tk
     obtain ⟨q1, q2, q3⟩ := tj
     simp only at k1 k2 k3 j1 j2 j3
     have fk1 := F (k * 3)
     have fk2 := F (k * 3 + 1)
     have fk3 := F (k * 3 + 2)
     have fj1 := F (j * 3)
     have fj2 := F (j * 3 + 1)
     have fj3 := F (j * 3 + 2)
     have HK := zh hk1
     have HJ := zh hj1
     have HE := zh hj
     clear R gk gj C F hj hlr hk1 hj1
     go_wp2
     go_region
     go_wp2
     go_roundw
     case rel =>
       have s1 := hown.stored (k * 3) (.bool q1)
       have s2 := s1.1.stored (k * 3 + 1) (.int .i64 q2)
       have s3 := s2.1.stored (k * 3 + 2) (.pointer q3)
       have s4 := s3.1.stored (j * 3) (.bool p1)
       have s5 := s4.1.stored (j * 3 + 1) (.int .i64 p2)
       have s6 := s5.1.stored (j * 3 + 2) (.pointer p3)
       have e1 := Zcu (revTo ts k) k (q1, q2, q3)
       have e2 := Zcu ((revTo ts k).set k (q1, q2, q3)) j (p1, p2, p3)
       have hlr : (revTo ts k).length = m := by rw [Zkb]; exact HM.out
       have e3 : revTo ts (k + 1) = ((revTo ts k).set k (q1, q2, q3)).set j (p1, p2, p3) := by
         have hh := HM.out
         have := Zne ts k (by omega)
         rw [this]
         have x1 : ts.getD (ts.length - 1 - k) default = (q1, q2, q3) := by
           have h1 := HJ.out
           rw [List.getElem?_eq_getElem (by omega), Ze9 ts k j (by omega)] at h1
           simp only [revAt] at h1
           rw [if_neg (by omega)] at h1
           rw [← Option.some.inj h1]
           congr 1; have := HE.out; omega
         have x2 : ts.getD k default = (p1, p2, p3) := by
           have h1 := HK.out
           rw [List.getElem?_eq_getElem (by omega), Ze9 ts k k (by omega)] at h1
           simp only [revAt] at h1
           rw [if_neg (by omega)] at h1
           exact Option.some.inj h1
         rw [x1, x2, show ts.length - 1 - k = j by have := HE.out; omega]
       refine ⟨k + 1, by omega, by go_num, by have := HE.out; congr 1; omega, ?_, Zbh hg (Zbh (Zbh (Zbh (Zbh (Zbh (Zbh s1.2 s2.2) s3.2) s4.2) s5.2) s6.2) (Znf _ _))⟩
       rw [e3, ← e2, ← e1]
       exact Zf0 s6.1
     case measure => simp [intOf]; omega
   · have hge : ¬ (k : Int) < (m : Int) - 1 - k := by omega
     go_wp2
     go_end0
     exact ⟨rfl, by rw [← Zos ts k (by have := HM.out; omega) (by have := HM.out; omega)]; exact hown, hg⟩
end
end Go.Proofs.YtlkmgclbckojgaaGreatDoor

