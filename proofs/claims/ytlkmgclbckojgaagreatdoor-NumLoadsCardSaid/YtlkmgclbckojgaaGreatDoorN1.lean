import Derived.Test.YtlkmgclbckojgaaGreatDoorL6
import Derived.ChangeKeysEq
import Derived.WalkSpells
set_option linter.unusedVariables false
set_option linter.unusedSimpArgs false
set_option maxHeartbeats 1000000
set_option maxRecDepth 100000
namespace Go.Proofs.YtlkmgclbckojgaaGreatDoor
section
open Go.RowKit
def look {κ : Type} [DecidableEq κ] (k : κ) : List (κ × Value) → Nat → Option (Nat × Value)
 | [], _ => none
 | p :: l, i => if k = p.1 then some (i, p.2) else look k l (i + 1)
structure KeyT (P : Program) (kt : TypeId) {κ : Type} [DecidableEq κ] (enc : κ → Value) (ok : World → κ → Prop) : Prop where
 check : ∀ e k w, (Instr.checkKey e 10000 kt (enc k)).run P w = .ok () w
 bits : ∀ k, Instr.sameBits 10000 (enc k) (enc k) = true
 find : ∀ (w : World) (k : κ) (es : List MapEntry) (l : List (κ × Value)), ok w k → (∀ p ∈ l, ok w p.1) → es.map (fun e => (e.key, e.val)) = l.map (fun p => (enc p.1, p.2)) →
   (Instr.findKey kt (enc k) es).run P w = .ok (look k l 0) w
theorem Zg7 {P : Program} {kt : TypeId} {κ : Type} [DecidableEq κ] {enc : κ → Value} {ok : World → κ → Prop}
   (heq : ∀ w k k', ok w k → ok w k' → (Op.equal kt (enc k) (enc k')).run P w = .ok (decide (k = k')) w) (w : World) (k : κ) (hk : ok w k) :
   ∀ (es : List MapEntry) (l : List (κ × Value)) (i : Nat), (∀ p ∈ l, ok w p.1) → es.map (fun e => (e.key, e.val)) = l.map (fun p => (enc p.1, p.2)) →
     (Instr.findAsking kt (enc k) es i).run P w = .ok (look k l i) w
 | [], [], i, _, _ => rfl
 | e :: es, p :: l, i, hl, he => by
   simp only [List.map_cons, List.cons.injEq, Prod.mk.injEq] at he
   obtain ⟨⟨h1, h2⟩, h3⟩ := he
   have h4 := heq w k p.1 hk (hl p (List.mem_cons_self ..))
   have ih := Zg7 heq w k hk es l (i + 1) (fun q hq => hl q (List.mem_cons_of_mem _ hq)) h3
   unfold Instr.findAsking
   rw [h1]
   by_cases hp : k = p.1
   · rw [decide_eq_true hp] at h4
     have h5 : look k (p :: l) i = some (i, p.2) := by rw [look, if_pos hp]
     simp [h4, h5, h2]
   · simp [h4, hp, look, ih]
 | [], p :: l, i, _, he => by simp at he
 | e :: es, [], i, _, he => by simp at he
theorem Zjd {κ : Type} {enc : κ → Value} {d : TypeDesc} (hd : ∀ k k', Instr.sameNow d (enc k) (enc k') = none) (k : κ) :
   ∀ (es : List MapEntry) (l : List (κ × Value)) (i : Nat), es.map (fun e => (e.key, e.val)) = l.map (fun p => (enc p.1, p.2)) → Instr.findNow d (enc k) es i = if es = [] then some none else none
 | [], _, i, _ => rfl
 | e :: es, p :: l, i, he => by
   simp only [List.map_cons, List.cons.injEq, Prod.mk.injEq] at he
   unfold Instr.findNow
   rw [he.1.1, hd]; rfl
 | e :: es, [], i, he => by simp at he
theorem Zfr {P : Program} {kt : TypeId} {d : TypeDesc} {κ : Type} [DecidableEq κ] {enc : κ → Value} {ok : World → κ → Prop} (hu : P.underlying kt = some d)
   (hd : ∀ k k', Instr.sameNow d (enc k) (enc k') = none)
   (heq : ∀ w k k', ok w k → ok w k' → (Op.equal kt (enc k) (enc k')).run P w = .ok (decide (k = k')) w) (w : World) (k : κ) (es : List MapEntry) (l : List (κ × Value)) (hk : ok w k) (hl : ∀ p ∈ l, ok w p.1)
   (he : es.map (fun e => (e.key, e.val)) = l.map (fun p => (enc p.1, p.2))) : (Instr.findKey kt (enc k) es).run P w = .ok (look k l 0) w := by
 unfold Instr.findKey
 have h1 := Zjd hd k es l 0 he
 have h2 := Zg7 heq w k hk es l 0 hl he
 cases es with
 | nil =>
   cases l with
   | nil => simp [run_underlying hu, h1, look]
   | cons p l => simp at he
 | cons e es => simp [run_underlying hu, h1, h2]
theorem Zf6 {κ : Type} [DecidableEq κ] {enc : κ → Value} {d : TypeDesc} (hd : ∀ k k', Instr.sameNow d (enc k) (enc k') = some (decide (k = k'))) (k : κ) :
   ∀ (es : List MapEntry) (l : List (κ × Value)) (i : Nat), es.map (fun e => (e.key, e.val)) = l.map (fun p => (enc p.1, p.2)) → Instr.findNow d (enc k) es i = some (look k l i)
 | [], [], i, _ => rfl
 | e :: es, p :: l, i, he => by
   simp only [List.map_cons, List.cons.injEq, Prod.mk.injEq] at he
   unfold Instr.findNow
   rw [he.1.1, hd]
   by_cases hp : k = p.1
   · simp [hp, look, he.1.2]
   · simp [hp, look, Zf6 hd k es l (i + 1) he.2]
 | [], p :: l, i, he => by simp at he
 | e :: es, [], i, he => by simp at he
def MapFn {κ : Type} [DecidableEq κ] (enc : κ → Value) (ok : World → κ → Prop) (w : World) (r : Nat) (f : κ → Option Value) (n : Nat) : Prop :=
 ∃ es clock l, w.heap[r]? = some (.map es clock) ∧ es.toList.map (fun e => (e.key, e.val)) = l.map (fun p => (enc p.1, p.2)) ∧ l.length = n ∧ (∀ p ∈ l, ok w p.1) ∧ ∀ k, f k = (look k l 0).map (·.2)
theorem MapFn.empty {κ : Type} [DecidableEq κ] (enc : κ → Value) (ok : World → κ → Prop) {w : World} {r : Nat} (h : w.heap[r]? = some (.map #[] 0)) : MapFn enc ok w r (fun _ => none) 0 :=
 ⟨#[], 0, [], h, rfl, rfl, by simp, fun k => rfl⟩
theorem MapFn.keep {κ : Type} [DecidableEq κ] {enc : κ → Value} {ok : World → κ → Prop} {w w' : World} {r : Nat} {f : κ → Option Value} {n : Nat} (h : MapFn enc ok w r f n) (hr : w'.heap[r]? = w.heap[r]?) (hok : ∀ k, ok w k → ok w' k) : MapFn enc ok w' r f n := by
 obtain ⟨es, clock, l, h1, h2, h3, h4, h5⟩ := h
 exact ⟨es, clock, l, hr.trans h1, h2, h3, fun p hp => hok _ (h4 p hp), h5⟩
theorem MapFn.lookup {P : Program} {t kt et : TypeId} {κ : Type} [DecidableEq κ] {enc : κ → Value} {ok : World → κ → Prop} (K : KeyT P kt enc ok) (ht : P.underlying t = some (.map kt et)) {z : Value} (hz : ∀ W, (zeroValue et).run P W = .ok z W)
   {w : World} {r : Nat} {f : κ → Option Value} {n : Nat} (h : MapFn enc ok w r f n) (k : κ) (hk : ok w k) :
   (Instr.lookup t (.map (some r)) (enc k) true).run P w = .ok (.tuple #[(f k).getD z, .bool (f k).isSome]) w := by
 obtain ⟨es, clock, l, h1, h2, h3, h4, h5⟩ := h
 have hf := K.find w k es.toList l hk h4 h2
 have hg : (getObj r).run P w = .ok (.map es clock) w := by simp [getObj, Sem.run, h1]
 unfold Instr.lookup
 rw [h5 k]
 cases hlk : look k l 0 with
 | none => simp [run_underlying ht, hg, K.check, hf, hlk, hz]
 | some p => simp [run_underlying ht, hg, K.check, hf, hlk]
theorem Zng {P : Program} {t kt et : TypeId} {κ : Type} [DecidableEq κ] {enc : κ → Value} {ok : World → κ → Prop} (K : KeyT P kt enc ok) (ht : P.underlying t = some (.map kt et)) {z : Value} (hz : ∀ W, (zeroValue et).run P W = .ok z W)
   (w : World) (k : κ) (hk : ok w k) :
   (Instr.lookup t (.map none) (enc k) true).run P w = .ok (.tuple #[z, .bool false]) w := by
 have hf := K.find w k [] [] hk (by simp) rfl
 unfold Instr.lookup
 simp [run_underlying ht, K.check, hf, look, hz]
theorem Zb5 {κ : Type} [DecidableEq κ] (k : κ) : ∀ (l : List (κ × Value)) (i : Nat), (look k l i).map (·.2) = (look k l 0).map (·.2)
 | [], _ => rfl
 | p :: l, i => by
   unfold look
   split
   · rfl
   · rw [Zb5 k l (i + 1), Zb5 k l (0 + 1)]
theorem Zg8 {κ : Type} [DecidableEq κ] (k : κ) : ∀ (l : List (κ × Value)) (i j : Nat) (v : Value), look k l i = some (j, v) → i ≤ j ∧ ∃ p, l[j - i]? = some p ∧ p.1 = k
 | [], i, j, v, h => by simp [look] at h
 | p :: l, i, j, v, h => by
   unfold look at h
   split at h
   · rename_i hp
     simp only [Option.some.injEq, Prod.mk.injEq] at h
     obtain ⟨rfl, rfl⟩ := h
     exact ⟨zl, p, by simp, hp.symm⟩
   · obtain ⟨h1, q, h2, h3⟩ := Zg8 k l (i + 1) j v h
     have e : j - i = (j - (i + 1)) + 1 := by omega
     exact ⟨by omega, q, by rw [e, List.getElem?_cons_succ]; exact h2, h3⟩
theorem Zfs {α β : Type} (φ : α → β) (g : α → α) (b : β) (h : ∀ a, φ (g a) = b) : ∀ (l : List α) (j : Nat), (l.modify j g).map φ = (l.map φ).modify j fun _ => b
 | [], j => by simp
 | a :: l, 0 => by simp [h]
 | a :: l, j + 1 => by simp [List.modify_succ_cons, Zfs φ g b h l j]
theorem Zif {α : Type} (g : α → α) (x : α) : ∀ (l : List α) (j : Nat), x ∈ l.modify j g → x ∈ l ∨ ∃ q, x = g q
 | [], j, h => by simp at h
 | a :: l, 0, h => by
   simp only [List.modify_zero_cons, List.mem_cons] at h
   rcases h with h | h
   · exact .inr ⟨a, h⟩
   · exact .inl (List.mem_cons_of_mem _ h)
 | a :: l, j + 1, h => by
   simp only [List.modify_succ_cons, List.mem_cons] at h
   rcases h with h | h
   · exact .inl (by rw [h]; exact List.mem_cons_self ..)
   · rcases Zif g x l j h with h | h
     · exact .inl (List.mem_cons_of_mem _ h)
     · exact .inr h
theorem Zg9 {κ : Type} [DecidableEq κ] (k : κ) (u : Value) : ∀ (l : List (κ × Value)) (i j : Nat) (v : Value), look k l i = some (j, v) → ∀ k' : κ, (look k' (l.modify (j - i) fun _ => (k, u)) 0).map (·.2) = if k' = k then some u else (look k' l 0).map (·.2)
 | [], i, j, v, h => by simp [look] at h
 | p :: l, i, j, v, h => by
   unfold look at h
   split at h
   · rename_i hp
     simp only [Option.some.injEq, Prod.mk.injEq] at h
     obtain ⟨rfl, rfl⟩ := h
     intro k'
     simp only [Nat.sub_self, List.modify_zero_cons]
     unfold look
     by_cases hk : k' = k
     · rw [if_pos hk, if_pos hk]; rfl
     · rw [if_neg hk, if_neg hk, if_neg (by rw [← hp]; exact hk)]
   · rename_i hp
     obtain ⟨h1, _⟩ := Zg8 k l (i + 1) j v h
     have ih := Zg9 k u l (i + 1) j v h
     have e : j - i = (j - (i + 1)) + 1 := by omega
     intro k'
     rw [e, List.modify_succ_cons]
     unfold look
     by_cases hk' : k' = p.1
     · rw [if_pos hk', if_neg (by rw [hk']; exact fun h => hp h.symm), if_pos hk']
     · rw [if_neg hk', if_neg hk', Zb5 k' _ (0 + 1), Zb5 k' l (0 + 1)]; exact ih k'
theorem Zha {κ : Type} [DecidableEq κ] (k : κ) (u : Value) (k' : κ) : ∀ (l : List (κ × Value)), look k l 0 = none → (look k' (l ++ [(k, u)]) 0).map (·.2) = if k' = k then some u else (look k' l 0).map (·.2)
 | [], _ => by simp only [List.nil_append]; unfold look; split <;> rfl
 | p :: l, h => by
   have h2 := h
   unfold look at h2
   split at h2
   · cases h2
   · rename_i hp
     have h3 : look k l 0 = none := by
       have := Zb5 k l (0 + 1)
       rw [h2] at this
       simpa using this.symm
     have ih := Zha k u k' l h3
     rw [List.cons_append]
     unfold look
     by_cases hk' : k' = p.1
     · rw [if_pos hk', if_neg (by rw [hk']; exact fun h => hp h.symm), if_pos hk']
     · rw [if_neg hk', if_neg hk', Zb5 k' _ (0 + 1), Zb5 k' l (0 + 1)]; exact ih
theorem MapFn.store {P : Program} {t kt et : TypeId} {κ : Type} [DecidableEq κ] {enc : κ → Value} {ok : World → κ → Prop} (K : KeyT P kt enc ok) (ht : P.underlying t = some (.map kt et))
   {w : World} {r : Nat} {f : κ → Option Value} {n : Nat} (h : MapFn enc ok w r f n) (k : κ) (hk : ok w k) (v : Value)
   (hok : ∀ (o : Array MapEntry × Nat) k', ok w k' → ok { w with heap := w.heap.setIfInBounds r (.map o.1 o.2) } k') :
   ∃ es clock, (Instr.mapUpdate t (.map (some r)) (enc k) v).run P w = .ok () { w with heap := w.heap.setIfInBounds r (.map es clock) } ∧
     MapFn enc ok { w with heap := w.heap.setIfInBounds r (.map es clock) } r (fun k' => if k' = k then some v else f k') (if (f k).isSome then n else n + 1) := by
 obtain ⟨es, clock, l, h1, h2, h3, h4, h5⟩ := h
 have hf := K.find w k es.toList l hk h4 h2
 have hg : (getObj r).run P w = .ok (.map es clock) w := by simp [getObj, Sem.run, h1]
 have hr : r < w.heap.size := by
   rcases Nat.lt_or_ge r w.heap.size with h | h
   · exact h
   · simp [Array.getElem?_eq_none h] at h1
 have hs : ∀ o, (setObj r o).run P w = .ok () { w with heap := w.heap.setIfInBounds r o } := fun o => by simp [setObj, Sem.run, h1]
 cases hlk : look k l 0 with
 | none =>
   refine ⟨es.push { key := enc k, val := v, born := clock }, clock + 1, ?_, es.push { key := enc k, val := v, born := clock }, clock + 1, l ++ [(k, v)], by simp [hr], ?_, ?_, ?_, ?_⟩
   · unfold Instr.mapUpdate
     simp [run_underlying ht, hg, K.check, hf, hlk, hs]
   · simp [h2]
   · have : f k = none := by rw [h5, hlk]; rfl
     simp [this, h3]
   · intro p hp
     refine hok (_, _) p.1 ?_
     rcases List.mem_append.1 hp with hp | hp
     · exact h4 p hp
     · simp only [List.mem_singleton] at hp; rw [hp]; exact hk
   · intro k'
     show (if k' = k then some v else f k') = _
     rw [Zha k v k' l hlk, h5]
 | some p =>
   obtain ⟨j, v0⟩ := p
   obtain ⟨_, p0, hj, hjk⟩ := Zg8 k l 0 j v0 hlk
   rw [Nat.sub_zero] at hj
   have hmj : (es.toList.map (fun e => (e.key, e.val)))[j]? = some (enc k, p0.2) := by rw [h2, List.getElem?_map, hj]; simp [hjk]
   rw [List.getElem?_map] at hmj
   obtain ⟨e0, he0, he1⟩ := Option.map_eq_some_iff.1 hmj
   have hkey : es[j]? = some e0 := by simpa using he0
   have hkj : e0.key = enc k := (Prod.mk.inj he1).1
   refine ⟨es.modify j fun e => { e with key := enc k, val := v }, clock, ?_, es.modify j fun e => { e with key := enc k, val := v }, clock, l.modify j fun _ => (k, v), by simp [hr], ?_, ?_, ?_, ?_⟩
   · unfold Instr.mapUpdate Instr.keyThatStays
     simp [run_underlying ht, hg, K.check, hf, hlk, hs, hkey, hkj, K.bits]
   · rw [Array.toList_modify, Zfs (fun e : MapEntry => (e.key, e.val)) (fun e => { key := enc k, val := v, born := e.born }) (enc k, v) (fun _ => rfl), Zfs (fun p : κ × Value => (enc p.1, p.2)) (fun _ => (k, v)) (enc k, v) (fun _ => rfl), h2]
   · have : (f k).isSome = true := by rw [h5, hlk]; rfl
     simp [this, h3]
   · intro p hp
     refine hok (_, _) p.1 ?_
     rcases Zif _ p l j hp with hp | ⟨q, hq⟩
     · exact h4 p hp
     · rw [hq]; exact hk
   · intro k'
     have := Zg9 k v l 0 j v0 hlk k'
     rw [Nat.sub_zero] at this
     show (if k' = k then some v else f k') = _
     rw [this, h5]
end
section
open Go.RowKit
def encP (g : Option Addr) : Value := .pointer g
def encS (s : ByteArray) : Value := .string s
def encI (p : Int × Int) : Value := .agg #[.int .i64 p.1, .int .i64 p.2]
def encN (p : Int × Option Addr) : Value := .agg #[.int .i64 p.1, .pointer p.2]
def okN (w : World) (p : Int × Option Addr) : Prop := PtrOk w p.2
def okT {κ : Type} (_ : World) (_ : κ) : Prop := True
set_option maxRecDepth 100000
theorem beqBA (a b : ByteArray) : (a == b) = decide (a = b) := by
 rcases a with ⟨a⟩
 rcases b with ⟨b⟩
 show (a == b) = _
 rw [Bool.eq_iff_iff]; simp
theorem keyP : KeyT Tryz.prog 26 encP PtrOk where
 check := fun e k w => by kernel_rfl
 bits := fun k => by simp [Instr.sameBits, encP]
 find := fun w k es l hk hl he => Zfr Tryz.underlying26 (fun _ _ => rfl) (fun w k k' h h' => by
   have := Zf3 w 9999 k k' h h'
   show (Op.equalIn 10000 26 (.pointer k) (.pointer k')).run Tryz.prog w = _
   rw [this]; congr 1
   first | rfl | (rw [Bool.eq_iff_iff]; simp)) w k es l hk hl he
theorem keyN : KeyT Tryz.prog 28 encN okN where
 check := fun e k w => by kernel_rfl
 bits := fun k => by simp [Instr.sameBits, encN]
 find := fun w k es l hk hl he => Zfr Tryz.underlying28 (fun _ _ => rfl) (fun w k k' h h' => by
   have := eqN_in w 9998 k.1 k'.1 k.2 k'.2 h h'
   show (Op.equalIn 10000 28 (.agg #[.int .i64 k.1, .pointer k.2]) (.agg #[.int .i64 k'.1, .pointer k'.2])).run Tryz.prog w = _
   rw [this]; congr 1
   rw [Bool.eq_iff_iff]; simp [Prod.ext_iff]) w k es l hk hl he
theorem keyS : KeyT Tryz.prog 9 encS okT where
 check := fun e k w => by kernel_rfl
 bits := fun k => by
   show (k == k) = true
   exact (beqBA k k).trans (by simp)
 find := fun w k es l hk hl he => by
   unfold Instr.findKey
   have := Zf6 (enc := encS) (d := .string) (fun k k' => by simp only [encS, Instr.sameNow]; exact congrArg some (beqBA k k')) k es l 0 he
   simp [run_underlying Tryz.underlying9, this]
theorem keyI : KeyT Tryz.prog 118 encI okT where
 check := fun e k w => by kernel_rfl
 bits := fun k => by simp [Instr.sameBits, encI]
 find := fun w k es l hk hl he => Zfr Tryz.underlying118 (fun _ _ => rfl) (fun w k k' h h' => by
   show (Op.equalIn 10000 118 (.agg #[.int .i64 k.1, .int .i64 k.2]) (.agg #[.int .i64 k'.1, .int .i64 k'.2])).run Tryz.prog w = _
   have u := Tryz.underlying118
   have e1 : (Op.equalIn 9999 3 (.int .i64 k.1) (.int .i64 k'.1)).run Tryz.prog w = .ok (k.1 == k'.1) w := run_equalIn_int w 9998 _ _ _ _ _ Tryz.underlying3
   have e2 : (Op.equalIn 9999 3 (.int .i64 k.2) (.int .i64 k'.2)).run Tryz.prog w = .ok (k.2 == k'.2) w := run_equalIn_int w 9998 _ _ _ _ _ Tryz.underlying3
   have p1 : ∀ a b : Value, (part 3 #[a, b] 0).run Tryz.prog w = .ok a w := fun a b => by kernel_rfl
   have p2 : ∀ a b : Value, (part 3 #[a, b] 1).run Tryz.prog w = .ok b w := fun a b => by kernel_rfl
   have hc : Tryz.prog.cellsOf 3 = 1 := by kernel_rfl
   obtain ⟨i0, hi⟩ := Option.isSome_iff_exists.1 (show (Tryz.prog.info? 3).isSome = true by kernel_rfl)
   rw [show (10000 : Nat) = 9999 + 1 from rfl, run_equalIn_array (w := w) 9999 _ _ u hi, hc, show List.range 2 = [0, 1] from rfl]
   have hd : decide (k = k') = (k.1 == k'.1 && k.2 == k'.2) := by rw [Bool.eq_iff_iff]; simp [Prod.ext_iff]
   rw [hd]
   cases h1 : (k.1 == k'.1) <;> cases h2 : (k.2 == k'.2) <;> simp [Op.eqItems, p1, p2, e1, e2, h1, h2]) w k es l hk hl he
end
section
open Go.RowKit
def MapO {κ : Type} [DecidableEq κ] (enc : κ → Value) (ok : World → κ → Prop) (w : World) (m : Option Nat) (f : κ → Option Value) (n : Nat) : Prop :=
 match m with
 | none => f = (fun _ => none) ∧ n = 0
 | some r => MapFn enc ok w r f n
def upd {κ : Type} [DecidableEq κ] (f : κ → Option Value) (k : κ) (v : Value) : κ → Option Value := fun k' => if k' = k then some v else f k'
def Noted {κ : Type} [DecidableEq κ] (enc : κ → Value) (ok : World → κ → Prop) (w w' : World) (sb i : Nat) (c : Array Value) (t : TypeId) (m : Option Nat) (f : κ → Option Value) (n : Nat) : Prop :=
 ∃ r, w'.heap[sb]? = some (.cells (c.setIfInBounds i (.map (some r))) t (0, 0)) ∧ MapFn enc ok w' r f n ∧ (m = some r ∨ (m = none ∧ w.heap.size ≤ r)) ∧ Keeps (fun k => k = sb ∨ m = some k) w w'
theorem PtrOk.setMap {w : World} {r : Nat} {es : Array MapEntry} {c : Nat} (hr : ∃ es c, w.heap[r]? = some (.map es c)) {k : Option Addr} (h : PtrOk w k) : PtrOk { w with heap := w.heap.setIfInBounds r (.map es c) } k := by
 obtain ⟨es0, c0, hr⟩ := hr
 rcases h with rfl | ⟨b, v, rfl, hb⟩
 · exact .inl rfl
 · refine .inr ⟨b, v, rfl, ?_⟩
   have hne : r ≠ b := by rintro rfl; rw [hr] at hb; cases hb
   show (w.heap.setIfInBounds r _)[b]? = _
   rw [Array.getElem?_setIfInBounds_ne hne]; exact hb
def cnt {κ : Type} (f : κ → Option Value) (k : κ) (n : Nat) : Nat := if (f k).isSome then n else n + 1
theorem MapO.keep {κ : Type} [DecidableEq κ] {enc : κ → Value} {ok : World → κ → Prop} {w w' : World} {m : Option Nat} {f : κ → Option Value} {n : Nat} (h : MapO enc ok w m f n) (hr : ∀ r, m = some r → w'.heap[r]? = w.heap[r]?) (hok : ∀ k, ok w k → ok w' k) : MapO enc ok w' m f n := by
 cases m with
 | none => exact h
 | some r => exact MapFn.keep h (hr r rfl) hok
theorem Zbr {w w' : World} (hb : Below w.heap.size w w') : ∀ k, PtrOk w k → PtrOk w' k := fun k h => h.keep hb.block
theorem Zcc {w w' : World} (hb : Below w.heap.size w w') : ∀ k, okN w k → okN w' k := fun k h => PtrOk.keep h hb.block
theorem Zdd {κ : Type} {w w' : World} (hb : Below w.heap.size w w') : ∀ k : κ, okT w k → okT w' k := fun _ _ => trivial
theorem Zje {w : World} {r : Nat} {es : Array MapEntry} {c : Nat} (hr : ∃ es c, w.heap[r]? = some (.map es c)) {k : Int × Option Addr} (h : okN w k) : okN { w with heap := w.heap.setIfInBounds r (.map es c) } k := PtrOk.setMap hr h
theorem Zjf {κ : Type} {w : World} {r : Nat} {es : Array MapEntry} {c : Nat} (hr : ∃ es c, w.heap[r]? = some (.map es c)) {k : κ} (h : okT w k) : okT { w with heap := w.heap.setIfInBounds r (.map es c) } k := trivial
theorem Zde {κ : Type} [DecidableEq κ] {enc : κ → Value} {ok : World → κ → Prop} {w W : World} {sb i : Nat} {c : Array Value} {t : TypeId} {r : Nat} {f : κ → Option Value} {n : Nat} {es : Array MapEntry} {cl : Nat}
   (hb : Below w.heap.size w W) (hs : w.heap[sb]? = some (.cells c t (0, 0))) (hi : c[i]? = some (.map (some r))) (hr : ∃ es c, w.heap[r]? = some (.map es c))
   (hm : MapFn enc ok { W with heap := W.heap.setIfInBounds r (.map es cl) } r f n) : Noted enc ok w { W with heap := W.heap.setIfInBounds r (.map es cl) } sb i c t (some r) f n := by
 obtain ⟨es0, c0, hr⟩ := hr
 have hsz : sb < w.heap.size := by
   rcases Nat.lt_or_ge sb w.heap.size with h | h
   · exact h
   · simp [Array.getElem?_eq_none h] at hs
 have hne : r ≠ sb := by rintro rfl; rw [hr] at hs; cases hs
 refine ⟨r, ?_, hm, .inl rfl, hb.os, hb.tape, hb.output, by simpa using hb.size, fun k hk hF => ?_⟩
 · show (W.heap.setIfInBounds r _)[sb]? = _
   rw [Array.getElem?_setIfInBounds_ne hne, hb.block sb hsz, hs]
   congr 2
   have hlt : i < c.size := by
     rcases Nat.lt_or_ge i c.size with h | h
     · exact h
     · simp [Array.getElem?_eq_none h] at hi
   refine Array.ext (by simp) fun j h1 h2 => ?_
   by_cases hj : i = j
   · subst hj
     rw [Array.getElem?_eq_getElem hlt] at hi
     simp [Option.some.inj hi]
   · rw [Array.getElem_setIfInBounds_ne h1 hj]
 · show (W.heap.setIfInBounds r _)[k]? = _
   rw [Array.getElem?_setIfInBounds_ne (by rintro rfl; exact hF (.inr rfl)), hb.block k hk]
theorem Zbz {W : World} {sb i : Nat} {c : Array Value} {t : TypeId} {fr : Nat × Nat} (v : Value) (h : W.heap[sb]? = some (.cells c t fr)) : (W.setCell ⟨sb, i, none⟩ v).heap[sb]? = some (.cells (c.setIfInBounds i v) t fr) := by
 simp [World.setCell, Array.getElem?_modify, h]
theorem Zdf {κ : Type} [DecidableEq κ] {enc : κ → Value} {ok : World → κ → Prop} {w W : World} {sb i : Nat} {c : Array Value} {t : TypeId} {f : κ → Option Value} {n : Nat} {es : Array MapEntry} {cl : Nat} {r : Nat} {v : Value}
   (hb : Below w.heap.size w W) (hs : w.heap[sb]? = some (.cells c t (0, 0))) (hr : r = W.heap.size) (hv : v = .map (some r)) {W2 : World} (hW : W2.heap = ((W.alloc (.map #[] 0)).setCell ⟨sb, i, none⟩ v).heap.setIfInBounds r (.map es cl))
   (h1 : W2.os = w.os) (h2 : W2.tape = w.tape) (h3 : W2.output = w.output) (hm : MapFn enc ok W2 r f n) : Noted enc ok w W2 sb i c t none f n := by
 subst hv
 have hsz : sb < w.heap.size := by
   rcases Nat.lt_or_ge sb w.heap.size with h | h
   · exact h
   · simp [Array.getElem?_eq_none h] at hs
 have hbs := hb.size
 have hba : Below w.heap.size w (W.alloc (.map #[] 0)) := hb.alloc hb.size _
 refine ⟨r, ?_, hm, .inr ⟨rfl, by omega⟩, h1, h2, h3, by rw [hW]; have := hba.size; simpa [World.setCell] using this, fun k hk hF => ?_⟩
 · rw [hW, Array.getElem?_setIfInBounds_ne (by omega)]
   exact Zbz _ ((hba.block sb hsz).trans hs)
 · rw [hW, Array.getElem?_setIfInBounds_ne (by omega), Below.heap_setCell _ _ _ _ (by rintro rfl; exact hF (.inl rfl)), hba.block k hk]
theorem World.setCell_alloc_lt2 (w : World) (o : Obj) (a : Addr) (v : Value) (h : a.block < w.heap.size) : (w.setCell a v).alloc o = (w.alloc o).setCell a v := by
 have : ∀ g : Obj → Obj, (w.heap.modify a.block g).push o = (w.heap.push o).modify a.block g := by
   intro g
   refine Array.ext (by simp) fun i h1 h2 => ?_
   simp only [Array.getElem_push, Array.getElem_modify, Array.size_modify]
   by_cases hi : i < w.heap.size
   · simp [hi]
   · simp [hi]; intro he; omega
 simp only [World.alloc, World.setCell, this]
theorem Zjg {w w' : World} (h : w'.heap = w.heap) : ∀ k, PtrOk w k → PtrOk w' k := fun k hk => hk.keep (fun i _ => by rw [h])
theorem Zdl {w : World} {sb i : Nat} {v : Value} (h2 : ∀ t c fr, w.heap[sb]? = some (.cells c t fr) → t ≠ 113) : ∀ k, PtrOk w k → PtrOk (w.setCell ⟨sb, i, none⟩ v) k := by
 intro k h
 rcases h with rfl | ⟨b, v, rfl, hb⟩
 · exact .inl rfl
 · refine .inr ⟨b, v, rfl, ?_⟩
   rw [Below.heap_setCell _ _ _ _ (fun e => by subst e; exact h2 _ _ _ hb rfl)]; exact hb
theorem Zkg (sb i : Nat) (c : Array Value) (t : TypeId) (m : Option Nat) (f : Option Addr → Option Value) (n : Nat) (g : Option Addr) (v : Int) (w : World)
   (hs : w.heap[sb]? = some (.cells c t (0, 0))) (hi : c[i]? = some (.map m)) (hm : MapO encP PtrOk w m f n) (hg : PtrOk w g) (hnt : t ≠ 113) :
   Calls Tryz.prog 95 #[.pointer (some ⟨sb, i, none⟩), .pointer g, .int .i64 v] w fun e w' =>
     e = .returned (.tuple #[]) ∧ Noted encP PtrOk w w' sb i c t m (upd f g (.int .i64 v)) (cnt f g n) := by
 have hc : w.cell? ⟨sb, i, none⟩ = some (.map m) := by simp [World.cell?, hs, hi]
 have hfz : w.frozen? ⟨sb, i, none⟩ = false := by simp [World.frozen?, hs]
 have hbel : Below w.heap.size w (w) := by repeat (first | exact zb | refine Below.alloc ?_ (by simp) _ | refine Below.drew ?_)
 have hsz : sb < w.heap.size := by
   rcases Nat.lt_or_ge sb w.heap.size with h | h
   · exact h
   · simp [Array.getElem?_eq_none h] at hs
 have hsz1 : sb < w.heap.size + 1 := by omega
 have hsz2 : sb < w.heap.size + 1 + 1 := by omega
 cases m with
 | some r =>
   have hr0 : ∃ es c, w.heap[r]? = some (.map es c) := by obtain ⟨es, c, l, h, _⟩ := hm; exact ⟨es, c, h⟩
   have hrl : r < w.heap.size := by
     obtain ⟨es, c, h⟩ := hr0
     rcases Nat.lt_or_ge r w.heap.size with h1 | h1
     · exact h1
     · simp [Array.getElem?_eq_none h1] at h
   have hr1 : ∃ es c, (w).heap[r]? = some (.map es c) := by obtain ⟨es, c, h⟩ := hr0; exact ⟨es, c, (hbel.block r hrl).trans h⟩
   obtain ⟨es, cl, hst, hmf⟩ := MapFn.store keyP Tryz.underlying81 (MapFn.keep hm (hbel.block r hrl) (Zbr hbel)) g (Zbr hbel _ hg) (.int .i64 v) (fun o k' hk => PtrOk.setMap hr1 hk)
   have HM := zh (Zde hbel hs hi hr0 hmf)
   have hq := run_eql_map_nil (P := Tryz.prog) (w) 81 _ _ (some r) Tryz.underlying81
   clear hmf hr1 hr0 hs hi hm hbel
   unfold encP at hst
   go_enter Tryz.func95, Tryz.ntmps95
   go_wp2
   skip
   go_wp2
   go_end0
   exact ⟨rfl, HM.out⟩
 | none =>
   obtain ⟨rfl, rfl⟩ := hm
   have hbs := hbel.size
   have hb0 : Below w.heap.size w (w) := by repeat (first | exact zb | refine Below.alloc ?_ (by simp) _ | refine Below.drew ?_)
   have hba : Below w.heap.size w ((w).alloc (.map #[] 0)) := hb0.alloc hb0.size _
   obtain ⟨W2, hW2⟩ : ∃ W2, W2 = (((w.setCell ⟨sb, i, none⟩ (.map (some w.heap.size)))).alloc (.map #[] 0)) := ⟨_, rfl⟩
   have hh2 : W2.heap = (((w).alloc (.map #[] 0)).setCell ⟨sb, i, none⟩ (.map (some w.heap.size))).heap := by
     rw [hW2]
     show (((w.setCell ⟨sb, i, none⟩ (.map (some w.heap.size)))).alloc (.map #[] 0)).heap = _
     repeat rw [World.setCell_alloc_lt2 _ _ _ _ (by simp; omega)]
   have hnew : W2.heap[w.heap.size]? = some (.map #[] 0) := by
     rw [hh2, Below.heap_setCell _ _ _ _ (by show w.heap.size ≠ sb; omega)]
     rw [show w.heap.size = (w).heap.size by simp]
     exact heap_alloc_new (w) _
   have hnt2 : ∀ t' c' fr', ((w).alloc (.map #[] 0)).heap[sb]? = some (.cells c' t' fr') → t' ≠ 113 := by
     intro t' c' fr' h
     rw [hba.block sb hsz, hs] at h
     cases h
     exact hnt
   have hok2 : ∀ k : Option Addr, PtrOk w k → PtrOk W2 k := (fun k hk => Zjg hh2 k (Zdl hnt2 k (Zbr hba k hk)))
   have hr1 : ∃ es c, W2.heap[w.heap.size]? = some (.map es c) := ⟨_, _, hnew⟩
   obtain ⟨es, cl, hst, hmf⟩ := MapFn.store keyP Tryz.underlying81 (MapFn.empty encP PtrOk hnew) g (hok2 _ hg) (.int .i64 v) (fun o k' hk => PtrOk.setMap hr1 hk)
   have HM : Hid (Noted encP PtrOk w { W2 with heap := W2.heap.setIfInBounds w.heap.size (.map es cl) } sb i c t none (upd (fun _ => none) g (.int .i64 v)) (cnt (fun _ => none) g 0)) :=
     Zdf (r := w.heap.size) (W := w) (v := .map (some w.heap.size)) hb0 hs (by simp) rfl (by rw [← hh2]) (by rw [hW2]; rfl) (by rw [hW2]; rfl) (by rw [hW2]; rfl) hmf
   have hq := run_eql_map_nil (P := Tryz.prog) (w) 81 _ _ none Tryz.underlying81
   clear hmf hr1 hok2 hnew hh2 hi hbel hb0 hba hbs hnt2 hnt hs
   unfold encP at hst
   subst hW2
   have hmk := @run_makeMap Tryz.prog
   go_enter Tryz.func95, Tryz.ntmps95
   go_wp2
   skip
   go_wp2
   go_end0
   exact ⟨rfl, HM.out⟩
theorem Zf7 (sb i : Nat) (c : Array Value) (t : TypeId) (m : Option Nat) (f : ByteArray → Option Value) (n : Nat) (s : ByteArray) (v : Option Addr) (w : World)
   (hs : w.heap[sb]? = some (.cells c t (0, 0))) (hi : c[i]? = some (.map m)) (hm : MapO encS okT w m f n) (hg : okT w s) (hnt : t ≠ 113) :
   Calls Tryz.prog 90 #[.pointer (some ⟨sb, i, none⟩), .string s, .pointer v] w fun e w' =>
     e = .returned (.tuple #[]) ∧ Noted encS okT w w' sb i c t m (upd f s (.pointer v)) (cnt f s n) := by
 have hc : w.cell? ⟨sb, i, none⟩ = some (.map m) := by simp [World.cell?, hs, hi]
 have hfz : w.frozen? ⟨sb, i, none⟩ = false := by simp [World.frozen?, hs]
 have hbel : Below w.heap.size w (w) := by repeat (first | exact zb | refine Below.alloc ?_ (by simp) _ | refine Below.drew ?_)
 have hsz : sb < w.heap.size := by
   rcases Nat.lt_or_ge sb w.heap.size with h | h
   · exact h
   · simp [Array.getElem?_eq_none h] at hs
 have hsz1 : sb < w.heap.size + 1 := by omega
 have hsz2 : sb < w.heap.size + 1 + 1 := by omega
 cases m with
 | some r =>
   have hr0 : ∃ es c, w.heap[r]? = some (.map es c) := by obtain ⟨es, c, l, h, _⟩ := hm; exact ⟨es, c, h⟩
   have hrl : r < w.heap.size := by
     obtain ⟨es, c, h⟩ := hr0
     rcases Nat.lt_or_ge r w.heap.size with h1 | h1
     · exact h1
     · simp [Array.getElem?_eq_none h1] at h
   have hr1 : ∃ es c, (w).heap[r]? = some (.map es c) := by obtain ⟨es, c, h⟩ := hr0; exact ⟨es, c, (hbel.block r hrl).trans h⟩
   obtain ⟨es, cl, hst, hmf⟩ := MapFn.store keyS Tryz.underlying83 (MapFn.keep hm (hbel.block r hrl) (Zdd hbel)) s (Zdd hbel _ hg) (.pointer v) (fun o k' hk => Zjf hr1 hk)
   have HM := zh (Zde hbel hs hi hr0 hmf)
   have hq := run_eql_map_nil (P := Tryz.prog) (w) 83 _ _ (some r) Tryz.underlying83
   clear hmf hr1 hr0 hs hi hm hbel
   unfold encS at hst
   go_enter Tryz.func90, Tryz.ntmps90
   go_wp2
   skip
   go_wp2
   go_end0
   exact ⟨rfl, HM.out⟩
 | none =>
   obtain ⟨rfl, rfl⟩ := hm
   have hbs := hbel.size
   have hb0 : Below w.heap.size w (w) := by repeat (first | exact zb | refine Below.alloc ?_ (by simp) _ | refine Below.drew ?_)
   have hba : Below w.heap.size w ((w).alloc (.map #[] 0)) := hb0.alloc hb0.size _
   obtain ⟨W2, hW2⟩ : ∃ W2, W2 = (((w.setCell ⟨sb, i, none⟩ (.map (some w.heap.size)))).alloc (.map #[] 0)) := ⟨_, rfl⟩
   have hh2 : W2.heap = (((w).alloc (.map #[] 0)).setCell ⟨sb, i, none⟩ (.map (some w.heap.size))).heap := by
     rw [hW2]
     show (((w.setCell ⟨sb, i, none⟩ (.map (some w.heap.size)))).alloc (.map #[] 0)).heap = _
     repeat rw [World.setCell_alloc_lt2 _ _ _ _ (by simp; omega)]
   have hnew : W2.heap[w.heap.size]? = some (.map #[] 0) := by
     rw [hh2, Below.heap_setCell _ _ _ _ (by show w.heap.size ≠ sb; omega)]
     rw [show w.heap.size = (w).heap.size by simp]
     exact heap_alloc_new (w) _
   have hnt2 : ∀ t' c' fr', ((w).alloc (.map #[] 0)).heap[sb]? = some (.cells c' t' fr') → t' ≠ 113 := by
     intro t' c' fr' h
     rw [hba.block sb hsz, hs] at h
     cases h
     exact hnt
   have hok2 : ∀ k : ByteArray, okT w k → okT W2 k := (fun _ _ => trivial)
   have hr1 : ∃ es c, W2.heap[w.heap.size]? = some (.map es c) := ⟨_, _, hnew⟩
   obtain ⟨es, cl, hst, hmf⟩ := MapFn.store keyS Tryz.underlying83 (MapFn.empty encS okT hnew) s (hok2 _ hg) (.pointer v) (fun o k' hk => Zjf hr1 hk)
   have HM : Hid (Noted encS okT w { W2 with heap := W2.heap.setIfInBounds w.heap.size (.map es cl) } sb i c t none (upd (fun _ => none) s (.pointer v)) (cnt (fun _ => none) s 0)) :=
     Zdf (r := w.heap.size) (W := w) (v := .map (some w.heap.size)) hb0 hs (by simp) rfl (by rw [← hh2]) (by rw [hW2]; rfl) (by rw [hW2]; rfl) (by rw [hW2]; rfl) hmf
   have hq := run_eql_map_nil (P := Tryz.prog) (w) 83 _ _ none Tryz.underlying83
   clear hmf hr1 hok2 hnew hh2 hi hbel hb0 hba hbs hnt2 hnt hs
   unfold encS at hst
   subst hW2
   have hmk := @run_makeMap Tryz.prog
   go_enter Tryz.func90, Tryz.ntmps90
   go_wp2
   skip
   go_wp2
   go_end0
   exact ⟨rfl, HM.out⟩
theorem Zkh (sb i : Nat) (c : Array Value) (t : TypeId) (m : Option Nat) (f : Option Addr → Option Value) (n : Nat) (g : Option Addr) (s : Int) (q : Option Addr) (w : World)
   (hs : w.heap[sb]? = some (.cells c t (0, 0))) (hi : c[i]? = some (.map m)) (hm : MapO encP PtrOk w m f n) (hg : PtrOk w g) (hnt : t ≠ 113) :
   Calls Tryz.prog 85 #[.pointer (some ⟨sb, i, none⟩), .pointer g, .agg #[.int .i64 s, .pointer q]] w fun e w' =>
     e = .returned (.tuple #[]) ∧ Noted encP PtrOk w w' sb i c t m (upd f g (.agg #[.int .i64 s, .pointer q])) (cnt f g n) := by
 have hc : w.cell? ⟨sb, i, none⟩ = some (.map m) := by simp [World.cell?, hs, hi]
 have hfz : w.frozen? ⟨sb, i, none⟩ = false := by simp [World.frozen?, hs]
 have hbel : Below w.heap.size w ((w.alloc (.cells #[.int .i64 s, .pointer q] 28)).drew) := by repeat (first | exact zb | refine Below.alloc ?_ (by simp) _ | refine Below.drew ?_)
 have hsz : sb < w.heap.size := by
   rcases Nat.lt_or_ge sb w.heap.size with h | h
   · exact h
   · simp [Array.getElem?_eq_none h] at hs
 have hsz1 : sb < w.heap.size + 1 := by omega
 have hsz2 : sb < w.heap.size + 1 + 1 := by omega
 cases m with
 | some r =>
   have hr0 : ∃ es c, w.heap[r]? = some (.map es c) := by obtain ⟨es, c, l, h, _⟩ := hm; exact ⟨es, c, h⟩
   have hrl : r < w.heap.size := by
     obtain ⟨es, c, h⟩ := hr0
     rcases Nat.lt_or_ge r w.heap.size with h1 | h1
     · exact h1
     · simp [Array.getElem?_eq_none h1] at h
   have hr1 : ∃ es c, ((w.alloc (.cells #[.int .i64 s, .pointer q] 28)).drew).heap[r]? = some (.map es c) := by obtain ⟨es, c, h⟩ := hr0; exact ⟨es, c, (hbel.block r hrl).trans h⟩
   obtain ⟨es, cl, hst, hmf⟩ := MapFn.store keyP Tryz.underlying82 (MapFn.keep hm (hbel.block r hrl) (Zbr hbel)) g (Zbr hbel _ hg) (.agg #[.int .i64 s, .pointer q]) (fun o k' hk => PtrOk.setMap hr1 hk)
   have HM := zh (Zde hbel hs hi hr0 hmf)
   have hq := run_eql_map_nil (P := Tryz.prog) ((w.alloc (.cells #[.int .i64 s, .pointer q] 28))) 82 _ _ (some r) Tryz.underlying82
   clear hmf hr1 hr0 hs hi hm hbel
   unfold encP at hst
   go_enter Tryz.func85, Tryz.ntmps85
   go_wp2
   go_region
   go_wp2
   go_end0
   exact ⟨rfl, HM.out⟩
 | none =>
   obtain ⟨rfl, rfl⟩ := hm
   have hbs := hbel.size
   have hb0 : Below w.heap.size w ((w.alloc (.cells #[.int .i64 s, .pointer q] 28))) := by repeat (first | exact zb | refine Below.alloc ?_ (by simp) _ | refine Below.drew ?_)
   have hba : Below w.heap.size w (((w.alloc (.cells #[.int .i64 s, .pointer q] 28))).alloc (.map #[] 0)) := hb0.alloc hb0.size _
   obtain ⟨W2, hW2⟩ : ∃ W2, W2 = ((((w.setCell ⟨sb, i, none⟩ (.map (some (w.heap.size + 1)))).alloc (.cells #[.int .i64 s, .pointer q] 28))).alloc (.map #[] 0)).drew := ⟨_, rfl⟩
   have hh2 : W2.heap = ((((w.alloc (.cells #[.int .i64 s, .pointer q] 28))).alloc (.map #[] 0)).setCell ⟨sb, i, none⟩ (.map (some (w.heap.size + 1)))).heap := by
     rw [hW2]
     show ((((w.setCell ⟨sb, i, none⟩ (.map (some (w.heap.size + 1)))).alloc (.cells #[.int .i64 s, .pointer q] 28))).alloc (.map #[] 0)).heap = _
     repeat rw [World.setCell_alloc_lt2 _ _ _ _ (by simp; omega)]
   have hnew : W2.heap[(w.heap.size + 1)]? = some (.map #[] 0) := by
     rw [hh2, Below.heap_setCell _ _ _ _ (by show (w.heap.size + 1) ≠ sb; omega)]
     rw [show (w.heap.size + 1) = ((w.alloc (.cells #[.int .i64 s, .pointer q] 28))).heap.size by simp]
     exact heap_alloc_new ((w.alloc (.cells #[.int .i64 s, .pointer q] 28))) _
   have hnt2 : ∀ t' c' fr', (((w.alloc (.cells #[.int .i64 s, .pointer q] 28))).alloc (.map #[] 0)).heap[sb]? = some (.cells c' t' fr') → t' ≠ 113 := by
     intro t' c' fr' h
     rw [hba.block sb hsz, hs] at h
     cases h
     exact hnt
   have hok2 : ∀ k : Option Addr, PtrOk w k → PtrOk W2 k := (fun k hk => Zjg hh2 k (Zdl hnt2 k (Zbr hba k hk)))
   have hr1 : ∃ es c, W2.heap[(w.heap.size + 1)]? = some (.map es c) := ⟨_, _, hnew⟩
   obtain ⟨es, cl, hst, hmf⟩ := MapFn.store keyP Tryz.underlying82 (MapFn.empty encP PtrOk hnew) g (hok2 _ hg) (.agg #[.int .i64 s, .pointer q]) (fun o k' hk => PtrOk.setMap hr1 hk)
   have HM : Hid (Noted encP PtrOk w { W2 with heap := W2.heap.setIfInBounds (w.heap.size + 1) (.map es cl) } sb i c t none (upd (fun _ => none) g (.agg #[.int .i64 s, .pointer q])) (cnt (fun _ => none) g 0)) :=
     Zdf (r := (w.heap.size + 1)) (W := (w.alloc (.cells #[.int .i64 s, .pointer q] 28))) (v := .map (some (w.heap.size + 1))) hb0 hs (by simp) rfl (by rw [← hh2]) (by rw [hW2]; rfl) (by rw [hW2]; rfl) (by rw [hW2]; rfl) hmf
   have hq := run_eql_map_nil (P := Tryz.prog) ((w.alloc (.cells #[.int .i64 s, .pointer q] 28))) 82 _ _ none Tryz.underlying82
   clear hmf hr1 hok2 hnew hh2 hi hbel hb0 hba hbs hnt2 hnt hs
   unfold encP at hst
   subst hW2
   have hmk := @run_makeMap Tryz.prog
   go_enter Tryz.func85, Tryz.ntmps85
   go_wp2
   go_region
   go_wp2
   go_end0
   exact ⟨rfl, HM.out⟩
theorem Zki (sb i : Nat) (c : Array Value) (t : TypeId) (m : Option Nat) (f : Int × Int → Option Value) (n : Nat) (k1 k2 : Int) (v : Int) (w : World)
   (hs : w.heap[sb]? = some (.cells c t (0, 0))) (hi : c[i]? = some (.map m)) (hm : MapO encI okT w m f n) (hg : okT w (k1, k2)) (hnt : t ≠ 113) :
   Calls Tryz.prog 77 #[.pointer (some ⟨sb, i, none⟩), .agg #[.int .i64 k1, .int .i64 k2], .int .i64 v] w fun e w' =>
     e = .returned (.tuple #[]) ∧ Noted encI okT w w' sb i c t m (upd f (k1, k2) (.int .i64 v)) (cnt f (k1, k2) n) := by
 have hc : w.cell? ⟨sb, i, none⟩ = some (.map m) := by simp [World.cell?, hs, hi]
 have hfz : w.frozen? ⟨sb, i, none⟩ = false := by simp [World.frozen?, hs]
 have hbel : Below w.heap.size w ((w.alloc (.cells #[.int .i64 k1, .int .i64 k2] 118)).drew) := by repeat (first | exact zb | refine Below.alloc ?_ (by simp) _ | refine Below.drew ?_)
 have hsz : sb < w.heap.size := by
   rcases Nat.lt_or_ge sb w.heap.size with h | h
   · exact h
   · simp [Array.getElem?_eq_none h] at hs
 have hsz1 : sb < w.heap.size + 1 := by omega
 have hsz2 : sb < w.heap.size + 1 + 1 := by omega
 cases m with
 | some r =>
   have hr0 : ∃ es c, w.heap[r]? = some (.map es c) := by obtain ⟨es, c, l, h, _⟩ := hm; exact ⟨es, c, h⟩
   have hrl : r < w.heap.size := by
     obtain ⟨es, c, h⟩ := hr0
     rcases Nat.lt_or_ge r w.heap.size with h1 | h1
     · exact h1
     · simp [Array.getElem?_eq_none h1] at h
   have hr1 : ∃ es c, ((w.alloc (.cells #[.int .i64 k1, .int .i64 k2] 118)).drew).heap[r]? = some (.map es c) := by obtain ⟨es, c, h⟩ := hr0; exact ⟨es, c, (hbel.block r hrl).trans h⟩
   obtain ⟨es, cl, hst, hmf⟩ := MapFn.store keyI Tryz.underlying84 (MapFn.keep hm (hbel.block r hrl) (Zdd hbel)) (k1, k2) (Zdd hbel _ hg) (.int .i64 v) (fun o k' hk => Zjf hr1 hk)
   have HM := zh (Zde hbel hs hi hr0 hmf)
   have hq := run_eql_map_nil (P := Tryz.prog) ((w.alloc (.cells #[.int .i64 k1, .int .i64 k2] 118))) 84 _ _ (some r) Tryz.underlying84
   clear hmf hr1 hr0 hs hi hm hbel
   unfold encI at hst
   go_enter Tryz.func77, Tryz.ntmps77
   go_wp2
   go_region
   go_wp2
   go_end0
   exact ⟨rfl, HM.out⟩
 | none =>
   obtain ⟨rfl, rfl⟩ := hm
   have hbs := hbel.size
   have hb0 : Below w.heap.size w ((w.alloc (.cells #[.int .i64 k1, .int .i64 k2] 118))) := by repeat (first | exact zb | refine Below.alloc ?_ (by simp) _ | refine Below.drew ?_)
   have hba : Below w.heap.size w (((w.alloc (.cells #[.int .i64 k1, .int .i64 k2] 118))).alloc (.map #[] 0)) := hb0.alloc hb0.size _
   obtain ⟨W2, hW2⟩ : ∃ W2, W2 = ((((w.setCell ⟨sb, i, none⟩ (.map (some (w.heap.size + 1)))).alloc (.cells #[.int .i64 k1, .int .i64 k2] 118))).alloc (.map #[] 0)).drew := ⟨_, rfl⟩
   have hh2 : W2.heap = ((((w.alloc (.cells #[.int .i64 k1, .int .i64 k2] 118))).alloc (.map #[] 0)).setCell ⟨sb, i, none⟩ (.map (some (w.heap.size + 1)))).heap := by
     rw [hW2]
     show ((((w.setCell ⟨sb, i, none⟩ (.map (some (w.heap.size + 1)))).alloc (.cells #[.int .i64 k1, .int .i64 k2] 118))).alloc (.map #[] 0)).heap = _
     repeat rw [World.setCell_alloc_lt2 _ _ _ _ (by simp; omega)]
   have hnew : W2.heap[(w.heap.size + 1)]? = some (.map #[] 0) := by
     rw [hh2, Below.heap_setCell _ _ _ _ (by show (w.heap.size + 1) ≠ sb; omega)]
     rw [show (w.heap.size + 1) = ((w.alloc (.cells #[.int .i64 k1, .int .i64 k2] 118))).heap.size by simp]
     exact heap_alloc_new ((w.alloc (.cells #[.int .i64 k1, .int .i64 k2] 118))) _
   have hnt2 : ∀ t' c' fr', (((w.alloc (.cells #[.int .i64 k1, .int .i64 k2] 118))).alloc (.map #[] 0)).heap[sb]? = some (.cells c' t' fr') → t' ≠ 113 := by
     intro t' c' fr' h
     rw [hba.block sb hsz, hs] at h
     cases h
     exact hnt
   have hok2 : ∀ k : Int × Int, okT w k → okT W2 k := (fun _ _ => trivial)
   have hr1 : ∃ es c, W2.heap[(w.heap.size + 1)]? = some (.map es c) := ⟨_, _, hnew⟩
   obtain ⟨es, cl, hst, hmf⟩ := MapFn.store keyI Tryz.underlying84 (MapFn.empty encI okT hnew) (k1, k2) (hok2 _ hg) (.int .i64 v) (fun o k' hk => Zjf hr1 hk)
   have HM : Hid (Noted encI okT w { W2 with heap := W2.heap.setIfInBounds (w.heap.size + 1) (.map es cl) } sb i c t none (upd (fun _ => none) (k1, k2) (.int .i64 v)) (cnt (fun _ => none) (k1, k2) 0)) :=
     Zdf (r := (w.heap.size + 1)) (W := (w.alloc (.cells #[.int .i64 k1, .int .i64 k2] 118))) (v := .map (some (w.heap.size + 1))) hb0 hs (by simp) rfl (by rw [← hh2]) (by rw [hW2]; rfl) (by rw [hW2]; rfl) (by rw [hW2]; rfl) hmf
   have hq := run_eql_map_nil (P := Tryz.prog) ((w.alloc (.cells #[.int .i64 k1, .int .i64 k2] 118))) 84 _ _ none Tryz.underlying84
   clear hmf hr1 hok2 hnew hh2 hi hbel hb0 hba hbs hnt2 hnt hs
   unfold encI at hst
   subst hW2
   have hmk := @run_makeMap Tryz.prog
   go_enter Tryz.func77, Tryz.ntmps77
   go_wp2
   go_region
   go_wp2
   go_end0
   exact ⟨rfl, HM.out⟩
theorem Zkj (sb i : Nat) (c : Array Value) (t : TypeId) (m : Option Nat) (f : Int × Option Addr → Option Value) (n : Nat) (k1 : Int) (k2 : Option Addr) (s : Int) (q : Option Addr) (w : World)
   (hs : w.heap[sb]? = some (.cells c t (0, 0))) (hi : c[i]? = some (.map m)) (hm : MapO encN okN w m f n) (hg : okN w (k1, k2)) (hnt : t ≠ 113) :
   Calls Tryz.prog 106 #[.pointer (some ⟨sb, i, none⟩), .agg #[.int .i64 k1, .pointer k2], .agg #[.int .i64 s, .pointer q]] w fun e w' =>
     e = .returned (.tuple #[]) ∧ Noted encN okN w w' sb i c t m (upd f (k1, k2) (.agg #[.int .i64 s, .pointer q])) (cnt f (k1, k2) n) := by
 have hc : w.cell? ⟨sb, i, none⟩ = some (.map m) := by simp [World.cell?, hs, hi]
 have hfz : w.frozen? ⟨sb, i, none⟩ = false := by simp [World.frozen?, hs]
 have hbel : Below w.heap.size w (((w.alloc (.cells #[.int .i64 k1, .pointer k2] 28)).alloc (.cells #[.int .i64 s, .pointer q] 28)).drew) := by repeat (first | exact zb | refine Below.alloc ?_ (by simp) _ | refine Below.drew ?_)
 have hsz : sb < w.heap.size := by
   rcases Nat.lt_or_ge sb w.heap.size with h | h
   · exact h
   · simp [Array.getElem?_eq_none h] at hs
 have hsz1 : sb < w.heap.size + 1 := by omega
 have hsz2 : sb < w.heap.size + 1 + 1 := by omega
 cases m with
 | some r =>
   have hr0 : ∃ es c, w.heap[r]? = some (.map es c) := by obtain ⟨es, c, l, h, _⟩ := hm; exact ⟨es, c, h⟩
   have hrl : r < w.heap.size := by
     obtain ⟨es, c, h⟩ := hr0
     rcases Nat.lt_or_ge r w.heap.size with h1 | h1
     · exact h1
     · simp [Array.getElem?_eq_none h1] at h
   have hr1 : ∃ es c, (((w.alloc (.cells #[.int .i64 k1, .pointer k2] 28)).alloc (.cells #[.int .i64 s, .pointer q] 28)).drew).heap[r]? = some (.map es c) := by obtain ⟨es, c, h⟩ := hr0; exact ⟨es, c, (hbel.block r hrl).trans h⟩
   obtain ⟨es, cl, hst, hmf⟩ := MapFn.store keyN Tryz.underlying85 (MapFn.keep hm (hbel.block r hrl) (Zcc hbel)) (k1, k2) (Zcc hbel _ hg) (.agg #[.int .i64 s, .pointer q]) (fun o k' hk => Zje hr1 hk)
   have HM := zh (Zde hbel hs hi hr0 hmf)
   have hq := run_eql_map_nil (P := Tryz.prog) (((w.alloc (.cells #[.int .i64 k1, .pointer k2] 28)).alloc (.cells #[.int .i64 s, .pointer q] 28))) 85 _ _ (some r) Tryz.underlying85
   clear hmf hr1 hr0 hs hi hm hbel
   unfold encN at hst
   go_enter Tryz.func106, Tryz.ntmps106
   go_wp2
   go_region
   go_wp2
   go_end0
   exact ⟨rfl, HM.out⟩
 | none =>
   obtain ⟨rfl, rfl⟩ := hm
   have hbs := hbel.size
   have hb0 : Below w.heap.size w (((w.alloc (.cells #[.int .i64 k1, .pointer k2] 28)).alloc (.cells #[.int .i64 s, .pointer q] 28))) := by repeat (first | exact zb | refine Below.alloc ?_ (by simp) _ | refine Below.drew ?_)
   have hba : Below w.heap.size w ((((w.alloc (.cells #[.int .i64 k1, .pointer k2] 28)).alloc (.cells #[.int .i64 s, .pointer q] 28))).alloc (.map #[] 0)) := hb0.alloc hb0.size _
   obtain ⟨W2, hW2⟩ : ∃ W2, W2 = (((((w.setCell ⟨sb, i, none⟩ (.map (some (w.heap.size + 1 + 1)))).alloc (.cells #[.int .i64 k1, .pointer k2] 28)).alloc (.cells #[.int .i64 s, .pointer q] 28))).alloc (.map #[] 0)).drew := ⟨_, rfl⟩
   have hh2 : W2.heap = (((((w.alloc (.cells #[.int .i64 k1, .pointer k2] 28)).alloc (.cells #[.int .i64 s, .pointer q] 28))).alloc (.map #[] 0)).setCell ⟨sb, i, none⟩ (.map (some (w.heap.size + 1 + 1)))).heap := by
     rw [hW2]
     show (((((w.setCell ⟨sb, i, none⟩ (.map (some (w.heap.size + 1 + 1)))).alloc (.cells #[.int .i64 k1, .pointer k2] 28)).alloc (.cells #[.int .i64 s, .pointer q] 28))).alloc (.map #[] 0)).heap = _
     repeat rw [World.setCell_alloc_lt2 _ _ _ _ (by simp; omega)]
   have hnew : W2.heap[(w.heap.size + 1 + 1)]? = some (.map #[] 0) := by
     rw [hh2, Below.heap_setCell _ _ _ _ (by show (w.heap.size + 1 + 1) ≠ sb; omega)]
     rw [show (w.heap.size + 1 + 1) = (((w.alloc (.cells #[.int .i64 k1, .pointer k2] 28)).alloc (.cells #[.int .i64 s, .pointer q] 28))).heap.size by simp]
     exact heap_alloc_new (((w.alloc (.cells #[.int .i64 k1, .pointer k2] 28)).alloc (.cells #[.int .i64 s, .pointer q] 28))) _
   have hnt2 : ∀ t' c' fr', ((((w.alloc (.cells #[.int .i64 k1, .pointer k2] 28)).alloc (.cells #[.int .i64 s, .pointer q] 28))).alloc (.map #[] 0)).heap[sb]? = some (.cells c' t' fr') → t' ≠ 113 := by
     intro t' c' fr' h
     rw [hba.block sb hsz, hs] at h
     cases h
     exact hnt
   have hok2 : ∀ k : Int × Option Addr, okN w k → okN W2 k := (fun k hk => Zjg hh2 k.2 (Zdl hnt2 k.2 (Zbr hba k.2 hk)))
   have hr1 : ∃ es c, W2.heap[(w.heap.size + 1 + 1)]? = some (.map es c) := ⟨_, _, hnew⟩
   obtain ⟨es, cl, hst, hmf⟩ := MapFn.store keyN Tryz.underlying85 (MapFn.empty encN okN hnew) (k1, k2) (hok2 _ hg) (.agg #[.int .i64 s, .pointer q]) (fun o k' hk => Zje hr1 hk)
   have HM : Hid (Noted encN okN w { W2 with heap := W2.heap.setIfInBounds (w.heap.size + 1 + 1) (.map es cl) } sb i c t none (upd (fun _ => none) (k1, k2) (.agg #[.int .i64 s, .pointer q])) (cnt (fun _ => none) (k1, k2) 0)) :=
     Zdf (r := (w.heap.size + 1 + 1)) (W := ((w.alloc (.cells #[.int .i64 k1, .pointer k2] 28)).alloc (.cells #[.int .i64 s, .pointer q] 28))) (v := .map (some (w.heap.size + 1 + 1))) hb0 hs (by simp) rfl (by rw [← hh2]) (by rw [hW2]; rfl) (by rw [hW2]; rfl) (by rw [hW2]; rfl) hmf
   have hq := run_eql_map_nil (P := Tryz.prog) (((w.alloc (.cells #[.int .i64 k1, .pointer k2] 28)).alloc (.cells #[.int .i64 s, .pointer q] 28))) 85 _ _ none Tryz.underlying85
   clear hmf hr1 hok2 hnew hh2 hi hbel hb0 hba hbs hnt2 hnt hs
   unfold encN at hst
   subst hW2
   have hmk := @run_makeMap Tryz.prog
   go_enter Tryz.func106, Tryz.ntmps106
   go_wp2
   go_region
   go_wp2
   go_end0
   exact ⟨rfl, HM.out⟩
end
end Go.Proofs.YtlkmgclbckojgaaGreatDoor

