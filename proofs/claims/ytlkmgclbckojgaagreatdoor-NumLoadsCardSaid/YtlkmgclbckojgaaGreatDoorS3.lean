import Derived.Test.YtlkmgclbckojgaaGreatDoorN1
import Derived.Lib.ItoaLen
set_option linter.unusedVariables false
set_option linter.unusedSimpArgs false
set_option maxHeartbeats 2000000
set_option maxRecDepth 100000
namespace Go.Proofs.YtlkmgclbckojgaaGreatDoor
section
open Go.RowKit
def GreatV (w : World) (F : Nat → Prop) (p : Addr) (z : Int) : Prop := ∃ D, Forest w F D ∧ D p = some z
theorem GreatV.det {w : World} {F F' : Nat → Prop} {p : Addr} {z z' : Int} (h : GreatV w F p z) (h' : GreatV w F' p z') : z = z' := by
 obtain ⟨D, hf, hp⟩ := h
 obtain ⟨D', hf', hp'⟩ := h'
 exact Zmh hf hf' _ p z z' (zl) hp hp'
theorem GreatV.keeps {w w' : World} {F : Nat → Prop} {p : Addr} {z : Int} (h : GreatV w F p z) (hk : Keeps F w w') : GreatV w' F p z := by
 obtain ⟨D, hf, hp⟩ := h
 exact ⟨D, hf.keeps hk, hp⟩
theorem GreatV.grow {w W : World} {F F' : Nat → Prop} {p : Addr} {z : Int} (h : GreatV w F p z) (hW : w.heap.size ≤ W.heap.size) (hF : ∀ i, F' i → F i ∨ W.heap.size ≤ i) : GreatV w F' p z := by
 obtain ⟨D, hf, hp⟩ := h
 exact ⟨D, hf.grow hW hF, hp⟩
theorem GreatV.ptr {w : World} {F : Nat → Prop} {p : Addr} {z : Int} (h : GreatV w F p z) : PtrOk w (some p) := by
 obtain ⟨D, hf, hp⟩ := h
 exact ValD.ptr (s := 0) (z := z) hf ⟨rfl, hp⟩
def HasT (w : World) (F : Nat → Prop) (p : Addr) (ts : List TV) : Prop :=
 ∃ b v, p = ⟨b, 0, none⟩ ∧ b < w.heap.size ∧ ¬ F b ∧ w.heap[b]? = some (.cells #[v] 113 (0, 0)) ∧ RowF w F 3 v ts.length (flatT ts)
theorem HasT.keeps {w w' : World} {F : Nat → Prop} {p : Addr} {ts : List TV} (h : HasT w F p ts) (hk : Keeps F w w') : HasT w' F p ts := by
 obtain ⟨b, v, rfl, h1, h2, h3, h4⟩ := h
 exact ⟨b, v, rfl, Nat.lt_of_lt_of_le h1 hk.size, h2, (hk.block b h1 h2).trans h3, h4.keeps hk⟩
theorem HasT.grow {w W : World} {F F' : Nat → Prop} {p : Addr} {ts : List TV} (h : HasT w F p ts) (hW : w.heap.size ≤ W.heap.size) (hF : ∀ i, F' i → F i ∨ W.heap.size ≤ i) : HasT w F' p ts := by
 obtain ⟨b, v, rfl, h1, h2, h3, h4⟩ := h
 exact ⟨b, v, rfl, h1, fun hf => by rcases hF b hf with h6 | h6; exact h2 h6; omega, h3, h4.grow hW hF⟩
def digits (n : Int) : List UInt8 := Lib.itoa n
def termText (fp : Option Addr → Option Value) (t : TV) : Option (List UInt8) :=
 let sign : UInt8 := if t.1 then 45 else 43
 match t.2.2 with
 | none => some (sign :: digits t.2.1)
 | some p => match fp (some p) with
   | some (.int .i64 k) => some (sign :: 35 :: digits k)
   | _ => none
def keyText (fp : Option Addr → Option Value) : List TV → Option (List UInt8)
 | [] => some []
 | t :: ts => match termText fp t, keyText fp ts with
   | some a, some b => some (a ++ b)
   | _, _ => none
structure StG where
 c : Array Value
 t : TypeId
 m0 : Option Nat
 m1 : Option Nat
 m2 : Option Nat
 m3 : Option Nat
 m4 : Option Nat
 fp : Option Addr → Option Value
 np : Nat
 ft : Option Addr → Option Value
 nt : Nat
 fa : ByteArray → Option Value
 na : Nat
 fo : Int × Int → Option Value
 no : Nat
 fn : Int × Option Addr → Option Value
 nn : Nat
def Tab (w : World) : Prop := Lib.TabIs Tryz.prog w "internal/strconv.uint64pow10" .u64 Lib.pow10Tab
structure StMem (w : World) (sb : Nat) (F : Nat → Prop) (G : StG) : Prop where
 hs : w.heap[sb]? = some (.cells G.c G.t (0, 0))
 tt : G.t = 87 ∨ G.t = 102
 i0 : G.c[0]? = some (.map G.m0)
 i1 : G.c[1]? = some (.map G.m1)
 i2 : G.c[2]? = some (.map G.m2)
 i3 : G.c[3]? = some (.map G.m3)
 i4 : G.c[4]? = some (.map G.m4)
 mp : MapO encP PtrOk w G.m0 G.fp G.np
 mt : MapO encP PtrOk w G.m1 G.ft G.nt
 ma : MapO encS okT w G.m2 G.fa G.na
 mo : MapO encI okT w G.m3 G.fo G.no
 mn : MapO encN okN w G.m4 G.fn G.nn
 hF : ∀ k, F k ↔ (k = sb ∨ G.m0 = some k ∨ G.m1 = some k ∨ G.m2 = some k ∨ G.m3 = some k ∨ G.m4 = some k)
 d01 : ∀ r, G.m0 = some r → G.m1 ≠ some r
 d02 : ∀ r, G.m0 = some r → G.m2 ≠ some r
 d03 : ∀ r, G.m0 = some r → G.m3 ≠ some r
 d04 : ∀ r, G.m0 = some r → G.m4 ≠ some r
 d12 : ∀ r, G.m1 = some r → G.m2 ≠ some r
 d13 : ∀ r, G.m1 = some r → G.m3 ≠ some r
 d14 : ∀ r, G.m1 = some r → G.m4 ≠ some r
 d23 : ∀ r, G.m2 = some r → G.m3 ≠ some r
 d24 : ∀ r, G.m2 = some r → G.m4 ≠ some r
 d34 : ∀ r, G.m3 = some r → G.m4 ≠ some r
 tab : Tab w
 pos : 0 < sb
 f0 : ¬ F 0
structure StInv (w : World) (F : Nat → Prop) (D : Addr → Option Int) (K : List Addr) (G : StG) : Prop where
 forest : Forest w F D
 kd : ∀ p z, D p = some z → p ∈ K
 plv : ∀ g v, G.fp g = some v → ∃ p k, g = some p ∧ p ∈ K ∧ v = .int .i64 k ∧ 0 ≤ k ∧ k < G.np ∧ ∃ z, GreatV w F p z
 pli : ∀ g g' v, G.fp g = some v → G.fp g' = some v → g = g'
 pls : ∀ k : Nat, k < G.np → ∃ p, G.fp (some p) = some (.int .i64 k)
 tk : ∀ g v, G.ft g = some v → ∃ p z s y, g = some p ∧ GreatV w F p z ∧ v = .agg #[.int .i64 s, .pointer y] ∧ ValD D s y z
 al : ∀ key v, G.fa key = some v → ∃ p z ts, v = .pointer (some p) ∧ D p = some z ∧ HasT w F p ts ∧ keyText G.fp ts = some key.toList
 la : ∀ p z, D p = some z → ∃ key ts, G.fa key = some (.pointer (some p)) ∧ HasT w F p ts ∧ keyText G.fp ts = some key.toList
 od : ∀ ij v, G.fo ij = some v → ∃ p q zp zq, G.fp (some p) = some (.int .i64 ij.1) ∧ G.fp (some q) = some (.int .i64 ij.2) ∧ GreatV w F p zp ∧ GreatV w F q zq ∧ v = .int .i64 (sgn (zp - zq))
 af : ∀ k v, G.fn k = some v → ∃ z s g, ValD D k.1 k.2 z ∧ v = .agg #[.int .i64 s, .pointer g] ∧ ValD D s g (z + 1)
theorem StMem.nf {w : World} {sb : Nat} {F : Nat → Prop} {G : StG} (h : StMem w sb F G) : G.t ≠ 113 := by rcases h.tt with e | e <;> rw [e] <;> decide
theorem StMem.lt {w : World} {sb : Nat} {F : Nat → Prop} {G : StG} (h : StMem w sb F G) : sb < w.heap.size := by
 rcases Nat.lt_or_ge sb w.heap.size with h1 | h1
 · exact h1
 · have := h.hs; simp [Array.getElem?_eq_none h1] at this
theorem MapO.lt {κ : Type} [DecidableEq κ] {enc : κ → Value} {ok : World → κ → Prop} {w : World} {m : Option Nat} {f : κ → Option Value} {n : Nat} (h : MapO enc ok w m f n) : ∀ r, m = some r → r < w.heap.size := by
 intro r hr
 subst hr
 obtain ⟨es, c, l, h1, _⟩ := h
 rcases Nat.lt_or_ge r w.heap.size with h2 | h2
 · exact h2
 · simp [Array.getElem?_eq_none h2] at h1
theorem MapO.map' {κ : Type} [DecidableEq κ] {enc : κ → Value} {ok : World → κ → Prop} {w : World} {m : Option Nat} {f : κ → Option Value} {n : Nat} (h : MapO enc ok w m f n) : ∀ r, m = some r → ∃ es cl, w.heap[r]? = some (.map es cl) := by
 intro r hr
 subst hr
 obtain ⟨es, c, l, h1, _⟩ := h
 exact ⟨es, c, h1⟩
theorem StMem.flt {w : World} {sb : Nat} {F : Nat → Prop} {G : StG} (h : StMem w sb F G) : ∀ k, F k → k < w.heap.size := by
 intro k hk
 rcases (h.hF k).1 hk with rfl | h1 | h1 | h1 | h1 | h1
 · exact h.lt
 · exact h.mp.lt k h1
 · exact h.mt.lt k h1
 · exact h.ma.lt k h1
 · exact h.mo.lt k h1
 · exact h.mn.lt k h1
theorem globTab : Tryz.prog.globalNamed "internal/strconv.uint64pow10" = some 0 := by kernel_rfl
theorem Zbd {w w' : World} (h : Tab w) (h0 : w'.heap[0]? = w.heap[0]?) : Tab w' := by
 unfold Tab Lib.TabIs World.var? at *
 simp only [globTab, Option.bind_some] at h ⊢
 rw [h0]; exact h
theorem StMem.own {w : World} {sb : Nat} {F : Nat → Prop} {G : StG} (h : StMem w sb F G) {base : Nat} {e : TypeId} {size : Nat} {v : Value} {n : Nat} {xs : List Value} (ho : w.ownsRow base e size v n xs) (h1 : e ≠ 87) (h2 : e ≠ 102) : ∀ b, v.ownBlock = some b → ¬ F b := by
 intro b hb hF
 obtain ⟨_, ho⟩ := ho
 rcases ho with ⟨rfl, _⟩ | ⟨g, cap, cur, rfl, _, hh, _⟩
 · simp [Value.ownBlock] at hb
 · simp only [Value.ownBlock, Option.some.injEq] at hb
   subst hb
   have hmap : ∀ (m : Option Nat), (∀ r, m = some r → ∃ es cl, w.heap[r]? = some (.map es cl)) → m ≠ some g := by
     intro m hm e
     obtain ⟨es, cl, x⟩ := hm g e
     rw [hh] at x; cases x
   rcases (h.hF g).1 hF with rfl | x | x | x | x | x
   · have := h.hs.symm.trans hh
     simp only [Option.some.injEq, Obj.cells.injEq] at this
     rcases h.tt with y | y
     · exact h1 (this.2.1.symm.trans y)
     · exact h2 (this.2.1.symm.trans y)
   · exact hmap _ h.mp.map' x
   · exact hmap _ h.mt.map' x
   · exact hmap _ h.ma.map' x
   · exact hmap _ h.mo.map' x
   · exact hmap _ h.mn.map' x
theorem StMem.below {w w' : World} {sb : Nat} {F : Nat → Prop} {G : StG} (h : StMem w sb F G) (hb : Below w.heap.size w w') : StMem w' sb F G :=
 { h with
   hs := (hb.block _ h.lt).trans h.hs
   mp := h.mp.keep (fun r hr => hb.block r (h.mp.lt r hr)) (Zbr hb)
   mt := h.mt.keep (fun r hr => hb.block r (h.mt.lt r hr)) (Zbr hb)
   ma := h.ma.keep (fun r hr => hb.block r (h.ma.lt r hr)) (Zdd hb)
   mo := h.mo.keep (fun r hr => hb.block r (h.mo.lt r hr)) (Zdd hb)
   mn := h.mn.keep (fun r hr => hb.block r (h.mn.lt r hr)) (Zcc hb)
   tab := Zbd h.tab (hb.block 0 (by have := h.lt; have := h.pos; omega)) }
theorem Zjk {w w' : World} (hk : ∀ (i : Nat) (o : Obj), w.heap[i]? = some o → (∀ c fz, o ≠ .cells c 5 fz) → w'.heap[i]? = some o) : ∀ k, PtrOk w k → PtrOk w' k := by
 intro k h
 rcases h with rfl | ⟨b, v, rfl, hb⟩
 · exact .inl rfl
 · exact .inr ⟨b, v, rfl, hk b _ hb (by intro c fz e; cases e)⟩
theorem StMem.kept {w w' : World} {sb : Nat} {F : Nat → Prop} {G : StG} (h : StMem w sb F G) (hk : ∀ (i : Nat) (o : Obj), w.heap[i]? = some o → (∀ c fz, o ≠ .cells c 5 fz) → w'.heap[i]? = some o) (h0 : w'.heap[0]? = w.heap[0]?) : StMem w' sb F G := by
 have hm : ∀ (m : Option Nat), (∀ r, m = some r → ∃ es cl, w.heap[r]? = some (.map es cl)) → ∀ r, m = some r → w'.heap[r]? = w.heap[r]? := by
   intro m hm r hr
   obtain ⟨es, cl, x⟩ := hm r hr
   rw [hk r _ x (by intro c fz e; cases e), x]
 exact { h with
   hs := hk _ _ h.hs (by
     intro c fz e
     injection e with _ e2
     rcases h.tt with y | y <;> (rw [y] at e2; exact absurd e2 (by decide)))
   mp := h.mp.keep (hm _ h.mp.map') (Zjk hk)
   mt := h.mt.keep (hm _ h.mt.map') (Zjk hk)
   ma := h.ma.keep (hm _ h.ma.map') (fun _ _ => trivial)
   mo := h.mo.keep (hm _ h.mo.map') (fun _ _ => trivial)
   mn := h.mn.keep (hm _ h.mn.map') (fun k hk' => Zjk hk k.2 hk')
   tab := Zbd h.tab h0 }
theorem StInv.keeps {w w' : World} {F : Nat → Prop} {D : Addr → Option Int} {K : List Addr} {G : StG} (h : StInv w F D K G) (hk : Keeps F w w') : StInv w' F D K G where
 forest := h.forest.keeps hk
 kd := h.kd
 plv := fun g v hv => by obtain ⟨p, k, a1, a2, a3, a4, a5, z, a6⟩ := h.plv g v hv; exact ⟨p, k, a1, a2, a3, a4, a5, z, a6.keeps hk⟩
 pli := h.pli
 pls := h.pls
 tk := fun g v hv => by obtain ⟨p, z, s, y, a1, a2, a3, a4⟩ := h.tk g v hv; exact ⟨p, z, s, y, a1, a2.keeps hk, a3, a4⟩
 al := fun key v hv => by obtain ⟨p, z, ts, a1, a2, a3, a4⟩ := h.al key v hv; exact ⟨p, z, ts, a1, a2, a3.keeps hk, a4⟩
 la := fun p z hp => by obtain ⟨key, ts, a1, a2, a3⟩ := h.la p z hp; exact ⟨key, ts, a1, a2.keeps hk, a3⟩
 od := fun ij v hv => by obtain ⟨p, q, zp, zq, a1, a2, a3, a4, a5⟩ := h.od ij v hv; exact ⟨p, q, zp, zq, a1, a2, a3.keeps hk, a4.keeps hk, a5⟩
 af := h.af
theorem StInv.grow {w W : World} {F F' : Nat → Prop} {D : Addr → Option Int} {K : List Addr} {G : StG} (h : StInv w F D K G) (hW : w.heap.size ≤ W.heap.size) (hF : ∀ i, F' i → F i ∨ W.heap.size ≤ i) : StInv w F' D K G where
 forest := h.forest.grow hW hF
 kd := h.kd
 plv := fun g v hv => by obtain ⟨p, k, a1, a2, a3, a4, a5, z, a6⟩ := h.plv g v hv; exact ⟨p, k, a1, a2, a3, a4, a5, z, a6.grow hW hF⟩
 pli := h.pli
 pls := h.pls
 tk := fun g v hv => by obtain ⟨p, z, s, y, a1, a2, a3, a4⟩ := h.tk g v hv; exact ⟨p, z, s, y, a1, a2.grow hW hF, a3, a4⟩
 al := fun key v hv => by obtain ⟨p, z, ts, a1, a2, a3, a4⟩ := h.al key v hv; exact ⟨p, z, ts, a1, a2, a3.grow hW hF, a4⟩
 la := fun p z hp => by obtain ⟨key, ts, a1, a2, a3⟩ := h.la p z hp; exact ⟨key, ts, a1, a2.grow hW hF, a3⟩
 od := fun ij v hv => by obtain ⟨p, q, zp, zq, a1, a2, a3, a4, a5⟩ := h.od ij v hv; exact ⟨p, q, zp, zq, a1, a2, a3.grow hW hF, a4.grow hW hF, a5⟩
 af := h.af
theorem RowF.shrink {w : World} {F F' : Nat → Prop} {size : Nat} {v : Value} {n : Nat} {xs : List Value} (h : RowF w F size v n xs) (hF : ∀ i, F' i → F i) : RowF w F' size v n xs := ⟨h.1, fun b hb hf => h.2 b hb (hF b hf)⟩
theorem Forest.shrink {w : World} {F F' : Nat → Prop} {D : Addr → Option Int} (h : Forest w F D) (hF : ∀ i, F' i → F i) : Forest w F' D :=
 ⟨h.great, fun p z hp => by
   obtain ⟨b, v, ts, rfl, h1, h2, h3, h4, h5⟩ := h.form p z hp
   exact ⟨b, v, ts, rfl, h1, fun hf => h2 (hF b hf), h3, h4.shrink hF, h5⟩, h.inj⟩
theorem GreatV.shrink {w : World} {F F' : Nat → Prop} {p : Addr} {z : Int} (h : GreatV w F p z) (hF : ∀ i, F' i → F i) : GreatV w F' p z := by
 obtain ⟨D, hf, hp⟩ := h
 exact ⟨D, hf.shrink hF, hp⟩
theorem HasT.shrink {w : World} {F F' : Nat → Prop} {p : Addr} {ts : List TV} (h : HasT w F p ts) (hF : ∀ i, F' i → F i) : HasT w F' p ts := by
 obtain ⟨b, v, rfl, h1, h2, h3, h4⟩ := h
 exact ⟨b, v, rfl, h1, fun hf => h2 (hF b hf), h3, h4.shrink hF⟩
theorem StInv.shrink {w : World} {F F' : Nat → Prop} {D : Addr → Option Int} {K : List Addr} {G : StG} (h : StInv w F D K G) (hF : ∀ i, F' i → F i) : StInv w F' D K G where
 forest := h.forest.shrink hF
 kd := h.kd
 plv := fun g v hv => by obtain ⟨p, k, a1, a2, a3, a4, a5, z, a6⟩ := h.plv g v hv; exact ⟨p, k, a1, a2, a3, a4, a5, z, a6.shrink hF⟩
 pli := h.pli
 pls := h.pls
 tk := fun g v hv => by obtain ⟨p, z, s, y, a1, a2, a3, a4⟩ := h.tk g v hv; exact ⟨p, z, s, y, a1, a2.shrink hF, a3, a4⟩
 al := fun key v hv => by obtain ⟨p, z, ts, a1, a2, a3, a4⟩ := h.al key v hv; exact ⟨p, z, ts, a1, a2, a3.shrink hF, a4⟩
 la := fun p z hp => by obtain ⟨key, ts, a1, a2, a3⟩ := h.la p z hp; exact ⟨key, ts, a1, a2.shrink hF, a3⟩
 od := fun ij v hv => by obtain ⟨p, q, zp, zq, a1, a2, a3, a4, a5⟩ := h.od ij v hv; exact ⟨p, q, zp, zq, a1, a2, a3.shrink hF, a4.shrink hF, a5⟩
 af := h.af
def hot (H F : Nat → Prop) : Nat → Prop := fun k => H k ∨ F k
theorem Zeb {w w' : World} {sb : Nat} {c : Array Value} {t : TypeId} {m : Option Nat} (hs : w.heap[sb]? = some (.cells c t (0, 0))) (nf : t ≠ 113) (hm : ∀ r, m = some r → ∃ es cl, w.heap[r]? = some (.map es cl))
   (hk : Keeps (fun k => k = sb ∨ m = some k) w w') : ∀ k, PtrOk w k → PtrOk w' k := by
 intro k h
 rcases h with rfl | ⟨b, v, rfl, hb⟩
 · exact .inl rfl
 · refine .inr ⟨b, v, rfl, (hk.block b ?_ ?_).trans hb⟩
   · rcases Nat.lt_or_ge b w.heap.size with h | h
     · exact h
     · simp [Array.getElem?_eq_none h] at hb
   · rintro (rfl | h)
     · rw [hs] at hb; cases hb; exact nf rfl
     · obtain ⟨es, cl, h2⟩ := hm b h; rw [h2] at hb; cases hb
theorem MapO.map {κ : Type} [DecidableEq κ] {enc : κ → Value} {ok : World → κ → Prop} {w : World} {m : Option Nat} {f : κ → Option Value} {n : Nat} (h : MapO enc ok w m f n) : ∀ r, m = some r → ∃ es cl, w.heap[r]? = some (.map es cl) := by
 intro r hr
 subst hr
 obtain ⟨es, c, l, h1, _⟩ := h
 exact ⟨es, c, h1⟩
theorem StMem.note0 {w w' : World} {sb : Nat} {F : Nat → Prop} {G : StG} (h : StMem w sb F G) {f : Option Addr → Option Value} {n : Nat} (hn : Noted encP PtrOk w w' sb 0 G.c G.t G.m0 f n) :
   ∃ r, StMem w' sb (fun k => F k ∨ k = r) { G with c := G.c.setIfInBounds 0 (.map (some r)), m0 := some r, fp := f, np := n } ∧ Keeps F w w' ∧ (∀ k, (F k ∨ k = r) → F k ∨ w.heap.size ≤ k) := by
 obtain ⟨r, h1, h2, h3, h4⟩ := hn
 have hp := Zeb h.hs h.nf h.mp.map h4
 have hsub : ∀ k, (k = sb ∨ G.m0 = some k) → F k := fun k hk => (h.hF k).2 (by rcases hk with hk | hk <;> simp [hk])
 have hk : Keeps F w w' := ⟨h4.os, h4.tape, h4.output, h4.size, fun k a b => h4.block k a (fun c => b (hsub k c))⟩
 have hr : F r ∨ w.heap.size ≤ r := by rcases h3 with h3 | h3; exact .inl (hsub r (.inr h3)); exact .inr h3.2
 have hrs : r ≠ sb := by rintro rfl; obtain ⟨es, cl, l, e, _⟩ := h2; rw [h1] at e; cases e
 have k1 : ∀ q, G.m1 = some q → w'.heap[q]? = w.heap[q]? := fun q hq => h4.block q (h.mt.lt q hq) (by rintro (e | e); exact absurd (h.mt.map q hq) (by rintro ⟨es, cl, x⟩; rw [e, h.hs] at x; cases x); exact h.d01 q e hq)
 have n1 : ∀ q, G.m1 = some q → r ≠ q := by intro q hq e; subst e; rcases h3 with h3 | h3; exact h.d01 r h3 hq; have := h.mt.lt r hq; omega
 have k2 : ∀ q, G.m2 = some q → w'.heap[q]? = w.heap[q]? := fun q hq => h4.block q (h.ma.lt q hq) (by rintro (e | e); exact absurd (h.ma.map q hq) (by rintro ⟨es, cl, x⟩; rw [e, h.hs] at x; cases x); exact h.d02 q e hq)
 have n2 : ∀ q, G.m2 = some q → r ≠ q := by intro q hq e; subst e; rcases h3 with h3 | h3; exact h.d02 r h3 hq; have := h.ma.lt r hq; omega
 have k3 : ∀ q, G.m3 = some q → w'.heap[q]? = w.heap[q]? := fun q hq => h4.block q (h.mo.lt q hq) (by rintro (e | e); exact absurd (h.mo.map q hq) (by rintro ⟨es, cl, x⟩; rw [e, h.hs] at x; cases x); exact h.d03 q e hq)
 have n3 : ∀ q, G.m3 = some q → r ≠ q := by intro q hq e; subst e; rcases h3 with h3 | h3; exact h.d03 r h3 hq; have := h.mo.lt r hq; omega
 have k4 : ∀ q, G.m4 = some q → w'.heap[q]? = w.heap[q]? := fun q hq => h4.block q (h.mn.lt q hq) (by rintro (e | e); exact absurd (h.mn.map q hq) (by rintro ⟨es, cl, x⟩; rw [e, h.hs] at x; cases x); exact h.d04 q e hq)
 have n4 : ∀ q, G.m4 = some q → r ≠ q := by intro q hq e; subst e; rcases h3 with h3 | h3; exact h.d04 r h3 hq; have := h.mn.lt r hq; omega
 have g : ∀ v : Value, ∀ j, j ≠ 0 → (G.c.setIfInBounds 0 v)[j]? = G.c[j]? := fun v j hj => Array.getElem?_setIfInBounds_ne (fun e => hj e.symm)
 have gi : (G.c.setIfInBounds 0 (.map (some r)))[0]? = some (.map (some r)) := by
   have : 0 < G.c.size := by
     rcases Nat.lt_or_ge 0 G.c.size with x | x
     · exact x
     · have := h.i0; simp [Array.getElem?_eq_none x] at this
   simp [this]
 refine ⟨r, ⟨h1, h.tt, gi, (g _ 1 (by decide)).trans h.i1, (g _ 2 (by decide)).trans h.i2, (g _ 3 (by decide)).trans h.i3, (g _ 4 (by decide)).trans h.i4,
   h2, h.mt.keep k1 hp, h.ma.keep k2 (fun _ _ => trivial), h.mo.keep k3 (fun _ _ => trivial), h.mn.keep k4 (fun k h => hp k.2 h),
   fun k => ?_,
   (fun q e e2 => n1 q e2 (Option.some.inj e)), (fun q e e2 => n2 q e2 (Option.some.inj e)), (fun q e e2 => n3 q e2 (Option.some.inj e)), (fun q e e2 => n4 q e2 (Option.some.inj e)), h.d12, h.d13, h.d14, h.d23, h.d24, h.d34,
   Zbd h.tab (h4.block 0 (by have := h.lt; have := h.pos; omega) (fun e => h.f0 (hsub 0 e))), h.pos, ?_⟩, hk, ?_⟩
 · have := h.hF k
   simp only [Option.some.injEq]
   constructor
   · rintro (x | x)
     · rcases this.1 x with x | x | x | x | x | x
       · simp [x]
       · rcases h3 with h3 | h3
         · rw [h3] at x; simp [Option.some.inj x]
         · rw [h3.1] at x; cases x
       · simp [x]
       · simp [x]
       · simp [x]
       · simp [x]
     · exact .inr (.inl x.symm)
   · rintro (x | x | x | x | x | x)
     · exact .inl (this.2 (by simp [x]))
     · exact .inr x.symm
     · exact .inl (this.2 (by simp [x]))
     · exact .inl (this.2 (by simp [x]))
     · exact .inl (this.2 (by simp [x]))
     · exact .inl (this.2 (by simp [x]))
 · rintro (x | x)
   · exact h.f0 x
   · rcases hr with y | y
     · exact h.f0 (x ▸ y)
     · have := h.lt; have := h.pos; omega
 · intro k x
   rcases x with x | x
   · exact .inl x
   · rw [x]; exact hr
theorem StMem.note1 {w w' : World} {sb : Nat} {F : Nat → Prop} {G : StG} (h : StMem w sb F G) {f : Option Addr → Option Value} {n : Nat} (hn : Noted encP PtrOk w w' sb 1 G.c G.t G.m1 f n) :
   ∃ r, StMem w' sb (fun k => F k ∨ k = r) { G with c := G.c.setIfInBounds 1 (.map (some r)), m1 := some r, ft := f, nt := n } ∧ Keeps F w w' ∧ (∀ k, (F k ∨ k = r) → F k ∨ w.heap.size ≤ k) := by
 obtain ⟨r, h1, h2, h3, h4⟩ := hn
 have hp := Zeb h.hs h.nf h.mt.map h4
 have hsub : ∀ k, (k = sb ∨ G.m1 = some k) → F k := fun k hk => (h.hF k).2 (by rcases hk with hk | hk <;> simp [hk])
 have hk : Keeps F w w' := ⟨h4.os, h4.tape, h4.output, h4.size, fun k a b => h4.block k a (fun c => b (hsub k c))⟩
 have hr : F r ∨ w.heap.size ≤ r := by rcases h3 with h3 | h3; exact .inl (hsub r (.inr h3)); exact .inr h3.2
 have hrs : r ≠ sb := by rintro rfl; obtain ⟨es, cl, l, e, _⟩ := h2; rw [h1] at e; cases e
 have k0 : ∀ q, G.m0 = some q → w'.heap[q]? = w.heap[q]? := fun q hq => h4.block q (h.mp.lt q hq) (by rintro (e | e); exact absurd (h.mp.map q hq) (by rintro ⟨es, cl, x⟩; rw [e, h.hs] at x; cases x); exact h.d01 q hq e)
 have n0 : ∀ q, G.m0 = some q → r ≠ q := by intro q hq e; subst e; rcases h3 with h3 | h3; exact h.d01 r hq h3; have := h.mp.lt r hq; omega
 have k2 : ∀ q, G.m2 = some q → w'.heap[q]? = w.heap[q]? := fun q hq => h4.block q (h.ma.lt q hq) (by rintro (e | e); exact absurd (h.ma.map q hq) (by rintro ⟨es, cl, x⟩; rw [e, h.hs] at x; cases x); exact h.d12 q e hq)
 have n2 : ∀ q, G.m2 = some q → r ≠ q := by intro q hq e; subst e; rcases h3 with h3 | h3; exact h.d12 r h3 hq; have := h.ma.lt r hq; omega
 have k3 : ∀ q, G.m3 = some q → w'.heap[q]? = w.heap[q]? := fun q hq => h4.block q (h.mo.lt q hq) (by rintro (e | e); exact absurd (h.mo.map q hq) (by rintro ⟨es, cl, x⟩; rw [e, h.hs] at x; cases x); exact h.d13 q e hq)
 have n3 : ∀ q, G.m3 = some q → r ≠ q := by intro q hq e; subst e; rcases h3 with h3 | h3; exact h.d13 r h3 hq; have := h.mo.lt r hq; omega
 have k4 : ∀ q, G.m4 = some q → w'.heap[q]? = w.heap[q]? := fun q hq => h4.block q (h.mn.lt q hq) (by rintro (e | e); exact absurd (h.mn.map q hq) (by rintro ⟨es, cl, x⟩; rw [e, h.hs] at x; cases x); exact h.d14 q e hq)
 have n4 : ∀ q, G.m4 = some q → r ≠ q := by intro q hq e; subst e; rcases h3 with h3 | h3; exact h.d14 r h3 hq; have := h.mn.lt r hq; omega
 have g : ∀ v : Value, ∀ j, j ≠ 1 → (G.c.setIfInBounds 1 v)[j]? = G.c[j]? := fun v j hj => Array.getElem?_setIfInBounds_ne (fun e => hj e.symm)
 have gi : (G.c.setIfInBounds 1 (.map (some r)))[1]? = some (.map (some r)) := by
   have : 1 < G.c.size := by
     rcases Nat.lt_or_ge 1 G.c.size with x | x
     · exact x
     · have := h.i1; simp [Array.getElem?_eq_none x] at this
   simp [this]
 refine ⟨r, ⟨h1, h.tt, (g _ 0 (by decide)).trans h.i0, gi, (g _ 2 (by decide)).trans h.i2, (g _ 3 (by decide)).trans h.i3, (g _ 4 (by decide)).trans h.i4,
   h.mp.keep k0 hp, h2, h.ma.keep k2 (fun _ _ => trivial), h.mo.keep k3 (fun _ _ => trivial), h.mn.keep k4 (fun k h => hp k.2 h),
   fun k => ?_,
   (fun q e e2 => n0 q e (Option.some.inj e2)), h.d02, h.d03, h.d04, (fun q e e2 => n2 q e2 (Option.some.inj e)), (fun q e e2 => n3 q e2 (Option.some.inj e)), (fun q e e2 => n4 q e2 (Option.some.inj e)), h.d23, h.d24, h.d34,
   Zbd h.tab (h4.block 0 (by have := h.lt; have := h.pos; omega) (fun e => h.f0 (hsub 0 e))), h.pos, ?_⟩, hk, ?_⟩
 · have := h.hF k
   simp only [Option.some.injEq]
   constructor
   · rintro (x | x)
     · rcases this.1 x with x | x | x | x | x | x
       · simp [x]
       · simp [x]
       · rcases h3 with h3 | h3
         · rw [h3] at x; simp [Option.some.inj x]
         · rw [h3.1] at x; cases x
       · simp [x]
       · simp [x]
       · simp [x]
     · exact .inr (.inr (.inl x.symm))
   · rintro (x | x | x | x | x | x)
     · exact .inl (this.2 (by simp [x]))
     · exact .inl (this.2 (by simp [x]))
     · exact .inr x.symm
     · exact .inl (this.2 (by simp [x]))
     · exact .inl (this.2 (by simp [x]))
     · exact .inl (this.2 (by simp [x]))
 · rintro (x | x)
   · exact h.f0 x
   · rcases hr with y | y
     · exact h.f0 (x ▸ y)
     · have := h.lt; have := h.pos; omega
 · intro k x
   rcases x with x | x
   · exact .inl x
   · rw [x]; exact hr
theorem StMem.note2 {w w' : World} {sb : Nat} {F : Nat → Prop} {G : StG} (h : StMem w sb F G) {f : ByteArray → Option Value} {n : Nat} (hn : Noted encS okT w w' sb 2 G.c G.t G.m2 f n) :
   ∃ r, StMem w' sb (fun k => F k ∨ k = r) { G with c := G.c.setIfInBounds 2 (.map (some r)), m2 := some r, fa := f, na := n } ∧ Keeps F w w' ∧ (∀ k, (F k ∨ k = r) → F k ∨ w.heap.size ≤ k) := by
 obtain ⟨r, h1, h2, h3, h4⟩ := hn
 have hp := Zeb h.hs h.nf h.ma.map h4
 have hsub : ∀ k, (k = sb ∨ G.m2 = some k) → F k := fun k hk => (h.hF k).2 (by rcases hk with hk | hk <;> simp [hk])
 have hk : Keeps F w w' := ⟨h4.os, h4.tape, h4.output, h4.size, fun k a b => h4.block k a (fun c => b (hsub k c))⟩
 have hr : F r ∨ w.heap.size ≤ r := by rcases h3 with h3 | h3; exact .inl (hsub r (.inr h3)); exact .inr h3.2
 have hrs : r ≠ sb := by rintro rfl; obtain ⟨es, cl, l, e, _⟩ := h2; rw [h1] at e; cases e
 have k0 : ∀ q, G.m0 = some q → w'.heap[q]? = w.heap[q]? := fun q hq => h4.block q (h.mp.lt q hq) (by rintro (e | e); exact absurd (h.mp.map q hq) (by rintro ⟨es, cl, x⟩; rw [e, h.hs] at x; cases x); exact h.d02 q hq e)
 have n0 : ∀ q, G.m0 = some q → r ≠ q := by intro q hq e; subst e; rcases h3 with h3 | h3; exact h.d02 r hq h3; have := h.mp.lt r hq; omega
 have k1 : ∀ q, G.m1 = some q → w'.heap[q]? = w.heap[q]? := fun q hq => h4.block q (h.mt.lt q hq) (by rintro (e | e); exact absurd (h.mt.map q hq) (by rintro ⟨es, cl, x⟩; rw [e, h.hs] at x; cases x); exact h.d12 q hq e)
 have n1 : ∀ q, G.m1 = some q → r ≠ q := by intro q hq e; subst e; rcases h3 with h3 | h3; exact h.d12 r hq h3; have := h.mt.lt r hq; omega
 have k3 : ∀ q, G.m3 = some q → w'.heap[q]? = w.heap[q]? := fun q hq => h4.block q (h.mo.lt q hq) (by rintro (e | e); exact absurd (h.mo.map q hq) (by rintro ⟨es, cl, x⟩; rw [e, h.hs] at x; cases x); exact h.d23 q e hq)
 have n3 : ∀ q, G.m3 = some q → r ≠ q := by intro q hq e; subst e; rcases h3 with h3 | h3; exact h.d23 r h3 hq; have := h.mo.lt r hq; omega
 have k4 : ∀ q, G.m4 = some q → w'.heap[q]? = w.heap[q]? := fun q hq => h4.block q (h.mn.lt q hq) (by rintro (e | e); exact absurd (h.mn.map q hq) (by rintro ⟨es, cl, x⟩; rw [e, h.hs] at x; cases x); exact h.d24 q e hq)
 have n4 : ∀ q, G.m4 = some q → r ≠ q := by intro q hq e; subst e; rcases h3 with h3 | h3; exact h.d24 r h3 hq; have := h.mn.lt r hq; omega
 have g : ∀ v : Value, ∀ j, j ≠ 2 → (G.c.setIfInBounds 2 v)[j]? = G.c[j]? := fun v j hj => Array.getElem?_setIfInBounds_ne (fun e => hj e.symm)
 have gi : (G.c.setIfInBounds 2 (.map (some r)))[2]? = some (.map (some r)) := by
   have : 2 < G.c.size := by
     rcases Nat.lt_or_ge 2 G.c.size with x | x
     · exact x
     · have := h.i2; simp [Array.getElem?_eq_none x] at this
   simp [this]
 refine ⟨r, ⟨h1, h.tt, (g _ 0 (by decide)).trans h.i0, (g _ 1 (by decide)).trans h.i1, gi, (g _ 3 (by decide)).trans h.i3, (g _ 4 (by decide)).trans h.i4,
   h.mp.keep k0 hp, h.mt.keep k1 hp, h2, h.mo.keep k3 (fun _ _ => trivial), h.mn.keep k4 (fun k h => hp k.2 h),
   fun k => ?_,
   h.d01, (fun q e e2 => n0 q e (Option.some.inj e2)), h.d03, h.d04, (fun q e e2 => n1 q e (Option.some.inj e2)), h.d13, h.d14, (fun q e e2 => n3 q e2 (Option.some.inj e)), (fun q e e2 => n4 q e2 (Option.some.inj e)), h.d34,
   Zbd h.tab (h4.block 0 (by have := h.lt; have := h.pos; omega) (fun e => h.f0 (hsub 0 e))), h.pos, ?_⟩, hk, ?_⟩
 · have := h.hF k
   simp only [Option.some.injEq]
   constructor
   · rintro (x | x)
     · rcases this.1 x with x | x | x | x | x | x
       · simp [x]
       · simp [x]
       · simp [x]
       · rcases h3 with h3 | h3
         · rw [h3] at x; simp [Option.some.inj x]
         · rw [h3.1] at x; cases x
       · simp [x]
       · simp [x]
     · exact .inr (.inr (.inr (.inl x.symm)))
   · rintro (x | x | x | x | x | x)
     · exact .inl (this.2 (by simp [x]))
     · exact .inl (this.2 (by simp [x]))
     · exact .inl (this.2 (by simp [x]))
     · exact .inr x.symm
     · exact .inl (this.2 (by simp [x]))
     · exact .inl (this.2 (by simp [x]))
 · rintro (x | x)
   · exact h.f0 x
   · rcases hr with y | y
     · exact h.f0 (x ▸ y)
     · have := h.lt; have := h.pos; omega
 · intro k x
   rcases x with x | x
   · exact .inl x
   · rw [x]; exact hr
theorem StMem.note3 {w w' : World} {sb : Nat} {F : Nat → Prop} {G : StG} (h : StMem w sb F G) {f : Int × Int → Option Value} {n : Nat} (hn : Noted encI okT w w' sb 3 G.c G.t G.m3 f n) :
   ∃ r, StMem w' sb (fun k => F k ∨ k = r) { G with c := G.c.setIfInBounds 3 (.map (some r)), m3 := some r, fo := f, no := n } ∧ Keeps F w w' ∧ (∀ k, (F k ∨ k = r) → F k ∨ w.heap.size ≤ k) := by
 obtain ⟨r, h1, h2, h3, h4⟩ := hn
 have hp := Zeb h.hs h.nf h.mo.map h4
 have hsub : ∀ k, (k = sb ∨ G.m3 = some k) → F k := fun k hk => (h.hF k).2 (by rcases hk with hk | hk <;> simp [hk])
 have hk : Keeps F w w' := ⟨h4.os, h4.tape, h4.output, h4.size, fun k a b => h4.block k a (fun c => b (hsub k c))⟩
 have hr : F r ∨ w.heap.size ≤ r := by rcases h3 with h3 | h3; exact .inl (hsub r (.inr h3)); exact .inr h3.2
 have hrs : r ≠ sb := by rintro rfl; obtain ⟨es, cl, l, e, _⟩ := h2; rw [h1] at e; cases e
 have k0 : ∀ q, G.m0 = some q → w'.heap[q]? = w.heap[q]? := fun q hq => h4.block q (h.mp.lt q hq) (by rintro (e | e); exact absurd (h.mp.map q hq) (by rintro ⟨es, cl, x⟩; rw [e, h.hs] at x; cases x); exact h.d03 q hq e)
 have n0 : ∀ q, G.m0 = some q → r ≠ q := by intro q hq e; subst e; rcases h3 with h3 | h3; exact h.d03 r hq h3; have := h.mp.lt r hq; omega
 have k1 : ∀ q, G.m1 = some q → w'.heap[q]? = w.heap[q]? := fun q hq => h4.block q (h.mt.lt q hq) (by rintro (e | e); exact absurd (h.mt.map q hq) (by rintro ⟨es, cl, x⟩; rw [e, h.hs] at x; cases x); exact h.d13 q hq e)
 have n1 : ∀ q, G.m1 = some q → r ≠ q := by intro q hq e; subst e; rcases h3 with h3 | h3; exact h.d13 r hq h3; have := h.mt.lt r hq; omega
 have k2 : ∀ q, G.m2 = some q → w'.heap[q]? = w.heap[q]? := fun q hq => h4.block q (h.ma.lt q hq) (by rintro (e | e); exact absurd (h.ma.map q hq) (by rintro ⟨es, cl, x⟩; rw [e, h.hs] at x; cases x); exact h.d23 q hq e)
 have n2 : ∀ q, G.m2 = some q → r ≠ q := by intro q hq e; subst e; rcases h3 with h3 | h3; exact h.d23 r hq h3; have := h.ma.lt r hq; omega
 have k4 : ∀ q, G.m4 = some q → w'.heap[q]? = w.heap[q]? := fun q hq => h4.block q (h.mn.lt q hq) (by rintro (e | e); exact absurd (h.mn.map q hq) (by rintro ⟨es, cl, x⟩; rw [e, h.hs] at x; cases x); exact h.d34 q e hq)
 have n4 : ∀ q, G.m4 = some q → r ≠ q := by intro q hq e; subst e; rcases h3 with h3 | h3; exact h.d34 r h3 hq; have := h.mn.lt r hq; omega
 have g : ∀ v : Value, ∀ j, j ≠ 3 → (G.c.setIfInBounds 3 v)[j]? = G.c[j]? := fun v j hj => Array.getElem?_setIfInBounds_ne (fun e => hj e.symm)
 have gi : (G.c.setIfInBounds 3 (.map (some r)))[3]? = some (.map (some r)) := by
   have : 3 < G.c.size := by
     rcases Nat.lt_or_ge 3 G.c.size with x | x
     · exact x
     · have := h.i3; simp [Array.getElem?_eq_none x] at this
   simp [this]
 refine ⟨r, ⟨h1, h.tt, (g _ 0 (by decide)).trans h.i0, (g _ 1 (by decide)).trans h.i1, (g _ 2 (by decide)).trans h.i2, gi, (g _ 4 (by decide)).trans h.i4,
   h.mp.keep k0 hp, h.mt.keep k1 hp, h.ma.keep k2 (fun _ _ => trivial), h2, h.mn.keep k4 (fun k h => hp k.2 h),
   fun k => ?_,
   h.d01, h.d02, (fun q e e2 => n0 q e (Option.some.inj e2)), h.d04, h.d12, (fun q e e2 => n1 q e (Option.some.inj e2)), h.d14, (fun q e e2 => n2 q e (Option.some.inj e2)), h.d24, (fun q e e2 => n4 q e2 (Option.some.inj e)),
   Zbd h.tab (h4.block 0 (by have := h.lt; have := h.pos; omega) (fun e => h.f0 (hsub 0 e))), h.pos, ?_⟩, hk, ?_⟩
 · have := h.hF k
   simp only [Option.some.injEq]
   constructor
   · rintro (x | x)
     · rcases this.1 x with x | x | x | x | x | x
       · simp [x]
       · simp [x]
       · simp [x]
       · simp [x]
       · rcases h3 with h3 | h3
         · rw [h3] at x; simp [Option.some.inj x]
         · rw [h3.1] at x; cases x
       · simp [x]
     · exact .inr (.inr (.inr (.inr (.inl x.symm))))
   · rintro (x | x | x | x | x | x)
     · exact .inl (this.2 (by simp [x]))
     · exact .inl (this.2 (by simp [x]))
     · exact .inl (this.2 (by simp [x]))
     · exact .inl (this.2 (by simp [x]))
     · exact .inr x.symm
     · exact .inl (this.2 (by simp [x]))
 · rintro (x | x)
   · exact h.f0 x
   · rcases hr with y | y
     · exact h.f0 (x ▸ y)
     · have := h.lt; have := h.pos; omega
 · intro k x
   rcases x with x | x
   · exact .inl x
   · rw [x]; exact hr
theorem StMem.note4 {w w' : World} {sb : Nat} {F : Nat → Prop} {G : StG} (h : StMem w sb F G) {f : Int × Option Addr → Option Value} {n : Nat} (hn : Noted encN okN w w' sb 4 G.c G.t G.m4 f n) :
   ∃ r, StMem w' sb (fun k => F k ∨ k = r) { G with c := G.c.setIfInBounds 4 (.map (some r)), m4 := some r, fn := f, nn := n } ∧ Keeps F w w' ∧ (∀ k, (F k ∨ k = r) → F k ∨ w.heap.size ≤ k) := by
 obtain ⟨r, h1, h2, h3, h4⟩ := hn
 have hp := Zeb h.hs h.nf h.mn.map h4
 have hsub : ∀ k, (k = sb ∨ G.m4 = some k) → F k := fun k hk => (h.hF k).2 (by rcases hk with hk | hk <;> simp [hk])
 have hk : Keeps F w w' := ⟨h4.os, h4.tape, h4.output, h4.size, fun k a b => h4.block k a (fun c => b (hsub k c))⟩
 have hr : F r ∨ w.heap.size ≤ r := by rcases h3 with h3 | h3; exact .inl (hsub r (.inr h3)); exact .inr h3.2
 have hrs : r ≠ sb := by rintro rfl; obtain ⟨es, cl, l, e, _⟩ := h2; rw [h1] at e; cases e
 have k0 : ∀ q, G.m0 = some q → w'.heap[q]? = w.heap[q]? := fun q hq => h4.block q (h.mp.lt q hq) (by rintro (e | e); exact absurd (h.mp.map q hq) (by rintro ⟨es, cl, x⟩; rw [e, h.hs] at x; cases x); exact h.d04 q hq e)
 have n0 : ∀ q, G.m0 = some q → r ≠ q := by intro q hq e; subst e; rcases h3 with h3 | h3; exact h.d04 r hq h3; have := h.mp.lt r hq; omega
 have k1 : ∀ q, G.m1 = some q → w'.heap[q]? = w.heap[q]? := fun q hq => h4.block q (h.mt.lt q hq) (by rintro (e | e); exact absurd (h.mt.map q hq) (by rintro ⟨es, cl, x⟩; rw [e, h.hs] at x; cases x); exact h.d14 q hq e)
 have n1 : ∀ q, G.m1 = some q → r ≠ q := by intro q hq e; subst e; rcases h3 with h3 | h3; exact h.d14 r hq h3; have := h.mt.lt r hq; omega
 have k2 : ∀ q, G.m2 = some q → w'.heap[q]? = w.heap[q]? := fun q hq => h4.block q (h.ma.lt q hq) (by rintro (e | e); exact absurd (h.ma.map q hq) (by rintro ⟨es, cl, x⟩; rw [e, h.hs] at x; cases x); exact h.d24 q hq e)
 have n2 : ∀ q, G.m2 = some q → r ≠ q := by intro q hq e; subst e; rcases h3 with h3 | h3; exact h.d24 r hq h3; have := h.ma.lt r hq; omega
 have k3 : ∀ q, G.m3 = some q → w'.heap[q]? = w.heap[q]? := fun q hq => h4.block q (h.mo.lt q hq) (by rintro (e | e); exact absurd (h.mo.map q hq) (by rintro ⟨es, cl, x⟩; rw [e, h.hs] at x; cases x); exact h.d34 q hq e)
 have n3 : ∀ q, G.m3 = some q → r ≠ q := by intro q hq e; subst e; rcases h3 with h3 | h3; exact h.d34 r hq h3; have := h.mo.lt r hq; omega
 have g : ∀ v : Value, ∀ j, j ≠ 4 → (G.c.setIfInBounds 4 v)[j]? = G.c[j]? := fun v j hj => Array.getElem?_setIfInBounds_ne (fun e => hj e.symm)
 have gi : (G.c.setIfInBounds 4 (.map (some r)))[4]? = some (.map (some r)) := by
   have : 4 < G.c.size := by
     rcases Nat.lt_or_ge 4 G.c.size with x | x
     · exact x
     · have := h.i4; simp [Array.getElem?_eq_none x] at this
   simp [this]
 refine ⟨r, ⟨h1, h.tt, (g _ 0 (by decide)).trans h.i0, (g _ 1 (by decide)).trans h.i1, (g _ 2 (by decide)).trans h.i2, (g _ 3 (by decide)).trans h.i3, gi,
   h.mp.keep k0 hp, h.mt.keep k1 hp, h.ma.keep k2 (fun _ _ => trivial), h.mo.keep k3 (fun _ _ => trivial), h2,
   fun k => ?_,
   h.d01, h.d02, h.d03, (fun q e e2 => n0 q e (Option.some.inj e2)), h.d12, h.d13, (fun q e e2 => n1 q e (Option.some.inj e2)), h.d23, (fun q e e2 => n2 q e (Option.some.inj e2)), (fun q e e2 => n3 q e (Option.some.inj e2)),
   Zbd h.tab (h4.block 0 (by have := h.lt; have := h.pos; omega) (fun e => h.f0 (hsub 0 e))), h.pos, ?_⟩, hk, ?_⟩
 · have := h.hF k
   simp only [Option.some.injEq]
   constructor
   · rintro (x | x)
     · rcases this.1 x with x | x | x | x | x | x
       · simp [x]
       · simp [x]
       · simp [x]
       · simp [x]
       · simp [x]
       · rcases h3 with h3 | h3
         · rw [h3] at x; simp [Option.some.inj x]
         · rw [h3.1] at x; cases x
     · exact .inr (.inr (.inr (.inr (.inr ( x.symm)))))
   · rintro (x | x | x | x | x | x)
     · exact .inl (this.2 (by simp [x]))
     · exact .inl (this.2 (by simp [x]))
     · exact .inl (this.2 (by simp [x]))
     · exact .inl (this.2 (by simp [x]))
     · exact .inl (this.2 (by simp [x]))
     · exact .inr x.symm
 · rintro (x | x)
   · exact h.f0 x
   · rcases hr with y | y
     · exact h.f0 (x ▸ y)
     · have := h.lt; have := h.pos; omega
 · intro k x
   rcases x with x | x
   · exact .inl x
   · rw [x]; exact hr
end
section
open Go.RowKit
theorem MapO.lookup {P : Program} {t kt et : TypeId} {κ : Type} [DecidableEq κ] {enc : κ → Value} {ok : World → κ → Prop} (K : KeyT P kt enc ok) (ht : P.underlying t = some (.map kt et)) {z : Value} (hz : ∀ W, (zeroValue et).run P W = .ok z W)
   {w : World} {m : Option Nat} {f : κ → Option Value} {n : Nat} (h : MapO enc ok w m f n) (k : κ) (hk : ok w k) :
   (Instr.lookup t (.map m) (enc k) true).run P w = .ok (.tuple #[(f k).getD z, .bool (f k).isSome]) w := by
 cases m with
 | none => obtain ⟨rfl, rfl⟩ := h; exact Zng K ht hz w k hk
 | some r => exact MapFn.lookup K ht hz h k hk
theorem MapO.len {P : Program} {t kt et : TypeId} {κ : Type} [DecidableEq κ] {enc : κ → Value} {ok : World → κ → Prop} (ht : P.underlying t = some (.map kt et))
   {w : World} {m : Option Nat} {f : κ → Option Value} {n : Nat} (h : MapO enc ok w m f n) (ty : TypeId) :
   (Builtin.len_ #[t] ty #[.map m]).run P w = .ok (.int .i64 n) w := by
 cases m with
 | none => obtain ⟨rfl, rfl⟩ := h; simp [Builtin.len_, run_underlying ht, goInt]
 | some r =>
   obtain ⟨es, cl, l, h1, h2, h3, _⟩ := h
   have hg : (getObj r).run P w = .ok (.map es cl) w := by simp [getObj, Sem.run, h1]
   have hl : es.size = n := by
     have := congrArg List.length h2
     simp at this; omega
   simp [Builtin.len_, run_underlying ht, hg, goInt, hl]
theorem Zmp {α : Type} [DecidableEq α] : ∀ (l K : List α), l.Nodup → (∀ p ∈ l, p ∈ K) → l.length ≤ K.length
 | [], _, _, _ => by simp
 | a :: l, K, h, hs => by
   have ha := hs a (List.mem_cons_self ..)
   have h1 := List.nodup_cons.1 h
   have := Zmp l (K.erase a) h1.2 (fun p hp => (List.mem_erase_of_ne (by rintro rfl; exact h1.1 hp)).2 (hs p (List.mem_cons_of_mem _ hp)))
   rw [List.length_erase_of_mem ha] at this
   have : 0 < K.length := List.length_pos_of_mem ha
   simp only [List.length_cons]; omega
theorem np_le {w : World} {F : Nat → Prop} {D : Addr → Option Int} {K : List Addr} {G : StG} (h : StInv w F D K G) : G.np ≤ K.length := by
 by_cases h0 : G.np ≤ K.length
 · exact h0
 have hex : ∀ k : Nat, ∃ p, k < G.np → G.fp (some p) = some (.int .i64 k) ∧ p ∈ K := by
   intro k
   by_cases hk : k < G.np
   · obtain ⟨p, hp⟩ := h.pls k hk
     obtain ⟨q, j, a1, a2, _⟩ := h.plv _ _ hp
     cases a1
     exact ⟨p, fun _ => ⟨hp, a2⟩⟩
   · exact ⟨default, fun x => absurd x hk⟩
 have key : ∀ n, n ≤ G.np → ∃ l : List Addr, l.length = n ∧ l.Nodup ∧ (∀ p ∈ l, p ∈ K) ∧ ∀ p ∈ l, ∃ k : Nat, k < n ∧ G.fp (some p) = some (.int .i64 k) := by
   intro n
   induction n with
   | zero => exact fun _ => ⟨[], rfl, List.nodup_nil, by simp, by simp⟩
   | succ n ih =>
     intro hn
     obtain ⟨l, h1, h2, h3, h4⟩ := ih (by omega)
     obtain ⟨p, hp⟩ := hex n
     obtain ⟨hp1, hp2⟩ := hp (by omega)
     refine ⟨p :: l, by simp [h1], List.nodup_cons.2 ⟨fun hm => ?_, h2⟩, ?_, ?_⟩
     · obtain ⟨k, hk, hk2⟩ := h4 p hm
       rw [hp1] at hk2
       simp only [Option.some.injEq, Value.int.injEq, true_and] at hk2
       omega
     · intro q hq
       rcases List.mem_cons.1 hq with rfl | hq
       · exact hp2
       · exact h3 q hq
     · intro q hq
       rcases List.mem_cons.1 hq with rfl | hq
       · exact ⟨n, by omega, hp1⟩
       · obtain ⟨k, hk, hk2⟩ := h4 q hq
         exact ⟨k, by omega, hk2⟩
 obtain ⟨l, h1, h2, h3, _⟩ := key G.np (zl)
 have := Zmp l K h2 h3
 omega
theorem StMem.cell {w : World} {sb : Nat} {F : Nat → Prop} {G : StG} (h : StMem w sb F G) (i : Nat) {v : Value} (hi : G.c[i]? = some v) : w.cell? ⟨sb, i, none⟩ = some v := by simp [World.cell?, h.hs, hi]
structure Step (w w' : World) (F F' : Nat → Prop) : Prop where
 keeps : Keeps F w w'
 grow : ∀ k, F' k → F k ∨ w.heap.size ≤ k
 mono : ∀ k, F k → F' k
theorem Step.refl (w : World) (F : Nat → Prop) : Step w w F F := ⟨.refl _ _, fun _ h => .inl h, fun _ h => h⟩
theorem Step.trans {a b c : World} {F F' F'' : Nat → Prop} (h : Step a b F F') (k : Step b c F' F'') : Step a c F F'' :=
 ⟨h.keeps.trans k.keeps h.grow, fun i hi => by
   rcases k.grow i hi with h1 | h1
   · exact h.grow i h1
   · exact .inr (Nat.le_trans h.keeps.size h1), fun i hi => k.mono i (h.mono i hi)⟩
theorem Step.of_below {w w' : World} (F : Nat → Prop) (h : Below w.heap.size w w') : Step w w' F F := ⟨.of_below h (zl), fun k hk => .inl hk, fun _ h => h⟩
theorem Step.keeps' {w w' : World} {F F' : Nat → Prop} (h : Step w w' F F') : Keeps F' w w' :=
 ⟨h.keeps.os, h.keeps.tape, h.keeps.output, h.keeps.size, fun k a b => h.keeps.block k a (fun c => b (h.mono k c))⟩
section
variable {w w' : World} {F F' : Nat → Prop} (hs : Step w w' F F')
include hs
theorem Forest.step {D : Addr → Option Int} (h : Forest w F D) : Forest w' F' D := (h.grow (zl) hs.grow).keeps hs.keeps'
theorem GreatV.step {p : Addr} {z : Int} (h : GreatV w F p z) : GreatV w' F' p z := (h.grow (zl) hs.grow).keeps hs.keeps'
theorem RowF.step {size : Nat} {v : Value} {n : Nat} {xs : List Value} (h : RowF w F size v n xs) : RowF w' F' size v n xs := (h.grow (zl) hs.grow).keeps hs.keeps'
theorem StInv.step {D : Addr → Option Int} {K : List Addr} {G : StG} (h : StInv w F D K G) : StInv w' F' D K G := (h.grow (zl) hs.grow).keeps hs.keeps'
end
theorem Step.hot {w w' : World} {F F' : Nat → Prop} (h : Step w w' F F') (H : Nat → Prop) : Step w w' (hot H F) (hot H F') :=
 ⟨⟨h.keeps.os, h.keeps.tape, h.keeps.output, h.keeps.size, fun k a b => h.keeps.block k a (fun c => b (.inr c))⟩,
  fun k hk => by
   rcases hk with x | x
   · exact .inl (.inl x)
   · rcases h.grow k x with y | y
     · exact .inl (.inr y)
     · exact .inr y,
  fun k hk => by
   rcases hk with x | x
   · exact .inl x
   · exact .inr (h.mono k x)⟩
theorem HasT.det {w : World} {F F' : Nat → Prop} {p : Addr} {ts ts' : List TV} (h : HasT w F p ts) (h' : HasT w F' p ts') : ts = ts' := by
 obtain ⟨b, v, rfl, h1, h2, h3, h4⟩ := h
 obtain ⟨b', v', e, h1', h2', h3', h4'⟩ := h'
 obtain rfl : b = b' := by simpa using e
 obtain rfl : v = v' := by have := h3.symm.trans h3'; simpa using this
 obtain ⟨⟨l1, r1⟩, _⟩ := h4
 obtain ⟨⟨l2, r2⟩, _⟩ := h4'
 rcases r1 with ⟨rfl, e1⟩ | ⟨c, off, cap, rfl, a1, a2, a3, a4⟩
 · rcases r2 with ⟨_, e2⟩ | ⟨c, off, cap, e2, _⟩
   · rw [List.length_eq_zero_iff.1 e1, List.length_eq_zero_iff.1 e2]
   · cases e2
 · rcases r2 with ⟨e2, _⟩ | ⟨c', off', cap', e2, a1', a2', a3', a4'⟩
   · cases e2
   · simp only [Value.slice.injEq, Option.some.injEq, Addr.mk.injEq, and_true] at e2
     obtain ⟨⟨rfl, rfl⟩, e3, _⟩ := e2
     refine List.ext_getElem e3 fun i i1 i2 => ?_
     obtain ⟨x1, x2, x3⟩ := RowC.term a4 i i1
     obtain ⟨y1, y2, y3⟩ := RowC.term a4' i i2
     have q1 := x1.symm.trans y1
     have q2 := x2.symm.trans y2
     have q3 := x3.symm.trans y3
     simp only [Option.some.injEq, Value.bool.injEq, Value.int.injEq, Value.pointer.injEq, true_and] at q1 q2 q3
     exact Prod.ext q1 (Prod.ext q2 q3)
theorem Zjl {fp fp' : Option Addr → Option Value} (h : ∀ g v, fp g = some v → fp' g = some v) {t : TV} {x : List UInt8} (ht : termText fp t = some x) : termText fp' t = some x := by
 unfold termText at *
 cases hg : t.2.2 with
 | none => simpa [hg] using ht
 | some p =>
   simp only [hg] at ht ⊢
   cases hp : fp (some p) with
   | none => simp [hp] at ht
   | some v => rw [h _ _ hp]; simpa [hp] using ht
theorem Zcg {fp fp' : Option Addr → Option Value} (h : ∀ g v, fp g = some v → fp' g = some v) : ∀ {ts : List TV} {x : List UInt8}, keyText fp ts = some x → keyText fp' ts = some x
 | [], x, hx => hx
 | t :: ts, x, hx => by
   unfold keyText at *
   cases h1 : termText fp t with
   | none => simp [h1] at hx
   | some a =>
     cases h2 : keyText fp ts with
     | none => simp [h1, h2] at hx
     | some b => rw [Zjl h h1, Zcg h h2]; simpa [h1, h2] using hx
theorem StInv.place {w : World} {F : Nat → Prop} {D : Addr → Option Int} {K : List Addr} {G : StG} (h : StInv w F D K G) {p : Addr} {z : Int} (hp : GreatV w F p z) (hK : p ∈ K) (h0 : G.fp (some p) = none) (c : Array Value) (m : Option Nat) :
   StInv w F D K { G with c := c, m0 := m, fp := upd G.fp (some p) (.int .i64 G.np), np := G.np + 1 } := by
 have hmono : ∀ g v, G.fp g = some v → upd G.fp (some p) (.int .i64 G.np) g = some v := by
   intro g v hv
   unfold upd
   rw [if_neg (by rintro rfl; rw [h0] at hv; cases hv)]; exact hv
 refine { h with plv := ?_, pli := ?_, pls := ?_, al := ?_, la := ?_, od := ?_ }
 · intro g v hv
   simp only [upd] at hv
   split at hv
   · rename_i hg
     exact ⟨p, G.np, hg, hK, (Option.some.inj hv).symm, by omega, by simp only; omega, z, hp⟩
   · obtain ⟨q, k, a1, a2, a3, a4, a5, a6⟩ := h.plv g v hv
     exact ⟨q, k, a1, a2, a3, a4, by simp only; omega, a6⟩
 · intro g g' v hv hv'
   simp only [upd] at hv hv'
   split at hv
   · rename_i hg
     split at hv'
     · rename_i hg'; rw [hg, hg']
     · obtain ⟨q, k, a1, a2, a3, a4, a5, a6⟩ := h.plv g' v hv'
       rw [← Option.some.inj hv] at a3
       simp only [Value.int.injEq, true_and] at a3
       omega
   · split at hv'
     · obtain ⟨q, k, a1, a2, a3, a4, a5, a6⟩ := h.plv g v hv
       rw [← Option.some.inj hv'] at a3
       simp only [Value.int.injEq, true_and] at a3
       omega
     · exact h.pli g g' v hv hv'
 · intro k hk
   simp only at hk
   by_cases hkn : k = G.np
   · exact ⟨p, by simp [upd, hkn]⟩
   · obtain ⟨q, hq⟩ := h.pls k (by omega)
     exact ⟨q, hmono _ _ hq⟩
 · intro key v hv
   obtain ⟨q, z, ts, a1, a2, a3, a4⟩ := h.al key v hv
   exact ⟨q, z, ts, a1, a2, a3, Zcg hmono a4⟩
 · intro q z hq
   obtain ⟨key, ts, a1, a2, a3⟩ := h.la q z hq
   exact ⟨key, ts, a1, a2, Zcg hmono a3⟩
 · intro ij v hv
   obtain ⟨q, r, zp, zq, a1, a2, a3, a4, a5⟩ := h.od ij v hv
   exact ⟨q, r, zp, zq, hmono _ _ a1, hmono _ _ a2, a3, a4, a5⟩
structure Grown2 (D D' : Addr → Option Int) (K K' : List Addr) (G G' : StG) : Prop where
 d : ∀ p z, D p = some z → D' p = some z
 k : ∀ p, p ∈ K → p ∈ K'
 p : ∀ g v, G.fp g = some v → G'.fp g = some v
 t : G'.ft = G.ft
 c : ∀ i, 5 ≤ i → G'.c[i]? = G.c[i]?
theorem Grown2.refl (D : Addr → Option Int) (K : List Addr) (G : StG) : Grown2 D D K K G G := ⟨fun _ _ h => h, fun _ h => h, fun _ _ h => h, rfl, fun _ _ => rfl⟩
theorem Grown2.trans {D D' D'' : Addr → Option Int} {K K' K'' : List Addr} {G G' G'' : StG} (h : Grown2 D D' K K' G G') (k : Grown2 D' D'' K' K'' G' G'') : Grown2 D D'' K K'' G G'' :=
 ⟨fun p z x => k.d p z (h.d p z x), fun p x => k.k p (h.k p x), fun g v x => k.p g v (h.p g v x), k.t.trans h.t, fun i hi => (k.c i hi).trans (h.c i hi)⟩
def big : Nat := 4611686018427387904
theorem Zcj : big = 4611686018427387904 := rfl
theorem Zev {w : World} {sb : Nat} {F : Nat → Prop} (H : Nat → Prop) {D : Addr → Option Int} {K : List Addr} {G : StG} (hm : StMem w sb F G) (hi : StInv w (hot H F) D K G) {p : Addr} {z : Int} (hp : GreatV w (hot H F) p z) (hK : p ∈ K) (hbig : K.length ≤ big) :
   Calls Tryz.prog 74 #[.pointer (some ⟨sb, 0, none⟩), .pointer (some p)] w fun e w' => ∃ (k : Int) (F' : Nat → Prop) (G' : StG),
     e = .returned (.int .i64 k) ∧ 0 ≤ k ∧ k ≤ 4611686018427387904 ∧ G'.fp (some p) = some (.int .i64 k) ∧ StMem w' sb F' G' ∧ StInv w' (hot H F') D K G' ∧ Step w w' F F' ∧ Grown2 D D K K G G' ∧ (∀ w0 F0, StInv w0 F0 D K G → GreatV w0 F0 p z → StInv w0 F0 D K G') := by
 have c0 := hm.cell 0 hm.i0
 have hnp := np_le hi
 have hl := MapO.lookup keyP Tryz.underlying81 (z := .int .i64 0) (fun W => by kernel_rfl) hm.mp (some p) hp.ptr
 unfold encP at hl
 cases h0 : G.fp (some p) with
 | some v =>
   obtain ⟨q, k, a1, a2, rfl, a4, a5, a6⟩ := hi.plv _ _ h0
   rw [h0] at hl
   simp only [Option.getD_some, Option.isSome_some] at hl
   have HK : Hid (0 ≤ k ∧ k ≤ 4611686018427387904) := ⟨a4, by have := Zcj; omega⟩
   clear hnp a4 a5 a6 a1 hbig
   go_enter Tryz.func74, Tryz.ntmps74
   go_wp2
   go_ret
   exact ⟨k, F, G, rfl, HK.out.1, HK.out.2, h0, hm, hi, Step.refl _ _, Grown2.refl _ _ _, fun _ _ h _ => h⟩
 | none =>
   rw [h0] at hl
   simp only [Option.getD_none, Option.isSome_none] at hl
   have hlen := MapO.len Tryz.underlying81 hm.mp
   have HK : Hid ((0 : Int) ≤ G.np ∧ (G.np : Int) ≤ 4611686018427387904) := ⟨by omega, by have := Zcj; omega⟩
   clear hnp hbig
   go_enter Tryz.func74, Tryz.ntmps74
   go_wp2_with (go_at_call 95; refine (Zkg sb 0 G.c G.t G.m0 G.fp G.np (some p) G.np _ hm.hs hm.i0 hm.mp hp.ptr hm.nf).mono ?_; rintro e w1 ⟨rfl, hn⟩)
   go_ret
   obtain ⟨r, m1, m2, m3⟩ := hm.note0 hn
   have hst : Step w w1 F (fun k => F k ∨ k = r) := ⟨m2, m3, fun k hk => .inl hk⟩
   have hcnt : cnt G.fp (some p) G.np = G.np + 1 := by simp [cnt, h0]
   rw [hcnt] at m1
   refine ⟨G.np, _, _, rfl, HK.out.1, HK.out.2, ?_, m1, (hi.place hp hK h0 _ _).step (hst.hot H), hst, ⟨fun _ _ h => h, fun _ h => h, fun g v hv => ?_, rfl, fun i hi => Array.getElem?_setIfInBounds_ne (by omega)⟩, fun w0 F0 h hp' => h.place hp' hK h0 _ _⟩
   · simp [upd]
   · simp only [upd]
     rw [if_neg (by rintro rfl; rw [h0] at hv; cases hv)]; exact hv
end
section
open Go.RowKit
structure Mid (w : World) (sb : Nat) (F H : Nat → Prop) (D : Addr → Option Int) (K : List Addr) (G : StG) (F' : Nat → Prop) (G' : StG) (wr : World) (v : Value) (txt : List UInt8) : Prop where
 own : wr.ownsRow w.heap.size 5 1 v txt.length (Lib.byteCells txt)
 mem : StMem wr sb F' G'
 inv : StInv w (hot H F') D K G'
 step : Step w wr F F'
 grown : Grown2 D D K K G G'
theorem Mid.alloc {w : World} {sb : Nat} {F H : Nat → Prop} {D : Addr → Option Int} {K : List Addr} {G : StG} {F' : Nat → Prop} {G' : StG} {wr : World} {v : Value} {txt : List UInt8} (h : Mid w sb F H D K G F' G' wr v txt) (X : Obj) : Mid w sb F H D K G F' G' (wr.alloc X) v txt :=
 have hb : Below wr.heap.size wr (wr.alloc X) := (zb).alloc (zl) _
 ⟨h.own.alloc X, h.mem.below hb, h.inv, h.step.trans (.of_below F' hb), h.grown⟩
theorem Mid.tab {w : World} {sb : Nat} {F H : Nat → Prop} {D : Addr → Option Int} {K : List Addr} {G : StG} {F' : Nat → Prop} {G' : StG} {wr : World} {v : Value} {txt : List UInt8} (h : Mid w sb F H D K G F' G' wr v txt) (hw : 0 < w.heap.size) :
   Lib.TabBelow Tryz.prog w.heap.size wr "internal/strconv.uint64pow10" .u64 Lib.pow10Tab :=
 fun w' hb => Zbd h.mem.tab (hb.block 0 hw)
theorem Mid.kept {w : World} {sb : Nat} {F H : Nat → Prop} {D : Addr → Option Int} {K : List Addr} {G : StG} {F' : Nat → Prop} {G' : StG} {wr wB : World} {v v' : Value} {txt txt' : List UInt8} (h : Mid w sb F H D K G F' G' wr v txt) (hw : 0 < w.heap.size)
   (ho : wB.ownsRow w.heap.size 5 1 v' txt'.length (Lib.byteCells txt')) (hb : Below w.heap.size wr wB) (hk : ∀ (i : Nat) (o : Obj), wr.heap[i]? = some o → (∀ c fz, o ≠ .cells c 5 fz) → wB.heap[i]? = some o) :
   Mid w sb F H D K G F' G' wB v' txt' :=
 ⟨ho, h.mem.kept hk (hb.block 0 hw), h.inv, ⟨⟨hb.os.trans h.step.keeps.os, hb.tape.trans h.step.keeps.tape, hb.output.trans h.step.keeps.output, Nat.le_trans h.step.keeps.size hb.size, fun k a c => (hb.block k a).trans (h.step.keeps.block k a c)⟩, h.step.grow, h.step.mono⟩, h.grown⟩
theorem Mid.append {w : World} {sb : Nat} {F H : Nat → Prop} {D : Addr → Option Int} {K : List Addr} {G : StG} {F' : Nat → Prop} {G' : StG} {wr wB : World} {v v' : Value} {txt txt' : List UInt8} (h : Mid w sb F H D K G F' G' wr v txt) (hw : 0 < w.heap.size)
   (ho : wB.ownsRow w.heap.size 5 1 v' txt'.length (Lib.byteCells txt')) (hg : wr.grownBy wB v.ownBlock) : Mid w sb F H D K G F' G' wB v' txt' := by
 refine h.kept hw ho ⟨hg.os, hg.tape, hg.output, hg.size, fun k hk => hg.block k (Nat.lt_of_lt_of_le hk h.step.keeps.size) (fun e => by have := (h.own.lt k e.symm).1; omega)⟩ (fun i o hi ho2 => ?_)
 have hlt : i < wr.heap.size := by
   rcases Nat.lt_or_ge i wr.heap.size with x | x
   · exact x
   · simp [Array.getElem?_eq_none x] at hi
 rw [hg.block i hlt (fun e => ?_)]
 · exact hi
 · obtain ⟨_, hown⟩ := h.own
   rcases hown with ⟨rfl, _⟩ | ⟨g, cap, cur, rfl, _, hh, _⟩
   · simp [Value.ownBlock] at e
   · simp only [Value.ownBlock, Option.some.injEq] at e
     subst e
     rw [hh] at hi
     exact ho2 _ _ (Option.some.inj hi).symm
theorem Mid.int {w : World} {sb : Nat} {F H : Nat → Prop} {D : Addr → Option Int} {K : List Addr} {G : StG} {F' : Nat → Prop} {G' : StG} {wr wB : World} {v v' : Value} {txt txt' : List UInt8} (h : Mid w sb F H D K G F' G' wr v txt) (hw : 0 < w.heap.size)
   (ho : wB.ownsRow w.heap.size 5 1 v' txt'.length (Lib.byteCells txt')) (hb : Below w.heap.size wr wB) (hk : Lib.OthersKept 5 none wr wB) : Mid w sb F H D K G F' G' wB v' txt' :=
 h.kept hw ho hb (fun i o hi ho2 => hk i o hi (by simp) ho2)
theorem Zag {w w' : World} {F : Nat → Prop} {base : Nat} {e : TypeId} {size : Nat} {v : Value} {n : Nat} {xs : List Value} (h : w.ownsRow base e size v n xs) (hk : Keeps F w w') (hF : ∀ b, v.ownBlock = some b → ¬ F b) : w'.ownsRow base e size v n xs := by
 have hlt := h.lt
 obtain ⟨h1, h2⟩ := h
 refine ⟨h1, ?_⟩
 rcases h2 with h2 | ⟨g, cap, cur, rfl, a1, hh, r⟩
 · exact .inl h2
 · exact .inr ⟨g, cap, cur, rfl, a1, by rw [hk.block g (hlt g rfl).2 (hF g rfl)]; exact hh, r⟩
theorem Mid.place {w : World} {sb : Nat} {F H : Nat → Prop} {D : Addr → Option Int} {K : List Addr} {G : StG} {F' F'' : Nat → Prop} {G' G'' : StG} {wr wB : World} {v : Value} {txt : List UInt8} (h : Mid w sb F H D K G F' G' wr v txt)
   (hm : StMem wB sb F'' G'') (hs : Step wr wB F' F'') (hg : Grown2 D D K K G' G'') {p : Addr} {z : Int} (hp : GreatV w (hot H F) p z) (hx : ∀ w0 F0, StInv w0 F0 D K G' → GreatV w0 F0 p z → StInv w0 F0 D K G'') : Mid w sb F H D K G F'' G'' wB v txt where
 own := Zag h.own hs.keeps (h.mem.own h.own (by decide) (by decide))
 mem := hm
 inv := (hx w (hot H F') h.inv (hp.grow (zl) (h.step.hot H).grow)).grow (zl) (fun i hi => by
   rcases (hs.hot H).grow i hi with x | x
   · exact .inl x
   · exact .inr (Nat.le_trans h.step.keeps.size x))
 step := h.step.trans hs
 grown := h.grown.trans hg
def KeyRel (w : World) (sb : Nat) (F H : Nat → Prop) (D : Addr → Option Int) (K : List Addr) (G : StG) (ts : List TV) (wr : World) (v : Value) (k : Nat) : Prop :=
 ∃ F' G' txt, Mid w sb F H D K G F' G' wr v txt ∧ txt.length ≤ 24 * k ∧ keyText G'.fp (ts.take k) = some txt
theorem Zaq (a b : List UInt8) : Lib.byteCells (a ++ b) = Lib.byteCells a ++ Lib.byteCells b := by simp [Lib.byteCells]
theorem Zch {fp : Option Addr → Option Value} : ∀ {ts : List TV} {t : TV} {a b : List UInt8}, keyText fp ts = some a → termText fp t = some b → keyText fp (ts ++ [t]) = some (a ++ b)
 | [], t, a, b, h1, h2 => by
   simp only [keyText, Option.some.injEq] at h1
   subst h1
   simp [keyText, h2]
 | u :: ts, t, a, b, h1, h2 => by
   simp only [List.cons_append]
   unfold keyText at h1 ⊢
   cases hu : termText fp u with
   | none => simp [hu] at h1
   | some x =>
     cases hk : keyText fp ts with
     | none => simp [hu, hk] at h1
     | some y =>
       rw [Zch hk h2]
       simp only [hu, hk, Option.some.injEq] at h1 ⊢
       rw [← h1, List.append_assoc]
theorem Zdr (w : World) (o : Obj) (cs : List Value) (t : TypeId) (fr : Nat × Nat) : ∀ j u, cs[j]? = some u → ((w.alloc o).alloc (.cells cs.toArray t fr)).cell? ((⟨w.heap.size + 1, 0, none⟩ : Addr).add j) = some u := by
 have := Zaj (w.alloc o) cs t fr
 rwa [show (w.alloc o).heap.size = w.heap.size + 1 by simp] at this
theorem infoe8 : (Tryz.prog.info? 5).map (fun i => (i.zero, i.size, i.bytes)) = some (some (.int .u8 0), 1, 1) := by kernel_rfl
theorem Zio : ∀ (l : List UInt8) (s : ByteArray), (l.map (fun b : UInt8 => (b.toNat : Int))).foldl (fun r n => r.push (UInt8.ofNat n.toNat)) s = ⟨s.data ++ l.toArray⟩
 | [], s => by cases s; simp
 | b :: l, s => by
   rw [List.map_cons, List.foldl_cons, Zio l]
   cases s
   simp [ByteArray.push]
theorem Znp {base : Nat} (W : World) (v : Value) (txt : List UInt8) (h : W.ownsRow base 5 1 v txt.length (Lib.byteCells txt)) : (convert 50 9 v).run Tryz.prog W = .ok (.string ⟨txt.toArray⟩) W := by
 obtain ⟨a, c, rfl⟩ := (RowV.of_own h).shape
 rw [run_convert_bytes_string W _ _ _ a _ c Tryz.underlying50 Tryz.underlying5 Tryz.underlying9]
 cases a with
 | none =>
   obtain ⟨_, h2⟩ := h
   rcases h2 with ⟨_, h0⟩ | ⟨g, cap, cur, e, _⟩
   · have : txt = [] := List.length_eq_zero_iff.1 h0
     subst this
     rfl
   · cases e
 | some a =>
   have hl : (loadCells a txt.length).run Tryz.prog W = .ok ((txt.map (fun b : UInt8 => (b.toNat : Int))).map (Value.int .u8)).toArray W := by
     have hl := run_loadCells_list (P := Tryz.prog) W a (Lib.byteCells txt) (fun j u hj => h.cells rfl j u hj |> fun x => by
       obtain ⟨_, h2⟩ := h
       rcases h2 with ⟨e, _⟩ | ⟨g, cap, cur, e, _⟩
       · cases e
       · simp only [Value.slice.injEq, Option.some.injEq] at e
         rw [e.1]
         have hg : a.block = g := by rw [e.1]
         rw [hg] at x
         exact x)
     rw [show (Lib.byteCells txt).length = txt.length by simp [Lib.byteCells]] at hl
     rw [hl]
     simp [Lib.byteCells]
   rw [run_bytesToString W a txt.length c _ hl, Zio]
   congr 3
   show (#[] : Array UInt8) ++ txt.toArray = _
   simp
theorem Zko {w : World} {sb : Nat} {F : Nat → Prop} (H : Nat → Prop) {D : Addr → Option Int} {K : List Addr} {G : StG} (hm : StMem w sb F G) (hi : StInv w (hot H F) D K G) {v : Value} {ts : List TV} (hr : RowF w F 3 v ts.length (flatT ts)) (hlen : ts.length ≤ 30000)
   (hts : ∀ i (h : i < ts.length), match ts[i].2.2 with | none => i64 ts[i].2.1 | some p => (∃ z, GreatV w (hot H F) p z) ∧ p ∈ K) (hbig : K.length ≤ big) :
   Calls Tryz.prog 89 #[.pointer (some ⟨sb, 0, none⟩), v] w fun e w' => ∃ (s : ByteArray) (F' : Nat → Prop) (G' : StG),
     e = .returned (.string s) ∧ keyText G'.fp ts = some s.toList ∧ StMem w' sb F' G' ∧ StInv w' (hot H F') D K G' ∧ Step w w' F F' ∧ Grown2 D D K K G G' := by
 obtain ⟨i0, hi0, hz0, hz1, hz2⟩ := info_parts infoe8
 obtain ⟨a, cp, rfl⟩ := hr.1.shape
 have hn1 : (ts.length : Int) ≤ 9223372036854775807 := by omega
 have start : KeyRel w sb F H D K G ts w (.slice none 0 0) 0 := ⟨F, G, [], ⟨World.ownsRow_nil _ _ _ _, hm, hi, Step.refl _ _, Grown2.refl _ _ _⟩, by simp, by simp [keyText]⟩
 have HTS := zh hts
 have HR := zh hr
 clear hts hr
 go_enter Tryz.func89, Tryz.ntmps89
 go_wp2
 go_loopw [5, 10] (fun v i wr => ∃ k : Nat, k ≤ ts.length ∧ i = .int .i64 k ∧ KeyRel w sb F H D K G ts wr v k) (fun _ i _ => ts.length - (intOf i).toNat)
 case atStart => exact ⟨0, by omega, rfl, start⟩
 case round =>
   obtain ⟨k, hk, rfl, F', G', txt, hmid, htl, htx⟩ := hrel
   have hst := hmid.step
   have hown := hmid.own
   have hw0 : 0 < w.heap.size := by have := hm.lt; have := hm.pos; omega
   have HM := zh hmid
   clear hmid
   by_cases hlt : k < ts.length
   · obtain ⟨b, ro, rfl⟩ : ∃ b ro, a = some ⟨b, ro, none⟩ := by
       rcases HR.out.1.2 with ⟨_, h0⟩ | ⟨b, off, cap, e, _⟩
       · omega
       · cases e; exact ⟨b, off, rfl⟩
     have hrw := HR.out.step hst
     rcases hrw.1.2 with ⟨e, _⟩ | ⟨b', off', cap', e, e1, e2, e3, e4⟩
     · cases e
     simp only [Value.slice.injEq, Option.some.injEq, Addr.mk.injEq, and_true, true_and] at e
     obtain ⟨⟨rfl, rfl⟩, rfl⟩ := e
     obtain ⟨x1, x2, x3⟩ := RowC.term e4 k hlt
     have hk3 := HTS.out k hlt
     have htake : ts.take (k + 1) = ts.take k ++ [ts[k]] := by rw [List.take_succ_eq_append_getElem hlt]
     have HTK := zh htake
     clear htake
     generalize ts[k] = tk at *
     obtain ⟨mi, s1, g1⟩ := tk
     simp only at x1 x2 x3 hk3
     have hsz := hst.keeps.size
     have hne : ∀ x, u5.ownBlock = some x → x < wr.heap.size := fun x hx => (hown.lt x hx).2
     have cellsA : ∀ {wA : World} {cc : Int}, ((wr.alloc (.cells #[.bool mi, .int .i64 s1, .pointer g1] 62)).alloc (.cells #[.int .u8 cc] 5)).grownBy wA u5.ownBlock →
         wA.cell? ⟨wr.heap.size, 1, none⟩ = some (.int .i64 s1) ∧ wA.cell? ⟨wr.heap.size, 2, none⟩ = some (.pointer g1) := by
       intro wA cc hg
       have hx : some wr.heap.size ≠ u5.ownBlock := fun e => by have := hne _ e.symm; omega
       refine ⟨?_, ?_⟩
       · refine hg.cell ?_ hx
         rw [World.cell?_alloc_lt _ _ ⟨wr.heap.size, 1, none⟩ (by simp)]
         have := Zaj wr [.bool mi, .int .i64 s1, .pointer g1] 62 (0, 0) 1 _ rfl
         rw [Zbl, Nat.zero_add] at this
         exact this
       · refine hg.cell ?_ hx
         rw [World.cell?_alloc_lt _ _ ⟨wr.heap.size, 2, none⟩ (by simp)]
         have := Zaj wr [.bool mi, .int .i64 s1, .pointer g1] 62 (0, 0) 2 _ rfl
         rw [Zbl, Nat.zero_add] at this
         exact this
     cases g1 with
     | none =>
       cases mi
       · have hk4 : i64 s1 := hk3
         obtain ⟨hlo, hhi⟩ := hk4
         go_wp2_with (first
           | (at_builtin; go_loud (refine wpList_append_own _ rfl _ _ 50 rfl w.heap.size 5 i0 (.int .u8 0) 1 1 Tryz.underlying50 hi0 hz0 hz1 hz2 rfl (by decide) _ _ _ rfl ((hown.alloc _).alloc _) ⟨wr.heap.size + 1, 0, none⟩ 1 1 [.int .u8 43] rfl rfl (Zdr wr _ [.int .u8 43] _ _) (by simp [Value.oneCell']) (by unfold maxLen; omega) (by omega) (by simp; omega) ?_); intro vA wA hownA hgA _; have hszA := hgA.size; have hcA := cellsA hgA)
           | (go_at_call 102; refine (Tryz.strconv_AppendInt_10 w.heap.size _ s1 hlo hhi _ _ _ hownA (by simp at hszA; omega) (by simp; omega) ((Mid.append ((HM.out.alloc _).alloc _) hw0 (txt' := txt ++ [43]) (by rw [Zaq, List.length_append]; exact hownA) hgA).tab hw0)).mono ?_; rintro e wB ⟨vB, rfl, hownB, hbB, hokB⟩))
         go_roundw
         case rel =>
           have m1 := Mid.append ((HM.out.alloc _).alloc _) hw0 (txt' := txt ++ [43]) (by rw [Zaq, List.length_append]; exact hownA) hgA
           have m2 := m1.int hw0 (txt' := txt ++ [43] ++ Lib.itoa s1) (by rw [Zaq, Zaq, List.length_append, List.length_append]; exact hownB) hbB hokB
           have hil := Lib.itoa_length_le s1 hlo hhi
           refine ⟨k + 1, by omega, by go_num, F', G', _, m2, by simp only [List.length_append, List.length_cons, List.length_nil]; omega, ?_⟩
           rw [HTK.out, List.append_assoc]
           exact Zch htx rfl
         case measure => simp [intOf]; omega
       · have hk4 : i64 s1 := hk3
         obtain ⟨hlo, hhi⟩ := hk4
         go_wp2_with (first
           | (at_builtin; go_loud (refine wpList_append_own _ rfl _ _ 50 rfl w.heap.size 5 i0 (.int .u8 0) 1 1 Tryz.underlying50 hi0 hz0 hz1 hz2 rfl (by decide) _ _ _ rfl ((hown.alloc _).alloc _) ⟨wr.heap.size + 1, 0, none⟩ 1 1 [.int .u8 45] rfl rfl (Zdr wr _ [.int .u8 45] _ _) (by simp [Value.oneCell']) (by unfold maxLen; omega) (by omega) (by simp; omega) ?_); intro vA wA hownA hgA _; have hszA := hgA.size; have hcA := cellsA hgA)
           | (go_at_call 102; refine (Tryz.strconv_AppendInt_10 w.heap.size _ s1 hlo hhi _ _ _ hownA (by simp at hszA; omega) (by simp; omega) ((Mid.append ((HM.out.alloc _).alloc _) hw0 (txt' := txt ++ [45]) (by rw [Zaq, List.length_append]; exact hownA) hgA).tab hw0)).mono ?_; rintro e wB ⟨vB, rfl, hownB, hbB, hokB⟩))
         go_roundw
         case rel =>
           have m1 := Mid.append ((HM.out.alloc _).alloc _) hw0 (txt' := txt ++ [45]) (by rw [Zaq, List.length_append]; exact hownA) hgA
           have m2 := m1.int hw0 (txt' := txt ++ [45] ++ Lib.itoa s1) (by rw [Zaq, Zaq, List.length_append, List.length_append]; exact hownB) hbB hokB
           have hil := Lib.itoa_length_le s1 hlo hhi
           refine ⟨k + 1, by omega, by go_num, F', G', _, m2, by simp only [List.length_append, List.length_cons, List.length_nil]; omega, ?_⟩
           rw [HTK.out, List.append_assoc]
           exact Zch htx rfl
         case measure => simp [intOf]; omega
     | some p =>
       obtain ⟨⟨zp, hzp⟩, hpK⟩ := hk3
       cases mi
       · have cellsC : ∀ {wA wC : World} {vA : Value} {n : Nat} {xs : List Value}, wA.cell? ⟨wr.heap.size, 1, none⟩ = some (.int .i64 s1) ∧ wA.cell? ⟨wr.heap.size, 2, none⟩ = some (.pointer (some p)) → wA.ownsRow w.heap.size 5 1 vA n xs →
             (wA.alloc (.cells #[.int .u8 35] 5)).grownBy wC vA.ownBlock → wA.heap[wr.heap.size]? = some (.cells #[.bool false, .int .i64 s1, .pointer (some p)] 62) → wC.cell? ⟨wr.heap.size, 2, none⟩ = some (.pointer (some p)) := by
           intro wA wC vA n xs hc ho hg hh
           have hlt := World.block_lt_of_cell? _ _ hc.2
           refine hg.cell ?_ ?_
           · rw [World.cell?_alloc_lt _ _ ⟨wr.heap.size, 2, none⟩ hlt]; exact hc.2
           · intro e
             obtain ⟨_, h2⟩ := ho
             rcases h2 with ⟨rfl, _⟩ | ⟨g, cap, cur, rfl, _, h3, _⟩
             · simp [Value.ownBlock] at e
             · simp only [Value.ownBlock, Option.some.injEq] at e
               rw [← e, hh] at h3; cases h3
         have heapA : ∀ {wA : World} {cc : Int}, ((wr.alloc (.cells #[.bool false, .int .i64 s1, .pointer (some p)] 62)).alloc (.cells #[.int .u8 cc] 5)).grownBy wA u5.ownBlock → wA.heap[wr.heap.size]? = some (.cells #[.bool false, .int .i64 s1, .pointer (some p)] 62) := by
           intro wA cc hg
           rw [hg.block wr.heap.size (by simp; omega) (fun e => by have := hne _ e.symm; omega)]
           have h1 : (wr.alloc (.cells #[.bool false, .int .i64 s1, .pointer (some p)] 62)).heap[wr.heap.size]? = _ := heap_alloc_new wr _
           rw [Below.heap_alloc _ _ _ (by simp), h1]
         have M1 := HM.out
         go_wp2_with (first
           | (at_builtin; refine wpList_append_own _ rfl _ _ 50 rfl w.heap.size 5 i0 (.int .u8 0) 1 1 Tryz.underlying50 hi0 hz0 hz1 hz2 rfl (by decide) _ _ _ rfl ((hown.alloc _).alloc _) ⟨wr.heap.size + 1, 0, none⟩ 1 1 [.int .u8 43] rfl rfl (Zdr wr _ [.int .u8 43] _ _) (by simp [Value.oneCell']) (by unfold maxLen; omega) (by omega) (by simp; omega) ?_; intro vA wA hownA hgA _; have hszA := hgA.size; have hcA := cellsA hgA)
           | (at_builtin; refine wpList_append_own _ rfl _ _ 50 rfl w.heap.size 5 i0 (.int .u8 0) 1 1 Tryz.underlying50 hi0 hz0 hz1 hz2 rfl (by decide) _ _ _ rfl (hownA.alloc _) ⟨wA.heap.size, 0, none⟩ 1 1 [.int .u8 35] rfl rfl (Zaj wA [.int .u8 35] _ _) (by simp [Value.oneCell']) (by unfold maxLen; omega) (by omega) (by simp at hszA ⊢; omega) ?_; intro vC wC hownC hgC _; have hszC := hgC.size; have hcC := cellsC hcA hownA hgC (heapA hgA); have m2 := Mid.append ((Mid.append ((M1.alloc _).alloc _) hw0 (txt' := txt ++ [43]) (by rw [Zaq, List.length_append]; exact hownA) hgA).alloc _) hw0 (txt' := txt ++ [43] ++ [35]) (by rw [Zaq, Zaq, List.length_append, List.length_append]; exact hownC) hgC)
           | (go_at_call 74; refine (Zev H m2.mem (m2.inv.keeps (m2.step.hot H).keeps') (hzp.step (m2.step.hot H)) hpK hbig).mono ?_; rintro e wP ⟨kp, F2, G2, rfl, hk0, hk1, hfp, mP, iP, sP, gP, xP⟩; have m3 := m2.place mP sP gP hzp xP; have hszP := m3.step.keeps.size; have HFP := zh hfp; clear hfp)
           | (go_at_call 102; refine (Tryz.strconv_AppendInt_10 w.heap.size _ kp (by omega) (by omega) _ _ _ m3.own hszP (by simp only [List.length_append, List.length_cons, List.length_nil]; omega) (m3.tab hw0)).mono ?_; rintro e wB ⟨vB, rfl, hownB, hbB, hokB⟩))
         go_roundw
         case rel =>
           have m4 := m3.int hw0 (txt' := txt ++ [43] ++ [35] ++ Lib.itoa kp) (by rw [Zaq, List.length_append (bs := Lib.itoa kp)]; exact hownB) hbB hokB
           have hil := Lib.itoa_length_le kp (by omega) (by omega)
           refine ⟨k + 1, by omega, by go_num, F2, G2, _, m4, by simp only [List.length_append, List.length_cons, List.length_nil]; omega, ?_⟩
           rw [HTK.out, List.append_assoc, List.append_assoc]
           refine Zch (Zcg gP.p htx) ?_
           simp only [termText, HFP.out]
           rfl
         case measure => simp [intOf]; omega
       · have cellsC : ∀ {wA wC : World} {vA : Value} {n : Nat} {xs : List Value}, wA.cell? ⟨wr.heap.size, 1, none⟩ = some (.int .i64 s1) ∧ wA.cell? ⟨wr.heap.size, 2, none⟩ = some (.pointer (some p)) → wA.ownsRow w.heap.size 5 1 vA n xs →
             (wA.alloc (.cells #[.int .u8 35] 5)).grownBy wC vA.ownBlock → wA.heap[wr.heap.size]? = some (.cells #[.bool true, .int .i64 s1, .pointer (some p)] 62) → wC.cell? ⟨wr.heap.size, 2, none⟩ = some (.pointer (some p)) := by
           intro wA wC vA n xs hc ho hg hh
           have hlt := World.block_lt_of_cell? _ _ hc.2
           refine hg.cell ?_ ?_
           · rw [World.cell?_alloc_lt _ _ ⟨wr.heap.size, 2, none⟩ hlt]; exact hc.2
           · intro e
             obtain ⟨_, h2⟩ := ho
             rcases h2 with ⟨rfl, _⟩ | ⟨g, cap, cur, rfl, _, h3, _⟩
             · simp [Value.ownBlock] at e
             · simp only [Value.ownBlock, Option.some.injEq] at e
               rw [← e, hh] at h3; cases h3
         have heapA : ∀ {wA : World} {cc : Int}, ((wr.alloc (.cells #[.bool true, .int .i64 s1, .pointer (some p)] 62)).alloc (.cells #[.int .u8 cc] 5)).grownBy wA u5.ownBlock → wA.heap[wr.heap.size]? = some (.cells #[.bool true, .int .i64 s1, .pointer (some p)] 62) := by
           intro wA cc hg
           rw [hg.block wr.heap.size (by simp; omega) (fun e => by have := hne _ e.symm; omega)]
           have h1 : (wr.alloc (.cells #[.bool true, .int .i64 s1, .pointer (some p)] 62)).heap[wr.heap.size]? = _ := heap_alloc_new wr _
           rw [Below.heap_alloc _ _ _ (by simp), h1]
         have M1 := HM.out
         go_wp2_with (first
           | (at_builtin; refine wpList_append_own _ rfl _ _ 50 rfl w.heap.size 5 i0 (.int .u8 0) 1 1 Tryz.underlying50 hi0 hz0 hz1 hz2 rfl (by decide) _ _ _ rfl ((hown.alloc _).alloc _) ⟨wr.heap.size + 1, 0, none⟩ 1 1 [.int .u8 45] rfl rfl (Zdr wr _ [.int .u8 45] _ _) (by simp [Value.oneCell']) (by unfold maxLen; omega) (by omega) (by simp; omega) ?_; intro vA wA hownA hgA _; have hszA := hgA.size; have hcA := cellsA hgA)
           | (at_builtin; refine wpList_append_own _ rfl _ _ 50 rfl w.heap.size 5 i0 (.int .u8 0) 1 1 Tryz.underlying50 hi0 hz0 hz1 hz2 rfl (by decide) _ _ _ rfl (hownA.alloc _) ⟨wA.heap.size, 0, none⟩ 1 1 [.int .u8 35] rfl rfl (Zaj wA [.int .u8 35] _ _) (by simp [Value.oneCell']) (by unfold maxLen; omega) (by omega) (by simp at hszA ⊢; omega) ?_; intro vC wC hownC hgC _; have hszC := hgC.size; have hcC := cellsC hcA hownA hgC (heapA hgA); have m2 := Mid.append ((Mid.append ((M1.alloc _).alloc _) hw0 (txt' := txt ++ [45]) (by rw [Zaq, List.length_append]; exact hownA) hgA).alloc _) hw0 (txt' := txt ++ [45] ++ [35]) (by rw [Zaq, Zaq, List.length_append, List.length_append]; exact hownC) hgC)
           | (go_at_call 74; refine (Zev H m2.mem (m2.inv.keeps (m2.step.hot H).keeps') (hzp.step (m2.step.hot H)) hpK hbig).mono ?_; rintro e wP ⟨kp, F2, G2, rfl, hk0, hk1, hfp, mP, iP, sP, gP, xP⟩; have m3 := m2.place mP sP gP hzp xP; have hszP := m3.step.keeps.size; have HFP := zh hfp; clear hfp)
           | (go_at_call 102; refine (Tryz.strconv_AppendInt_10 w.heap.size _ kp (by omega) (by omega) _ _ _ m3.own hszP (by simp only [List.length_append, List.length_cons, List.length_nil]; omega) (m3.tab hw0)).mono ?_; rintro e wB ⟨vB, rfl, hownB, hbB, hokB⟩))
         go_roundw
         case rel =>
           have m4 := m3.int hw0 (txt' := txt ++ [45] ++ [35] ++ Lib.itoa kp) (by rw [Zaq, List.length_append (bs := Lib.itoa kp)]; exact hownB) hbB hokB
           have hil := Lib.itoa_length_le kp (by omega) (by omega)
           refine ⟨k + 1, by omega, by go_num, F2, G2, _, m4, by simp only [List.length_append, List.length_cons, List.length_nil]; omega, ?_⟩
           rw [HTK.out, List.append_assoc, List.append_assoc]
           refine Zch (Zcg gP.p htx) ?_
           simp only [termText, HFP.out]
           rfl
         case measure => simp [intOf]; omega
   · have hkn : k = ts.length := by omega
     have hconv := Znp wr u5 txt hown
     have HKN := zh hkn
     clear hkn
     go_wp2
     go_ret
     have m := HM.out
     refine ⟨⟨txt.toArray⟩, F', G', rfl, ?_, m.mem, m.inv.keeps (m.step.hot H).keeps', m.step, m.grown⟩
     rw [HKN.out, List.take_length] at htx
     rw [htx]
     simp
end
end Go.Proofs.YtlkmgclbckojgaaGreatDoor

