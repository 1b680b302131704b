import Derived.Test.YtlkmgclbckojgaaGreatDoorO0
set_option linter.unusedVariables false
set_option linter.unusedSimpArgs false
namespace Go.Proofs.YtlkmgclbckojgaaGreatDoor
section
open Go.RowKit
variable {B B' : Nat → Prop}
section
variable {wc : World} {s s' z y : Int} {g g' : Option Addr}
end
end
section
open Go.RowKit
variable {B B' : Nat → Prop}
theorem Zes {z : Int} (h : allowedZ z) {u : Tm} (hu : u ∈ naf z) : allowedZ (u.2 : Int) := by
 refine ⟨by have := Zkl hu; have := h.1; omega, by have := hgt_ge hu; have := h.2.1; omega, fun p hp => h.2.2 p (Zb6 (Zaz z) (Zaz z z (Za5 z) u hu) p hp)⟩
def ofT (u : Tm) : Bool × Int := (u.1, (u.2 : Int))
theorem TVals.fits {w : World} {D : Addr → Option Int} {S : List Addr} (hf : Forest w B D) (hS : ∀ p y, D p = some y → p ∈ S) {L : Nat} (hL : S.length ≤ L) : ∀ {ts : List TV} {l : List Tm}, TVals D ts l → (∀ u ∈ l, allowedZ (u.2 : Int)) → FitsV B w ts (l.map ofT)
 | [], [], _, _ => trivial
 | t :: ts, u :: l, h, ha => ⟨⟨h.1.1, NumA.of ⟨D, S, hf, hS, hL, h.1.2⟩ (ha u (List.mem_cons_self ..))⟩, TVals.fits hf hS hL h.2 (fun x hx => ha x (List.mem_cons_of_mem _ hx))⟩
 | [], u :: l, h, _ => h.elim
 | t :: ts, [], h, _ => h.elim
section
variable {wc : World} {s s' z y : Int} {g g' : Option Addr}
theorem LawW.terms (h : LawW wc) (hx : NumA B wc s g z) : ∀ W, Below wc.heap.size wc W → Calls Tryz.prog 32 #[.agg #[.int .i64 s, .pointer g]] W fun e w' => ∃ (a : Option Addr) (c : Nat) (ts : List TV), e = .returned (.slice a ts.length c) ∧ ts.length = Go.Proofs.YtlkmgclbckojgaaGreatDoor.wt z ∧ w'.ownsRow W.heap.size 62 3 (.slice a ts.length c) ts.length (flatT ts) ∧ FitsV cold w' ts ((naf z).map ofT) ∧ Below W.heap.size W w' := by
 intro W hW
 obtain ⟨ha, D, S, h1, h2, h3, h4⟩ := (hx.below hW).cold
 have hw : wide z := by have := hx.wt; have := Za8; unfold wide; omega
 refine (Zey h1 h4 hw).mono ?_
 rintro e w' ⟨v, ts, rfl, ho, ht, hb⟩
 obtain ⟨a, c, rfl⟩ := (RowV.of_own ho).shape
 exact ⟨a, c, ts, rfl, by rw [ht.len]; rfl, ho, TVals.fits (h1.keeps ⟨hb.os, hb.tape, hb.output, hb.size, fun k hk _ => hb.block k hk⟩) h2 h3 ht (fun u hu => Zes ha hu), hb⟩
theorem LawW.weight (h : LawW wc) (hx : NumA B wc s g z) : ∀ W, Below wc.heap.size wc W → Calls Tryz.prog 30 #[.agg #[.int .i64 s, .pointer g]] W fun e w' => e = .returned (.int .i64 (weightZ z)) ∧ Below wc.heap.size wc w' := by
 intro W hW
 refine (Zcf ((hx.below hW).cold.2.more (by omega))).mono ?_
 rintro e w' ⟨rfl, hb⟩
 exact ⟨rfl, hW.trans (hb.mono hW.size)⟩
theorem LawW.height (h : LawW wc) (hx : NumA B wc s g z) : ∀ W, Below wc.heap.size wc W → Calls Tryz.prog 31 #[.agg #[.int .i64 s, .pointer g]] W fun e w' => e = .returned (.int .i64 (hgt z)) ∧ Below wc.heap.size wc w' := by
 intro W hW
 refine (Zgc ((hx.below hW).cold.2.more (by omega))).mono ?_
 rintro e w' ⟨rfl, hb⟩
 exact ⟨rfl, hW.trans (hb.mono hW.size)⟩
end
end
section
open Go.RowKit
variable {B B' : Nat → Prop}
end
section
open Go.RowKit
variable {B B' : Nat → Prop}
section
variable {wc : World} {s s' z y : Int} {g g' : Option Addr}
theorem LawW.terms0 (h : LawW wc) (hx : NumA B wc s g z) : ∀ W, Below wc.heap.size wc W → Calls Tryz.prog 32 #[.agg #[.int .i64 s, .pointer g]] W fun e w' => ∃ (a : Option Addr) (c : Nat) (ts : List TV), e = .returned (.slice a ts.length c) ∧ ts.length = Go.Proofs.YtlkmgclbckojgaaGreatDoor.wt z ∧ w'.ownsRow W.heap.size 62 3 (.slice a ts.length c) ts.length (flatT ts) ∧ FitsV cold wc ts ((naf z).map ofT) ∧ Below W.heap.size W w' := by
 intro W hW
 obtain ⟨ha, D, S, h1, h2, h3, h4⟩ := hx.cold
 have hw : wide z := by have := hx.wt; have := Za8; unfold wide; omega
 refine (Zey (h1.keeps ⟨hW.os, hW.tape, hW.output, hW.size, fun k hk _ => hW.block k hk⟩) h4 hw).mono ?_
 rintro e w' ⟨v, ts, rfl, ho, ht, hb⟩
 obtain ⟨a, c, rfl⟩ := (RowV.of_own ho).shape
 exact ⟨a, c, ts, rfl, by rw [ht.len]; rfl, ho, TVals.fits h1 h2 h3 ht (fun u hu => Zes ha hu), hb⟩
theorem LawW.bytes (h : LawW wc) (hx : NumA B wc s g z) : ∀ W, Below wc.heap.size wc W → Calls Tryz.prog 18 #[.agg #[.int .i64 s, .pointer g]] W fun e w' => ∃ (a : Option Addr) (c : Nat), e = .returned (.slice a (bytesZ z).length c) ∧ w'.ownsRow W.heap.size 5 1 (.slice a (bytesZ z).length c) (bytesZ z).length (byV (bytesZ z)) ∧ Below W.heap.size W w' := by
 intro W hW
 exact Zcr hx.1 (hx.below hW).2 (h W hW).1 (h W hW).2
end
end
section
open Go.RowKit
variable {B B' : Nat → Prop}
end
end Go.Proofs.YtlkmgclbckojgaaGreatDoor

