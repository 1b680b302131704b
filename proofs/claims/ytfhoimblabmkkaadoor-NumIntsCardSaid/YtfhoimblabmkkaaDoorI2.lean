import Derived.Test.YtfhoimblabmkkaaDoorI1
import Derived.Test.YtfhoimblabmkkaaDoorA2
import Derived.Deep.CutRange
import Derived.Deep.RegionHeld3
import Derived.Deep.DrawnRows
set_option linter.unusedVariables false
set_option linter.unusedSimpArgs false
namespace Go.Proofs.YtfhoimblabmkkaaDoor
open Go.RowKit
set_option linter.unusedVariables false
attribute [local go_sem ↓] Go.wp_at_zero Go.wp_at_succ

theorem tri (a : Int) : (decide (0 < a) = false ∧ decide (a < 0) = true) ∨ (decide (0 < a) = false ∧ decide (a < 0) = false) ∨ (decide (0 < a) = true ∧ decide (a < 0) = false) := by
  simp only [decide_eq_true_eq, decide_eq_false_iff_not]
  omega
theorem boolc (p : Bool) : p = true ∨ p = false := by cases p <;> simp
theorem two (c : Int) : (decide (c < 0) = true ∧ decide (0 ≤ c) = false) ∨ (decide (c < 0) = false ∧ decide (0 ≤ c) = true) := by
  simp only [decide_eq_true_eq, decide_eq_false_iff_not]
  omega

set_option maxRecDepth 100000 in
set_option maxHeartbeats 8000000 in
/-- ████ NumInts -/
theorem NumInts_calls {w : World} (tab : Tab w) (h0 : 0 < w.heap.size) (a b : Int) (ia : i64 a) (ib : i64 b) :
    Calls Tryd.prog 11 #[.int .i64 a, .int .i64 b] w fun e w' => e = .returned (.bool true) ∧ Below w.heap.size w w' := by
  have htw : ∀ W, Below w.heap.size w W → Tab W ∧ 0 < W.heap.size := fun W hW => ⟨tab_below tab h0 hW, by have := hW.size; omega⟩
  have HX := Lib.hid (And.intro tab (And.intro h0 (And.intro ia (And.intro ib htw))))
  clear tab h0 ia ib htw
  go_enter Tryd.func11, Tryd.ntmps11
  go_upto_region 3 with (first
    | (have hq := H2
       go_at_call 38; refine (int_calls _ _ _).mono ?_; rintro e3 w3 ⟨rfl, hb3⟩
       have hW := hq.out.trans (((((Below.refl _ w2).alloc (Nat.le_refl _) (.cells #[.int .i64 a, .pointer none] 29)).alloc (by simp) (.cells #[.int .i64 b, .pointer none] 29)).trans (hb3.mono (by simp; omega))).mono hq.out.size)
       have p1 := heap_alloc_new w2 (.cells #[.int .i64 a, .pointer none] 29)
       have p2 := heap_alloc_new (w2.alloc (.cells #[.int .i64 a, .pointer none] 29)) (.cells #[.int .i64 b, .pointer none] 29)
       have p3 := (((Below.refl _ (w2.alloc (.cells #[.int .i64 a, .pointer none] 29))).alloc (Nat.le_refl _) (.cells #[.int .i64 b, .pointer none] 29)).block _ (lt_ofO p1)).trans p1
       have x1 := (hb3.block _ (lt_ofO p3)).trans p3
       have x2 := (hb3.block _ (lt_ofO p2)).trans p2
       rw [show (w2.alloc (.cells #[.int .i64 a, .pointer none] 29)).heap.size = w2.heap.size + 1 by simp] at x2
       clear p1 p2 p3
       have H3 := Lib.hid (And.intro hW (And.intro x1 x2))
       clear hq hb3 hW x1 x2)
    | (have hq := H1
       go_at_call 18; refine (of_calls _ _).mono ?_; rintro e2 w2 ⟨rfl, hb2⟩
       have hW := hq.out.trans (hb2.mono hq.out.size)
       clear hq hb2
       have H2 := Lib.hid hW
       clear hW)
    | (go_at_call 18; refine (of_calls _ _).mono ?_; rintro e1 w1 ⟨rfl, hb1⟩
       have H1 := Lib.hid hb1
       clear hb1))
  generalize w2.heap.size + 1 = b2 at *
  generalize w2.heap.size = b1 at *
  clear H1 H2
  go_cut [55] from 24 to 211 (fun t wx => t = .bool false ∧ Below w3.heap.size w3 wx)
  case first =>
    obtain ⟨hW, x1, x2⟩ := H3.out
    obtain ⟨y1, y2⟩ := num_cells x1
    clear x1 x2 hW
    have hc : ∀ W, Below w3.heap.size w3 W → W.cell? ⟨b1, 0, none⟩ = some (.int .i64 a) ∧ W.cell? ⟨b1, 1, none⟩ = some (.pointer none) := fun W hW => num_cells ((hW.block _ (lt_ofO H3.out.2.1)).trans H3.out.2.1)
    have HQ := Lib.hid hc
    clear hc
    have hsg := fun W => sign_calls (F := cold) a none a W (IsN.small W cold HX.out.2.2.1)
    rcases Int.lt_trichotomy a 0 with h | h | h
    · have k1 : sgn a = -1 := by simp [sgn]; omega
      have k2 : decide (0 < a) = false := by simp; omega
      have k3 : decide (a < 0) = true := by simp; omega
      rw [k1] at hsg
      clear h k1
      as_aux_lemma =>
        go_wp2_with (first
            | (have hq := H5
               go_at_call 29; refine (hsg _).mono ?_; rintro e6 w6 ⟨rfl, hb6⟩
               have H6 := Lib.hid (hq.out.trans (hb6.mono hq.out.size))
               clear hb6 hq)
            | (go_at_call 29; refine (hsg _).mono ?_; rintro e5 w5 ⟨rfl, hb5⟩
               have hW : Below w3.heap.size w3 w5 := Below.trans (by repeat (first | exact Below.refl _ _ | refine Below.drew ?_)) (hb5.mono (by first | exact Nat.le_refl _ | simp))
               obtain ⟨y3, y4⟩ := HQ.out _ hW
               have H5 := Lib.hid hW
               clear hb5 hW))
        go_meet
        exact ⟨rfl, H6.out⟩
    · have k1 : sgn a = 0 := by simp [sgn]; omega
      have k2 : decide (0 < a) = false := by simp; omega
      have k3 : decide (a < 0) = false := by simp; omega
      rw [k1] at hsg
      clear h k1
      as_aux_lemma =>
        go_wp2_with (first
            | (have hq := H5
               go_at_call 29; refine (hsg _).mono ?_; rintro e6 w6 ⟨rfl, hb6⟩
               have H6 := Lib.hid (hq.out.trans (hb6.mono hq.out.size))
               clear hb6 hq)
            | (go_at_call 29; refine (hsg _).mono ?_; rintro e5 w5 ⟨rfl, hb5⟩
               have hW : Below w3.heap.size w3 w5 := Below.trans (by repeat (first | exact Below.refl _ _ | refine Below.drew ?_)) (hb5.mono (by first | exact Nat.le_refl _ | simp))
               obtain ⟨y3, y4⟩ := HQ.out _ hW
               have H5 := Lib.hid hW
               clear hb5 hW))
        go_meet
        exact ⟨rfl, H6.out⟩
    · have k1 : sgn a = 1 := by simp [sgn]; omega
      have k2 : decide (0 < a) = true := by simp; omega
      have k3 : decide (a < 0) = false := by simp; omega
      rw [k1] at hsg
      clear h k1
      as_aux_lemma =>
        go_wp2_with (first
            | (have hq := H5
               go_at_call 29; refine (hsg _).mono ?_; rintro e6 w6 ⟨rfl, hb6⟩
               have H6 := Lib.hid (hq.out.trans (hb6.mono hq.out.size))
               clear hb6 hq)
            | (go_at_call 29; refine (hsg _).mono ?_; rintro e5 w5 ⟨rfl, hb5⟩
               have hW : Below w3.heap.size w3 w5 := Below.trans (by repeat (first | exact Below.refl _ _ | refine Below.drew ?_)) (hb5.mono (by first | exact Nat.le_refl _ | simp))
               obtain ⟨y3, y4⟩ := HQ.out _ hW
               have H5 := Lib.hid hW
               clear hb5 hW))
        go_meet
        exact ⟨rfl, H6.out⟩
  case rest =>
    obtain ⟨rfl, hbw⟩ := hcut
    have HZ := Lib.hid (And.intro (H3.out.1.trans (hbw.mono H3.out.1.size)) (And.intro ((hbw.block _ (lt_ofO H3.out.2.1)).trans H3.out.2.1) ((hbw.block _ (lt_ofO H3.out.2.2)).trans H3.out.2.2)))
    clear hbw H3
    go_upto_if 58 with fail
    go_cut [9] from 24 to 211 (fun t wx => t = .int .i64 (sgn (a - b)) ∧ wx = wc)
    case first =>
      rcases Int.lt_trichotomy a b with h | h | h
      · have k1 : sgn (a - b) = -1 := by simp [sgn]; omega
        have K1 := Lib.hid k1
        have j1 : a < b := by omega
        have j2 : ¬ b < a := by omega
        clear h k1
        as_aux_lemma =>
          go_wp2_with fail
          go_meet
          exact ⟨by rw [K1.out], rfl⟩
      · have k1 : sgn (a - b) = 0 := by simp [sgn]; omega
        have K1 := Lib.hid k1
        have j1 : ¬ a < b := by omega
        have j2 : ¬ b < a := by omega
        clear h k1
        as_aux_lemma =>
          go_wp2_with fail
          go_meet
          exact ⟨by rw [K1.out], rfl⟩
      · have k1 : sgn (a - b) = 1 := by simp [sgn]; omega
        have K1 := Lib.hid k1
        have j1 : ¬ a < b := by omega
        have j2 : b < a := by omega
        clear h k1
        as_aux_lemma =>
          go_wp2_with fail
          go_meet
          exact ⟨by rw [K1.out], rfl⟩
    case rest =>
      obtain ⟨rfl, rfl⟩ := hcut
      have HCMP := Lib.hid (fun W (hW : Below w.heap.size w W) => Cmp_calls ((NumA.small (B := cold) W HX.out.2.2.1).2) ((NumA.small (B := cold) W HX.out.2.2.2.1).2) (by unfold big; omega) (HX.out.2.2.2.2 W hW).1 (HX.out.2.2.2.2 W hW).2)
      generalize sgn (a - b) = cv at *
      have hADD : ∀ W, Below wc.heap.size wc W → Calls Tryd.prog 16 #[.agg #[.int .i64 a, .pointer none], .agg #[.int .i64 b, .pointer none]] W fun e w' => ∃ (r : Int) (q : Option Addr), e = .returned (.tuple #[.agg #[.int .i64 r, .pointer q], .int .i64 0]) ∧ NumA cold w' r q (a + b) ∧ Below wc.heap.size wc w' := by
        intro W hW
        have hh := HX.out.2.2.2.2 W (HZ.out.1.trans (hW.mono HZ.out.1.size))
        refine (Add_yes2 (B := cold) (NumA.small _ HX.out.2.2.1) (NumA.small _ HX.out.2.2.2.1) hh.1 hh.2 (fun k hk => hk.elim) (allowed_sum HX.out.2.2.1 HX.out.2.2.2.1).1).mono ?_
        rintro e w' ⟨r, q, rfl, hn, hb⟩
        exact ⟨r, q, rfl, hn, hW.trans (hb.mono hW.size)⟩
      have hSUB : ∀ W, Below wc.heap.size wc W → Calls Tryd.prog 17 #[.agg #[.int .i64 a, .pointer none], .agg #[.int .i64 b, .pointer none]] W fun e w' => ∃ (r : Int) (q : Option Addr), e = .returned (.tuple #[.agg #[.int .i64 r, .pointer q], .int .i64 0]) ∧ NumA cold w' r q (a - b) ∧ Below wc.heap.size wc w' := by
        intro W hW
        have hh := HX.out.2.2.2.2 W (HZ.out.1.trans (hW.mono HZ.out.1.size))
        refine (Sub_yes2 (B := cold) (NumA.small _ HX.out.2.2.1) (NumA.small _ HX.out.2.2.2.1) hh.1 hh.2 (fun k hk => hk.elim) (allowed_sum HX.out.2.2.1 HX.out.2.2.2.1).2).mono ?_
        rintro e w' ⟨r, q, rfl, hn, hb⟩
        exact ⟨r, q, rfl, hn, hW.trans (hb.mono hW.size)⟩
      have hST : ∀ W, Below wc.heap.size wc W → (W.cell? ⟨b1, 0, none⟩ = some (.int .i64 a) ∧ W.cell? ⟨b1, 1, none⟩ = some (.pointer none)) ∧ (W.cell? ⟨b2, 0, none⟩ = some (.int .i64 b) ∧ W.cell? ⟨b2, 1, none⟩ = some (.pointer none)) := fun W hW =>
        ⟨num_cells ((hW.block _ (lt_ofO HZ.out.2.1)).trans HZ.out.2.1), num_cells ((hW.block _ (lt_ofO HZ.out.2.2)).trans HZ.out.2.2)⟩
      have HS := Lib.hid (And.intro hST (And.intro hADD hSUB))
      clear hST hADD hSUB
      have hw0 := Lib.hid (Below.refl wc.heap.size wc)
      generalize hwv : wc = wv at HS HZ
      go_upto_region 10 with fail
      go_cut [10, 11] from 24 to 211 (fun t e wx => ∃ b3, t = .pointer (some ⟨b3, 0, none⟩) ∧ e = .int .i64 0 ∧ Below wv.heap.size wv wx ∧ NumAt cold wx b3 (a + b))
      case first =>
        subst hwv
        obtain ⟨⟨y1, y2⟩, y3, y4⟩ := HS.out.1 _ (Below.refl _ _)
        as_aux_lemma =>
          go_wp2_with (first
            | (go_at_call 16; refine (HS.out.2.1 _ (by repeat (first | exact Below.refl _ _ | refine Below.drew ?_))).mono ?_; rintro e5 w5 ⟨r5, q5, rfl, hn5, hb5⟩
               have H5 := Lib.hid (And.intro hb5 hn5)
               clear hb5 hn5))
          go_meet
          exact ⟨_, rfl, rfl, H5.out.1.alloc H5.out.1.size _, NumAt.new H5.out.2⟩
      case rest =>
        obtain ⟨b3, rfl, rfl, hbw, hn3⟩ := hcut
        clear hwv
        have H3 := Lib.hid (And.intro hbw hn3)
        clear hbw hn3
        go_upto_region 11 with fail
        go_cut [12, 13] from 24 to 211 (fun t e wx => ∃ b4, t = .pointer (some ⟨b4, 0, none⟩) ∧ e = .int .i64 0 ∧ Below wv.heap.size wv wx ∧ NumAt cold wx b3 (a + b) ∧ NumAt cold wx b4 (a - b))
        case first =>
          obtain ⟨⟨y1, y2⟩, y3, y4⟩ := HS.out.1 _ H3.out.1
          have HN : Hid (∀ W, Below wv.heap.size wv W → Below wc.heap.size wc W → NumAt cold W b3 (a + b)) := fun W _ hW => H3.out.2.below hW
          have hSB : ∀ W, Below wc.heap.size wc W → Calls Tryd.prog 17 #[.agg #[.int .i64 a, .pointer none], .agg #[.int .i64 b, .pointer none]] W fun e w' => ∃ (r : Int) (q : Option Addr), e = .returned (.tuple #[.agg #[.int .i64 r, .pointer q], .int .i64 0]) ∧ NumA cold w' r q (a - b) ∧ Below wv.heap.size wv w' ∧ NumAt cold w' b3 (a + b) := by
            intro W hW
            have hh := HX.out.2.2.2.2 W (HZ.out.1.trans ((H3.out.1.trans (hW.mono H3.out.1.size)).mono HZ.out.1.size))
            refine (Sub_yes2 (B := cold) (NumA.small _ HX.out.2.2.1) (NumA.small _ HX.out.2.2.2.1) hh.1 hh.2 (fun k hk => hk.elim) (allowed_sum HX.out.2.2.1 HX.out.2.2.2.1).2).mono ?_
            rintro e w' ⟨r, q, rfl, hn, hb⟩
            exact ⟨r, q, rfl, hn, (H3.out.1.trans (hW.mono H3.out.1.size)).trans (hb.mono (H3.out.1.trans (hW.mono H3.out.1.size)).size), (H3.out.2.below hW).below hb⟩
          have HSB := Lib.hid hSB
          clear hSB
          as_aux_lemma =>
            go_wp2_with (first
              | (go_at_call 17; refine (HSB.out _ (by repeat (first | exact Below.refl _ _ | refine Below.drew ?_))).mono ?_; rintro e5 w5 ⟨r5, q5, rfl, hn5, hb5, hx5⟩
                 have H5 := Lib.hid (And.intro hb5 (And.intro hn5 hx5))
                 clear hb5 hn5 hx5))
            go_meet
            exact ⟨_, rfl, rfl, H5.out.1.alloc H5.out.1.size _, H5.out.2.2.below ((Below.refl _ _).alloc (Nat.le_refl _) _), NumAt.new H5.out.2.1⟩
        case rest =>
          obtain ⟨b4, rfl, rfl, hbw, hn3, hn4⟩ := hcut
          clear H3
          obtain ⟨s3, g3, c3, n3⟩ := hn3
          obtain ⟨s4, g4, c4, n4⟩ := hn4
          obtain ⟨y1, y2⟩ := num_cells c3
          have HSS := Lib.hid (fun W (hW : Below wc.heap.size wc W) => num_cells ((hW.block _ (lt_ofO c4)).trans c4))
          obtain ⟨p1, hp1⟩ : ∃ p, p = decide (i64 (a + b)) := ⟨_, rfl⟩
          obtain ⟨p2, hp2⟩ : ∃ p, p = decide (i64 (a - b)) := ⟨_, rfl⟩
          obtain ⟨s1, hs1⟩ : ∃ s, s = smallZ (a + b) := ⟨_, rfl⟩
          obtain ⟨s2, hs2⟩ : ∃ s, s = smallZ (a - b) := ⟨_, rfl⟩
          obtain ⟨ov, hov⟩ : ∃ p, p = !p1 := ⟨_, rfl⟩
          obtain ⟨un, hun⟩ : ∃ p, p = !p2 := ⟨_, rfl⟩
          have hi1 := fun W => Int_num (W := W) n3
          have hi2 := fun W => Int_num (W := W) n4
          rw [← hp1, ← hs1] at hi1
          rw [← hp2, ← hs2] at hi2
          have HOV := Lib.hid (hov.trans ((congrArg (fun x => !x) hp1).trans (over_sum HX.out.2.2.1 HX.out.2.2.2.1)))
          have HUN := Lib.hid (hun.trans ((congrArg (fun x => !x) hp2).trans (over_diff HX.out.2.2.1 HX.out.2.2.2.1)))
          have HP1 := Lib.hid (And.intro (show p1 = true → IntKind.i64.wrap (a + b) = s1 by rw [hp1, hs1]; intro h; exact (small_wrap (by simpa using h)).symm) hov)
          have HP2 := Lib.hid (And.intro (show p2 = true → IntKind.i64.wrap (a - b) = s2 by rw [hp2, hs2]; intro h; exact (small_wrap (by simpa using h)).symm) hun)
          have HI := Lib.hid (And.intro hi1 (And.intro hi2 hbw))
          clear hi1 hi2 hp1 hp2 hs1 hs2 hov hun
          clear n3 n4 c3 c4 hbw
          go_upto_region 14 with (first
            | (have hq := H5
               go_at_call 38; refine (HI.out.2.1 _).mono ?_; rintro e6 w6 ⟨rfl, hb6⟩
               have H6 := Lib.hid (hq.out.trans (hb6.mono hq.out.size))
               clear hq hb6)
            | (go_at_call 38; refine (HI.out.1 _).mono ?_; rintro e5 w5 ⟨rfl, hb5⟩
               obtain ⟨y3, y4⟩ := HSS.out _ hb5
               have H5 := Lib.hid hb5
               clear hb5))
          have HH6 := Lib.hid (And.intro HI.out.2.2 H6.out)
          clear HI H5 y1 y2 y3 y4
          go_upto_region 14 with fail
          go_cut [18] from 24 to 211 (fun t wx => t = .bool ov ∧ Below w6.heap.size w6 wx)
          case first =>
            have HO := HOV.out
            generalize hcc : IntKind.i64.wrap (a + b) = c at HO
            rcases tri a with ⟨ea, fa⟩ | ⟨ea, fa⟩ | ⟨ea, fa⟩
            · rcases boolc (decide (b < 0)) with fb | fb
              · rcases boolc (decide (0 ≤ c)) with fc | fc
                · simp only [ea, fa, fb, fc] at HO
                  have HO2 := Lib.hid HO
                  clear HO
                  as_aux_lemma =>
                    go_wp2_with fail
                    go_meet
                    exact ⟨by rw [HO2.out]; rfl, Below.refl _ _⟩
                · simp only [ea, fa, fb, fc] at HO
                  have HO2 := Lib.hid HO
                  clear HO
                  as_aux_lemma =>
                    go_wp2_with fail
                    go_meet
                    exact ⟨by rw [HO2.out]; rfl, Below.refl _ _⟩
              · simp only [ea, fa, fb] at HO
                have HO2 := Lib.hid HO
                clear HO
                as_aux_lemma =>
                  go_wp2_with fail
                  go_meet
                  exact ⟨by rw [HO2.out]; rfl, Below.refl _ _⟩
            · simp only [ea, fa] at HO
              have HO2 := Lib.hid HO
              clear HO
              as_aux_lemma =>
                go_wp2_with fail
                go_meet
                exact ⟨by rw [HO2.out]; rfl, Below.refl _ _⟩
            · rcases boolc (decide (0 < b)) with eb | eb
              · rcases boolc (decide (c < 0)) with ec | ec
                · simp only [ea, fa, eb, ec] at HO
                  have HO2 := Lib.hid HO
                  clear HO
                  as_aux_lemma =>
                    go_wp2_with fail
                    go_meet
                    exact ⟨by rw [HO2.out]; rfl, Below.refl _ _⟩
                · simp only [ea, fa, eb, ec] at HO
                  have HO2 := Lib.hid HO
                  clear HO
                  as_aux_lemma =>
                    go_wp2_with fail
                    go_meet
                    exact ⟨by rw [HO2.out]; rfl, Below.refl _ _⟩
              · simp only [ea, fa, eb] at HO
                have HO2 := Lib.hid HO
                clear HO
                as_aux_lemma =>
                  go_wp2_with fail
                  go_meet
                  exact ⟨by rw [HO2.out]; rfl, Below.refl _ _⟩
          case rest =>
            obtain ⟨rfl, hbx⟩ := hcut
            have HB := Lib.hid hbx
            clear hbx
            go_upto_region 15 with fail
            go_cut [19] from 24 to 211 (fun t wx => t = .bool un ∧ Below w6.heap.size w6 wx)
            case first =>
              have HO := HUN.out
              generalize hcc : IntKind.i64.wrap (a - b) = c at HO
              rcases two a with ⟨fa, ga⟩ | ⟨fa, ga⟩
              · rcases boolc (decide (0 < b)) with eb | eb
                · rcases boolc (decide (0 ≤ c)) with fc | fc
                  · simp only [fa, ga, eb, fc] at HO
                    have HO2 := Lib.hid HO
                    clear HO
                    as_aux_lemma =>
                      go_wp2_with fail
                      go_meet
                      exact ⟨by rw [HO2.out]; rfl, (HB.out.trans (Below.refl _ _))⟩
                  · simp only [fa, ga, eb, fc] at HO
                    have HO2 := Lib.hid HO
                    clear HO
                    as_aux_lemma =>
                      go_wp2_with fail
                      go_meet
                      exact ⟨by rw [HO2.out]; rfl, (HB.out.trans (Below.refl _ _))⟩
                · simp only [fa, ga, eb] at HO
                  have HO2 := Lib.hid HO
                  clear HO
                  as_aux_lemma =>
                    go_wp2_with fail
                    go_meet
                    exact ⟨by rw [HO2.out]; rfl, (HB.out.trans (Below.refl _ _))⟩
              · rcases boolc (decide (b < 0)) with fb | fb
                · rcases boolc (decide (c < 0)) with ec | ec
                  · simp only [fa, ga, fb, ec] at HO
                    have HO2 := Lib.hid HO
                    clear HO
                    as_aux_lemma =>
                      go_wp2_with fail
                      go_meet
                      exact ⟨by rw [HO2.out]; rfl, (HB.out.trans (Below.refl _ _))⟩
                  · simp only [fa, ga, fb, ec] at HO
                    have HO2 := Lib.hid HO
                    clear HO
                    as_aux_lemma =>
                      go_wp2_with fail
                      go_meet
                      exact ⟨by rw [HO2.out]; rfl, (HB.out.trans (Below.refl _ _))⟩
                · simp only [fa, ga, fb] at HO
                  have HO2 := Lib.hid HO
                  clear HO
                  as_aux_lemma =>
                    go_wp2_with fail
                    go_meet
                    exact ⟨by rw [HO2.out]; rfl, (HB.out.trans (Below.refl _ _))⟩
            case rest =>
              obtain ⟨rfl, hbx⟩ := hcut
              have HB := Lib.hid hbx
              clear hbx
              have hv : Below wv.heap.size wv wc := HH6.out.1.trans ((HH6.out.2.trans (HB.out.mono HH6.out.2.size)).mono HH6.out.1.size)
              have hcc := HS.out.1 _ hv
              have HW := Lib.hid (HZ.out.1.trans (hv.mono HZ.out.1.size))
              clear HB HH6 HS HSS hv hw0
              go_upto_region 16 with fail
              go_cut [178] from 24 to 211 (fun t wx => t = .bool false ∧ Below w.heap.size w wx)
              case first =>
                obtain ⟨⟨y1, y2⟩, y3, y4⟩ := hcc
                obtain ⟨hs1, hov⟩ := HP1.out
                obtain ⟨hs2, hun⟩ := HP2.out
                clear HP1 HP2 HOV HUN
                cases p1 <;> cases p2 <;> cases ov <;> cases un <;> (try simp at hov) <;> (try simp at hun)
                all_goals
                  as_aux_lemma =>
                    (first | (have hs1 := hs1 rfl) | clear hs1)
                    (first | (have hs2 := hs2 rfl) | clear hs2)
                    go_wp2_with (first
                      | (go_at_call 23; refine (HCMP.out _ HW.out).mono ?_; rintro e7 w7 ⟨rfl, hb7⟩
                         have H7 := Lib.hid (HW.out.trans (hb7.mono HW.out.size))
                         clear hb7))
                    go_meet
                    exact ⟨rfl, H7.out⟩
              case rest =>
                obtain ⟨rfl, hbw⟩ := hcut
                clear HW hcc HCMP HP1 HP2 HOV HUN HZ
                have HW := Lib.hid hbw
                clear hbw
                as_aux_lemma =>
                  have HF := Lib.hid (half_fits HX.out.2.2.1 HX.out.2.2.2.1)
                  obtain ⟨P, hP⟩ : ∃ P, P = a / 8589934592 * (b / 8589934592) := ⟨_, rfl⟩
                  have hmul := fun W => Mul_fits HF.out.1 HF.out.2.1 HF.out.2.2 W
                  have hwP : IntKind.i64.wrap (a / 8589934592 * (b / 8589934592)) = P := by rw [wrap_eq, wrap64_of HF.out.2.2, hP]
                  rw [← hP] at hmul
                  have HM := Lib.hid hmul
                  have HWP := Lib.hid hwP
                  clear hmul hwP hP HF
                  go_upto_region 19 with (first
                    | (have hq := H3
                       go_at_call 19; refine (HM.out _).mono ?_; rintro e5 w5 ⟨rfl, hb5⟩
                       have H5 := Lib.hid (hq.out.trans (hb5.mono hq.out.size))
                       clear hb5 hq)
                    | (have hq := H2
                       go_at_call 18; refine (of_calls _ _).mono ?_; rintro e4 w4 ⟨rfl, hb4⟩
                       have H3 := Lib.hid (hq.out.trans (hb4.mono hq.out.size))
                       clear hb4 hq)
                    | (go_at_call 18; refine (of_calls _ _).mono ?_; rintro e2 w2 ⟨rfl, hb2⟩
                       have H2 := Lib.hid (HW.out.trans (hb2.mono HW.out.size))
                       clear hb2))
                  have hwP := HWP.out
                  go_wp2_with (first
                    | (have hq := H6
                       go_at_call 13; refine (awake_calls (HX.out.2.2.2.2 _ hq.out).1 (HX.out.2.2.2.2 _ hq.out).2).mono ?_; rintro e7 w7 ⟨rfl, hb7⟩
                       have H7 := Lib.hid (hq.out.trans (hb7.mono hq.out.size))
                       clear hb7 hq)
                    | (go_at_call 38; refine (int_calls P none _).mono ?_; rintro e6 w6 ⟨rfl, hb6⟩
                       have H6 := Lib.hid ((H5.out.alloc H5.out.size (.cells #[.int .i64 P, .pointer none] 29)).trans (hb6.mono (H5.out.alloc H5.out.size (.cells #[.int .i64 P, .pointer none] 29)).size))
                       clear hb6))
                  refine bodyPost_ret (v := .bool true) (by simp [results, Tryd.results11, go_sem]) rfl ⟨rfl, H7.out⟩
end Go.Proofs.YtfhoimblabmkkaaDoor
