/- LayoutHeights: the walk. Conditions: those of the frame. -/
import Derived.Test.YthmadcjkodfdeaaWkLy1
namespace Go.Proofs.Ythmadcjkodfdeaa
open Go.RowKit Go.Sort
set_option linter.unusedVariables false
set_option linter.unusedSimpArgs false
namespace Ly
open Dm (RdK bel_alloc bel_trans cell_lt)
/-- '==' of two values of [6]int -/
theorem eq6 (a0 a1 a2 a3 a4 a5 b0 b1 b2 b3 b4 b5 : Int) (w : World) : (Op.equalIn 10000 25 (.agg #[.int .i64 a0, .int .i64 a1, .int .i64 a2, .int .i64 a3, .int .i64 a4, .int .i64 a5]) (.agg #[.int .i64 b0, .int .i64 b1, .int .i64 b2, .int .i64 b3, .int .i64 b4, .int .i64 b5])).run Try.prog w = .ok (a0 == b0 && (a1 == b1 && (a2 == b2 && (a3 == b3 && (a4 == b4 && a5 == b5))))) w := by
  have u3 := Try.underlying3
  have a3' := Try.isAgg3
  have z3 := Try.sizeOf3
  rw [show (10000 : Nat) = 9999 + 1 from rfl, Op.equalIn]
  simp only [Sem.run_bind, run_underlying Try.underlying25, Result.andThen_ok]
  simp only [Std.Legacy.Range.forIn_eq_forIn_range', Std.Legacy.Range.size, Nat.sub_zero, Nat.add_sub_cancel, Nat.div_one, List.range'_succ, List.range'_zero, List.forIn_cons, List.forIn_nil]
  go_simp
  by_cases h0 : a0 = b0
  · by_cases h1 : a1 = b1
    · by_cases h2 : a2 = b2
      · by_cases h3 : a3 = b3
        · by_cases h4 : a4 = b4
          · by_cases h5 : a5 = b5 <;> simp [h0, h1, h2, h3, h4, h5]
          · simp [h0, h1, h2, h3, h4]
        · simp [h0, h1, h2, h3]
      · simp [h0, h1, h2]
    · simp [h0, h1]
  · simp [h0]
theorem guard6 : Try.prog.eqGuardType Try.prog.depth 25 = false := by kernel_rfl
/-- the towers of the height i + 1 among the first n -/
def cnt (g : Ge) (n i : Nat) : Nat := min (g.t i) (n - tot g.t i)
theorem cnt_next {g : Ge} {n i : Nat} (h : InT g ((n + 1 : Nat) : Int) i) (k : Nat) : cnt g (n + 1) k = if k = i then cnt g n k + 1 else cnt g n k := by
  obtain ⟨h1, h2⟩ := h
  unfold cnt
  by_cases e : k = i
  · subst e; rw [if_pos rfl]; omega
  · rw [if_neg e]
    rcases Nat.lt_or_gt_of_ne e with hlt | hlt
    · have := tot_le g.t hlt; omega
    · have := tot_le g.t hlt; omega
theorem cnt_end (g : Ge) {i : Nat} (hi : i < 6) : cnt g (tot g.t 6) i = g.t i := by
  have := tot_le g.t hi
  unfold cnt; omega
/-- a row of 6 ints in the block b -/
def Ar (w : World) (b : Nat) (f : Nat → Nat) : Prop := ∀ k, k < 6 → w.cell? ⟨b, k, none⟩ = some (.int .i64 (f k : Nat)) ∧ w.frozen? ⟨b, k, none⟩ = false
theorem Ar.set {w : World} {b r : Nat} {f : Nat → Nat} (h : Ar w b f) (hr : r < 6) (v : Nat) : Ar (w.setCell ⟨b, r, none⟩ (.int .i64 (v : Nat))) b (fun k => if k = r then v else f k) := fun k hk => by
  refine ⟨?_, by rw [World.frozen?_setCell]; exact (h k hk).2⟩
  by_cases e : k = r
  · subst e
    rw [World.cell?_setCell_same _ _ _ (h k hk).1]; simp
  · rw [World.cell?_setCell_other _ _ _ _ (fun e' => e (by cases e'; rfl)), (h k hk).1]; simp [e]
theorem Ar.congr {w : World} {b : Nat} {f g : Nat → Nat} (h : Ar w b f) (e : ∀ k, f k = g k) : Ar w b g := fun k hk => by rw [← e k]; exact h k hk
theorem Ar.below {w w' : World} {b : Nat} {f : Nat → Nat} (h : Ar w b f) (hb : Below w.heap.size w w') : Ar w' b f := fun k hk =>
  ⟨(hb.cell (p := ⟨b, k, none⟩) (cell_lt (h k hk).1)).trans (h k hk).1, (hb.frozen (p := ⟨b, k, none⟩) (cell_lt (h k hk).1)).trans (h k hk).2⟩
theorem Ar.lt {w : World} {b : Nat} {f : Nat → Nat} (h : Ar w b f) : b < w.heap.size := cell_lt (h 0 (by omega)).1
theorem ar_new (w : World) (t : TypeId) : Ar (w.alloc (.cells #[.int .i64 0, .int .i64 0, .int .i64 0, .int .i64 0, .int .i64 0, .int .i64 0] t)) w.heap.size (fun _ => 0) := fun k hk => by
  refine ⟨?_, World.frozen?_alloc_new _ _ _ _⟩
  rw [World.cell?_alloc_new]
  rcases (show k = 0 ∨ k = 1 ∨ k = 2 ∨ k = 3 ∨ k = 4 ∨ k = 5 by omega) with rfl | rfl | rfl | rfl | rfl | rfl <;> rfl
/-- a tower of the height i + 1 -/
theorem tower_facts {g : Ge} {i m : Nat} (hi : i < 6) (h : InT g (m : Int) i) : hgE g (m : Int) = .tuple #[.int .i64 ((i : Int) + 1), .int .i64 0] ∧ (∃ a : Nat, resp (ltO g (m : Int)) = .tuple #[.int .i64 (a : Nat), .int .i64 0] ∧ resp (wdO g (m : Int) 3) = .tuple #[.int .i64 (a : Nat), .int .i64 0]) ∧
    (∀ k : Nat, k ≤ i → ∃ a : Nat, resp (nxO g (m : Int) (k : Int)) = .tuple #[.int .i64 (a : Nat), .int .i64 0]) ∧ (∀ k : Nat, i < k → resp (nxO g (m : Int) (k : Int)) = .tuple #[.int .i64 0, .int .i64 3]) := by
  obtain ⟨h1, h2⟩ := h
  have hm : 0 < (m : Int) := by omega
  obtain ⟨y, hy, rfl⟩ : ∃ y, y < g.t i ∧ m = 1 + tot g.t i + y := ⟨m - (1 + tot g.t i), by omega, by omega⟩
  have hA := ad9 g (u := 3) hi hy rfl rfl rfl rfl (by omega)
  have hl : ltO g ((1 + tot g.t i + y : Nat) : Int) = some (pT g + wds g.t i + y * (6 + i) + 3) := by rw [ltO, if_pos hm]; exact hA
  have hw : wdO g ((1 + tot g.t i + y : Nat) : Int) 3 = some (pT g + wds g.t i + y * (6 + i) + 3) := by rw [wdO, if_pos (by omega)]; exact hA
  refine ⟨by rw [hgE, pk_of g.t 6 hi ⟨h1, h2⟩, if_pos hi]; rfl, ⟨pT g + wds g.t i + y * (6 + i) + 3, by rw [hl]; rfl, by rw [hw]; rfl⟩, fun k hk => ⟨pT g + wds g.t i + y * (6 + i) + (5 + k), ?_⟩, fun k hk => ?_⟩
  · have hn : nxO g ((1 + tot g.t i + y : Nat) : Int) (k : Int) = some (pT g + wds g.t i + y * (6 + i) + (5 + k)) := by
      rw [nxO, if_pos (by omega), if_pos hm, show (5 : Int) + (k : Int) = ((5 + k : Nat) : Int) by omega]; exact ad9 g hi hy rfl rfl rfl rfl (by omega)
    rw [hn]; rfl
  · have h0 : nxO g ((1 + tot g.t i + y : Nat) : Int) (k : Int) = none := by
      rw [nxO]
      split
      · first | exact ad9_high g (F := 0) hi hy rfl rfl rfl (by omega) | (rw [if_pos hm]; exact ad9_high g (F := 0) hi hy rfl rfl rfl (by omega))
      · rfl
    rw [h0]; rfl
theorem inT_mono {g : Ge} {m i i' : Nat} (h : InT g (m : Int) i) (h' : InT g ((m + 1 : Nat) : Int) i') : i ≤ i' := by
  rcases Nat.lt_or_ge i' i with hlt | hge
  · have := tot_le g.t hlt
    have h1 := h.1
    have h2 := h'.2
    omega
  · exact hge
end Ly
attribute [local go_sem] Ly.eq6 Ly.guard6
namespace Wk
open Ly
open Dm (RdK bel_alloc bel_trans cell_lt)
set_option maxRecDepth 100000 in
set_option maxHeartbeats 4000000 in
theorem walk_layoutHeights (a0 : Ly.Cf) (a0v : List Int) (w : World) (a0b : a0.Bd a0v) (a0r : Dm.RdK .u64 w a0.A a0v) :
    Calls Try.prog 8 #[.agg #[.int .i64 a0.th, .int .i64 a0.sl, .int .u8 a0.en, .int .i64 a0.bu, .int .u8 a0.k, .int .i64 a0.n, .slice a0.A a0.m a0.c, .int .i64 (a0.t 0), .int .i64 (a0.t 1), .int .i64 (a0.t 2), .int .i64 (a0.t 3), .int .i64 (a0.t 4), .int .i64 (a0.t 5), .int .i64 a0.lo, .int .i64 a0.tr, .int .i64 a0.ba]] w fun e w' => e = .returned (.bool true) ∧ Below w.heap.size w w' := by
  have HB := Lib.hid a0b
  have HR := Lib.hid a0r
  clear a0b a0r
  cases hok : okB a0 a0v with
  | false =>
    have HP := Lib.hid (show NewPost a0 a0v = fun w e w' => e = .returned (.tuple #[.pointer none, .int .i64 2]) ∧ Below w.heap.size w w' by funext w e w'; unfold NewPost; rw [hok]; rfl)
    clear hok
    go_enter Try.func8, Try.ntmps8
    go_wp2_with fail
    refine (new_any a0 a0v _ HB.out (HR.out.below (bel_alloc (Below.refl _ _) _))).mono ?_
    rw [HP.out]
    rintro r w1 ⟨rfl, b1⟩
    have B1 := Lib.hid (bel_trans (bel_alloc (Below.refl w.heap.size w) (.cells #[.int .i64 a0.th, .int .i64 a0.sl, .int .u8 a0.en, .int .i64 a0.bu, .int .u8 a0.k, .int .i64 a0.n, .slice a0.A a0.m a0.c, .int .i64 (a0.t 0), .int .i64 (a0.t 1), .int .i64 (a0.t 2), .int .i64 (a0.t 3), .int .i64 (a0.t 4), .int .i64 (a0.t 5), .int .i64 a0.lo, .int .i64 a0.tr, .int .i64 a0.ba] 27)) b1)
    clear b1
    go_wp2_with fail
    refine (works_any _).mono ?_
    rintro r w2 ⟨rfl, b2⟩
    go_wp2
    go_ret
    exact ⟨rfl, bel_trans B1.out b2⟩
  | true =>
    have HP := Lib.hid (show NewPost a0 a0v = fun w e w' => ∃ b A c, e = .returned (.tuple #[.pointer (some ⟨b, 0, none⟩), .int .i64 0]) ∧ w.heap.size ≤ b ∧ LyAt w' b (a0.cut A c) a0v (geo a0 a0v) ∧ (A = none → c = 0) ∧ (∀ a, A = some a → w.heap.size ≤ a.block) ∧ Below w.heap.size w w' by funext w e w'; unfold NewPost; rw [hok]; rfl)
    have HK := Lib.hid (nums hok).ok
    have HT := Lib.hid (nums hok).t
    have CF := Lib.hid (CfB.made w a0 27)
    clear hok
    go_enter Try.func8, Try.ntmps8
    go_wp2_with fail
    refine (new_any a0 a0v _ HB.out (HR.out.below (bel_alloc (Below.refl _ _) _))).mono ?_
    rw [HP.out]
    rintro r w1 ⟨b, A, c, rfl, hb, ly, _, _, b1⟩
    have CF1 := Lib.hid (CF.out.below b1)
    have hs1 : w.heap.size < w1.heap.size := by have := b1.size; rw [World.size_alloc] at this; omega
    have B1 := Lib.hid (bel_trans (bel_alloc (Below.refl w.heap.size w) (.cells #[.int .i64 a0.th, .int .i64 a0.sl, .int .u8 a0.en, .int .i64 a0.bu, .int .u8 a0.k, .int .i64 a0.n, .slice a0.A a0.m a0.c, .int .i64 (a0.t 0), .int .i64 (a0.t 1), .int .i64 (a0.t 2), .int .i64 (a0.t 3), .int .i64 (a0.t 4), .int .i64 (a0.t 5), .int .i64 a0.lo, .int .i64 a0.tr, .int .i64 a0.ba] 27)) b1)
    have LY := Lib.hid ly
    clear ly b1 hb HP HR HB CF
    generalize geo a0 a0v = g at *
    have hT := HK.out.tt
    have AR0 := Lib.hid (show Ar (w1.alloc (.cells #[.int .i64 0, .int .i64 0, .int .i64 0, .int .i64 0, .int .i64 0, .int .i64 0] 25)) w1.heap.size (cnt g 0) from (ar_new w1 25).congr fun k => by simp [cnt])
    have BB0 := Lib.hid (bel_alloc (Below.refl w1.heap.size w1) (.cells #[.int .i64 0, .int .i64 0, .int .i64 0, .int .i64 0, .int .i64 0, .int .i64 0] 25))
    go_wp2_with fail
    go_loopw [6, 7] (fun s6 s7 wr => ∃ m h : Nat, 1 ≤ m ∧ m ≤ tot g.t 6 + 1 ∧ s7 = .int .i64 m ∧ s6 = .int .i64 h ∧ (∀ i, i < 6 → InT g (m : Int) i → h ≤ i + 1) ∧ Ar wr w1.heap.size (cnt g (m - 1)) ∧ Below w1.heap.size w1 wr) (fun _ s7 _ => (tot g.t 6 + 1 - intOf s7).toNat)
    case atStart => exact ⟨1, 1, Nat.le_refl _, by omega, rfl, rfl, fun i _ _ => by omega, AR0.out, BB0.out⟩
    case round =>
      clear AR0 BB0
      obtain ⟨m, h, hm1, hm2, rfl, rfl, hh, ar, bel⟩ := hrel
      have AR := Lib.hid ar
      have BEL := Lib.hid bel
      have LYr := Lib.hid (LY.out.below bel)
      clear ar bel
      have mb : (m : Int) ≤ 1025 := by omega
      by_cases hlt : m ≤ tot g.t 6
      · have d0 : decide ((m : Int) ≤ ((tot g.t 6 : Nat) : Int)) = true := decide_eq_true (by omega)
        obtain ⟨i, hi, hin1, hin2⟩ := in_some g.t 6 (m : Int) (by omega) (by omega)
        have hin : InT g (m : Int) i := ⟨hin1, hin2⟩
        obtain ⟨f1, ⟨a, f2, f3⟩, f4, f5⟩ := tower_facts hi hin
        have hhi := hh i hi hin
        have d1 : decide ((i : Int) + 1 < (h : Int)) = false := decide_eq_false (by omega)
        have i6 : (i : Int) < 6 := by omega
        have d2 : decide ((6 : Int) < (i : Int) + 1) = false := decide_eq_false (by omega)
        have F1 := Lib.hid f1
        have F2 := Lib.hid f2
        have F3 := Lib.hid f3
        have F4 := Lib.hid f4
        have F5 := Lib.hid f5
        have HIN := Lib.hid hin
        have hI : I64 (m : Int) := ⟨by omega, by omega⟩
        obtain ⟨q, hq⟩ : ∃ q, cnt g (m - 1) i = q := ⟨_, rfl⟩
        have hqb : (q : Int) ≤ 1024 := by rw [← hq]; unfold cnt; have := tot_le g.t hi; omega
        have HQ := Lib.hid hq
        clear f1 f2 f3 f4 f5 hin1 hin2 hin hhi hh hq
        go_wp2_with fail
        refine (towers_any LYr.out).mono ?_
        rintro r w2 ⟨rfl, rfl⟩
        go_wp2_with fail
        refine (height_any LYr.out HK.out _).mono ?_
        rw [F1.out]
        rintro r w2 ⟨rfl, b2⟩
        have ar2 := AR.out.below b2
        have AR2 := Lib.hid ar2
        have BEL2 := Lib.hid (BEL.out.trans (b2.mono BEL.out.size))
        obtain ⟨t0, t1⟩ := ar2 i hi
        rw [HQ.out] at t0
        clear b2 AR BEL LYr
        have AR3 := Lib.hid (show Ar (w2.setCell ⟨w1.heap.size, i, none⟩ (.int .i64 ((q : Int) + 1))) w1.heap.size (cnt g m) from (ar2.set hi (q + 1)).congr fun k => by
          have := cnt_next (g := g) (n := m - 1) (i := i) (by rw [show m - 1 + 1 = m by omega]; exact HIN.out) k
          rw [show m - 1 + 1 = m by omega] at this
          rw [this]
          by_cases e : k = i
          · subst e; simp [HQ.out]
          · simp [e])
        have BEL3 := Lib.hid (BEL2.out.setCell (p := ⟨w1.heap.size, i, none⟩) (Nat.le_refl _) (.int .i64 ((q : Int) + 1)))
        clear ar2 AR2 BEL2
        go_wp2_with fail
        generalize w2.setCell ⟨w1.heap.size, i, none⟩ (.int .i64 ((q : Int) + 1)) = w3 at *
        clear t0 t1
        refine (latch_any (LY.out.below BEL3.out) HK.out _ hI).mono ?_
        rw [F2.out]
        rintro r w4 ⟨rfl, b4⟩
        have AR4 := Lib.hid (AR3.out.below b4)
        have BEL4 := Lib.hid (BEL3.out.trans (b4.mono BEL3.out.size))
        clear b4 AR3 BEL3
        go_wp2_with fail
        refine (word_any (LY.out.below BEL4.out) HK.out _ _).mono ?_
        rw [F3.out]
        rintro r w5 ⟨rfl, b5⟩
        have AR5 := Lib.hid (AR4.out.below b5)
        have BEL5 := Lib.hid (BEL4.out.trans (b5.mono BEL4.out.size))
        clear b5 AR4 BEL4
        go_wp2_with fail
        go_loopw [13] (fun s14 wr => ∃ k : Nat, k ≤ 7 ∧ s14 = .int .i64 k ∧ Ar wr w1.heap.size (cnt g m) ∧ Below w1.heap.size w1 wr) (fun s14 _ => (7 - intOf s14).toNat)
        case atStart => exact ⟨0, Nat.zero_le _, rfl, AR5.out, BEL5.out⟩
        case round =>
          clear AR5 BEL5
          obtain ⟨k, hk, rfl, ar, bel⟩ := hrel
          have AR := Lib.hid ar
          have BEL := Lib.hid bel
          clear ar bel
          by_cases hk6 : k ≤ 6
          · have e0 : decide ((k : Int) ≤ 6) = true := decide_eq_true (by omega)
            have k6 : (k : Int) ≤ 6 := by omega
            by_cases hki : k ≤ i
            · obtain ⟨x, hx⟩ := F4.out k hki
              have HX := Lib.hid hx
              have e1 : decide ((k : Int) < (i : Int) + 1) = true := decide_eq_true (by omega)
              clear hx
              go_wp2_with fail
              refine (next_any (LY.out.below BEL.out) HK.out _ _ hI).mono ?_
              rw [HX.out]
              rintro r w6 ⟨rfl, b6⟩
              have AR6 := Lib.hid (AR.out.below b6)
              have BEL6 := Lib.hid (BEL.out.trans (b6.mono BEL.out.size))
              clear b6 AR BEL
              go_wp2_with fail
              go_roundw
              case rel => exact ⟨k + 1, by omega, by go_num, AR6.out, BEL6.out⟩
              case measure => simp [intOf]; omega
            · have HX := Lib.hid (F5.out k (by omega))
              have e1 : decide ((k : Int) < (i : Int) + 1) = false := decide_eq_false (by omega)
              go_wp2_with fail
              refine (next_any (LY.out.below BEL.out) HK.out _ _ hI).mono ?_
              rw [HX.out]
              rintro r w6 ⟨rfl, b6⟩
              have AR6 := Lib.hid (AR.out.below b6)
              have BEL6 := Lib.hid (BEL.out.trans (b6.mono BEL.out.size))
              clear b6 AR BEL
              go_wp2_with fail
              go_roundw
              case rel => exact ⟨k + 1, by omega, by go_num, AR6.out, BEL6.out⟩
              case measure => simp [intOf]; omega
          · obtain rfl : k = 7 := by omega
            have e0 : decide (((7 : Nat) : Int) ≤ 6) = false := by decide
            go_wp2_with fail
            go_roundw
            case rel => exact ⟨m + 1, i + 1, by omega, by omega, by go_num, by go_num, fun i' hi' hin' => by have := inT_mono HIN.out hin'; omega, by rw [Nat.add_sub_cancel]; exact AR.out, BEL.out⟩
            case measure => simp [intOf]; omega
      · obtain rfl : m = tot g.t 6 + 1 := by omega
        have d0 : decide (((tot g.t 6 + 1 : Nat) : Int) ≤ ((tot g.t 6 : Nat) : Int)) = false := decide_eq_false (by omega)
        have ar := AR.out
        rw [Nat.add_sub_cancel] at ar
        have z0 := (ar 0 (by omega)).1
        have z1 := (ar 1 (by omega)).1
        have z2 := (ar 2 (by omega)).1
        have z3 := (ar 3 (by omega)).1
        have z4 := (ar 4 (by omega)).1
        have z5 := (ar 5 (by omega)).1
        rw [cnt_end g (by omega)] at z0 z1 z2 z3 z4 z5
        have cf := CF1.out.below BEL.out
        have x0 := cf.c7
        have x1 := cf.c8
        have x2 := cf.c9
        have x3 := cf.c10
        have x4 := cf.c11
        have x5 := cf.c12
        rw [HT.out 0 (by omega)] at x0
        rw [HT.out 1 (by omega)] at x1
        rw [HT.out 2 (by omega)] at x2
        rw [HT.out 3 (by omega)] at x3
        rw [HT.out 4 (by omega)] at x4
        rw [HT.out 5 (by omega)] at x5
        clear ar cf AR CF1 hh
        go_wp2_with fail
        refine (towers_any LYr.out).mono ?_
        rintro r w2 ⟨rfl, rfl⟩
        go_wp2_with fail
        refine (works_any _).mono ?_
        rintro r w4 ⟨rfl, b4⟩
        have B4 := Lib.hid ((B1.out.trans (BEL.out.mono B1.out.size)).trans (b4.mono (Nat.le_trans B1.out.size BEL.out.size)))
        clear b4
        go_wp2
        go_ret
        exact ⟨by simp, B4.out⟩
end Wk
end Go.Proofs.Ythmadcjkodfdeaa
