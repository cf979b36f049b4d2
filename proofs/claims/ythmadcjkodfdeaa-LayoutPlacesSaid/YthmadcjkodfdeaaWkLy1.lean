/- LayoutLists: the walk. Conditions: those of the frame. -/
import Derived.Test.YthmadcjkodfdeaaLyW
namespace Go.Proofs.Ythmadcjkodfdeaa
open Go.RowKit Go.Sort
set_option linter.unusedVariables false
set_option linter.unusedSimpArgs false
namespace Wk
open Ly
open Dm (RdK bel_alloc bel_trans cell_lt)
theorem lt_head (g : Ge) (v : Nat) (hv : v < g.D) : resp (ltO g (-1 - (v : Int))) = .tuple #[.int .i64 ((pH g + 7 * v : Nat) : Int), .int .i64 0] := by
  have h : ltO g (-1 - (v : Int)) = some (pH g + 7 * v) := by
    unfold ltO
    rw [if_neg (by omega), if_neg (by omega), show -1 - (-1 - (v : Int)) = (v : Int) by omega]
    exact ad8 g (u := 0) hv (by omega)
  rw [h]; rfl
theorem lt_head_none (g : Ge) (v : Nat) (hv : g.D ≤ v) : resp (ltO g (-1 - (v : Int))) = .tuple #[.int .i64 0, .int .i64 3] := by
  have h : ltO g (-1 - (v : Int)) = none := by
    unfold ltO
    rw [if_neg (by omega), if_neg (by omega)]
    exact ad_head_none g fun h1 h2 => by omega
  rw [h]; rfl
theorem nx_head (g : Ge) (v k : Nat) (hv : v < g.D) (hk : k < 6) : resp (nxO g (-1 - (v : Int)) (k : Int)) = .tuple #[.int .i64 ((pH g + 7 * v + 1 + k : Nat) : Int), .int .i64 0] := by
  have h : nxO g (-1 - (v : Int)) (k : Int) = some (pH g + 7 * v + 1 + k) := by
    unfold nxO
    rw [if_pos (by omega), if_neg (by omega), if_neg (by omega), show -1 - (-1 - (v : Int)) = (v : Int) by omega, show (1 : Int) + (k : Int) = ((1 + k : Nat) : Int) by omega, ad8 g hv (by omega), Nat.add_assoc (pH g + 7 * v)]
  rw [h]; rfl
theorem nx_six (g : Ge) (r : Int) : resp (nxO g r 6) = .tuple #[.int .i64 0, .int .i64 3] := by
  have h : nxO g r 6 = none := by unfold nxO; rw [if_neg (by omega)]
  rw [h]; rfl
set_option maxRecDepth 100000 in
set_option maxHeartbeats 4000000 in
theorem walk_layoutLists (a0 : Ly.Cf) (a0v : List Int) (w : World) (a0b : a0.Bd a0v) (a0r : Dm.RdK .u64 w a0.A a0v) :
    Calls Try.prog 9 #[.agg #[.int .i64 a0.th, .int .i64 a0.sl, .int .u8 a0.en, .int .i64 a0.bu, .int .u8 a0.k, .int .i64 a0.n, .slice a0.A a0.m a0.c, .int .i64 (a0.t 0), .int .i64 (a0.t 1), .int .i64 (a0.t 2), .int .i64 (a0.t 3), .int .i64 (a0.t 4), .int .i64 (a0.t 5), .int .i64 a0.lo, .int .i64 a0.tr, .int .i64 a0.ba]] w fun e w' => e = .returned (.bool true) ∧ Below w.heap.size w w' := by
  have HB := Lib.hid a0b
  have HR := Lib.hid a0r
  clear a0b a0r
  cases hok : okB a0 a0v with
  | false =>
    have HP := Lib.hid (show NewPost a0 a0v = fun w e w' => e = .returned (.tuple #[.pointer none, .int .i64 2]) ∧ Below w.heap.size w w' by funext w e w'; unfold NewPost; rw [hok]; rfl)
    clear hok
    go_enter Try.func9, Try.ntmps9
    go_wp2_with fail
    refine (new_any a0 a0v _ HB.out (HR.out.below (bel_alloc (Below.refl _ _) _))).mono ?_
    rw [HP.out]
    rintro r w1 ⟨rfl, b1⟩
    have B1 := Lib.hid (bel_trans (bel_alloc (Below.refl w.heap.size w) (.cells #[.int .i64 a0.th, .int .i64 a0.sl, .int .u8 a0.en, .int .i64 a0.bu, .int .u8 a0.k, .int .i64 a0.n, .slice a0.A a0.m a0.c, .int .i64 (a0.t 0), .int .i64 (a0.t 1), .int .i64 (a0.t 2), .int .i64 (a0.t 3), .int .i64 (a0.t 4), .int .i64 (a0.t 5), .int .i64 a0.lo, .int .i64 a0.tr, .int .i64 a0.ba] 27)) b1)
    clear b1
    go_wp2_with fail
    refine (works_any _).mono ?_
    rintro r w2 ⟨rfl, b2⟩
    go_wp2
    go_ret
    exact ⟨rfl, bel_trans B1.out b2⟩
  | true =>
    have HP := Lib.hid (show NewPost a0 a0v = fun w e w' => ∃ b A c, e = .returned (.tuple #[.pointer (some ⟨b, 0, none⟩), .int .i64 0]) ∧ w.heap.size ≤ b ∧ LyAt w' b (a0.cut A c) a0v (geo a0 a0v) ∧ (A = none → c = 0) ∧ (∀ a, A = some a → w.heap.size ≤ a.block) ∧ Below w.heap.size w w' by funext w e w'; unfold NewPost; rw [hok]; rfl)
    have HK := Lib.hid (nums hok).ok
    clear hok
    go_enter Try.func9, Try.ntmps9
    go_wp2_with fail
    refine (new_any a0 a0v _ HB.out (HR.out.below (bel_alloc (Below.refl _ _) _))).mono ?_
    rw [HP.out]
    rintro r w1 ⟨b, A, c, rfl, hb, ly, _, _, b1⟩
    have B1 := Lib.hid (bel_trans (bel_alloc (Below.refl w.heap.size w) (.cells #[.int .i64 a0.th, .int .i64 a0.sl, .int .u8 a0.en, .int .i64 a0.bu, .int .u8 a0.k, .int .i64 a0.n, .slice a0.A a0.m a0.c, .int .i64 (a0.t 0), .int .i64 (a0.t 1), .int .i64 (a0.t 2), .int .i64 (a0.t 3), .int .i64 (a0.t 4), .int .i64 (a0.t 5), .int .i64 a0.lo, .int .i64 a0.tr, .int .i64 a0.ba] 27)) b1)
    have LY := Lib.hid ly
    clear ly b1 hb HP HR HB
    generalize geo a0 a0v = g at *
    have hD1 := HK.out.d1
    have hD2 := HK.out.d2
    have hH : pH g ≤ 14000 := by have := HK.out.tt; have := HK.out.s2; have := HK.out.e2; have := HK.out.l2; simp only [pH]; omega
    go_wp2_with fail
    go_loopw [5, 6] (fun s5 s6 wr => ∃ v : Nat, v ≤ g.D ∧ s6 = .int .i64 v ∧ s5 = .int .i64 v ∧ LyAt wr b (a0.cut A c) a0v g ∧ Below w.heap.size w wr) (fun _ s6 _ => (65 - intOf s6).toNat)
    case atStart => exact ⟨0, Nat.zero_le _, rfl, rfl, LY.out, B1.out⟩
    case round =>
      clear LY B1
      obtain ⟨v, hv, rfl, rfl, ly, bw⟩ := hrel
      have LY := Lib.hid ly
      have BW := Lib.hid bw
      clear ly bw
      have v64 : (v : Int) ≤ 64 := by omega
      have d0 : decide ((v : Int) ≤ 64) = true := decide_eq_true v64
      by_cases hlt : v < g.D
      · have L0 := Lib.hid (lt_head g v hlt)
        have hA : (pH g + 7 * v : Nat) ≤ 20000 := by omega
        have N0 := Lib.hid (fun k (hk : k < 6) => nx_head g v k hlt hk)
        have N6 := Lib.hid (nx_six g (-1 - (v : Int)))
        obtain ⟨a, ha⟩ : ∃ a, pH g + 7 * v = a := ⟨_, rfl⟩
        rw [ha] at L0 hA
        simp only [ha] at N0
        have ha2 : (a : Int) ≤ 20000 := by omega
        clear ha hA
        have hI : I64 (-1 - (v : Int)) := ⟨by omega, by omega⟩
        go_wp2_with fail
        refine (latch_any LY.out HK.out _ hI).mono ?_
        rw [L0.out]
        rintro r w2 ⟨rfl, b2⟩
        have LY2 := Lib.hid (LY.out.below b2)
        have BW2 := Lib.hid (bel_trans BW.out b2)
        clear b2 LY BW
        go_wp2_with fail
        go_loopw [9] (fun s9 wr => ∃ k : Nat, k ≤ 6 ∧ s9 = .int .i64 k ∧ LyAt wr b (a0.cut A c) a0v g ∧ Below w.heap.size w wr) (fun s9 _ => (6 - intOf s9).toNat)
        case atStart => exact ⟨0, Nat.zero_le _, rfl, LY2.out, BW2.out⟩
        case round =>
          clear LY2 BW2
          obtain ⟨k, hk, rfl, ly, bw⟩ := hrel
          have LY := Lib.hid ly
          have BW := Lib.hid bw
          clear ly bw
          by_cases hk6 : k < 6
          · have d1 : decide ((k : Int) < 6) = true := decide_eq_true (by omega)
            have k6 : (k : Int) < 6 := by omega
            have NK := Lib.hid (N0.out k hk6)
            go_wp2_with fail
            refine (next_any LY.out HK.out _ _ hI).mono ?_
            rw [NK.out]
            rintro r w3 ⟨rfl, b3⟩
            have LY3 := Lib.hid (LY.out.below b3)
            have BW3 := Lib.hid (bel_trans BW.out b3)
            clear b3 LY BW
            have he : (((a + 1 + k : Nat) : Int) != (a : Int) + 1 + (k : Int)) = false := by simp
            go_wp2_with fail
            go_roundw
            case rel => exact ⟨k + 1, by omega, by go_num, LY3.out, BW3.out⟩
            case measure => simp [intOf]; omega
          · obtain rfl : k = 6 := by omega
            have d1 : decide (((6 : Nat) : Int) < 6) = false := by decide
            go_wp2_with fail
            refine (next_any LY.out HK.out _ _ hI).mono ?_
            rw [N6.out]
            rintro r w3 ⟨rfl, b3⟩
            have LY3 := Lib.hid (LY.out.below b3)
            have BW3 := Lib.hid (bel_trans BW.out b3)
            clear b3 LY BW
            go_wp2_with fail
            go_roundw
            case rel => exact ⟨v + 1, by omega, by go_num, by go_num, LY3.out, BW3.out⟩
            case measure => simp [intOf]; omega
      · obtain rfl : v = g.D := by omega
        have L0 := Lib.hid (lt_head_none g g.D (Nat.le_refl _))
        have hI : I64 (-1 - (g.D : Int)) := ⟨by omega, by omega⟩
        have hn1 : (1 : Int) ≤ (g.D : Int) := by omega
        have hTH : ((pT g : Nat) : Int) - ((pH g : Nat) : Int) = (g.D : Int) * 7 := by simp only [pT, pH]; omega
        have hP8 : plN g 8 = pT g := rfl
        have hP7 : plN g 7 = pH g := rfl
        have hTb : ((pT g : Nat) : Int) ≤ 20000 := by have := HK.out.tt; have := HK.out.s2; have := HK.out.e2; have := HK.out.l2; simp only [pT]; omega
        go_wp2_with fail
        refine (latch_any LY.out HK.out _ hI).mono ?_
        rw [L0.out]
        rintro r w2 ⟨rfl, b2⟩
        have LY2 := Lib.hid (LY.out.below b2)
        have BW2 := Lib.hid (bel_trans BW.out b2)
        clear b2 LY BW
        go_wp2_with fail
        refine (places_any LY2.out).mono ?_
        rintro r w3 ⟨rfl, b3⟩
        have BW3 := Lib.hid (bel_trans BW2.out b3)
        clear b3
        unfold plV
        rw [hP8, hP7]
        go_wp2_with fail
        refine (works_any _).mono ?_
        rintro r w4 ⟨rfl, b4⟩
        go_wp2
        go_ret
        exact ⟨by simp, bel_trans (bel_trans BW3.out (bel_alloc (Below.refl _ _) _)) b4⟩
end Wk
end Go.Proofs.Ythmadcjkodfdeaa
