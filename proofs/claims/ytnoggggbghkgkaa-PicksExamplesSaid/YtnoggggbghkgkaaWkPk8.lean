/- PicksExamples: the walk. Conditions: none. -/
import Derived.Test.YtnoggggbghkgkaaPkEm
import Derived.Deep.RegionHeld3
import Derived.Deep.CutRange
namespace Go.Proofs.Ytnoggggbghkgkaa
open Go.RowKit Go.Shelf Go.Sort
set_option linter.unusedVariables false
set_option linter.unusedSimpArgs false
namespace Wk
open Pk
open Dm (RdK BdI bel_alloc bel_trans cell_lt flatI info info_parts row_rd app1 appAll addr_lit ret_eq)
def exX : List Int := [-9223372036854775808, -1, 0, 1, 2, 3, 63, 64, 65, 9223372036854775807]
def exL : List Int := [0, 3, -1, 4, 9223372036854775807, -9223372036854775808, 7, 7, 7]
theorem exX_bd : ∀ i, -9223372036854775808 ≤ exX.getD i 0 ∧ exX.getD i 0 ≤ 9223372036854775807 := fun i => by
  by_cases hi : i < 10
  · have : i = 0 ∨ i = 1 ∨ i = 2 ∨ i = 3 ∨ i = 4 ∨ i = 5 ∨ i = 6 ∨ i = 7 ∨ i = 8 ∨ i = 9 := by omega
    rcases this with rfl | rfl | rfl | rfl | rfl | rfl | rfl | rfl | rfl | rfl <;> decide
  · rw [List.getD_eq_getElem?_getD, List.getElem?_eq_none (by show 10 ≤ i; omega)]; decide
theorem exL_bd : BdI exL := fun i hi => by
  have hi : i < 9 := hi
  have : i = 0 ∨ i = 1 ∨ i = 2 ∨ i = 3 ∨ i = 4 ∨ i = 5 ∨ i = 6 ∨ i = 7 ∨ i = 8 := by omega
  rcases this with rfl | rfl | rfl | rfl | rfl | rfl | rfl | rfl | rfl <;> decide
theorem bd4 {x y : Int} (h1 : -9223372036854775808 ≤ x ∧ x ≤ 9223372036854775807) (h2 : -9223372036854775808 ≤ y ∧ y ≤ 9223372036854775807) : BdI [x, 2, 5, y] := fun i hi => by
  have hi : i < 4 := hi
  have : i = 0 ∨ i = 1 ∨ i = 2 ∨ i = 3 := by omega
  rcases this with rfl | rfl | rfl | rfl
  · exact h1
  · exact (by decide : (-9223372036854775808 : Int) ≤ 2 ∧ (2 : Int) ≤ 9223372036854775807)
  · exact (by decide : (-9223372036854775808 : Int) ≤ 5 ∧ (5 : Int) ≤ 9223372036854775807)
  · exact h2
set_option maxRecDepth 100000 in
set_option maxHeartbeats 4000000 in
theorem walk_picksExamples (w : World) :
    Calls Try.prog 6 #[] w fun e w' => e = .returned (.bool true) ∧ Below w.heap.size w w' := by
  obtain ⟨wL, hwL⟩ : ∃ wL : World, wL = (w.alloc (.cells (flatI exX).toArray 3)).alloc (.cells (flatI exL).toArray 3) := ⟨_, rfl⟩
  have hsz : wL.heap.size = w.heap.size + 2 := by rw [hwL]; simp
  have BL := Lib.hid (show Below w.heap.size w wL by rw [hwL]; exact bel_alloc (bel_alloc (Below.refl _ _) _) _)
  have LX := Lib.hid (show Li wL (some ⟨w.heap.size, 0, none⟩) 10 exX by
    rw [hwL]
    exact (lit_li w exX 3 (by decide)).below (bel_alloc (Below.refl _ _) _))
  have LL := Lib.hid (show Li wL (some ⟨w.heap.size + 1, 0, none⟩) 9 exL by
    rw [hwL]
    have := lit_li (w.alloc (.cells (flatI exX).toArray 3)) exL 3 (by decide)
    rwa [World.size_alloc] at this)
  have HWL := Lib.hid (show (w.alloc (.cells #[.int .i64 (-9223372036854775808), .int .i64 (-1), .int .i64 0, .int .i64 1, .int .i64 2, .int .i64 3, .int .i64 63, .int .i64 64, .int .i64 65, .int .i64 9223372036854775807] 3)).alloc (.cells #[.int .i64 0, .int .i64 3, .int .i64 (-1), .int .i64 4, .int .i64 9223372036854775807, .int .i64 (-9223372036854775808), .int .i64 7, .int .i64 7, .int .i64 7] 3) = wL from by rw [hwL]; rfl)
  clear hwL
  have MT := Lib.hid (fun (W : World) (i j : Nat) (A : Option Addr) (n c : Nat) (hA : (A = some ⟨w.heap.size + 1, 0, none⟩ ∧ n = 9 ∧ c = 9) ∨ (A = none ∧ n = 0 ∧ c = 0)) (hb : Below wL.heap.size wL W) => show Calls Try.prog 3 #[.int .i64 (exX.getD i 0), .int .i64 (exX.getD j 0), .slice A n c] W fun e w' => e = .returned (.bool true) ∧ Below wL.heap.size wL w' from by
    rcases hA with ⟨rfl, rfl, rfl⟩ | ⟨rfl, rfl, rfl⟩
    · exact (walk_picksMatches (exX.getD i 0) (exX.getD j 0) (some ⟨w.heap.size + 1, 0, none⟩) 9 9 exL W (exX_bd i).1 (exX_bd i).2 (exX_bd j).1 (exX_bd j).2 rfl (by unfold maxLen; omega) (LL.out.rd.below hb) exL_bd (fun h => by cases h) ⟨Nat.le_refl _, by unfold maxLen; omega⟩).mono fun e w' ⟨h1, h2⟩ => ⟨h1, bel_trans hb h2⟩
    · exact (walk_picksMatches (exX.getD i 0) (exX.getD j 0) none 0 0 [] W (exX_bd i).1 (exX_bd i).2 (exX_bd j).1 (exX_bd j).2 rfl (by unfold maxLen; omega) (fun k hk => by simp at hk) (fun k hk => by simp at hk) (fun _ => rfl) ⟨Nat.le_refl _, by unfold maxLen; omega⟩).mono fun e w' ⟨h1, h2⟩ => ⟨h1, bel_trans hb h2⟩)
  have MK := Lib.hid (fun (W : World) (i j : Nat) (hj : j < 10) (hb : Below wL.heap.size wL W) => (walk_picksMakes (j : Int) (exX.getD i 0) (exX.getD j 0) W (by omega) (by omega) (exX_bd i).1 (exX_bd i).2 (exX_bd j).1 (exX_bd j).2).mono (R' := fun e w' => e = .returned (.bool true) ∧ Below wL.heap.size wL w') fun e w' ⟨h1, h2⟩ => ⟨h1, bel_trans hb h2⟩)
  have ME := Lib.hid (fun (W : World) (i j : Nat) (hb : Below wL.heap.size wL W) => (walk_picksExpands (some ⟨W.heap.size, 0, none⟩) 4 4 [exX.getD i 0, 2, 5, exX.getD j 0] (W.alloc (.cells #[.int .i64 (exX.getD i 0), .int .i64 2, .int .i64 5, .int .i64 (exX.getD j 0)] 3)) rfl (by unfold maxLen; omega) (lit_li W [exX.getD i 0, 2, 5, exX.getD j 0] 3 (by simp)).rd (bd4 (exX_bd i) (exX_bd j)) (fun h => by cases h) ⟨Nat.le_refl _, by unfold maxLen; omega⟩).mono (R' := fun e w' => e = .returned (.bool true) ∧ Below wL.heap.size wL w') fun e w' ⟨h1, h2⟩ => ⟨h1, bel_trans (bel_alloc hb _) h2⟩)
  have CX := Lib.hid (show ∀ W i, Below wL.heap.size wL W → i < 10 → W.cell? ⟨w.heap.size, i, none⟩ = some (.int .i64 (exX.getD i 0)) from fun W i hb hi => by
    obtain ⟨b, o, e, c⟩ := (LX.out.rd.below hb) i hi
    cases e
    rw [Nat.zero_add] at c
    exact c)
  clear LX LL
  go_enter Try.func6, Try.ntmps6
  go_wp2
  rw [HWL.out]
  clear HWL hsz
  go_loopw [3] (fun a wr => ∃ i : Nat, i ≤ 10 ∧ a = .int .i64 i ∧ Below wL.heap.size wL wr) (fun a _ => (10 - intOf a).toNat)
  case atStart => exact ⟨0, by omega, rfl, Below.refl _ _⟩
  case round =>
    obtain ⟨i, hi, rfl, bel⟩ := hrel
    by_cases hlt : i < 10
    · have d0 : decide ((i : Int) < 10) = true := decide_eq_true (by omega)
      have i1 : (i : Int) < 10 := by omega
      have i0 : (0 : Int) ≤ i := by omega
      have B := Lib.hid bel
      clear bel
      go_wp2
      go_loopw [4] (fun a wr => ∃ j : Nat, j ≤ 10 ∧ a = .int .i64 j ∧ Below wL.heap.size wL wr) (fun a _ => (10 - intOf a).toNat)
      case atStart => exact ⟨0, by omega, rfl, B.out⟩
      case round =>
        clear B
        obtain ⟨j, hj, rfl, BB⟩ := hrel
        by_cases hlj : j < 10
        · have d1 : decide ((j : Int) < 10) = true := decide_eq_true (by omega)
          have j1 : (j : Int) < 10 := by omega
          have j0 : (0 : Int) ≤ j := by omega
          have hwj : IntKind.u64.wrap (j : Int) = (j : Int) := by
            show (j : Int) % 18446744073709551616 = j
            omega
          have KS := Lib.hid (show ∀ W, Below wL.heap.size wL W → W.cell? ⟨w.heap.size, i, none⟩ = some (.int .i64 (exX.getD i 0)) ∧ W.cell? ⟨w.heap.size, j, none⟩ = some (.int .i64 (exX.getD j 0)) from fun W hb => ⟨CX.out W i hb hlt, CX.out W j hb hlj⟩)
          have MT1 := Lib.hid (fun W => MT.out W i j)
          have MK1 := Lib.hid (fun W => MK.out W i j hlj)
          have ME1 := Lib.hid (fun W => ME.out W i j)
          obtain ⟨x, hx⟩ : ∃ x, exX.getD i 0 = x := ⟨_, rfl⟩
          obtain ⟨y, hy⟩ : ∃ y, exX.getD j 0 = y := ⟨_, rfl⟩
          rw [hx, hy] at KS MT1 MK1 ME1
          have B0 := Lib.hid BB
          clear hx hy MT MK ME CX BB
          go_wp2_with fail
          go_cut [85] from 36 to 84 (fun s85 wx => s85 = .bool false ∧ Below wL.heap.size wL wx)
          case first =>
            have BB := B0.out
            go_region_held3 (fun w' => w'.cell? ⟨w.heap.size, i, none⟩ = some (.int .i64 x) ∧ w'.cell? ⟨w.heap.size, j, none⟩ = some (.int .i64 y)) (first | exact KS.out _ BB | exact KS.out _ (below_drewN BB 1) | exact KS.out _ (bel_alloc BB _)) (first | (go_at_call 3; refine (MT1.out _ _ _ _ (by first | exact Or.inl ⟨rfl, rfl, rfl⟩ | exact Or.inr ⟨rfl, rfl, rfl⟩) (by first | exact BB | exact below_drewN BB 1)).mono ?_; rintro r wd ⟨rfl, BB⟩) | (go_at_call 4; refine (MK1.out _ BB).mono ?_; rintro r wd ⟨rfl, BB⟩) | (go_at_call 5; refine (ME1.out _ BB).mono ?_; rintro r wd ⟨rfl, BB⟩))
            all_goals (go_wp2_with fail)
            all_goals (go_meet)
            all_goals (exact ⟨rfl, BB⟩)
          case rest =>
            obtain ⟨rfl, bel⟩ := hcut
            have HB := Lib.hid bel
            clear bel
            go_wp2
            go_roundw
            case rel => exact ⟨j + 1, by omega, by go_num, HB.out⟩
            case measure => simp [intOf]; omega
        · obtain rfl : j = 10 := by omega
          have HB := Lib.hid BB
          clear BB
          go_wp2
          go_roundw
          case rel => exact ⟨i + 1, by omega, by go_num, HB.out⟩
          case measure => simp [intOf]; omega
    · obtain rfl : i = 10 := by omega
      have HB := Lib.hid bel
      obtain ⟨i0, hi, hz0, hz1, hz2⟩ := info_parts info
      clear bel MT MK ME CX
      go_wp2_with (at_make; refine wpList_make_full _ rfl _ _ 22 rfl wr.heap.size 3 i0 (.int .i64 0) 1 Try.underlying22 hi hz0 hz1 .i64 .i64 _ _ 65537 rfl rfl rfl rfl (by rw [hz2]; omega) (by unfold maxLen; omega) (Nat.le_refl _) ?_; intro w1 hown hgrow)
      rw [made_flat] at hown
      have b1 : Below wr.heap.size wr w1 := (Below.refl _ wr).grown hgrow (Nat.le_refl _) fun g h => by cases h
      obtain ⟨lz, lt⟩ := zeros_li 65536 (by omega) hown
      have TR := tail_run wr.heap.size 65536 (by omega)
      have B1 := Lib.hid (bel_trans BL.out ((HB.out.trans (b1.mono HB.out.size))))
      have LZ := Lib.hid (show Li w1 (some ⟨wr.heap.size, 0, none⟩) 65537 (List.replicate 65537 0) from lz)
      have LT := Lib.hid lt
      have TR' : ∀ w : World, (Instr.sliceAt 22 (.slice (some ⟨wr.heap.size, 0, none⟩) 65537 65537) (some (.int .i64 1)) none none).run Try.prog w = .ok (.slice (some ⟨wr.heap.size, 1, none⟩) 65536 65536) w := TR
      clear TR hown hgrow b1 lz lt hi hz0 hz1 hz2 HB
      go_wp2_with fail
      refine (chosen_long LZ.out (by omega)).mono ?_
      rintro e w2 ⟨rfl, b2⟩
      have L2 := Lib.hid (LT.out.below b2)
      have B2 := Lib.hid (bel_trans B1.out b2)
      clear LZ LT B1 b2
      go_wp2_with fail
      refine (chosen_len L2.out (by omega)).mono ?_
      rintro e w3 ⟨A3, c3, rfl, b3⟩
      have L3 := Lib.hid (L2.out.below b3)
      have B3 := Lib.hid (bel_trans B2.out b3)
      clear L2 B2 b3
      go_wp2_with fail
      refine (gap_zero L3.out (by omega)).mono ?_
      rintro e w4 ⟨rfl, b4⟩
      have B4 := Lib.hid (bel_trans B3.out b4)
      clear L3 B3 b4 TR'
      go_wp2_with fail
      refine (round_len (n := 65536) (by omega)).mono ?_
      rintro e w5 ⟨A5, c5, rfl, b5⟩
      have B5 := Lib.hid (bel_trans B4.out b5)
      clear B4 b5
      go_wp2_with fail
      refine (mixed_long (n := 65537) (by omega)).mono ?_
      rintro e w6 ⟨rfl, b6⟩
      have B6 := Lib.hid (bel_trans B5.out b6)
      clear B5 b6
      go_wp2_with fail
      refine (ex_1 _).mono ?_
      rintro e w7 ⟨A7, c7, rfl, b7⟩
      have B7 := Lib.hid (bel_trans B6.out b7)
      clear B6 b7
      go_wp2_with fail
      refine (ex_2 _).mono ?_
      rintro e w8 ⟨rfl, b8⟩
      have B8 := Lib.hid (bel_trans B7.out b8)
      clear B7 b8
      go_wp2_with fail
      refine (ex_3 _).mono ?_
      rintro e w9 ⟨rfl, b9⟩
      have B9 := Lib.hid (bel_trans B8.out b9)
      clear B8 b9
      go_wp2_with fail
      refine (awake_any _).mono ?_
      rintro e w' ⟨rfl, b1⟩
      go_wp2
      go_ret
      exact ⟨rfl, bel_trans B9.out b1⟩
end Wk
end Go.Proofs.Ytnoggggbghkgkaa
