/- LayoutDisjoint: the walk. Conditions: those of the frame. Written by tools/mk9dj.py. -/
import Derived.Test.YtgefpjnagpmpeaaLyDm
import Derived.Test.YtgefpjnagpmpeaaLyCt
import Derived.Deep.RegionHeld3
namespace Go.Proofs.Ytgefpjnagpmpeaa
open Go.RowKit Go.Sort
set_option linter.unusedVariables false
set_option linter.unusedSimpArgs false
namespace Wk
open Ly
open Dm (RdK BdU bel_alloc bel_trans cell_lt)
attribute [local go_sem] guardP
theorem few_bd {f : Cf} {l : List Int} (h : f.Bd l) (A : Option Addr) (c : Nat) (hz : A = none → c = 0) : (f.few.cut A c).Bd (l.take (min f.m 100)) :=
  ⟨h.th, h.sl, h.en, h.bu, h.k, h.n, h.t, h.lo, h.tr, h.ba, by show (l.take (min f.m 100)).length = min f.m 100; rw [List.length_take, h.e]; omega, by show min f.m 100 ≤ maxLen; have := h.mx; omega, by
    intro i hi
    have hi2 := hi
    rw [List.length_take] at hi2
    have := h.b i (by omega)
    rwa [List.getD_eq_getElem?_getD, List.getElem?_take, if_pos (by omega), ← List.getD_eq_getElem?_getD], hz⟩
set_option maxRecDepth 100000 in
set_option maxHeartbeats 4000000 in
theorem walk_layoutDisjoint (a0 : Ly.Cf) (a0v : List Int) (w : World) (a0b : a0.Bd a0v) (a0r : Dm.RdK .u64 w a0.A a0v) (a0y : a0.m ≤ a0.c ∧ a0.c ≤ maxLen) :
    Calls Try.prog 7 #[.agg #[.int .i64 a0.th, .int .i64 a0.sl, .int .u8 a0.en, .int .i64 a0.bu, .int .u8 a0.k, .int .i64 a0.n, .slice a0.A a0.m a0.c, .int .i64 (a0.t 0), .int .i64 (a0.t 1), .int .i64 (a0.t 2), .int .i64 (a0.t 3), .int .i64 (a0.t 4), .int .i64 (a0.t 5), .int .i64 a0.lo, .int .i64 a0.tr, .int .i64 a0.ba]] w fun e w' => e = .returned (.bool true) ∧ Below w.heap.size w w' := by
  have HFB := Lib.hid (fun A c hz => few_bd a0b A c hz)
  have CU := fun (W : World) (h : RdK .u64 W a0.A a0v) => Lib.hid (cut_any a0 a0v W a0b.e a0y a0b.z h)
  have HR := Lib.hid a0r
  obtain ⟨L, hL⟩ : ∃ L, a0v.take (min a0.m 100) = L := ⟨_, rfl⟩
  obtain ⟨F, hF⟩ : ∃ F, a0.few = F := ⟨_, rfl⟩
  rw [hL, hF] at HFB CU
  clear a0b a0r a0y hL hF
  go_enter Try.func7, Try.ntmps7
  go_wp2_with fail
  refine ((CU _ (HR.out.below (bel_alloc (Below.refl _ _) _))).out).mono ?_
  rintro e w1 ⟨A, c, rfl, b1, rd1, hz, hmc, hblk⟩
  have B1 := Lib.hid (bel_trans (bel_alloc (Below.refl w.heap.size w) (.cells #[.int .i64 a0.th, .int .i64 a0.sl, .int .u8 a0.en, .int .i64 a0.bu, .int .u8 a0.k, .int .i64 a0.n, .slice a0.A a0.m a0.c, .int .i64 (a0.t 0), .int .i64 (a0.t 1), .int .i64 (a0.t 2), .int .i64 (a0.t 3), .int .i64 (a0.t 4), .int .i64 (a0.t 5), .int .i64 a0.lo, .int .i64 a0.tr, .int .i64 a0.ba] 27)) b1)
  have hb1 : w1.heap[w.heap.size]? = some (.cells #[.int .i64 a0.th, .int .i64 a0.sl, .int .u8 a0.en, .int .i64 a0.bu, .int .u8 a0.k, .int .i64 a0.n, .slice a0.A a0.m a0.c, .int .i64 (a0.t 0), .int .i64 (a0.t 1), .int .i64 (a0.t 2), .int .i64 (a0.t 3), .int .i64 (a0.t 4), .int .i64 (a0.t 5), .int .i64 a0.lo, .int .i64 a0.tr, .int .i64 a0.ba] 27 (0, 0)) := (b1.block w.heap.size (by simp)).trans (MapKept.heap_alloc w _).1
  have HC := Lib.hid (HFB.out A c hz)
  have HA := Lib.hid (fun a h => (hblk a h).1)
  have HZ := Lib.hid hz
  clear HFB CU HR hz hmc hblk
  have y0 : w1.cell? ⟨w.heap.size, 0, none⟩ = some (.int .i64 a0.th) := cell_of hb1 rfl
  have y1 : w1.cell? ⟨w.heap.size, 1, none⟩ = some (.int .i64 a0.sl) := cell_of hb1 rfl
  have y2 : w1.cell? ⟨w.heap.size, 2, none⟩ = some (.int .u8 a0.en) := cell_of hb1 rfl
  have y3 : w1.cell? ⟨w.heap.size, 3, none⟩ = some (.int .i64 a0.bu) := cell_of hb1 rfl
  have y4 : w1.cell? ⟨w.heap.size, 4, none⟩ = some (.int .u8 a0.k) := cell_of hb1 rfl
  have y5 : w1.cell? ⟨w.heap.size, 5, none⟩ = some (.int .i64 a0.n) := cell_of hb1 rfl
  have y6 : w1.cell? ⟨w.heap.size, 6, none⟩ = some (.slice a0.A a0.m a0.c) := cell_of hb1 rfl
  have y7 : w1.cell? ⟨w.heap.size, 7, none⟩ = some (.int .i64 (a0.t 0)) := cell_of hb1 rfl
  have y8 : w1.cell? ⟨w.heap.size, 8, none⟩ = some (.int .i64 (a0.t 1)) := cell_of hb1 rfl
  have y9 : w1.cell? ⟨w.heap.size, 9, none⟩ = some (.int .i64 (a0.t 2)) := cell_of hb1 rfl
  have y10 : w1.cell? ⟨w.heap.size, 10, none⟩ = some (.int .i64 (a0.t 3)) := cell_of hb1 rfl
  have y11 : w1.cell? ⟨w.heap.size, 11, none⟩ = some (.int .i64 (a0.t 4)) := cell_of hb1 rfl
  have y12 : w1.cell? ⟨w.heap.size, 12, none⟩ = some (.int .i64 (a0.t 5)) := cell_of hb1 rfl
  have y13 : w1.cell? ⟨w.heap.size, 13, none⟩ = some (.int .i64 a0.lo) := cell_of hb1 rfl
  have y14 : w1.cell? ⟨w.heap.size, 14, none⟩ = some (.int .i64 a0.tr) := cell_of hb1 rfl
  have y15 : w1.cell? ⟨w.heap.size, 15, none⟩ = some (.int .i64 a0.ba) := cell_of hb1 rfl
  have p0 : w1.frozen? ⟨w.heap.size, 0, none⟩ = false := by simp [World.frozen?, hb1]
  have p1 : w1.frozen? ⟨w.heap.size, 1, none⟩ = false := by simp [World.frozen?, hb1]
  have p2 : w1.frozen? ⟨w.heap.size, 2, none⟩ = false := by simp [World.frozen?, hb1]
  have p3 : w1.frozen? ⟨w.heap.size, 3, none⟩ = false := by simp [World.frozen?, hb1]
  have p4 : w1.frozen? ⟨w.heap.size, 4, none⟩ = false := by simp [World.frozen?, hb1]
  have p5 : w1.frozen? ⟨w.heap.size, 5, none⟩ = false := by simp [World.frozen?, hb1]
  have p6 : w1.frozen? ⟨w.heap.size, 6, none⟩ = false := by simp [World.frozen?, hb1]
  have p7 : w1.frozen? ⟨w.heap.size, 7, none⟩ = false := by simp [World.frozen?, hb1]
  have p8 : w1.frozen? ⟨w.heap.size, 8, none⟩ = false := by simp [World.frozen?, hb1]
  have p9 : w1.frozen? ⟨w.heap.size, 9, none⟩ = false := by simp [World.frozen?, hb1]
  have p10 : w1.frozen? ⟨w.heap.size, 10, none⟩ = false := by simp [World.frozen?, hb1]
  have p11 : w1.frozen? ⟨w.heap.size, 11, none⟩ = false := by simp [World.frozen?, hb1]
  have p12 : w1.frozen? ⟨w.heap.size, 12, none⟩ = false := by simp [World.frozen?, hb1]
  have p13 : w1.frozen? ⟨w.heap.size, 13, none⟩ = false := by simp [World.frozen?, hb1]
  have p14 : w1.frozen? ⟨w.heap.size, 14, none⟩ = false := by simp [World.frozen?, hb1]
  have p15 : w1.frozen? ⟨w.heap.size, 15, none⟩ = false := by simp [World.frozen?, hb1]
  have hin := World.cell?_setCells_in w.heap.size [.int .i64 F.th, .int .i64 F.sl, .int .u8 F.en, .int .i64 F.bu, .int .u8 F.k, .int .i64 F.n, .slice A F.m c, .int .i64 (F.t 0), .int .i64 (F.t 1), .int .i64 (F.t 2), .int .i64 (F.t 3), .int .i64 (F.t 4), .int .i64 (F.t 5), .int .i64 F.lo, .int .i64 F.tr, .int .i64 F.ba] 0 w1 (fun j hj => by
    rw [Nat.zero_add]
    have hj : j < 16 := hj
    have : j = 0 ∨ j = 1 ∨ j = 2 ∨ j = 3 ∨ j = 4 ∨ j = 5 ∨ j = 6 ∨ j = 7 ∨ j = 8 ∨ j = 9 ∨ j = 10 ∨ j = 11 ∨ j = 12 ∨ j = 13 ∨ j = 14 ∨ j = 15 := by omega
    rcases this with rfl | rfl | rfl | rfl | rfl | rfl | rfl | rfl | rfl | rfl | rfl | rfl | rfl | rfl | rfl | rfl
    · rw [y0]; rfl
    · rw [y1]; rfl
    · rw [y2]; rfl
    · rw [y3]; rfl
    · rw [y4]; rfl
    · rw [y5]; rfl
    · rw [y6]; rfl
    · rw [y7]; rfl
    · rw [y8]; rfl
    · rw [y9]; rfl
    · rw [y10]; rfl
    · rw [y11]; rfl
    · rw [y12]; rfl
    · rw [y13]; rfl
    · rw [y14]; rfl
    · rw [y15]; rfl)
  have BW2 := Lib.hid (show Below w.heap.size w (w1.setCells w.heap.size 0 [.int .i64 F.th, .int .i64 F.sl, .int .u8 F.en, .int .i64 F.bu, .int .u8 F.k, .int .i64 F.n, .slice A F.m c, .int .i64 (F.t 0), .int .i64 (F.t 1), .int .i64 (F.t 2), .int .i64 (F.t 3), .int .i64 (F.t 4), .int .i64 (F.t 5), .int .i64 F.lo, .int .i64 F.tr, .int .i64 F.ba]) from below_setCells B1.out (Nat.le_refl _) _ _)
  have RW2 := Lib.hid (show RdK .u64 (w1.setCells w.heap.size 0 [.int .i64 F.th, .int .i64 F.sl, .int .u8 F.en, .int .i64 F.bu, .int .u8 F.k, .int .i64 F.n, .slice A F.m c, .int .i64 (F.t 0), .int .i64 (F.t 1), .int .i64 (F.t 2), .int .i64 (F.t 3), .int .i64 (F.t 4), .int .i64 (F.t 5), .int .i64 F.lo, .int .i64 F.tr, .int .i64 F.ba]) A L from KU_rdK ((rdK_KU rd1).keep fun b hb ⟨a, ea, eb⟩ => by
    have h1 := HA.out a ea
    rw [World.size_alloc] at h1
    rw [block_setCells _ _ _ _ _ (by omega)]))
  obtain ⟨W2, hW2⟩ : ∃ W2 : World, W2 = (w1.setCells w.heap.size 0 [.int .i64 F.th, .int .i64 F.sl, .int .u8 F.en, .int .i64 F.bu, .int .u8 F.k, .int .i64 F.n, .slice A F.m c, .int .i64 (F.t 0), .int .i64 (F.t 1), .int .i64 (F.t 2), .int .i64 (F.t 3), .int .i64 (F.t 4), .int .i64 (F.t 5), .int .i64 F.lo, .int .i64 F.tr, .int .i64 F.ba]) := ⟨_, rfl⟩
  rw [← hW2] at BW2 RW2 hin
  have z0 : W2.cell? ⟨w.heap.size, 0, none⟩ = some (.int .i64 F.th) := (by have := hin 0 (by show 0 < 16; omega); simpa using this)
  have z1 : W2.cell? ⟨w.heap.size, 1, none⟩ = some (.int .i64 F.sl) := (by have := hin 1 (by show 1 < 16; omega); simpa using this)
  have z2 : W2.cell? ⟨w.heap.size, 2, none⟩ = some (.int .u8 F.en) := (by have := hin 2 (by show 2 < 16; omega); simpa using this)
  have z3 : W2.cell? ⟨w.heap.size, 3, none⟩ = some (.int .i64 F.bu) := (by have := hin 3 (by show 3 < 16; omega); simpa using this)
  have z4 : W2.cell? ⟨w.heap.size, 4, none⟩ = some (.int .u8 F.k) := (by have := hin 4 (by show 4 < 16; omega); simpa using this)
  have z5 : W2.cell? ⟨w.heap.size, 5, none⟩ = some (.int .i64 F.n) := (by have := hin 5 (by show 5 < 16; omega); simpa using this)
  have z6 : W2.cell? ⟨w.heap.size, 6, none⟩ = some (.slice A F.m c) := (by have := hin 6 (by show 6 < 16; omega); simpa using this)
  have z7 : W2.cell? ⟨w.heap.size, 7, none⟩ = some (.int .i64 (F.t 0)) := (by have := hin 7 (by show 7 < 16; omega); simpa using this)
  have z8 : W2.cell? ⟨w.heap.size, 8, none⟩ = some (.int .i64 (F.t 1)) := (by have := hin 8 (by show 8 < 16; omega); simpa using this)
  have z9 : W2.cell? ⟨w.heap.size, 9, none⟩ = some (.int .i64 (F.t 2)) := (by have := hin 9 (by show 9 < 16; omega); simpa using this)
  have z10 : W2.cell? ⟨w.heap.size, 10, none⟩ = some (.int .i64 (F.t 3)) := (by have := hin 10 (by show 10 < 16; omega); simpa using this)
  have z11 : W2.cell? ⟨w.heap.size, 11, none⟩ = some (.int .i64 (F.t 4)) := (by have := hin 11 (by show 11 < 16; omega); simpa using this)
  have z12 : W2.cell? ⟨w.heap.size, 12, none⟩ = some (.int .i64 (F.t 5)) := (by have := hin 12 (by show 12 < 16; omega); simpa using this)
  have z13 : W2.cell? ⟨w.heap.size, 13, none⟩ = some (.int .i64 F.lo) := (by have := hin 13 (by show 13 < 16; omega); simpa using this)
  have z14 : W2.cell? ⟨w.heap.size, 14, none⟩ = some (.int .i64 F.tr) := (by have := hin 14 (by show 14 < 16; omega); simpa using this)
  have z15 : W2.cell? ⟨w.heap.size, 15, none⟩ = some (.int .i64 F.ba) := (by have := hin 15 (by show 15 < 16; omega); simpa using this)
  clear hin B1
  go_upto_region 2 with fail
  change Code.wp _ _ _ _ (w1.setCells w.heap.size 0 [.int .i64 F.th, .int .i64 F.sl, .int .u8 F.en, .int .i64 F.bu, .int .u8 F.k, .int .i64 F.n, .slice A F.m c, .int .i64 (F.t 0), .int .i64 (F.t 1), .int .i64 (F.t 2), .int .i64 (F.t 3), .int .i64 (F.t 4), .int .i64 (F.t 5), .int .i64 F.lo, .int .i64 F.tr, .int .i64 F.ba])
  rw [← hW2]
  clear y0 y1 y2 y3 y4 y5 y6 y7 y8 y9 y10 y11 y12 y13 y14 y15 p0 p1 p2 p3 p4 p5 p6 p7 p8 p9 p10 p11 p12 p13 p14 p15 hW2 hb1 rd1 b1
  go_wp2_with fail
  have hszW : w.heap.size < W2.heap.size := cell_lt z0
  cases hok : okB (F.cut A c) L with
  | false =>
    have HP := Lib.hid (show NewPost (F.cut A c) L = fun w e w' => e = .returned (.tuple #[.pointer none, .int .i64 2]) ∧ Below w.heap.size w w' by funext w e w'; unfold NewPost; rw [hok]; rfl)
    have HE := Lib.hid (show ckE (F.cut A c) L = 2 by unfold ckE; rw [hok]; rfl)
    clear hok
    go_wp2_with fail
    refine (new_any (F.cut A c) L _ HC.out RW2.out).mono ?_
    rw [HP.out]
    rintro r w3 ⟨rfl, b3⟩
    have RW3 := Lib.hid (RW2.out.below b3)
    have B3 := Lib.hid (bel_trans BW2.out b3)
    replace z0 := (b3.cell (p := ⟨w.heap.size, 0, none⟩) hszW).trans z0
    replace z1 := (b3.cell (p := ⟨w.heap.size, 1, none⟩) hszW).trans z1
    replace z2 := (b3.cell (p := ⟨w.heap.size, 2, none⟩) hszW).trans z2
    replace z3 := (b3.cell (p := ⟨w.heap.size, 3, none⟩) hszW).trans z3
    replace z4 := (b3.cell (p := ⟨w.heap.size, 4, none⟩) hszW).trans z4
    replace z5 := (b3.cell (p := ⟨w.heap.size, 5, none⟩) hszW).trans z5
    replace z6 := (b3.cell (p := ⟨w.heap.size, 6, none⟩) hszW).trans z6
    replace z7 := (b3.cell (p := ⟨w.heap.size, 7, none⟩) hszW).trans z7
    replace z8 := (b3.cell (p := ⟨w.heap.size, 8, none⟩) hszW).trans z8
    replace z9 := (b3.cell (p := ⟨w.heap.size, 9, none⟩) hszW).trans z9
    replace z10 := (b3.cell (p := ⟨w.heap.size, 10, none⟩) hszW).trans z10
    replace z11 := (b3.cell (p := ⟨w.heap.size, 11, none⟩) hszW).trans z11
    replace z12 := (b3.cell (p := ⟨w.heap.size, 12, none⟩) hszW).trans z12
    replace z13 := (b3.cell (p := ⟨w.heap.size, 13, none⟩) hszW).trans z13
    replace z14 := (b3.cell (p := ⟨w.heap.size, 14, none⟩) hszW).trans z14
    replace z15 := (b3.cell (p := ⟨w.heap.size, 15, none⟩) hszW).trans z15
    clear BW2 RW2 b3 HA HZ HP
    go_wp2_with fail
    refine (check_any (F.cut A c) L _ HC.out RW3.out).mono ?_
    rw [HE.out]
    rintro r w4 ⟨rfl, b4⟩
    replace B3 := Lib.hid (bel_trans B3.out b4)
    clear b4
    go_wp2_with fail
    refine (works_any _).mono ?_
    rintro r w5 ⟨rfl, b5⟩
    go_wp2
    go_ret
    exact ⟨rfl, bel_trans B3.out b5⟩
  | true =>
    have HP := Lib.hid (show NewPost (F.cut A c) L = fun w e w' => ∃ b A' c', e = .returned (.tuple #[.pointer (some ⟨b, 0, none⟩), .int .i64 0]) ∧ w.heap.size ≤ b ∧ LyAt w' b ((F.cut A c).cut A' c') L (geo (F.cut A c) L) ∧ (A' = none → c' = 0) ∧ (∀ a, A' = some a → w.heap.size ≤ a.block) ∧ Below w.heap.size w w' by funext w e w'; unfold NewPost; rw [hok]; rfl)
    have HK := Lib.hid (nums hok).ok
    clear hok
    go_wp2_with fail
    refine (new_any (F.cut A c) L _ HC.out RW2.out).mono ?_
    rw [HP.out]
    rintro r w3 ⟨b, A', c', rfl, hb, ly, _, _, b3⟩
    have B3 := Lib.hid (bel_trans BW2.out b3)
    have LY := Lib.hid ly
    clear ly b3 hb HP BW2 RW2 HC HA HZ hszW z0 z1 z2 z3 z4 z5 z6 z7 z8 z9 z10 z11 z12 z13 z14 z15
    generalize geo (F.cut A c) L = g at *
    generalize (F.cut A c).cut A' c' = F' at *
    have hW := pW_le HK.out
    go_wp2_with fail
    refine (places_any LY.out).mono ?_
    unfold plV
    rintro r w4 ⟨rfl, b4⟩
    have LY4 := LY.out.below b4
    have B4 := bel_trans B3.out b4
    clear LY B3 b4
    obtain ⟨W5, hW5⟩ : ∃ W5 : World, W5 = w4.alloc (.cells #[.int .i64 (plN g 0 : Nat), .int .i64 (plN g 1 : Nat), .int .i64 (plN g 2 : Nat), .int .i64 (plN g 3 : Nat), .int .i64 (plN g 4 : Nat), .int .i64 (plN g 5 : Nat), .int .i64 (plN g 6 : Nat), .int .i64 (plN g 7 : Nat), .int .i64 (plN g 8 : Nat), .int .i64 (plN g 9 : Nat)] 41) := ⟨_, rfl⟩
    have hP5 : w4.heap.size < W5.heap.size := by rw [hW5]; simp
    have LY5 := Lib.hid (show LyAt W5 b F' L g by rw [hW5]; exact LY4.below (bel_alloc (Below.refl _ _) _))
    have B5 := Lib.hid (show Below w.heap.size w W5 by rw [hW5]; exact bel_alloc B4 _)
    have CP := Lib.hid (show ∀ i, i < 10 → W5.cell? ⟨w4.heap.size, i, none⟩ = some (.int .i64 (plN g i : Nat)) from fun i hi => by
      rw [hW5]
      rcases (show i = 0 ∨ i = 1 ∨ i = 2 ∨ i = 3 ∨ i = 4 ∨ i = 5 ∨ i = 6 ∨ i = 7 ∨ i = 8 ∨ i = 9 by omega) with rfl | rfl | rfl | rfl | rfl | rfl | rfl | rfl | rfl | rfl <;> simp)
    have HW6 := Lib.hid hW5.symm
    clear hW5 LY4 B4
    have S6 := Lib.hid (Sn.made W5 (ofL (gs g)))
    have B6 := Lib.hid (bel_alloc (Below.refl W5.heap.size W5) (.map #[] 0))
    have hmm := @run_makeMap Try.prog
    go_upto_region 8 with fail
    change Code.wp _ _ _ _ (w4.alloc (.cells #[.int .i64 (plN g 0 : Nat), .int .i64 (plN g 1 : Nat), .int .i64 (plN g 2 : Nat), .int .i64 (plN g 3 : Nat), .int .i64 (plN g 4 : Nat), .int .i64 (plN g 5 : Nat), .int .i64 (plN g 6 : Nat), .int .i64 (plN g 7 : Nat), .int .i64 (plN g 8 : Nat), .int .i64 (plN g 9 : Nat)] 41))
    rw [HW6.out]
    clear HW6
    obtain ⟨P, hP⟩ : ∃ P, w4.heap.size = P := ⟨_, rfl⟩
    rw [hP] at hP5 CP
    simp only [hP]
    clear hP
    go_wp2_with fail
    go_loopw [7] (fun s7 wr => ∃ j : Nat, j ≤ pW g ∧ s7 = .int .i64 j ∧ Sn wr W5.heap.size j (ofL (gs g)) ∧ Below W5.heap.size W5 wr) (fun s7 _ => (pW g - intOf s7).toNat)
    case atStart => exact ⟨0, Nat.zero_le _, rfl, S6.out, B6.out⟩
    case round =>
      clear S6 B6
      obtain ⟨j, hj, rfl, sn, bel⟩ := hrel
      obtain ⟨wq, rfl⟩ : ∃ wq : World, wq = wr := ⟨_, rfl⟩
      have q9 : wq.cell? ⟨P, 9, none⟩ = some (.int .i64 (pW g : Nat)) := (bel.cell (p := ⟨P, 9, none⟩) hP5).trans (CP.out 9 (by omega))
      by_cases hlt : j < pW g
      · have d0 : decide ((j : Int) < (pW g : Nat)) = true := decide_eq_true (by omega)
        have j1 : (j : Int) < (pW g : Nat) := by omega
        obtain ⟨k, x, wd, hof, hk9, hx, hwd, hbk⟩ := back HK.out hlt
        obtain ⟨K, hKk⟩ : ∃ K : Int, (k : Int) = K := ⟨_, rfl⟩
        rw [hKk] at hof
        have SN := Lib.hid sn
        have BE := Lib.hid bel
        clear sn bel
        go_wp2_with fail
        refine (ofc_any (LY5.out.below BE.out) HK.out (j : Int)).mono ?_
        rw [ofZ_nat, hof]
        unfold plcV
        rintro r w7 ⟨rfl, b7⟩
        have bel8 := bel_alloc (bel_trans BE.out b7) (.cells #[.int .u8 K, .int .i64 x, .int .i64 wd] 59)
        have SN8 : Sn (w7.alloc (.cells #[.int .u8 K, .int .i64 x, .int .i64 wd] 59)) W5.heap.size j (ofL (gs g)) := (SN.out.below b7).below (bel_alloc (Below.refl _ _) _)
        have hjm : j < maxLen := by unfold maxLen; omega
        have hd : ∀ a, a < j → ofL (gs g) a ≠ ofL (gs g) j := fun a ha e => by
          have := ofL_inj (apart g) (by rw [total_gs]; omega) (by rw [total_gs]; omega) e
          omega
        obtain ⟨HLk, w9, HUp, sn9, GR⟩ := SN8.next hjm hd (by rw [hof]; exact ⟨by show (0 : Int) ≤ K; omega, by show K ≤ 255; omega⟩) (by rw [hof]; exact ⟨by show _ ≤ (x : Int); omega, by show (x : Int) ≤ _; omega⟩) (by rw [hof]; exact ⟨by show _ ≤ (wd : Int); omega, by show (wd : Int) ≤ _; omega⟩)
        rw [hof] at HLk HUp
        simp only [kV] at HLk HUp
        have hB7 : W5.heap.size < w7.heap.size := (SN.out.below b7).lt
        have bel9 : Below W5.heap.size W5 w9 := bel8.grown GR bel8.size (fun g' e => by cases e; exact Nat.le_refl _)
        have hX : w9.heap[w7.heap.size]? = some (.cells #[.int .u8 K, .int .i64 x, .int .i64 wd] 59 (0, 0)) := (GR.block w7.heap.size (by rw [World.size_alloc]; omega) (fun e => by have := Option.some.inj e; omega)).trans (MapKept.heap_alloc w7 _).1
        have hX9 : w7.heap.size < w9.heap.size := (Array.getElem?_eq_some_iff.1 hX).1
        have x0 : w9.cell? ⟨w7.heap.size, 0, none⟩ = some (.int .u8 K) := cell_of hX rfl
        have x1 : w9.cell? ⟨w7.heap.size, 1, none⟩ = some (.int .i64 x) := cell_of hX rfl
        have x2 : w9.cell? ⟨w7.heap.size, 2, none⟩ = some (.int .i64 wd) := cell_of hX rfl
        have r0 : w9.cell? ⟨P, 0, none⟩ = some (.int .i64 0) := (bel9.cell (p := ⟨P, 0, none⟩) hP5).trans (CP.out 0 (by omega))
        have r1 : w9.cell? ⟨P, 1, none⟩ = some (.int .i64 (pE g : Nat)) := (bel9.cell (p := ⟨P, 1, none⟩) hP5).trans (CP.out 1 (by omega))
        have r2 : w9.cell? ⟨P, 2, none⟩ = some (.int .i64 (pM g : Nat)) := (bel9.cell (p := ⟨P, 2, none⟩) hP5).trans (CP.out 2 (by omega))
        have r3 : w9.cell? ⟨P, 3, none⟩ = some (.int .i64 (pL g : Nat)) := (bel9.cell (p := ⟨P, 3, none⟩) hP5).trans (CP.out 3 (by omega))
        have r4 : w9.cell? ⟨P, 4, none⟩ = some (.int .i64 (pD g : Nat)) := (bel9.cell (p := ⟨P, 4, none⟩) hP5).trans (CP.out 4 (by omega))
        have r5 : w9.cell? ⟨P, 5, none⟩ = some (.int .i64 (pP g : Nat)) := (bel9.cell (p := ⟨P, 5, none⟩) hP5).trans (CP.out 5 (by omega))
        have r6 : w9.cell? ⟨P, 6, none⟩ = some (.int .i64 (pK g : Nat)) := (bel9.cell (p := ⟨P, 6, none⟩) hP5).trans (CP.out 6 (by omega))
        have LY9 := Lib.hid (LY5.out.below bel9)
        have SN9 := Lib.hid sn9
        have BE9 := Lib.hid bel9
        have hx2 : (x : Int) ≤ 1200 := by omega
        have hw2 : (wd : Int) ≤ 200 := by omega
        have hI : I64 (-1 - (x : Int)) := ⟨by omega, by omega⟩
        have hI2 : I64 (x : Int) := ⟨by omega, by omega⟩
        have jW : (j : Int) < 14000 := by omega
        clear bel8 SN8 hjm hd sn9 bel9 hX GR b7 SN BE q9 hof
        as_aux_lemma =>
          unfold Bk9 at hbk
          rcases hbk with ⟨hk, hbk⟩ | ⟨hk, hbk⟩ | ⟨hk, hbk⟩ | ⟨hk, hbk⟩ | ⟨hk, hbk⟩ | ⟨hk, hbk⟩ | ⟨hk, hx3, hbk⟩ | ⟨hk, hw3, hbk⟩ | ⟨hk, hw3, hbk⟩ | ⟨hk, hw3, hbk⟩ | ⟨hk, hw3, hbk⟩
          all_goals subst hk
          · obtain rfl : K = 1 := by omega
            have hne : ((x : Int) != (j : Int)) = false := by simp; omega
            have hb1 : (x : Int) ≤ 14000 := by omega
            clear hbk
            go_wp2
            go_roundw
            case rel => exact ⟨j + 1, by omega, by go_num, SN9.out, BE9.out⟩
            case measure => simp [intOf]; omega
          · obtain rfl : K = 2 := by omega
            have hne : (((pE g : Nat) : Int) + (wd : Int) != (j : Int)) = false := by simp; omega
            have hb1 : ((pE g : Nat) : Int) ≤ 14000 := by omega
            clear hbk
            go_wp2
            go_roundw
            case rel => exact ⟨j + 1, by omega, by go_num, SN9.out, BE9.out⟩
            case measure => simp [intOf]; omega
          · obtain rfl : K = 3 := by omega
            have hne : (((pM g : Nat) : Int) != (j : Int)) = false := by simp; omega
            have hb1 : ((pM g : Nat) : Int) ≤ 14000 := by omega
            clear hbk
            go_wp2
            go_roundw
            case rel => exact ⟨j + 1, by omega, by go_num, SN9.out, BE9.out⟩
            case measure => simp [intOf]; omega
          · obtain rfl : K = 4 := by omega
            have hne : (((pL g : Nat) : Int) + 3 * (x : Int) + (wd : Int) != (j : Int)) = false := by simp; omega
            have hb1 : ((pL g : Nat) : Int) ≤ 14000 := by omega
            clear hbk
            go_wp2
            go_roundw
            case rel => exact ⟨j + 1, by omega, by go_num, SN9.out, BE9.out⟩
            case measure => simp [intOf]; omega
          · obtain rfl : K = 5 := by omega
            have hne : (((pD g : Nat) : Int) + (x : Int) != (j : Int)) = false := by simp; omega
            have hb1 : ((pD g : Nat) : Int) ≤ 14000 := by omega
            clear hbk
            go_wp2
            go_roundw
            case rel => exact ⟨j + 1, by omega, by go_num, SN9.out, BE9.out⟩
            case measure => simp [intOf]; omega
          · obtain rfl : K = 6 := by omega
            have hne : (((pP g : Nat) : Int) + (x : Int) != (j : Int)) = false := by simp; omega
            have hb1 : ((pP g : Nat) : Int) ≤ 14000 := by omega
            clear hbk
            go_wp2
            go_roundw
            case rel => exact ⟨j + 1, by omega, by go_num, SN9.out, BE9.out⟩
            case measure => simp [intOf]; omega
          · obtain rfl : K = 7 := by omega
            have hne : (((pK g : Nat) : Int) + (x : Int) - 1 != (j : Int)) = false := by simp; omega
            have hb1 : ((pK g : Nat) : Int) ≤ 14000 := by omega
            clear hbk
            go_wp2
            go_roundw
            case rel => exact ⟨j + 1, by omega, by go_num, SN9.out, BE9.out⟩
            case measure => simp [intOf]; omega
          · obtain rfl : K = 8 := by omega
            have d4 : decide (0 < (wd : Int)) = false := decide_eq_false (by omega)
            have d6 : decide (0 < wd) = false := decide_eq_false (by omega)
            clear hw3
            go_wp2_with fail
            refine (latch_any LY9.out HK.out (-1 - (x : Int)) hI).mono ?_
            rw [hbk]
            unfold resp
            rintro r w10 ⟨rfl, b10⟩
            have SN10 := Lib.hid (SN9.out.below b10)
            have BE10 := Lib.hid (bel_trans BE9.out b10)
            replace x2 := (b10.cell (p := ⟨w7.heap.size, 2, none⟩) hX9).trans x2
            clear hbk b10
            go_wp2
            go_roundw
            case rel => exact ⟨j + 1, by omega, by go_num, SN10.out, BE10.out⟩
            case measure => simp [intOf]; omega
          · obtain rfl : K = 8 := by omega
            obtain ⟨p1, p2, hform⟩ := resp_form (ltO g (-1 - (x : Int)))
            have hw4 : (0 : Int) < (wd : Int) := by omega
            have d4 : decide (0 < (wd : Int)) = true := decide_eq_true (by omega)
            have d6 : decide (0 < wd) = true := decide_eq_true (by omega)
            go_wp2_with fail
            refine (latch_any LY9.out HK.out (-1 - (x : Int)) hI).mono ?_
            rw [hform]
            rintro r w10 ⟨rfl, b10⟩
            have LY10 := Lib.hid (LY9.out.below b10)
            have SN10 := Lib.hid (SN9.out.below b10)
            have BE10 := Lib.hid (bel_trans BE9.out b10)
            replace x1 := (b10.cell (p := ⟨w7.heap.size, 1, none⟩) hX9).trans x1
            replace x2 := (b10.cell (p := ⟨w7.heap.size, 2, none⟩) hX9).trans x2
            clear hform b10 SN9 BE9 LY9
            go_wp2_with fail
            refine (next_any LY10.out HK.out (-1 - (x : Int)) ((wd : Int) - 1) hI).mono ?_
            rw [hbk]
            unfold resp
            rintro r w11 ⟨rfl, b11⟩
            have SN11 := Lib.hid (SN10.out.below b11)
            have BE11 := Lib.hid (bel_trans BE10.out b11)
            clear hbk b11
            go_wp2
            go_roundw
            case rel => exact ⟨j + 1, by omega, by go_num, SN11.out, BE11.out⟩
            case measure => simp [intOf]; omega
          · obtain rfl : K = 9 := by omega
            have hw4 : (wd : Int) ≤ 4 := by omega
            have d4 : decide (4 < (wd : Int)) = false := decide_eq_false (by omega)
            have d6 : decide (4 < wd) = false := decide_eq_false (by omega)
            go_wp2_with fail
            refine (word_any LY9.out HK.out (x : Int) (wd : Int)).mono ?_
            rw [hbk]
            unfold resp
            rintro r w10 ⟨rfl, b10⟩
            have SN10 := Lib.hid (SN9.out.below b10)
            have BE10 := Lib.hid (bel_trans BE9.out b10)
            replace x2 := (b10.cell (p := ⟨w7.heap.size, 2, none⟩) hX9).trans x2
            clear hbk b10
            go_wp2
            go_roundw
            case rel => exact ⟨j + 1, by omega, by go_num, SN10.out, BE10.out⟩
            case measure => simp [intOf]; omega
          · obtain rfl : K = 9 := by omega
            obtain ⟨p1, p2, hform⟩ := resp_form (wdO g (x : Int) (wd : Int))
            have hw4 : (0 : Int) < (wd : Int) := by omega
            have d4 : decide (4 < (wd : Int)) = true := decide_eq_true (by omega)
            have d6 : decide (4 < wd) = true := decide_eq_true (by omega)
            go_wp2_with fail
            refine (word_any LY9.out HK.out (x : Int) (wd : Int)).mono ?_
            rw [hform]
            rintro r w10 ⟨rfl, b10⟩
            have LY10 := Lib.hid (LY9.out.below b10)
            have SN10 := Lib.hid (SN9.out.below b10)
            have BE10 := Lib.hid (bel_trans BE9.out b10)
            replace x1 := (b10.cell (p := ⟨w7.heap.size, 1, none⟩) hX9).trans x1
            replace x2 := (b10.cell (p := ⟨w7.heap.size, 2, none⟩) hX9).trans x2
            clear hform b10 SN9 BE9 LY9
            go_wp2_with fail
            refine (next_any LY10.out HK.out (x : Int) ((wd : Int) - 5) hI2).mono ?_
            rw [hbk]
            unfold resp
            rintro r w11 ⟨rfl, b11⟩
            have SN11 := Lib.hid (SN10.out.below b11)
            have BE11 := Lib.hid (bel_trans BE10.out b11)
            clear hbk b11
            go_wp2
            go_roundw
            case rel => exact ⟨j + 1, by omega, by go_num, SN11.out, BE11.out⟩
            case measure => simp [intOf]; omega
      · obtain rfl : j = pW g := by omega
        have d0 : decide (((pW g : Nat) : Int) < (pW g : Nat)) = false := by simp
        have SN := Lib.hid sn
        have BE := Lib.hid bel
        clear sn bel
        as_aux_lemma =>
          have CQ := Lib.hid (fun W (h : Below wq.heap.size wq W) => show W.cell? ⟨P, 9, none⟩ = some (.int .i64 (pW g : Nat)) from ((bel_trans BE.out h).cell (p := ⟨P, 9, none⟩) hP5).trans (CP.out 9 (by omega)))
          have ML := Lib.hid (fun W (h : Below wq.heap.size wq W) ty => (SN.out.below h).len ty)
          have IN := Lib.hid (fun W (h : Below wq.heap.size wq W) => (initial_any (LY5.out.below (bel_trans BE.out h)) HK.out).mono (R' := fun e w' => (∃ aa, e = .returned (.slice aa (pW g) (pW g))) ∧ Below wq.heap.size wq w') fun e w' ⟨h1, _, h3⟩ => ⟨⟨_, h1⟩, bel_trans h h3⟩)
          have OF := Lib.hid (fun W (h : Below wq.heap.size wq W) => show Calls Try.prog 27 #[.pointer (some ⟨b, 0, none⟩), .int .i64 (pW g : Nat)] W fun e w' => e = .returned (.agg #[.int .u8 0, .int .i64 0, .int .i64 0]) ∧ Below wq.heap.size wq w' from by
            have := ofc_any (LY5.out.below (bel_trans BE.out h)) HK.out ((pW g : Nat) : Int)
            rw [ofZ_end] at this
            exact this.mono fun e w' ⟨h1, h3⟩ => ⟨h1, bel_trans h h3⟩)
          have WK := Lib.hid (fun W (h : Below wq.heap.size wq W) => (works_any W).mono (R' := fun e w' => e = .returned (.bool true) ∧ Below wq.heap.size wq w') fun e w' ⟨h1, h3⟩ => ⟨h1, bel_trans h h3⟩)
          have BZ := Lib.hid (bel_trans B5.out BE.out)
          have hpos : 0 < pW g := by have := HK.out.s1; simp only [pW, pT]; omega
          have d5 : decide (0 < ((pW g : Nat) : Int)) = true := decide_eq_true (by omega)
          have d6 : decide (0 < pW g) = true := decide_eq_true hpos
          have ER := fun W => eqP W
          generalize pW g = Q at *
          have BB := Below.refl wq.heap.size wq
          clear SN BE LY5 CP B5 HK hpos
          go_wp2_with fail
          go_region_held3 (fun w' => w'.cell? ⟨P, 9, none⟩ = some (.int .i64 (Q : Nat)) ∧ (Builtin.len_ #[65] 3 #[.map (some W5.heap.size)]).run Try.prog w' = .ok (.int .i64 (Q : Nat)) w') (first | exact ⟨CQ.out _ BB, ML.out _ BB _⟩ | exact ⟨CQ.out _ (below_drewN BB 1), ML.out _ (below_drewN BB 1) _⟩) (first | (go_at_call 29; refine (IN.out _ (by first | exact BB | exact below_drewN BB 1)).mono ?_; rintro r wd ⟨⟨aa, rfl⟩, BB⟩) | (go_at_call 27; refine (OF.out _ (by first | exact BB | exact below_drewN BB 1)).mono ?_; rintro r wd ⟨rfl, BB⟩) | (go_at_call 33; refine (WK.out _ (by first | exact BB | exact below_drewN BB 1)).mono ?_; rintro r wd ⟨rfl, BB⟩))
          all_goals (go_wp2_with fail)
          all_goals (go_ret)
          all_goals (exact ⟨rfl, bel_trans BZ.out BB⟩)
end Wk
end Go.Proofs.Ytgefpjnagpmpeaa
