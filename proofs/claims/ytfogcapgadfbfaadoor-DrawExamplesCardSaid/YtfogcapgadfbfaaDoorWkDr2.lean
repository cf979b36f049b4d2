/- The walk of the law DrawBits, from the contracts of XDrw. Conditions: those of the contracts. -/
import Derived.Test.YtfogcapgadfbfaaDoorWkDr1
namespace Go.Proofs.YtfogcapgadfbfaaDoor
open Go.RowKit Go.Sort
set_option linter.unusedVariables false
set_option linter.unusedSimpArgs false
attribute [local go_sem] Dr.eq6 Dr.guard6
namespace Dr
open Dm
theorem and_low {x : Nat} (hx : x < M64) (n m : Nat) (hm : m = 2 ^ n - 1) (hn : n ≤ 63) : bits .and .u64 (x : Int) (m : Int) = ((x % 2 ^ n : Nat) : Int) := by
  have h : 2 ^ n ≤ 2 ^ 63 := Nat.pow_le_pow_right (by omega) hn
  subst hm
  rw [u64_and_nat x _ hx (by omega), Nat.and_two_pow_sub_one_eq_mod]
/-- the number with the lowest bits of x -/
def lowOf (x y : Nat) : Nat := x % 32 ||| (y * 32 % M64)
theorem lowOf_lt (x y : Nat) : lowOf x y < M64 := Nat.or_lt_two_pow (n := 64) (Nat.lt_of_lt_of_le (Nat.mod_lt _ (by omega)) (by decide)) (Nat.mod_lt _ m64_pos)
theorem lowOf_hgt (x y : Nat) : hgt (lowOf x y) = hgt x := by
  have e : lowOf x y % 32 = x % 32 := by
    have h : ∀ a b : Nat, (a ||| b) % 2 ^ 5 = a % 2 ^ 5 ||| b % 2 ^ 5 := fun a b => Nat.or_mod_two_pow
    have h2 : y * 32 % M64 % 2 ^ 5 = 0 := by
      show y * 32 % 18446744073709551616 % 32 = 0
      omega
    show lowOf x y % 2 ^ 5 = x % 32
    rw [lowOf, h, h2, Nat.or_zero]
    show x % 32 % 32 = x % 32
    omega
  rw [hgt_low, e, ← hgt_low]
theorem lowOf_val {x : Nat} (hx : x < M64) (y : Nat) : bits .or .u64 (bits .and .u64 (x : Int) 31) (IntKind.u64.wrap ((y : Int) * 32)) = ((lowOf x y : Nat) : Int) := by
  have e1 := and_low hx 5 31 rfl (by omega)
  have e2 := mulN y 32
  rw [show (31 : Int) = ((31 : Nat) : Int) from rfl, show (32 : Int) = ((32 : Nat) : Int) from rfl, e1, e2]
  exact u64_or_nat _ _ (Nat.lt_of_lt_of_le (Nat.mod_lt _ (by decide)) (by decide)) (Nat.mod_lt _ m64_pos)
theorem low_test {x m : Nat} (hx : x < M64) (n : Nat) (hm : m = 2 ^ n - 1) (hn : n ≤ 63) (h : x % 2 ^ n = 2 ^ n - 1) : (bits .and .u64 (x : Int) (m : Int) != (m : Int)) = false := by
  rw [and_low hx n m hm hn, h, hm]; simp
theorem bit_test {x d : Nat} (hx : x < M64) (n : Nat) (hd : d = 2 ^ n) (h : x / 2 ^ n % 2 = 0) : (bits .and .u64 ((x : Int) / (d : Int)) 1 != 0) = false := by
  have e := and_low (Nat.lt_of_le_of_lt (Nat.div_le_self x d) hx) 1 1 rfl (by omega)
  rw [← Int.natCast_ediv, show (1 : Int) = ((1 : Nat) : Int) from rfl, e, hd, show (2 : Nat) ^ 1 = 2 from rfl, h]; rfl
theorem bit_test0 {x : Nat} (hx : x < M64) (h : x / 2 ^ (1 - 1) % 2 = 0) : (bits .and .u64 (x : Int) 1 != 0) = false := by
  have e := and_low hx 1 1 rfl (by omega)
  have h' : x % 2 ^ 1 = 0 := by rw [show x / 2 ^ (1 - 1) = x by simp] at h; exact h
  rw [show (1 : Int) = ((1 : Nat) : Int) from rfl, e, h']; rfl
theorem cntH_le (y h : Nat) : ∀ n, cntH y h n ≤ n
  | 0 => Nat.le_refl _
  | n + 1 => by
    rw [cntH]; have := cntH_le y h n
    split <;> omega
theorem cnt_at (y k : Nat) (n : Int) (h : ((cntH 0 (k + 1) 32 : Nat) : Int) = n) : some (Value.int .i64 ((cntH y (k + 1) 32 : Nat) : Int)) = some (Value.int .i64 n) := by rw [cntH_row, h]
theorem build6 (a0 a1 a2 a3 a4 a5 : Int) (w : World) : (Instr.build 32 #[(0, .int .i64 a0), (1, .int .i64 a1), (2, .int .i64 a2), (3, .int .i64 a3), (4, .int .i64 a4), (5, .int .i64 a5)]).run Tryd.prog w = .ok (.agg #[.int .i64 a0, .int .i64 a1, .int .i64 a2, .int .i64 a3, .int .i64 a4, .int .i64 a5]) w := run_build w 32 _ _ (by kernel_rfl)
end Dr
attribute [local go_sem] Dr.build6
namespace Wk
open Dm Dr
set_option maxHeartbeats 1000000 in
theorem walk_drawBits (a0 : Int) (a1 : Int) (w : World) (a0l : 0 ≤ a0) (a0h : a0 ≤ 18446744073709551615) (a1l : 0 ≤ a1) (a1h : a1 ≤ 18446744073709551615) (hT : Dm.Tz w) :
    Calls Tryd.prog 7 #[.int .u64 a0, .int .u64 a1] w fun e w' => e = .returned (.bool true) ∧ Below w.heap.size w w' := by
  obtain ⟨x, rfl⟩ := Int.eq_ofNat_of_zero_le a0l
  obtain ⟨y, rfl⟩ := Int.eq_ofNat_of_zero_le a1l
  have HT := Lib.hid hT; clear hT
  have CH := fun (z : Nat) (hz : z < M64) W h => Lib.hid (height_any z hz W h)
  have CX := Lib.hid (height_any x (by show x < 18446744073709551616; omega) w HT.out)
  obtain ⟨g1, g2⟩ := hgt_bd x
  have HX := Lib.hid (lowOf_val (show x < M64 by show x < 18446744073709551616; omega) y)
  have CL := Lib.hid (height_any (lowOf x y) (lowOf_lt x y) w HT.out)
  rw [lowOf_hgt] at CL
  generalize lowOf x y = z at *
  obtain ⟨k1, k2⟩ := hgt_bits x
  have hx1 : x < M64 := by show x < 18446744073709551616; omega
  generalize hh : hgt x = h at *
  have HH := Lib.hid hh; clear hh
  have t1 : decide ((h : Int) < 1) = false := decide_eq_false (by omega)
  have t2 : decide (6 < (h : Int)) = false := decide_eq_false (by omega)
  go_enter Tryd.func7, Tryd.ntmps7
  go_wp2_with fail
  refine CX.out.mono ?_
  rintro r w1 ⟨rfl, rfl⟩
  go_wp2_with fail
  rw [HX.out]
  refine CL.out.mono ?_
  rintro r w1 ⟨rfl, rfl⟩
  rcases (show h = 1 ∨ h = 2 ∨ h = 3 ∨ h = 4 ∨ h = 5 ∨ h = 6 by omega) with rfl | rfl | rfl | rfl | rfl | rfl
  · have T1 : (bits .and .u64 (x : Int) 0 != 0) = false := low_test hx1 0 rfl (by omega) k1
    have T2 : (bits .and .u64 ((x : Int)) 1 != 0) = false := bit_test0 hx1 (k2 (by omega))
    go_wp2
    have z1 := ar_new w 32 0 0 0 0 0 0 (fun k => (cntH y (k + 1) 0 : Nat)) rfl rfl rfl rfl rfl rfl
    have b0 := bel_alloc (Below.refl w.heap.size w) (.cells #[.int .i64 0, .int .i64 0, .int .i64 0, .int .i64 0, .int .i64 0, .int .i64 0] 32)
    generalize w.alloc (.cells #[.int .i64 0, .int .i64 0, .int .i64 0, .int .i64 0, .int .i64 0, .int .i64 0] 32) = w3 at *
    go_loopw [8] (fun i wr => ∃ j : Nat, j ≤ 32 ∧ i = .int .u64 j ∧ Ar wr w.heap.size (fun k => (cntH y (k + 1) j : Nat)) ∧ Below w.heap.size w wr) (fun i _ => (32 - intOf i).toNat)
    case atStart => exact ⟨0, Nat.zero_le _, rfl, z1, b0⟩
    case round =>
      clear z1 b0
      obtain ⟨j, hj, rfl, y1, bel⟩ := hrel
      by_cases hlt : j < 32
      · have u0 : decide ((j : Int) < 32) = true := decide_eq_true (by omega)
        have HW := Lib.hid (wrapN (y + j))
        have CJ := CH ((y + j) % M64) (Nat.mod_lt _ m64_pos) wr (HT.out.below bel)
        have HC := fun k => Lib.hid (show cntH y (k + 1) (j + 1) = cntH y (k + 1) j + if hgt (y + j) = k + 1 then 1 else 0 from rfl)
        have hmod : hgt ((y + j) % M64) = hgt (y + j) := by rw [hgt_low, show (y + j) % M64 % 32 = (y + j) % 32 by show (y + j) % 18446744073709551616 % 32 = (y + j) % 32; omega, ← hgt_low]
        rw [hmod] at CJ
        clear hmod
        obtain ⟨n1, n2⟩ := hgt_bd (y + j)
        generalize hgt (y + j) = n at *
        obtain ⟨r, rfl⟩ : ∃ r, n = r + 1 := ⟨n - 1, by omega⟩
        have hr6 : r < 6 := by omega
        have c0 : wr.cell? ⟨w.heap.size, r, none⟩ = some (.int .i64 (cntH y (r + 1) j : Nat)) := (y1 r hr6).1
        have f0 := (y1 r hr6).2
        have hcl := cntH_le y (r + 1) j
        have Y1 := Lib.hid y1; clear y1
        generalize hq : cntH y (r + 1) j = q at c0 hcl
        have HQ := Lib.hid hq; clear hq
        generalize (y + j) % M64 = zz at *
        have r6 : (r : Int) < 6 := by omega
        have v0 : decide ((r : Int) + 1 < 1) = false := decide_eq_false (by omega)
        have v1 : decide (6 < (r : Int) + 1) = false := decide_eq_false (by omega)
        go_wp2_with fail
        rw [show ((y : Int) + (j : Int)) = ((y + j : Nat) : Int) by omega, HW.out]
        refine CJ.out.mono ?_
        rintro r' w4 ⟨rfl, rfl⟩
        go_wp2
        go_roundw
        case rel =>
          refine ⟨j + 1, by omega, by go_num, (Y1.out.set hr6 ((q : Int) + 1)).congr fun k hk => ?_, bel.setCell (p := ⟨w.heap.size, r, none⟩) (Nat.le_refl _) _⟩
          rw [(HC k).out]
          by_cases e : k = r
          · subst e; rw [if_pos rfl, if_pos rfl, HQ.out]; omega
          · rw [if_neg e, if_neg (by omega)]; rfl
        case measure => simp [intOf]; omega
      · obtain rfl : j = 32 := by omega
        have u0 : decide (((32 : Nat) : Int) < 32) = false := decide_eq_false (by omega)
        have d0 : wr.cell? ⟨w.heap.size, 0, none⟩ = some (.int .i64 16) := (y1 0 (by omega)).1.trans (cnt_at y 0 _ (by decide +kernel))
        have d1 : wr.cell? ⟨w.heap.size, 1, none⟩ = some (.int .i64 8) := (y1 1 (by omega)).1.trans (cnt_at y 1 _ (by decide +kernel))
        have d2 : wr.cell? ⟨w.heap.size, 2, none⟩ = some (.int .i64 4) := (y1 2 (by omega)).1.trans (cnt_at y 2 _ (by decide +kernel))
        have d3 : wr.cell? ⟨w.heap.size, 3, none⟩ = some (.int .i64 2) := (y1 3 (by omega)).1.trans (cnt_at y 3 _ (by decide +kernel))
        have d4 : wr.cell? ⟨w.heap.size, 4, none⟩ = some (.int .i64 1) := (y1 4 (by omega)).1.trans (cnt_at y 4 _ (by decide +kernel))
        have d5 : wr.cell? ⟨w.heap.size, 5, none⟩ = some (.int .i64 1) := (y1 5 (by omega)).1.trans (cnt_at y 5 _ (by decide +kernel))
        clear y1
        go_wp2
        go_ret
        exact ⟨rfl, bel⟩
  · have T1 : (bits .and .u64 (x : Int) 1 != 1) = false := low_test hx1 1 rfl (by omega) k1
    have T2 : (bits .and .u64 ((x : Int) / 2) 1 != 0) = false := bit_test hx1 1 rfl (k2 (by omega))
    go_wp2
    have z1 := ar_new w 32 0 0 0 0 0 0 (fun k => (cntH y (k + 1) 0 : Nat)) rfl rfl rfl rfl rfl rfl
    have b0 := bel_alloc (Below.refl w.heap.size w) (.cells #[.int .i64 0, .int .i64 0, .int .i64 0, .int .i64 0, .int .i64 0, .int .i64 0] 32)
    generalize w.alloc (.cells #[.int .i64 0, .int .i64 0, .int .i64 0, .int .i64 0, .int .i64 0, .int .i64 0] 32) = w3 at *
    go_loopw [8] (fun i wr => ∃ j : Nat, j ≤ 32 ∧ i = .int .u64 j ∧ Ar wr w.heap.size (fun k => (cntH y (k + 1) j : Nat)) ∧ Below w.heap.size w wr) (fun i _ => (32 - intOf i).toNat)
    case atStart => exact ⟨0, Nat.zero_le _, rfl, z1, b0⟩
    case round =>
      clear z1 b0
      obtain ⟨j, hj, rfl, y1, bel⟩ := hrel
      by_cases hlt : j < 32
      · have u0 : decide ((j : Int) < 32) = true := decide_eq_true (by omega)
        have HW := Lib.hid (wrapN (y + j))
        have CJ := CH ((y + j) % M64) (Nat.mod_lt _ m64_pos) wr (HT.out.below bel)
        have HC := fun k => Lib.hid (show cntH y (k + 1) (j + 1) = cntH y (k + 1) j + if hgt (y + j) = k + 1 then 1 else 0 from rfl)
        have hmod : hgt ((y + j) % M64) = hgt (y + j) := by rw [hgt_low, show (y + j) % M64 % 32 = (y + j) % 32 by show (y + j) % 18446744073709551616 % 32 = (y + j) % 32; omega, ← hgt_low]
        rw [hmod] at CJ
        clear hmod
        obtain ⟨n1, n2⟩ := hgt_bd (y + j)
        generalize hgt (y + j) = n at *
        obtain ⟨r, rfl⟩ : ∃ r, n = r + 1 := ⟨n - 1, by omega⟩
        have hr6 : r < 6 := by omega
        have c0 : wr.cell? ⟨w.heap.size, r, none⟩ = some (.int .i64 (cntH y (r + 1) j : Nat)) := (y1 r hr6).1
        have f0 := (y1 r hr6).2
        have hcl := cntH_le y (r + 1) j
        have Y1 := Lib.hid y1; clear y1
        generalize hq : cntH y (r + 1) j = q at c0 hcl
        have HQ := Lib.hid hq; clear hq
        generalize (y + j) % M64 = zz at *
        have r6 : (r : Int) < 6 := by omega
        have v0 : decide ((r : Int) + 1 < 1) = false := decide_eq_false (by omega)
        have v1 : decide (6 < (r : Int) + 1) = false := decide_eq_false (by omega)
        go_wp2_with fail
        rw [show ((y : Int) + (j : Int)) = ((y + j : Nat) : Int) by omega, HW.out]
        refine CJ.out.mono ?_
        rintro r' w4 ⟨rfl, rfl⟩
        go_wp2
        go_roundw
        case rel =>
          refine ⟨j + 1, by omega, by go_num, (Y1.out.set hr6 ((q : Int) + 1)).congr fun k hk => ?_, bel.setCell (p := ⟨w.heap.size, r, none⟩) (Nat.le_refl _) _⟩
          rw [(HC k).out]
          by_cases e : k = r
          · subst e; rw [if_pos rfl, if_pos rfl, HQ.out]; omega
          · rw [if_neg e, if_neg (by omega)]; rfl
        case measure => simp [intOf]; omega
      · obtain rfl : j = 32 := by omega
        have u0 : decide (((32 : Nat) : Int) < 32) = false := decide_eq_false (by omega)
        have d0 : wr.cell? ⟨w.heap.size, 0, none⟩ = some (.int .i64 16) := (y1 0 (by omega)).1.trans (cnt_at y 0 _ (by decide +kernel))
        have d1 : wr.cell? ⟨w.heap.size, 1, none⟩ = some (.int .i64 8) := (y1 1 (by omega)).1.trans (cnt_at y 1 _ (by decide +kernel))
        have d2 : wr.cell? ⟨w.heap.size, 2, none⟩ = some (.int .i64 4) := (y1 2 (by omega)).1.trans (cnt_at y 2 _ (by decide +kernel))
        have d3 : wr.cell? ⟨w.heap.size, 3, none⟩ = some (.int .i64 2) := (y1 3 (by omega)).1.trans (cnt_at y 3 _ (by decide +kernel))
        have d4 : wr.cell? ⟨w.heap.size, 4, none⟩ = some (.int .i64 1) := (y1 4 (by omega)).1.trans (cnt_at y 4 _ (by decide +kernel))
        have d5 : wr.cell? ⟨w.heap.size, 5, none⟩ = some (.int .i64 1) := (y1 5 (by omega)).1.trans (cnt_at y 5 _ (by decide +kernel))
        clear y1
        go_wp2
        go_ret
        exact ⟨rfl, bel⟩
  · have T1 : (bits .and .u64 (x : Int) 3 != 3) = false := low_test hx1 2 rfl (by omega) k1
    have T2 : (bits .and .u64 ((x : Int) / 4) 1 != 0) = false := bit_test hx1 2 rfl (k2 (by omega))
    go_wp2
    have z1 := ar_new w 32 0 0 0 0 0 0 (fun k => (cntH y (k + 1) 0 : Nat)) rfl rfl rfl rfl rfl rfl
    have b0 := bel_alloc (Below.refl w.heap.size w) (.cells #[.int .i64 0, .int .i64 0, .int .i64 0, .int .i64 0, .int .i64 0, .int .i64 0] 32)
    generalize w.alloc (.cells #[.int .i64 0, .int .i64 0, .int .i64 0, .int .i64 0, .int .i64 0, .int .i64 0] 32) = w3 at *
    go_loopw [8] (fun i wr => ∃ j : Nat, j ≤ 32 ∧ i = .int .u64 j ∧ Ar wr w.heap.size (fun k => (cntH y (k + 1) j : Nat)) ∧ Below w.heap.size w wr) (fun i _ => (32 - intOf i).toNat)
    case atStart => exact ⟨0, Nat.zero_le _, rfl, z1, b0⟩
    case round =>
      clear z1 b0
      obtain ⟨j, hj, rfl, y1, bel⟩ := hrel
      by_cases hlt : j < 32
      · have u0 : decide ((j : Int) < 32) = true := decide_eq_true (by omega)
        have HW := Lib.hid (wrapN (y + j))
        have CJ := CH ((y + j) % M64) (Nat.mod_lt _ m64_pos) wr (HT.out.below bel)
        have HC := fun k => Lib.hid (show cntH y (k + 1) (j + 1) = cntH y (k + 1) j + if hgt (y + j) = k + 1 then 1 else 0 from rfl)
        have hmod : hgt ((y + j) % M64) = hgt (y + j) := by rw [hgt_low, show (y + j) % M64 % 32 = (y + j) % 32 by show (y + j) % 18446744073709551616 % 32 = (y + j) % 32; omega, ← hgt_low]
        rw [hmod] at CJ
        clear hmod
        obtain ⟨n1, n2⟩ := hgt_bd (y + j)
        generalize hgt (y + j) = n at *
        obtain ⟨r, rfl⟩ : ∃ r, n = r + 1 := ⟨n - 1, by omega⟩
        have hr6 : r < 6 := by omega
        have c0 : wr.cell? ⟨w.heap.size, r, none⟩ = some (.int .i64 (cntH y (r + 1) j : Nat)) := (y1 r hr6).1
        have f0 := (y1 r hr6).2
        have hcl := cntH_le y (r + 1) j
        have Y1 := Lib.hid y1; clear y1
        generalize hq : cntH y (r + 1) j = q at c0 hcl
        have HQ := Lib.hid hq; clear hq
        generalize (y + j) % M64 = zz at *
        have r6 : (r : Int) < 6 := by omega
        have v0 : decide ((r : Int) + 1 < 1) = false := decide_eq_false (by omega)
        have v1 : decide (6 < (r : Int) + 1) = false := decide_eq_false (by omega)
        go_wp2_with fail
        rw [show ((y : Int) + (j : Int)) = ((y + j : Nat) : Int) by omega, HW.out]
        refine CJ.out.mono ?_
        rintro r' w4 ⟨rfl, rfl⟩
        go_wp2
        go_roundw
        case rel =>
          refine ⟨j + 1, by omega, by go_num, (Y1.out.set hr6 ((q : Int) + 1)).congr fun k hk => ?_, bel.setCell (p := ⟨w.heap.size, r, none⟩) (Nat.le_refl _) _⟩
          rw [(HC k).out]
          by_cases e : k = r
          · subst e; rw [if_pos rfl, if_pos rfl, HQ.out]; omega
          · rw [if_neg e, if_neg (by omega)]; rfl
        case measure => simp [intOf]; omega
      · obtain rfl : j = 32 := by omega
        have u0 : decide (((32 : Nat) : Int) < 32) = false := decide_eq_false (by omega)
        have d0 : wr.cell? ⟨w.heap.size, 0, none⟩ = some (.int .i64 16) := (y1 0 (by omega)).1.trans (cnt_at y 0 _ (by decide +kernel))
        have d1 : wr.cell? ⟨w.heap.size, 1, none⟩ = some (.int .i64 8) := (y1 1 (by omega)).1.trans (cnt_at y 1 _ (by decide +kernel))
        have d2 : wr.cell? ⟨w.heap.size, 2, none⟩ = some (.int .i64 4) := (y1 2 (by omega)).1.trans (cnt_at y 2 _ (by decide +kernel))
        have d3 : wr.cell? ⟨w.heap.size, 3, none⟩ = some (.int .i64 2) := (y1 3 (by omega)).1.trans (cnt_at y 3 _ (by decide +kernel))
        have d4 : wr.cell? ⟨w.heap.size, 4, none⟩ = some (.int .i64 1) := (y1 4 (by omega)).1.trans (cnt_at y 4 _ (by decide +kernel))
        have d5 : wr.cell? ⟨w.heap.size, 5, none⟩ = some (.int .i64 1) := (y1 5 (by omega)).1.trans (cnt_at y 5 _ (by decide +kernel))
        clear y1
        go_wp2
        go_ret
        exact ⟨rfl, bel⟩
  · have T1 : (bits .and .u64 (x : Int) 7 != 7) = false := low_test hx1 3 rfl (by omega) k1
    have T2 : (bits .and .u64 ((x : Int) / 8) 1 != 0) = false := bit_test hx1 3 rfl (k2 (by omega))
    go_wp2
    have z1 := ar_new w 32 0 0 0 0 0 0 (fun k => (cntH y (k + 1) 0 : Nat)) rfl rfl rfl rfl rfl rfl
    have b0 := bel_alloc (Below.refl w.heap.size w) (.cells #[.int .i64 0, .int .i64 0, .int .i64 0, .int .i64 0, .int .i64 0, .int .i64 0] 32)
    generalize w.alloc (.cells #[.int .i64 0, .int .i64 0, .int .i64 0, .int .i64 0, .int .i64 0, .int .i64 0] 32) = w3 at *
    go_loopw [8] (fun i wr => ∃ j : Nat, j ≤ 32 ∧ i = .int .u64 j ∧ Ar wr w.heap.size (fun k => (cntH y (k + 1) j : Nat)) ∧ Below w.heap.size w wr) (fun i _ => (32 - intOf i).toNat)
    case atStart => exact ⟨0, Nat.zero_le _, rfl, z1, b0⟩
    case round =>
      clear z1 b0
      obtain ⟨j, hj, rfl, y1, bel⟩ := hrel
      by_cases hlt : j < 32
      · have u0 : decide ((j : Int) < 32) = true := decide_eq_true (by omega)
        have HW := Lib.hid (wrapN (y + j))
        have CJ := CH ((y + j) % M64) (Nat.mod_lt _ m64_pos) wr (HT.out.below bel)
        have HC := fun k => Lib.hid (show cntH y (k + 1) (j + 1) = cntH y (k + 1) j + if hgt (y + j) = k + 1 then 1 else 0 from rfl)
        have hmod : hgt ((y + j) % M64) = hgt (y + j) := by rw [hgt_low, show (y + j) % M64 % 32 = (y + j) % 32 by show (y + j) % 18446744073709551616 % 32 = (y + j) % 32; omega, ← hgt_low]
        rw [hmod] at CJ
        clear hmod
        obtain ⟨n1, n2⟩ := hgt_bd (y + j)
        generalize hgt (y + j) = n at *
        obtain ⟨r, rfl⟩ : ∃ r, n = r + 1 := ⟨n - 1, by omega⟩
        have hr6 : r < 6 := by omega
        have c0 : wr.cell? ⟨w.heap.size, r, none⟩ = some (.int .i64 (cntH y (r + 1) j : Nat)) := (y1 r hr6).1
        have f0 := (y1 r hr6).2
        have hcl := cntH_le y (r + 1) j
        have Y1 := Lib.hid y1; clear y1
        generalize hq : cntH y (r + 1) j = q at c0 hcl
        have HQ := Lib.hid hq; clear hq
        generalize (y + j) % M64 = zz at *
        have r6 : (r : Int) < 6 := by omega
        have v0 : decide ((r : Int) + 1 < 1) = false := decide_eq_false (by omega)
        have v1 : decide (6 < (r : Int) + 1) = false := decide_eq_false (by omega)
        go_wp2_with fail
        rw [show ((y : Int) + (j : Int)) = ((y + j : Nat) : Int) by omega, HW.out]
        refine CJ.out.mono ?_
        rintro r' w4 ⟨rfl, rfl⟩
        go_wp2
        go_roundw
        case rel =>
          refine ⟨j + 1, by omega, by go_num, (Y1.out.set hr6 ((q : Int) + 1)).congr fun k hk => ?_, bel.setCell (p := ⟨w.heap.size, r, none⟩) (Nat.le_refl _) _⟩
          rw [(HC k).out]
          by_cases e : k = r
          · subst e; rw [if_pos rfl, if_pos rfl, HQ.out]; omega
          · rw [if_neg e, if_neg (by omega)]; rfl
        case measure => simp [intOf]; omega
      · obtain rfl : j = 32 := by omega
        have u0 : decide (((32 : Nat) : Int) < 32) = false := decide_eq_false (by omega)
        have d0 : wr.cell? ⟨w.heap.size, 0, none⟩ = some (.int .i64 16) := (y1 0 (by omega)).1.trans (cnt_at y 0 _ (by decide +kernel))
        have d1 : wr.cell? ⟨w.heap.size, 1, none⟩ = some (.int .i64 8) := (y1 1 (by omega)).1.trans (cnt_at y 1 _ (by decide +kernel))
        have d2 : wr.cell? ⟨w.heap.size, 2, none⟩ = some (.int .i64 4) := (y1 2 (by omega)).1.trans (cnt_at y 2 _ (by decide +kernel))
        have d3 : wr.cell? ⟨w.heap.size, 3, none⟩ = some (.int .i64 2) := (y1 3 (by omega)).1.trans (cnt_at y 3 _ (by decide +kernel))
        have d4 : wr.cell? ⟨w.heap.size, 4, none⟩ = some (.int .i64 1) := (y1 4 (by omega)).1.trans (cnt_at y 4 _ (by decide +kernel))
        have d5 : wr.cell? ⟨w.heap.size, 5, none⟩ = some (.int .i64 1) := (y1 5 (by omega)).1.trans (cnt_at y 5 _ (by decide +kernel))
        clear y1
        go_wp2
        go_ret
        exact ⟨rfl, bel⟩
  · have T1 : (bits .and .u64 (x : Int) 15 != 15) = false := low_test hx1 4 rfl (by omega) k1
    have T2 : (bits .and .u64 ((x : Int) / 16) 1 != 0) = false := bit_test hx1 4 rfl (k2 (by omega))
    go_wp2
    have z1 := ar_new w 32 0 0 0 0 0 0 (fun k => (cntH y (k + 1) 0 : Nat)) rfl rfl rfl rfl rfl rfl
    have b0 := bel_alloc (Below.refl w.heap.size w) (.cells #[.int .i64 0, .int .i64 0, .int .i64 0, .int .i64 0, .int .i64 0, .int .i64 0] 32)
    generalize w.alloc (.cells #[.int .i64 0, .int .i64 0, .int .i64 0, .int .i64 0, .int .i64 0, .int .i64 0] 32) = w3 at *
    go_loopw [8] (fun i wr => ∃ j : Nat, j ≤ 32 ∧ i = .int .u64 j ∧ Ar wr w.heap.size (fun k => (cntH y (k + 1) j : Nat)) ∧ Below w.heap.size w wr) (fun i _ => (32 - intOf i).toNat)
    case atStart => exact ⟨0, Nat.zero_le _, rfl, z1, b0⟩
    case round =>
      clear z1 b0
      obtain ⟨j, hj, rfl, y1, bel⟩ := hrel
      by_cases hlt : j < 32
      · have u0 : decide ((j : Int) < 32) = true := decide_eq_true (by omega)
        have HW := Lib.hid (wrapN (y + j))
        have CJ := CH ((y + j) % M64) (Nat.mod_lt _ m64_pos) wr (HT.out.below bel)
        have HC := fun k => Lib.hid (show cntH y (k + 1) (j + 1) = cntH y (k + 1) j + if hgt (y + j) = k + 1 then 1 else 0 from rfl)
        have hmod : hgt ((y + j) % M64) = hgt (y + j) := by rw [hgt_low, show (y + j) % M64 % 32 = (y + j) % 32 by show (y + j) % 18446744073709551616 % 32 = (y + j) % 32; omega, ← hgt_low]
        rw [hmod] at CJ
        clear hmod
        obtain ⟨n1, n2⟩ := hgt_bd (y + j)
        generalize hgt (y + j) = n at *
        obtain ⟨r, rfl⟩ : ∃ r, n = r + 1 := ⟨n - 1, by omega⟩
        have hr6 : r < 6 := by omega
        have c0 : wr.cell? ⟨w.heap.size, r, none⟩ = some (.int .i64 (cntH y (r + 1) j : Nat)) := (y1 r hr6).1
        have f0 := (y1 r hr6).2
        have hcl := cntH_le y (r + 1) j
        have Y1 := Lib.hid y1; clear y1
        generalize hq : cntH y (r + 1) j = q at c0 hcl
        have HQ := Lib.hid hq; clear hq
        generalize (y + j) % M64 = zz at *
        have r6 : (r : Int) < 6 := by omega
        have v0 : decide ((r : Int) + 1 < 1) = false := decide_eq_false (by omega)
        have v1 : decide (6 < (r : Int) + 1) = false := decide_eq_false (by omega)
        go_wp2_with fail
        rw [show ((y : Int) + (j : Int)) = ((y + j : Nat) : Int) by omega, HW.out]
        refine CJ.out.mono ?_
        rintro r' w4 ⟨rfl, rfl⟩
        go_wp2
        go_roundw
        case rel =>
          refine ⟨j + 1, by omega, by go_num, (Y1.out.set hr6 ((q : Int) + 1)).congr fun k hk => ?_, bel.setCell (p := ⟨w.heap.size, r, none⟩) (Nat.le_refl _) _⟩
          rw [(HC k).out]
          by_cases e : k = r
          · subst e; rw [if_pos rfl, if_pos rfl, HQ.out]; omega
          · rw [if_neg e, if_neg (by omega)]; rfl
        case measure => simp [intOf]; omega
      · obtain rfl : j = 32 := by omega
        have u0 : decide (((32 : Nat) : Int) < 32) = false := decide_eq_false (by omega)
        have d0 : wr.cell? ⟨w.heap.size, 0, none⟩ = some (.int .i64 16) := (y1 0 (by omega)).1.trans (cnt_at y 0 _ (by decide +kernel))
        have d1 : wr.cell? ⟨w.heap.size, 1, none⟩ = some (.int .i64 8) := (y1 1 (by omega)).1.trans (cnt_at y 1 _ (by decide +kernel))
        have d2 : wr.cell? ⟨w.heap.size, 2, none⟩ = some (.int .i64 4) := (y1 2 (by omega)).1.trans (cnt_at y 2 _ (by decide +kernel))
        have d3 : wr.cell? ⟨w.heap.size, 3, none⟩ = some (.int .i64 2) := (y1 3 (by omega)).1.trans (cnt_at y 3 _ (by decide +kernel))
        have d4 : wr.cell? ⟨w.heap.size, 4, none⟩ = some (.int .i64 1) := (y1 4 (by omega)).1.trans (cnt_at y 4 _ (by decide +kernel))
        have d5 : wr.cell? ⟨w.heap.size, 5, none⟩ = some (.int .i64 1) := (y1 5 (by omega)).1.trans (cnt_at y 5 _ (by decide +kernel))
        clear y1
        go_wp2
        go_ret
        exact ⟨rfl, bel⟩
  · have T1 : (bits .and .u64 (x : Int) 31 != 31) = false := low_test hx1 5 rfl (by omega) k1
    go_wp2
    have z1 := ar_new w 32 0 0 0 0 0 0 (fun k => (cntH y (k + 1) 0 : Nat)) rfl rfl rfl rfl rfl rfl
    have b0 := bel_alloc (Below.refl w.heap.size w) (.cells #[.int .i64 0, .int .i64 0, .int .i64 0, .int .i64 0, .int .i64 0, .int .i64 0] 32)
    generalize w.alloc (.cells #[.int .i64 0, .int .i64 0, .int .i64 0, .int .i64 0, .int .i64 0, .int .i64 0] 32) = w3 at *
    go_loopw [8] (fun i wr => ∃ j : Nat, j ≤ 32 ∧ i = .int .u64 j ∧ Ar wr w.heap.size (fun k => (cntH y (k + 1) j : Nat)) ∧ Below w.heap.size w wr) (fun i _ => (32 - intOf i).toNat)
    case atStart => exact ⟨0, Nat.zero_le _, rfl, z1, b0⟩
    case round =>
      clear z1 b0
      obtain ⟨j, hj, rfl, y1, bel⟩ := hrel
      by_cases hlt : j < 32
      · have u0 : decide ((j : Int) < 32) = true := decide_eq_true (by omega)
        have HW := Lib.hid (wrapN (y + j))
        have CJ := CH ((y + j) % M64) (Nat.mod_lt _ m64_pos) wr (HT.out.below bel)
        have HC := fun k => Lib.hid (show cntH y (k + 1) (j + 1) = cntH y (k + 1) j + if hgt (y + j) = k + 1 then 1 else 0 from rfl)
        have hmod : hgt ((y + j) % M64) = hgt (y + j) := by rw [hgt_low, show (y + j) % M64 % 32 = (y + j) % 32 by show (y + j) % 18446744073709551616 % 32 = (y + j) % 32; omega, ← hgt_low]
        rw [hmod] at CJ
        clear hmod
        obtain ⟨n1, n2⟩ := hgt_bd (y + j)
        generalize hgt (y + j) = n at *
        obtain ⟨r, rfl⟩ : ∃ r, n = r + 1 := ⟨n - 1, by omega⟩
        have hr6 : r < 6 := by omega
        have c0 : wr.cell? ⟨w.heap.size, r, none⟩ = some (.int .i64 (cntH y (r + 1) j : Nat)) := (y1 r hr6).1
        have f0 := (y1 r hr6).2
        have hcl := cntH_le y (r + 1) j
        have Y1 := Lib.hid y1; clear y1
        generalize hq : cntH y (r + 1) j = q at c0 hcl
        have HQ := Lib.hid hq; clear hq
        generalize (y + j) % M64 = zz at *
        have r6 : (r : Int) < 6 := by omega
        have v0 : decide ((r : Int) + 1 < 1) = false := decide_eq_false (by omega)
        have v1 : decide (6 < (r : Int) + 1) = false := decide_eq_false (by omega)
        go_wp2_with fail
        rw [show ((y : Int) + (j : Int)) = ((y + j : Nat) : Int) by omega, HW.out]
        refine CJ.out.mono ?_
        rintro r' w4 ⟨rfl, rfl⟩
        go_wp2
        go_roundw
        case rel =>
          refine ⟨j + 1, by omega, by go_num, (Y1.out.set hr6 ((q : Int) + 1)).congr fun k hk => ?_, bel.setCell (p := ⟨w.heap.size, r, none⟩) (Nat.le_refl _) _⟩
          rw [(HC k).out]
          by_cases e : k = r
          · subst e; rw [if_pos rfl, if_pos rfl, HQ.out]; omega
          · rw [if_neg e, if_neg (by omega)]; rfl
        case measure => simp [intOf]; omega
      · obtain rfl : j = 32 := by omega
        have u0 : decide (((32 : Nat) : Int) < 32) = false := decide_eq_false (by omega)
        have d0 : wr.cell? ⟨w.heap.size, 0, none⟩ = some (.int .i64 16) := (y1 0 (by omega)).1.trans (cnt_at y 0 _ (by decide +kernel))
        have d1 : wr.cell? ⟨w.heap.size, 1, none⟩ = some (.int .i64 8) := (y1 1 (by omega)).1.trans (cnt_at y 1 _ (by decide +kernel))
        have d2 : wr.cell? ⟨w.heap.size, 2, none⟩ = some (.int .i64 4) := (y1 2 (by omega)).1.trans (cnt_at y 2 _ (by decide +kernel))
        have d3 : wr.cell? ⟨w.heap.size, 3, none⟩ = some (.int .i64 2) := (y1 3 (by omega)).1.trans (cnt_at y 3 _ (by decide +kernel))
        have d4 : wr.cell? ⟨w.heap.size, 4, none⟩ = some (.int .i64 1) := (y1 4 (by omega)).1.trans (cnt_at y 4 _ (by decide +kernel))
        have d5 : wr.cell? ⟨w.heap.size, 5, none⟩ = some (.int .i64 1) := (y1 5 (by omega)).1.trans (cnt_at y 5 _ (by decide +kernel))
        clear y1
        go_wp2
        go_ret
        exact ⟨rfl, bel⟩
end Wk
end Go.Proofs.YtfogcapgadfbfaaDoor
