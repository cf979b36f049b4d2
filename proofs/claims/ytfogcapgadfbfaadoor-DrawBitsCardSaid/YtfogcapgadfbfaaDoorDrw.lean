/- Height and Mix of package draw and of leapfrogref04: contracts of the translated code. Conditions: the bounds of each argument's kind; Tz for the code's Height. -/
import Derived.Test.YtfogcapgadfbfaaDoorTz
import Derived.Test.YtfogcapgadfbfaaDoorDrwM
namespace Go.Proofs.YtfogcapgadfbfaaDoor
open Go.RowKit Go.Sort
set_option linter.unusedVariables false
set_option linter.unusedSimpArgs false
namespace Dr
open Dm
theorem wrapN (n : Nat) : IntKind.u64.wrap (n : Int) = ((n % M64 : Nat) : Int) := by
  simp [IntKind.wrap, IntKind.bits, IntKind.signed, M64]
theorem xorN {a b : Nat} (ha : a < M64) (hb : b < M64) : bits .xor .u64 (a : Int) (b : Int) = ((a ^^^ b : Nat) : Int) := u64_xor_nat a b ha hb
theorem notN {x : Nat} (hx : x < M64) : bits .xor .u64 IntKind.u64.max (x : Int) = ((M64 - 1 - x : Nat) : Int) := by
  rw [show IntKind.u64.max = ((M64 - 1 : Nat) : Int) by rfl, xorN (by decide) hx]
  congr 1
  have h : M64 - 1 ^^^ x = 2 ^ 64 - 1 ^^^ x := rfl
  rw [h, Nat.xor_comm]
  refine Nat.eq_of_testBit_eq fun i => ?_
  have hx' : x < 2 ^ 64 := hx
  rw [show M64 - 1 - x = 2 ^ 64 - (x + 1) by show 18446744073709551616 - 1 - x = 18446744073709551616 - (x + 1); omega, Nat.testBit_two_pow_sub_succ hx', Nat.testBit_xor, Nat.testBit_two_pow_sub_one]
  by_cases hi : i < 64
  · simp [hi]
  · rw [Nat.testBit_lt_two_pow (Nat.lt_of_lt_of_le hx' (Nat.pow_le_pow_right (n := 2) (by omega) (by omega)))]; simp [hi]
theorem hgt_ctz {x : Nat} (hx : x < M64) : min (1 + Lib.ctz 64 (M64 - 1 - x)) 6 = hgt x := by
  have hx' : x < 18446744073709551616 := hx
  have eM : M64 = 18446744073709551616 := rfl
  have hfin : ∀ r, r < 32 → (r % 2 = 0 → hgt r = 1) ∧ (r % 4 = 1 → hgt r = 2) ∧ (r % 8 = 3 → hgt r = 3) ∧ (r % 16 = 7 → hgt r = 4) ∧ (r % 32 = 15 → hgt r = 5) ∧ (r = 31 → hgt r = 6) := by decide +kernel
  rw [hgt_low]
  obtain ⟨f0, f1, f2, f3, f4, f5⟩ := hfin (x % 32) (by omega)
  by_cases h0 : M64 - 1 - x = 0
  · rw [h0, f5 (by omega)]; rfl
  · obtain ⟨m, hm, hk⟩ := Lib.ctzFrom_spec 64 (M64 - 1 - x) (by omega) (by omega)
    have e : Lib.ctz 64 (M64 - 1 - x) = Lib.ctzFrom 64 (M64 - 1 - x) := by rw [Lib.ctz, if_neg h0]
    rw [e]
    generalize Lib.ctzFrom 64 (M64 - 1 - x) = k at *
    rw [eM] at hm
    rcases k with _ | _ | _ | _ | _ | k
    · rw [f0 (by omega)]; rfl
    · rw [f1 (by omega)]; rfl
    · rw [f2 (by omega)]; rfl
    · rw [f3 (by omega)]; rfl
    · rw [f4 (by omega)]; rfl
    · have h32 : 2 ^ (k + 5) * (2 * m + 1) = 32 * (2 ^ k * (2 * m + 1)) := by rw [Nat.pow_add, show 2 ^ 5 = 32 from rfl, Nat.mul_comm (2 ^ k) 32, Nat.mul_assoc]
      have hm' : 18446744073709551616 - 1 - x = 32 * (2 ^ k * (2 * m + 1)) := by rw [← h32]; exact hm
      generalize 2 ^ k * (2 * m + 1) = q at hm'
      rw [f5 (by omega)]
      omega
def mixI (z : Int) : Int :=
  bits .xor .u64 (IntKind.u64.wrap (bits .xor .u64 (IntKind.u64.wrap (bits .xor .u64 z (z / 1073741824) * 13787848793156543929)) (IntKind.u64.wrap (bits .xor .u64 z (z / 1073741824) * 13787848793156543929) / 134217728) * 10723151780598845931))
    (IntKind.u64.wrap (bits .xor .u64 (IntKind.u64.wrap (bits .xor .u64 z (z / 1073741824) * 13787848793156543929)) (IntKind.u64.wrap (bits .xor .u64 z (z / 1073741824) * 13787848793156543929) / 134217728) * 10723151780598845931) / 2147483648)
theorem xsI {z : Nat} (hz : z < M64) (k : Nat) : bits .xor .u64 (z : Int) ((z : Int) / ((2 ^ k : Nat) : Int)) = ((xs k z : Nat) : Int) := by
  rw [← Int.natCast_ediv, xorN hz (Nat.lt_of_le_of_lt (Nat.div_le_self _ _) hz)]; rfl
theorem mulN (a c : Nat) : IntKind.u64.wrap ((a : Int) * (c : Int)) = ((a * c % M64 : Nat) : Int) := by rw [← Int.natCast_mul, wrapN]
theorem mixI_nat {z : Nat} (hz : z < M64) : mixI z = ((mix1 z : Nat) : Int) := by
  have l : ∀ z c, z * c % M64 < M64 := fun z c => Nat.mod_lt _ m64_pos
  have e1 := xsI hz 30
  have m1 := mulN (xs 30 z) 13787848793156543929
  have e2 := xsI (l (xs 30 z) 13787848793156543929) 27
  have m2 := mulN (xs 27 (xs 30 z * 13787848793156543929 % M64)) 10723151780598845931
  have e3 := xsI (l (xs 27 (xs 30 z * 13787848793156543929 % M64)) 10723151780598845931) 31
  unfold mixI mix1
  rw [show (1073741824 : Int) = ((2 ^ 30 : Nat) : Int) from rfl, show (134217728 : Int) = ((2 ^ 27 : Nat) : Int) from rfl, show (2147483648 : Int) = ((2 ^ 31 : Nat) : Int) from rfl,
    show (13787848793156543929 : Int) = ((13787848793156543929 : Nat) : Int) from rfl, show (10723151780598845931 : Int) = ((10723151780598845931 : Nat) : Int) from rfl]
  rw [e1, m1, e2, m2, e3]
def mixJ (z : Int) : Int :=
  bits .xor .u64 (IntKind.u64.wrap (bits .xor .u64 (IntKind.u64.wrap (bits .xor .u64 z (IntKind.u64.wrap (z.tdiv 1073741824)) * 13787848793156543929)) (IntKind.u64.wrap ((IntKind.u64.wrap (bits .xor .u64 z (IntKind.u64.wrap (z.tdiv 1073741824)) * 13787848793156543929)).tdiv 134217728)) * 10723151780598845931))
    (IntKind.u64.wrap ((IntKind.u64.wrap (bits .xor .u64 (IntKind.u64.wrap (bits .xor .u64 z (IntKind.u64.wrap (z.tdiv 1073741824)) * 13787848793156543929)) (IntKind.u64.wrap ((IntKind.u64.wrap (bits .xor .u64 z (IntKind.u64.wrap (z.tdiv 1073741824)) * 13787848793156543929)).tdiv 134217728)) * 10723151780598845931)).tdiv 2147483648))
theorem xsJ {z : Nat} (hz : z < M64) (k : Nat) : bits .xor .u64 (z : Int) (IntKind.u64.wrap ((z : Int).tdiv ((2 ^ k : Nat) : Int))) = ((xs k z : Nat) : Int) := by
  have h : z / 2 ^ k < M64 := Nat.lt_of_le_of_lt (Nat.div_le_self _ _) hz
  rw [Int.tdiv_eq_ediv_of_nonneg (by omega), ← Int.natCast_ediv, wrapN, Nat.mod_eq_of_lt h, xorN hz h]; rfl
theorem mixJ_nat {z : Nat} (hz : z < M64) : mixJ z = ((mix1 z : Nat) : Int) := by
  have l : ∀ z c, z * c % M64 < M64 := fun z c => Nat.mod_lt _ m64_pos
  have e1 := xsJ hz 30
  have m1 := mulN (xs 30 z) 13787848793156543929
  have e2 := xsJ (l (xs 30 z) 13787848793156543929) 27
  have m2 := mulN (xs 27 (xs 30 z * 13787848793156543929 % M64)) 10723151780598845931
  have e3 := xsJ (l (xs 27 (xs 30 z * 13787848793156543929 % M64)) 10723151780598845931) 31
  unfold mixJ mix1
  rw [show (1073741824 : Int) = ((2 ^ 30 : Nat) : Int) from rfl, show (134217728 : Int) = ((2 ^ 27 : Nat) : Int) from rfl, show (2147483648 : Int) = ((2 ^ 31 : Nat) : Int) from rfl,
    show (13787848793156543929 : Int) = ((13787848793156543929 : Nat) : Int) from rfl, show (10723151780598845931 : Int) = ((10723151780598845931 : Nat) : Int) from rfl]
  rw [e1, m1, e2, m2, e3]
def ix (i : Int) : Nat := (i % 18446744073709551616).toNat
theorem ix_nat {i : Nat} (h : i < M64) : ix (i : Int) = i := by
  have h' : i < 18446744073709551616 := h
  unfold ix; omega
theorem mix_val (s : Nat) (i : Int) : mixI (IntKind.u64.wrap ((s : Int) + IntKind.u64.wrap (IntKind.u64.wrap (IntKind.u64.wrap i + 1) * 11400714819323198485))) = ((mixN s (ix i) : Nat) : Int) := by
  have e0 : IntKind.u64.wrap i = ((ix i : Nat) : Int) := by
    simp [IntKind.wrap, IntKind.bits, IntKind.signed, ix]; omega
  have e1 : IntKind.u64.wrap (((ix i : Nat) : Int) + 1) = (((ix i + 1) % M64 : Nat) : Int) := wrapN (ix i + 1)
  rw [e0, e1, show (11400714819323198485 : Int) = ((stp : Nat) : Int) from rfl, mulN, ← Int.natCast_add, wrapN, Nat.add_mod_mod, mixI_nat (Nat.mod_lt _ m64_pos)]
  rfl
theorem mixJ_val (s : Nat) (i : Int) : mixJ (IntKind.u64.wrap ((s : Int) + IntKind.u64.wrap (IntKind.u64.wrap (IntKind.u64.wrap i + 1) * 11400714819323198485))) = ((mixN s (ix i) : Nat) : Int) := by
  have e0 : IntKind.u64.wrap i = ((ix i : Nat) : Int) := by
    simp [IntKind.wrap, IntKind.bits, IntKind.signed, ix]; omega
  have e1 : IntKind.u64.wrap (((ix i : Nat) : Int) + 1) = (((ix i + 1) % M64 : Nat) : Int) := wrapN (ix i + 1)
  rw [e0, e1, show (11400714819323198485 : Int) = ((stp : Nat) : Int) from rfl, mulN, ← Int.natCast_add, wrapN, Nat.add_mod_mod, mixJ_nat (Nat.mod_lt _ m64_pos)]
  rfl
theorem height_any (x : Nat) (hx : x < M64) (w : World) (hT : Tz w) : Calls Tryd.prog 10 #[.int .u64 x] w fun e w' => e = .returned (.int .i64 (hgt x : Nat)) ∧ w = w' := by
  have C := Lib.hid (tz_any (M64 - 1 - x) (by have : x < 18446744073709551616 := hx; have : M64 = 18446744073709551616 := rfl; omega) w hT)
  have HN := Lib.hid (notN hx)
  have HG := Lib.hid (hgt_ctz hx)
  have hb : Lib.ctz 64 (M64 - 1 - x) ≤ 64 := by
    unfold Lib.ctz
    split
    · exact Nat.le_refl _
    · obtain ⟨m, _, h⟩ := Lib.ctzFrom_spec 64 (M64 - 1 - x) (by omega) (by have : x < 18446744073709551616 := hx; have : M64 = 18446744073709551616 := rfl; omega)
      omega
  generalize Lib.ctz 64 (M64 - 1 - x) = c at *
  clear hT
  go_enter Tryd.func10, Tryd.ntmps10
  go_wp2_with fail
  rw [HN.out]
  refine C.out.mono ?_
  rintro r w1 ⟨rfl, rfl⟩
  go_wp2
  all_goals
    go_ret
    exact ⟨ret_eq (congrArg (Value.int .i64) (by have := HG.out; omega)), rfl⟩
theorem heightR_any (x : Nat) (hx : x < M64) (w : World) : Calls Tryd.prog 11 #[.int .u64 x] w fun e w' => e = .returned (.int .i64 (hgt x : Nat)) ∧ w = w' := by
  go_enter Tryd.func11, Tryd.ntmps11
  go_wp2
  go_loop [0, 3] (fun a b => ∃ y n : Nat, a = .int .u64 y ∧ b = .int .i64 n ∧ y < M64 ∧ 1 ≤ n ∧ n ≤ 6 ∧ hgtF (6 - n) n y = hgt x) (fun a b => (6 - intOf b).toNat)
  case atStart => exact ⟨x, 1, rfl, rfl, hx, Nat.le_refl _, by omega, rfl⟩
  case round =>
    obtain ⟨y, n, rfl, rfl, hy, n1, n6, he⟩ := hrel
    have hy' : y ≤ 18446744073709551615 := Nat.le_of_lt_succ hy
    clear hx hy
    by_cases hlt : n < 6
    · obtain ⟨f, hf⟩ : ∃ f, 6 - n = f + 1 := ⟨5 - n, by omega⟩
      rw [hf, hgtF] at he
      by_cases hb : y % 2 = 1
      · rw [if_pos ⟨hlt, hb⟩] at he
        have HE := Lib.hid (show hgtF (6 - (n + 1)) (n + 1) (y / 2) = hgt x by rw [← he]; congr 1; omega)
        have t0 : ((y : Int) % 2 == 1) = true := by simp; omega
        clear he hf hb
        go_wp2
        go_round
        case rel => exact ⟨y / 2, n + 1, by go_num, by go_num, by show y / 2 < 18446744073709551616; omega, by omega, by omega, HE.out⟩
        case measure => simp [intOf]; omega
      · rw [if_neg (fun h => hb h.2)] at he
        have HE := Lib.hid he
        have t0 : ((y : Int) % 2 == 1) = false := by simp; omega
        clear he hf hb
        go_wp2
        go_ret
        exact ⟨by rw [HE.out]; rfl, rfl⟩
    · obtain rfl : n = 6 := by omega
      have HE := Lib.hid (show 6 = hgt x by rw [← he, Nat.sub_self]; rfl)
      clear he
      go_wp2
      go_ret
      exact ⟨by rw [← HE.out]; rfl, rfl⟩
theorem mix_any (s : Nat) (i : Int) (hs : s < M64) (il : -9223372036854775808 ≤ i) (ih : i ≤ 9223372036854775807) (w : World) : Calls Tryd.prog 12 #[.int .u64 s, .int .i64 i] w fun e w' => e = .returned (.int .u64 (mixN s (ix i) : Nat)) ∧ w = w' := by
  have HV := Lib.hid (mix_val s i)
  clear hs
  go_enter Tryd.func12, Tryd.ntmps12
  go_wp2
  go_ret
  refine ⟨?_, rfl⟩
  rw [← HV.out]
  unfold mixI
  rfl
theorem mixR_any (s : Nat) (i : Int) (hs : s < M64) (il : -9223372036854775808 ≤ i) (ih : i ≤ 9223372036854775807) (w : World) : Calls Tryd.prog 13 #[.int .u64 s, .int .i64 i] w fun e w' => e = .returned (.int .u64 (mixN s (ix i) : Nat)) ∧ w = w' := by
  have HV := Lib.hid (mixJ_val s i)
  clear hs
  go_enter Tryd.func13, Tryd.ntmps13
  go_wp2
  go_ret
  refine ⟨?_, rfl⟩
  rw [← HV.out]
  unfold mixJ
  rfl
end Dr
end Go.Proofs.YtfogcapgadfbfaaDoor
