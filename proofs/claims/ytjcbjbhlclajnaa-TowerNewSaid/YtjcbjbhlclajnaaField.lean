/- The functions of packages field and leapfrogref01, each as a plain function on integers: contracts of the translated code. Conditions: the bounds of each argument's kind. -/
import Derived.Test.YtjcbjbhlclajnaaRows
import Derived.WalkKit
import Derived.ProofKit
import Derived.OpenShut
import Derived.ShutString
import Derived.Outline
import Derived.WalkLawsBesides
import Derived.Laws.BitsAllLaws
import Derived.Laws.Bits64
import Derived.Laws.Shifts
import Derived.Laws.ShiftsVarLaws
import Derived.Lib.Hide
namespace Go.Proofs.Ytjcbjbhlclajnaa
open Go.RowKit
set_option linter.unusedVariables false
set_option linter.unusedSimpArgs false
set_option maxRecDepth 100000
namespace Fl

/-! ### plain mathematics -/
def topOk (a b : Int) : Bool := decide (a ≤ 1099511627775 ∧ 0 ≤ b ∧ b ≤ 1024)
def topV (a b : Int) : Int := if topOk a b = true then b + 65536 * a else 0
def topE (a b : Int) : Int := if topOk a b = true then 0 else 2
def stOk (k e g : Int) : Bool := decide ((k = 0 ∨ k = 1 ∨ k = 2) ∧ e = 0 ∧ g = 0 ∨ (k = 3 ∨ k = 4 ∨ k = 5) ∧ 0 ≤ e ∧ e ≤ 15 ∧ g ≤ 1099511627775)
def stV (k e g : Int) : Int := if stOk k e g = true then k + 8 * e + 65536 * g else 0
def stE (k e g : Int) : Int := if stOk k e g = true then 0 else 2
def ckE (w : Int) : Int := if stOk (w % 8) (w % 65536 / 8) (w / 65536) = true then 0 else 4
def dsOk (g : Int) : Bool := decide (g ≤ 1099511627775)
def dsV (g : Int) (c : Bool) : Int := if dsOk g = true then 2 * g + (if c = true then 1 else 0) else 0
def dsE (g : Int) : Int := if dsOk g = true then 0 else 2
def com (w : Int) : Bool := decide (w % 2 = 1)
def ddB (s d : Int) : Bool := decide (d / 2 ≠ s / 65536) || com d
def dcOk (s d : Int) : Bool := stOk (s % 8) (s % 65536 / 8) (s / 65536) && dsOk (d / 2)
def dcP (s d : Int) : Bool := dcOk s d && (decide (s % 8 = 1) || decide (s % 8 = 3) && ddB s d || decide (s % 8 = 4) && !ddB s d || decide (s % 8 = 5))
def dcA (s d : Int) : Bool := dcOk s d && (decide (s % 8 = 5) && ddB s d)
def dcE (s d : Int) : Int := if dcOk s d = true then 0 else 4

theorem and_mask (a : Int) (m n : Nat) (hm : m = 2 ^ n - 1) (hn : n ≤ 63) (h0 : 0 ≤ a) (h1 : a ≤ 18446744073709551615) : bits .and .u64 a (m : Int) = a % (2 ^ n : Nat) := by
  obtain ⟨x, rfl⟩ := Int.eq_ofNat_of_zero_le h0
  have hp : 2 ^ n ≤ 2 ^ 63 := Nat.pow_le_pow_right (by omega) hn
  rw [u64_and_nat x m (by omega) (by omega), hm, Nat.and_two_pow_sub_one_eq_mod]
  rfl
theorem and_65535 (a : Int) (h0 : 0 ≤ a) (h1 : a ≤ 18446744073709551615) : bits .and .u64 a 65535 = a % 65536 := and_mask a 65535 16 rfl (by omega) h0 h1
theorem and_7 (a : Int) (h0 : 0 ≤ a) (h1 : a ≤ 18446744073709551615) : bits .and .u64 a 7 = a % 8 := and_mask a 7 3 rfl (by omega) h0 h1
theorem and_1 (a : Int) (h0 : 0 ≤ a) (h1 : a ≤ 18446744073709551615) : bits .and .u64 a 1 = a % 2 := and_mask a 1 1 rfl (by omega) h0 h1
theorem or_sum (a b : Int) (m n : Nat) (hm : m = 2 ^ n) (h0 : 0 ≤ a) (h1 : a < m) (h2 : 0 ≤ b) (h3 : b * m + m ≤ 18446744073709551616) : bits .or .u64 a (b * m) = a + m * b := by
  obtain ⟨x, rfl⟩ := Int.eq_ofNat_of_zero_le h0
  obtain ⟨y, rfl⟩ := Int.eq_ofNat_of_zero_le h2
  have e1 : ((y : Int) * (m : Int)) = ((y * m : Nat) : Int) := by rw [Int.natCast_mul]
  have h3' : y * m + m ≤ 18446744073709551616 := by rw [e1] at h3; omega
  have hx : x < 2 ^ n := by rw [← hm]; omega
  rw [e1, u64_or_nat x (y * m) (by omega) (by omega)]
  have e2 : x ||| y * m = m * y + x := by
    rw [hm, Nat.mul_comm y, Nat.or_comm, Nat.two_pow_add_eq_or_of_lt hx]
  rw [e2]
  have e3 : ((m * y + x : Nat) : Int) = (m : Int) * (y : Int) + (x : Int) := by rw [Int.natCast_add, Int.natCast_mul]
  rw [e3]
  omega

theorem ret_bool {a b : Bool} (h : a = b) : Ending.returned (.bool a) = Ending.returned (.bool b) := by rw [h]
theorem ret_int {k : IntKind} {a b : Int} (h : a = b) : Ending.returned (.int k a) = Ending.returned (.int k b) := by rw [h]
theorem ret_pair {k l : IntKind} {a b c d : Int} (h : a = b) (h2 : c = d) : Ending.returned (.tuple #[.int k a, .int l c]) = Ending.returned (.tuple #[.int k b, .int l d]) := by rw [h, h2]
theorem ret_three {k : IntKind} {a b c d : Bool} {x y : Int} (h : a = b) (h2 : c = d) (h3 : x = y) : Ending.returned (.tuple #[.bool a, .bool c, .int k x]) = Ending.returned (.tuple #[.bool b, .bool d, .int k y]) := by rw [h, h2, h3]

/-! ### heads -/
theorem top_any (a b : Int) (h0 : 0 ≤ a) (h1 : a ≤ 18446744073709551615) (w : World) :
    Calls Try.prog 70 #[.int .u64 a, .int .i64 b] w fun e w' => e = .returned (.tuple #[.int .u64 (topV a b), .int .i64 (topE a b)]) ∧ w = w' := by
  by_cases h : a ≤ 1099511627775 ∧ 0 ≤ b ∧ b ≤ 1024
  · have e1 : topOk a b = true := decide_eq_true h
    obtain ⟨h2, h3, h4⟩ := h
    have hor := or_sum b a 65536 16 rfl h3 (by omega) h0 (by omega)
    have Hv := Lib.hid (show topV a b = b + 65536 * a by rw [topV, if_pos e1])
    have He := Lib.hid (show topE a b = 0 by rw [topE, if_pos e1])
    clear e1
    go_enter Try.func70, Try.ntmps70
    go_wp2
    go_ret2
    rw [Hv.out, He.out]
    exact ⟨by simpa using hor, rfl⟩
  · have e1 : ¬ topOk a b = true := by simpa [topOk] using h
    have Hv := Lib.hid (show topV a b = 0 by rw [topV, if_neg e1])
    have He := Lib.hid (show topE a b = 2 by rw [topE, if_neg e1])
    clear e1
    by_cases h2 : 1099511627775 < a
    · clear h
      go_enter Try.func70, Try.ntmps70
      go_wp2
      go_ret2
      rw [Hv.out, He.out]
      exact ⟨rfl, rfl⟩
    · by_cases h3 : b < 0
      · clear h
        go_enter Try.func70, Try.ntmps70
        go_wp2
        go_ret2
        rw [Hv.out, He.out]
        exact ⟨rfl, rfl⟩
      · have h4 : 1024 < b := by omega
        clear h
        go_enter Try.func70, Try.ntmps70
        go_wp2
        go_ret2
        rw [Hv.out, He.out]
        exact ⟨rfl, rfl⟩
/-! ### state words -/
theorem kind_any (a : Int) (h0 : 0 ≤ a) (h1 : a ≤ 18446744073709551615) (w : World) :
    Calls Try.prog 76 #[.int .u64 a] w fun e w' => e = .returned (.int .u8 (a % 8)) ∧ w = w' := by
  have hm := and_7 a h0 h1
  go_enter Try.func76, Try.ntmps76
  go_wp2
  go_ret
  exact ⟨rfl, rfl⟩
theorem entry_any (a : Int) (h0 : 0 ≤ a) (h1 : a ≤ 18446744073709551615) (w : World) :
    Calls Try.prog 77 #[.int .u64 a] w fun e w' => e = .returned (.int .i64 (a % 65536 / 8)) ∧ w = w' := by
  have hm := and_65535 a h0 h1
  go_enter Try.func77, Try.ntmps77
  go_wp2
  go_ret
  exact ⟨rfl, rfl⟩
theorem gen_any (a : Int) (h0 : 0 ≤ a) (h1 : a ≤ 18446744073709551615) (w : World) :
    Calls Try.prog 78 #[.int .u64 a] w fun e w' => e = .returned (.int .u64 (a / 65536)) ∧ w = w' := by
  go_enter Try.func78, Try.ntmps78
  go_wp2
  go_ret
  exact ⟨rfl, rfl⟩
theorem descGen_any (a : Int) (h0 : 0 ≤ a) (h1 : a ≤ 18446744073709551615) (w : World) :
    Calls Try.prog 99 #[.int .u64 a] w fun e w' => e = .returned (.int .u64 (a / 2)) ∧ w = w' := by
  go_enter Try.func99, Try.ntmps99
  go_wp2
  go_ret
  exact ⟨rfl, rfl⟩
theorem com_any (a : Int) (h0 : 0 ≤ a) (h1 : a ≤ 18446744073709551615) (w : World) :
    Calls Try.prog 100 #[.int .u64 a] w fun e w' => e = .returned (.bool (com a)) ∧ w = w' := by
  have hm := and_1 a h0 h1
  go_enter Try.func100, Try.ntmps100
  go_wp2
  go_ret
  exact ⟨ret_bool (by unfold com; rw [Bool.eq_iff_iff]; simp), rfl⟩
theorem isState_any (k e g : Int) (k0 : 0 ≤ k) (k1 : k ≤ 255) (e0 : -9223372036854775808 ≤ e) (e1 : e ≤ 9223372036854775807) (g0 : 0 ≤ g) (g1 : g ≤ 18446744073709551615) (w : World) :
    Calls Try.prog 75 #[.int .u8 k, .int .i64 e, .int .u64 g] w fun r w' => r = .returned (.bool (stOk k e g)) ∧ w = w' := by
  go_enter Try.func75, Try.ntmps75
  go_wp2
  all_goals
    go_ret
    refine ⟨ret_bool ?_, rfl⟩
    unfold stOk
    rw [Bool.eq_iff_iff]
    simp only [beq_iff_eq, beq_eq_false_iff_ne, ne_eq, decide_eq_true_eq, Bool.false_eq_true, true_iff, false_iff, reduceCtorEq] at *
    omega
theorem stOk_bd (k e g : Int) (h : stOk k e g = true) (_g0 : 0 ≤ g) : 0 ≤ k ∧ k ≤ 5 ∧ 0 ≤ e ∧ e ≤ 15 ∧ g ≤ 1099511627775 := by
  unfold stOk at h
  simp only [decide_eq_true_eq] at h
  omega
theorem check_any (s : Int) (s0 : 0 ≤ s) (s1 : s ≤ 18446744073709551615) (w : World) :
    Calls Try.prog 41 #[.int .u64 s] w fun r w' => r = .returned (.int .i64 (ckE s)) ∧ w = w' := by
  cases h : stOk (s % 8) (s % 65536 / 8) (s / 65536) with
  | true =>
    have He := Lib.hid (show ckE s = 0 by rw [ckE, if_pos h])
    have H := Lib.hid h
    clear h
    go_enter Try.func41, Try.ntmps41
    go_wp2_with (first | (go_at_call 76; refine (kind_any s s0 s1 _).mono ?_; rintro r w' ⟨rfl, rfl⟩) | (go_at_call 77; refine (entry_any s s0 s1 _).mono ?_; rintro r w' ⟨rfl, rfl⟩) | (go_at_call 78; refine (gen_any s s0 s1 _).mono ?_; rintro r w' ⟨rfl, rfl⟩) | (go_at_call 75; refine (isState_any _ _ _ (by omega) (by omega) (by omega) (by omega) (by omega) (by omega) _).mono ?_; rw [H.out]; rintro r w' ⟨rfl, rfl⟩))
    go_ret
    rw [He.out]
    exact ⟨rfl, rfl⟩
  | false =>
    have He := Lib.hid (show ckE s = 4 by rw [ckE, if_neg (by simp [h])])
    have H := Lib.hid h
    clear h
    go_enter Try.func41, Try.ntmps41
    go_wp2_with (first | (go_at_call 76; refine (kind_any s s0 s1 _).mono ?_; rintro r w' ⟨rfl, rfl⟩) | (go_at_call 77; refine (entry_any s s0 s1 _).mono ?_; rintro r w' ⟨rfl, rfl⟩) | (go_at_call 78; refine (gen_any s s0 s1 _).mono ?_; rintro r w' ⟨rfl, rfl⟩) | (go_at_call 75; refine (isState_any _ _ _ (by omega) (by omega) (by omega) (by omega) (by omega) (by omega) _).mono ?_; rw [H.out]; rintro r w' ⟨rfl, rfl⟩))
    go_ret
    rw [He.out]
    exact ⟨rfl, rfl⟩
/-! ### decisions -/
theorem decide_any (s d : Int) (s0 : 0 ≤ s) (s1 : s ≤ 18446744073709551615) (d0 : 0 ≤ d) (d1 : d ≤ 18446744073709551615) (w : World) :
    Calls Try.prog 81 #[.int .u64 s, .int .u64 d] w fun r w' => r = .returned (.tuple #[.bool (dcP s d), .bool (dcA s d), .int .i64 (dcE s d)]) ∧ w = w' := by
  have HC := Lib.hid (show com d = com d from rfl)
  have HD := Lib.hid (show ddB s d = ddB s d from rfl)
  cases h1 : stOk (s % 8) (s % 65536 / 8) (s / 65536) with
  | false =>
    have HE := Lib.hid (show ckE s = 4 by rw [ckE, if_neg (by simp [h1])])
    have HK := Lib.hid (show dcOk s d = false by simp [dcOk, h1])
    clear h1
    go_enter Try.func81, Try.ntmps81
    go_wp2_with (first | (go_at_call 41; refine (check_any s s0 s1 _).mono ?_; rw [HE.out]; rintro r w' ⟨rfl, rfl⟩) | (go_at_call 99; refine (descGen_any d d0 d1 _).mono ?_; rintro r w' ⟨rfl, rfl⟩) | (go_at_call 78; refine (gen_any s s0 s1 _).mono ?_; rintro r w' ⟨rfl, rfl⟩) | (go_at_call 100; refine (com_any d d0 d1 _).mono ?_; rw [HC.out]; rintro r w' ⟨rfl, rfl⟩) | (go_at_call 76; refine (kind_any s s0 s1 _).mono ?_; rintro r w' ⟨rfl, rfl⟩))
    go_ret3
    exact ⟨ret_three (by simp [dcP, HK.out]) (by simp [dcA, HK.out]) (by simp [dcE, HK.out]), rfl⟩
  | true =>
    have HE := Lib.hid (show ckE s = 0 by rw [ckE, if_pos h1])
    by_cases h2 : d / 2 ≤ 1099511627775
    · have HK := Lib.hid (show dcOk s d = true by simp [dcOk, h1, dsOk, h2])
      clear h1 HC HD
      cases h4 : com d with
      | true =>
        have HC := Lib.hid h4
        have HD := Lib.hid (show ddB s d = true by simp [ddB, h4])
        by_cases h3 : d / 2 = s / 65536
        all_goals
          clear h4
          go_enter Try.func81, Try.ntmps81
          go_wp2_with (first | (go_at_call 41; refine (check_any s s0 s1 _).mono ?_; rw [HE.out]; rintro r w' ⟨rfl, rfl⟩) | (go_at_call 99; refine (descGen_any d d0 d1 _).mono ?_; rintro r w' ⟨rfl, rfl⟩) | (go_at_call 78; refine (gen_any s s0 s1 _).mono ?_; rintro r w' ⟨rfl, rfl⟩) | (go_at_call 100; refine (com_any d d0 d1 _).mono ?_; rw [HC.out]; rintro r w' ⟨rfl, rfl⟩) | (go_at_call 76; refine (kind_any s s0 s1 _).mono ?_; rintro r w' ⟨rfl, rfl⟩))
          all_goals
            try simp only [beq_iff_eq, beq_eq_false_iff_ne, ne_eq] at *
            go_ret3
            refine ⟨ret_three ?_ ?_ ?_, rfl⟩ <;> simp_all [dcP, dcA, dcE, HK.out, HD.out]
      | false =>
        have HC := Lib.hid h4
        by_cases h3 : d / 2 = s / 65536
        · have HD := Lib.hid (show ddB s d = false by simp [ddB, h4, h3])
          clear h4
          go_enter Try.func81, Try.ntmps81
          go_wp2_with (first | (go_at_call 41; refine (check_any s s0 s1 _).mono ?_; rw [HE.out]; rintro r w' ⟨rfl, rfl⟩) | (go_at_call 99; refine (descGen_any d d0 d1 _).mono ?_; rintro r w' ⟨rfl, rfl⟩) | (go_at_call 78; refine (gen_any s s0 s1 _).mono ?_; rintro r w' ⟨rfl, rfl⟩) | (go_at_call 100; refine (com_any d d0 d1 _).mono ?_; rw [HC.out]; rintro r w' ⟨rfl, rfl⟩) | (go_at_call 76; refine (kind_any s s0 s1 _).mono ?_; rintro r w' ⟨rfl, rfl⟩))
          all_goals
            try simp only [beq_iff_eq, beq_eq_false_iff_ne, ne_eq] at *
            go_ret3
            refine ⟨ret_three ?_ ?_ ?_, rfl⟩ <;> simp_all [dcP, dcA, dcE, HK.out, HD.out]
        · have HD := Lib.hid (show ddB s d = true by simp [ddB, h3])
          clear h4
          go_enter Try.func81, Try.ntmps81
          go_wp2_with (first | (go_at_call 41; refine (check_any s s0 s1 _).mono ?_; rw [HE.out]; rintro r w' ⟨rfl, rfl⟩) | (go_at_call 99; refine (descGen_any d d0 d1 _).mono ?_; rintro r w' ⟨rfl, rfl⟩) | (go_at_call 78; refine (gen_any s s0 s1 _).mono ?_; rintro r w' ⟨rfl, rfl⟩) | (go_at_call 100; refine (com_any d d0 d1 _).mono ?_; rw [HC.out]; rintro r w' ⟨rfl, rfl⟩) | (go_at_call 76; refine (kind_any s s0 s1 _).mono ?_; rintro r w' ⟨rfl, rfl⟩))
          all_goals
            try simp only [beq_iff_eq, beq_eq_false_iff_ne, ne_eq] at *
            go_ret3
            refine ⟨ret_three ?_ ?_ ?_, rfl⟩ <;> simp_all [dcP, dcA, dcE, HK.out, HD.out]
    · have HK := Lib.hid (show dcOk s d = false by simp [dcOk, dsOk, h2])
      clear h1
      go_enter Try.func81, Try.ntmps81
      go_wp2_with (first | (go_at_call 41; refine (check_any s s0 s1 _).mono ?_; rw [HE.out]; rintro r w' ⟨rfl, rfl⟩) | (go_at_call 99; refine (descGen_any d d0 d1 _).mono ?_; rintro r w' ⟨rfl, rfl⟩) | (go_at_call 78; refine (gen_any s s0 s1 _).mono ?_; rintro r w' ⟨rfl, rfl⟩) | (go_at_call 100; refine (com_any d d0 d1 _).mono ?_; rw [HC.out]; rintro r w' ⟨rfl, rfl⟩) | (go_at_call 76; refine (kind_any s s0 s1 _).mono ?_; rintro r w' ⟨rfl, rfl⟩))
      go_ret3
      exact ⟨ret_three (by simp [dcP, HK.out]) (by simp [dcA, HK.out]) (by simp [dcE, HK.out]), rfl⟩
end Fl
end Go.Proofs.Ytjcbjbhlclajnaa
