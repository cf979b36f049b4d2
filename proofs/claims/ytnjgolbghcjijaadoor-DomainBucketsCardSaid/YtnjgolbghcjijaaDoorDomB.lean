/- Buckets of leapfrogref03: contract of the translated code. Conditions: the bounds of each argument's kind. -/
import Derived.Test.YtnjgolbghcjijaaDoorDomO
namespace Go.Proofs.YtnjgolbghcjijaaDoor
open Go.RowKit Go.Sort
set_option linter.unusedVariables false
set_option linter.unusedSimpArgs false
namespace Dm
/-- whether one of the values b, b + B, .. (t of them) is in the set -/
def bkH (S B b : Nat) : Nat → Bool
  | 0 => false
  | t + 1 => bkH S B b t || S.testBit (b + t * B)
def bkS (S B : Nat) : Nat → List Int
  | 0 => []
  | b + 1 => if bkH S B b 64 = true then bkS S B b ++ [(b : Int)] else bkS S B b
theorem bkS_len (S B : Nat) : ∀ n, (bkS S B n).length ≤ n
  | 0 => Nat.le_refl _
  | n + 1 => by
    have := bkS_len S B n
    unfold bkS; split <;> simp <;> omega
theorem bkH_stay {S B b t : Nat} (hS : S < 18446744073709551616) (h : 64 ≤ b + t * B) (k : Nat) : bkH S B b (t + k) = bkH S B b t := by
  induction k with
  | zero => rfl
  | succ k ih =>
    rw [← Nat.add_assoc, bkH, ih]
    have h1 : t * B ≤ (t + k) * B := Nat.mul_le_mul_right _ (by omega)
    have h2 : S.testBit (b + (t + k) * B) = false := Nat.testBit_lt_two_pow (Nat.lt_of_lt_of_le hS (Nat.pow_le_pow_right (n := 2) (by omega) (by omega) : 2 ^ 64 ≤ 2 ^ (b + (t + k) * B)))
    rw [h2, Bool.or_false]
theorem bkH_end {S B b t : Nat} (hS : S < 18446744073709551616) (h : 64 ≤ b + t * B) (ht : t ≤ 64) : bkH S B b 64 = bkH S B b t := by
  have := bkH_stay hS h (64 - t)
  rwa [show t + (64 - t) = 64 by omega] at this
theorem bucketsR_bad (S : Nat) (B : Int) (w : World) (hB : ¬ (1 ≤ B ∧ B ≤ 16)) (Bl : -9223372036854775808 ≤ B) (Bh : B ≤ 9223372036854775807) :
    Calls Tryd.prog 31 #[.int .u64 S, .int .i64 B] w fun e w' => e = .returned (.tuple #[.slice none 0 0, .int .i64 2]) ∧ w = w' := by
  by_cases h1 : B < 1
  · have t1 : decide (B < 1) = true := decide_eq_true h1
    go_enter Tryd.func31, Tryd.ntmps31
    go_wp2
    go_ret2
    exact ⟨rfl, rfl⟩
  · have t1 : decide (B < 1) = false := decide_eq_false h1
    have t2 : decide (16 < B) = true := by simp; omega
    go_enter Tryd.func31, Tryd.ntmps31
    go_wp2
    go_ret2
    exact ⟨rfl, rfl⟩
theorem bucketsR_any (S B : Nat) (hS : S < 18446744073709551616) (w : World) (B1 : 1 ≤ B) (B2 : B ≤ 16) :
    Calls Tryd.prog 31 #[.int .u64 S, .int .i64 B] w fun e w' => (∃ v, e = .returned (.tuple #[v, .int .i64 0]) ∧ w'.ownsRow w.heap.size 3 1 v (bkS S B B).length (flatI (bkS S B B))) ∧ Below w.heap.size w w' := by
  have t1 : decide ((B : Int) < 1) = false := by simp; omega
  have t2 : decide (16 < (B : Int)) = false := by simp; omega
  go_enter Tryd.func31, Tryd.ntmps31
  go_wp2
  go_loopw [6, 7] (fun q i wr => ∃ j : Nat, j ≤ B ∧ i = .int .i64 j ∧ wr.ownsRow w.heap.size 3 1 q (bkS S B j).length (flatI (bkS S B j)) ∧ Below w.heap.size w wr) (fun q i _ => (B - intOf i).toNat)
  case atStart => exact ⟨0, Nat.zero_le _, rfl, World.ownsRow_nil _ _ _ _, Below.refl _ _⟩
  case round =>
    obtain ⟨j, hj, rfl, ow, bel⟩ := hrel
    have OW := Lib.hid ow; clear ow
    by_cases hlt : j < B
    · have t0 : decide ((j : Int) < B) = true := by simp; omega
      have hlen := bkS_len S B j
      have hsz := bel.size
      go_wp2
      go_loopw [8, 9] (fun q i wq => ∃ t p : Nat, t ≤ 64 ∧ p = j + t * B ∧ q = .bool (bkH S B j t) ∧ i = .int .i64 p ∧ p ≤ 80 ∧ wq = wr) (fun q i _ => (80 - intOf i).toNat)
      case atStart => exact ⟨0, j, by omega, by simp, rfl, rfl, by omega, rfl⟩
      case round =>
        obtain ⟨t, p, ht, hp, rfl, rfl, hp80, rfl⟩ := hrel
        have HP := Lib.hid hp; clear hp
        by_cases hp64 : p < 64
        · have t3 : decide ((p : Int) < 64) = true := by simp; omega
          have HT := Lib.hid (show t + 1 ≤ 64 by
            have h1 := HP.out
            have h2 : t * 1 ≤ t * B := Nat.mul_le_mul_left _ B1
            omega)
          have HN := Lib.hid (show p + B = j + (t + 1) * B by rw [HP.out, Nat.add_mul]; omega)
          have HS := Lib.hid (show bkH S B j (t + 1) = (bkH S B j t || S.testBit p) by rw [bkH, HP.out])
          have HC := Lib.hid (in_any S p hS hp64 wr)
          generalize bkH S B j t = h at HS
          cases h with
          | true =>
            go_wp2
            go_roundw
            case rel => exact ⟨t + 1, p + B, HT.out, HN.out, by rw [HS.out]; rfl, by go_num, by omega, trivial⟩
            case measure => simp [intOf]; omega
          | false =>
            generalize S.testBit p = g at HS HC
            go_wp2_with fail
            refine HC.out.mono ?_
            rintro r w1 ⟨rfl, rfl⟩
            go_wp2
            go_roundw
            case rel => exact ⟨t + 1, p + B, HT.out, HN.out, by rw [HS.out]; rfl, by go_num, by omega, trivial⟩
            case measure => simp [intOf]; omega
        · have t3 : decide ((p : Int) < 64) = false := by simp; omega
          have HE := Lib.hid (bkH_end (S := S) (B := B) (b := j) (t := t) hS (by have := HP.out; omega) ht)
          cases hh : bkH S B j t with
          | true =>
            have HM := Lib.hid (show bkS S B (j + 1) = bkS S B j ++ [(j : Int)] by rw [bkS, HE.out, hh, if_pos rfl])
            clear hh
            go_wp2_with (at_builtin; refine app1 rfl (.tmp 34) (.tmp 36) rfl wr w.heap.size (bkS S B j).length _ (bkS S B j) (j : Int) rfl rfl OW.out (by omega) hsz ?_; intro v1 w1 h1 b1)
            go_roundw
            case rel => exact ⟨j + 1, by omega, by go_num, by rw [HM.out, List.length_append]; exact h1, bel.trans (b1.mono (Nat.le_refl _))⟩
            case measure => simp [intOf]; omega
          | false =>
            have HM := Lib.hid (show bkS S B (j + 1) = bkS S B j by rw [bkS, HE.out, hh]; rfl)
            clear hh
            go_wp2
            go_roundw
            case rel => exact ⟨j + 1, by omega, by go_num, by rw [HM.out]; exact OW.out, bel⟩
            case measure => simp [intOf]; omega
    · obtain rfl : j = B := by omega
      have t0 : decide ((j : Int) < j) = false := by simp
      go_wp2
      go_ret2
      exact ⟨⟨_, rfl, OW.out⟩, bel⟩
end Dm
end Go.Proofs.YtnjgolbghcjijaaDoor
