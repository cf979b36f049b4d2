/- Counting the ones of a number of 64 bits by sums of fields, as plain mathematics. No program. -/
import Derived.Lib.Hide
namespace Go.Proofs.YtbndgbjenmknmaaDoor
set_option linter.unusedVariables false
set_option linter.unusedSimpArgs false
namespace Pc
/-- n digits of w bits, the lowest first -/
def dg (w : Nat) : Nat → (Nat → Nat) → Nat
  | 0, _ => 0
  | n + 1, f => f 0 + 2 ^ w * dg w n (fun j => f (j + 1))
/-- every other field of w bits -/
def mk (w : Nat) : Nat → Nat
  | 0 => 0
  | n + 1 => (2 ^ w - 1) + 2 ^ (w + w) * mk w n
def sm (f : Nat → Nat) : Nat → Nat
  | 0 => 0
  | n + 1 => sm f n + f n
theorem and_split {n a b c d : Nat} (ha : a < 2 ^ n) (hc : c < 2 ^ n) : (a + 2 ^ n * b) &&& (c + 2 ^ n * d) = (a &&& c) + 2 ^ n * (b &&& d) := by
  have hac : a &&& c < 2 ^ n := Nat.lt_of_le_of_lt Nat.and_le_left ha
  rw [Nat.add_comm a, Nat.add_comm c, Nat.add_comm (a &&& c)]
  refine Nat.eq_of_testBit_eq fun j => ?_
  rw [Nat.testBit_and, Nat.testBit_two_pow_mul_add _ ha, Nat.testBit_two_pow_mul_add _ hc, Nat.testBit_two_pow_mul_add _ hac]
  split <;> rw [Nat.testBit_and]
theorem dg_two (w n : Nat) (f : Nat → Nat) : dg w (n + 1 + 1) f = (f 0 + 2 ^ w * f 1) + 2 ^ (w + w) * dg w n (fun j => f (j + 1 + 1)) := by
  simp only [dg, Nat.pow_add, Nat.mul_add, Nat.mul_assoc, Nat.add_assoc]
theorem dg_even (w : Nat) : ∀ (n : Nat) (f : Nat → Nat), (∀ j, f j < 2 ^ w) → dg w (2 * n) f &&& mk w n = dg (w + w) n (fun j => f (2 * j))
  | 0, f, _ => by simp [dg, mk]
  | n + 1, f, hf => by
    have h0 := hf 0
    have h1 := hf 1
    have hp : 0 < 2 ^ w := Nat.two_pow_pos w
    rw [show 2 * (n + 1) = 2 * n + 1 + 1 by omega, dg_two]
    unfold mk
    rw [and_split ?_ ?_]
    · rw [dg_even w n (fun j => f (j + 1 + 1)) (fun j => hf _)]
      have e : (f 0 + 2 ^ w * f 1) &&& (2 ^ w - 1) = f 0 := by
        have := and_split (n := w) (a := f 0) (b := f 1) (c := 2 ^ w - 1) (d := 0) h0 (by omega)
        rw [Nat.mul_zero, Nat.add_zero] at this
        rw [this, Nat.and_zero, Nat.mul_zero, Nat.add_zero, Nat.and_two_pow_sub_one_eq_mod, Nat.mod_eq_of_lt h0]
      rw [e]
      show f 0 + _ = f 0 + _
      congr 2
    · have : 2 ^ w * f 1 ≤ 2 ^ w * (2 ^ w - 1) := Nat.mul_le_mul_left _ (by omega)
      rw [Nat.mul_sub, Nat.mul_one] at this
      rw [Nat.pow_add]
      have : 2 ^ w ≤ 2 ^ w * 2 ^ w := Nat.le_mul_of_pos_left _ hp
      omega
    · have : 2 ^ w ≤ 2 ^ (w + w) := Nat.pow_le_pow_right (by omega) (by omega)
      omega
theorem dg_zero (w : Nat) : ∀ (n : Nat) (f : Nat → Nat), f n = 0 → dg w (n + 1) f = dg w n f
  | 0, f, h => by simp [dg, h]
  | n + 1, f, h => by
    have := dg_zero w n (fun j => f (j + 1)) h
    show f 0 + 2 ^ w * dg w (n + 1) _ = f 0 + 2 ^ w * dg w n _
    rw [this]
theorem dg_shift (w : Nat) (n : Nat) (f : Nat → Nat) (h0 : f 0 < 2 ^ w) (hz : f (n + 1) = 0) : dg w (n + 1) f / 2 ^ w = dg w (n + 1) (fun j => f (j + 1)) := by
  rw [dg_zero w n (fun j => f (j + 1)) hz]
  show (f 0 + 2 ^ w * _) / 2 ^ w = _
  rw [Nat.add_mul_div_left _ _ (Nat.two_pow_pos w), Nat.div_eq_of_lt h0, Nat.zero_add]
theorem dg_odd (w n : Nat) (f : Nat → Nat) (hf : ∀ j, f j < 2 ^ w) (hz : f (2 * n + 1 + 1) = 0) : (dg w (2 * (n + 1)) f / 2 ^ w) &&& mk w (n + 1) = dg (w + w) (n + 1) (fun j => f (2 * j + 1)) := by
  rw [show 2 * (n + 1) = 2 * n + 1 + 1 by omega, dg_shift w (2 * n + 1) f (hf 0) hz, show 2 * n + 1 + 1 = 2 * (n + 1) by omega]
  exact dg_even w (n + 1) (fun j => f (j + 1)) fun j => hf _
theorem dg_add (w : Nat) : ∀ (n : Nat) (f g : Nat → Nat), dg w n f + dg w n g = dg w n (fun j => f j + g j)
  | 0, _, _ => rfl
  | n + 1, f, g => by
    have := dg_add w n (fun j => f (j + 1)) (fun j => g (j + 1))
    show (f 0 + 2 ^ w * _) + (g 0 + 2 ^ w * _) = (f 0 + g 0) + 2 ^ w * _
    rw [← this, Nat.mul_add]; omega
theorem dg_bits : ∀ (n X : Nat), X < 2 ^ n → dg 1 n (fun i => (X.testBit i).toNat) = X
  | 0, X, h => by simp at h; simp [dg, h]
  | n + 1, X, h => by
    have := dg_bits n (X / 2) (by rw [Nat.pow_succ] at h; omega)
    show (X.testBit 0).toNat + 2 ^ 1 * dg 1 n (fun j => (X.testBit (j + 1)).toNat) = X
    simp only [Nat.testBit_succ]
    rw [this, Nat.testBit_zero]
    rcases Nat.mod_two_eq_zero_or_one X with h0 | h0 <;> simp [h0] <;> omega
theorem sm_pair (f : Nat → Nat) : ∀ n, sm f (2 * n) = sm (fun j => f (2 * j) + f (2 * j + 1)) n
  | 0 => rfl
  | n + 1 => by
    rw [show 2 * (n + 1) = 2 * n + 1 + 1 by omega, sm, sm, sm_pair f n]
    show _ = sm _ n + (f (2 * n) + f (2 * n + 1)); omega
theorem sm_count (X : Nat) : ∀ n, sm (fun i => (X.testBit i).toNat) n = ((List.range n).filter fun i => X.testBit i).length
  | 0 => rfl
  | n + 1 => by
    rw [sm, sm_count X n, List.range_succ, List.filter_append, List.length_append]
    congr 1
    cases h : X.testBit n <;> simp [h]
/-- how many ones -/
def ones (X : Nat) : Nat := ((List.range 64).filter fun i => X.testBit i).length
/-- the steps of the library's reckoning -/
theorem steps {X : Nat} (hX : X < 18446744073709551616) : ∃ (f1 f2 f3 : Nat → Nat),
    ((X / 2) &&& 6148914691236517205) + (X &&& 6148914691236517205) = dg 2 32 f1 ∧
    ((dg 2 32 f1 / 4) &&& 3689348814741910323) + (dg 2 32 f1 &&& 3689348814741910323) = dg 4 16 f2 ∧
    (dg 4 16 f2 / 16 + dg 4 16 f2) &&& 1085102592571150095 = dg 8 8 f3 ∧
    (∀ j, f1 j ≤ 2) ∧ (∀ j, f2 j ≤ 4) ∧ (∀ j, f3 j ≤ 8) ∧ sm f3 8 = ones X := by
  obtain ⟨f0, hf0⟩ : ∃ f0 : Nat → Nat, f0 = fun i => (X.testBit i).toNat := ⟨_, rfl⟩
  have b0 : ∀ j, f0 j ≤ 1 := fun j => by rw [hf0]; exact Bool.toNat_le _
  have z0 : ∀ j, 64 ≤ j → f0 j = 0 := fun j hj => by
    rw [hf0]
    have : X.testBit j = false := Nat.testBit_lt_two_pow (Nat.lt_of_lt_of_le hX (Nat.pow_le_pow_right (n := 2) (by omega) hj : 2 ^ 64 ≤ 2 ^ j))
    simp [this]
  have hx : dg 1 64 f0 = X := by rw [hf0]; exact dg_bits 64 X hX
  obtain ⟨f1, hf1⟩ : ∃ f1 : Nat → Nat, f1 = fun j => f0 (2 * j + 1) + f0 (2 * j) := ⟨_, rfl⟩
  obtain ⟨f2, hf2⟩ : ∃ f2 : Nat → Nat, f2 = fun j => f1 (2 * j + 1) + f1 (2 * j) := ⟨_, rfl⟩
  obtain ⟨f3, hf3⟩ : ∃ f3 : Nat → Nat, f3 = fun j => f2 (2 * j + 1) + f2 (2 * j) := ⟨_, rfl⟩
  have b1 : ∀ j, f1 j ≤ 2 := fun j => by rw [hf1]; have := b0 (2 * j + 1); have := b0 (2 * j); show f0 (2 * j + 1) + f0 (2 * j) ≤ 2; omega
  have b2 : ∀ j, f2 j ≤ 4 := fun j => by rw [hf2]; have := b1 (2 * j + 1); have := b1 (2 * j); show f1 (2 * j + 1) + f1 (2 * j) ≤ 4; omega
  have b3 : ∀ j, f3 j ≤ 8 := fun j => by rw [hf3]; have := b2 (2 * j + 1); have := b2 (2 * j); show f2 (2 * j + 1) + f2 (2 * j) ≤ 8; omega
  have z1 : ∀ j, 32 ≤ j → f1 j = 0 := fun j hj => by rw [hf1]; show f0 (2 * j + 1) + f0 (2 * j) = 0; rw [z0 _ (by omega), z0 _ (by omega)]
  have z2 : ∀ j, 16 ≤ j → f2 j = 0 := fun j hj => by rw [hf2]; show f1 (2 * j + 1) + f1 (2 * j) = 0; rw [z1 _ (by omega), z1 _ (by omega)]
  have m0 : mk 1 32 = 6148914691236517205 := by decide
  have m1 : mk 2 16 = 3689348814741910323 := by decide
  have m2 : mk 4 8 = 1085102592571150095 := by decide
  refine ⟨f1, f2, f3, ?_, ?_, ?_, b1, b2, b3, ?_⟩
  · rw [← hx, ← m0]
    have he := dg_even 1 32 f0 (fun j => by have := b0 j; omega)
    have ho := dg_odd 1 31 f0 (fun j => by have := b0 j; omega) (z0 _ (by omega))
    rw [show (2 : Nat) * 32 = 64 from rfl] at he
    rw [show (2 : Nat) * (31 + 1) = 64 from rfl, show (2 : Nat) ^ 1 = 2 from rfl] at ho
    rw [he, ho, hf1]
    exact dg_add 2 32 _ _
  · rw [← m1]
    have he := dg_even 2 16 f1 (fun j => by have := b1 j; omega)
    have ho := dg_odd 2 15 f1 (fun j => by have := b1 j; omega) (z1 _ (by omega))
    rw [show (2 : Nat) * 16 = 32 from rfl] at he
    rw [show (2 : Nat) * (15 + 1) = 32 from rfl, show (2 : Nat) ^ 2 = 4 from rfl] at ho
    rw [he, ho, hf2]
    exact dg_add 4 16 _ _
  · rw [← m2]
    have hs := dg_shift 4 15 f2 (by have := b2 0; omega) (z2 _ (by omega))
    rw [show (2 : Nat) ^ 4 = 16 from rfl] at hs
    rw [show (15 + 1 : Nat) = 16 from rfl] at hs
    rw [hs, dg_add 4 16]
    have he := dg_even 4 8 (fun j => f2 (j + 1) + f2 j) (fun j => by have := b2 j; have := b2 (j + 1); show f2 (j + 1) + f2 j < 16; omega)
    rw [show (2 : Nat) * 8 = 16 from rfl] at he
    rw [he, hf3]
  · have e : ∀ (g : Nat → Nat) (n : Nat), sm (fun j => g (2 * j + 1) + g (2 * j)) n = sm g (2 * n) := fun g n => by
      rw [sm_pair]; exact congrArg (fun h => sm h n) (funext fun j => Nat.add_comm _ _)
    rw [hf3, e, show (2 : Nat) * 8 = 16 from rfl, hf2, e, show (2 : Nat) * 16 = 32 from rfl, hf1, e, show (2 : Nat) * 32 = 64 from rfl, hf0, sm_count]
    rfl
theorem divq {a b c : Nat} (h : a < c) : (a + c * b) / c = b := by
  rw [Nat.add_mul_div_left _ _ (by omega), Nat.div_eq_of_lt h, Nat.zero_add]
theorem tailN {a0 a1 a2 a3 a4 a5 a6 a7 X : Nat} (h0 : a0 ≤ 8) (h1 : a1 ≤ 8) (h2 : a2 ≤ 8) (h3 : a3 ≤ 8) (h4 : a4 ≤ 8) (h5 : a5 ≤ 8) (h6 : a6 ≤ 8) (h7 : a7 ≤ 8) (hX : X = a0 + 256 * (a1 + 256 * (a2 + 256 * (a3 + 256 * (a4 + 256 * (a5 + 256 * (a6 + 256 * a7))))))) : ∃ Y Z U : Nat, X + X / 256 = Y ∧ Y + Y / 65536 = Z ∧ Z + Z / 4294967296 = U ∧ U < 18446744073709551616 ∧ U % 128 = 0 + a0 + a1 + a2 + a3 + a4 + a5 + a6 + a7 ∧ Y < 18446744073709551616 ∧ Z < 18446744073709551616 ∧ X < 18446744073709551616 := by
  have q1 : X / 256 = a1 + 256 * (a2 + 256 * (a3 + 256 * (a4 + 256 * (a5 + 256 * (a6 + 256 * a7))))) := by rw [hX]; exact divq (by omega)
  have y1 : X + X / 256 = ((a0 + a1) + 256 * (a1 + a2)) + 65536 * ((a2 + a3) + 256 * ((a3 + a4) + 256 * ((a4 + a5) + 256 * ((a5 + a6) + 256 * ((a6 + a7) + 256 * a7))))) := by rw [q1, hX]; clear q1 hX h0 h1 h2 h3 h4 h5 h6 h7; omega
  have q2 : (X + X / 256) / 65536 = (a2 + a3) + 256 * ((a3 + a4) + 256 * ((a4 + a5) + 256 * ((a5 + a6) + 256 * ((a6 + a7) + 256 * a7)))) := by rw [y1]; exact divq (by clear y1 q1 hX; omega)
  have y2 : X + X / 256 + (X + X / 256) / 65536 = ((a0 + a1 + a2 + a3) + 256 * ((a1 + a2 + a3 + a4) + 256 * ((a2 + a3 + a4 + a5) + 256 * (a3 + a4 + a5 + a6)))) + 4294967296 * ((a4 + a5 + a6 + a7) + 256 * ((a5 + a6 + a7) + 256 * ((a6 + a7) + 256 * a7))) := by rw [q2, y1]; clear q1 y1 q2 hX h0 h1 h2 h3 h4 h5 h6 h7; omega
  have q3 : (X + X / 256 + (X + X / 256) / 65536) / 4294967296 = (a4 + a5 + a6 + a7) + 256 * ((a5 + a6 + a7) + 256 * ((a6 + a7) + 256 * a7)) := by rw [y2]; exact divq (by clear y2 y1 q1 q2 hX; omega)
  have y3 : X + X / 256 + (X + X / 256) / 65536 + (X + X / 256 + (X + X / 256) / 65536) / 4294967296 = (0 + a0 + a1 + a2 + a3 + a4 + a5 + a6 + a7) + 128 * (2 * ((a1 + a2 + a3 + a4 + (a5 + a6 + a7)) + 256 * ((a2 + a3 + a4 + a5 + (a6 + a7)) + 256 * ((a3 + a4 + a5 + a6 + a7) + 256 * ((a4 + a5 + a6 + a7) + 256 * ((a5 + a6 + a7) + 256 * ((a6 + a7) + 256 * a7))))))) := by rw [q3, y2]; clear q1 y1 q2 y2 q3 hX h0 h1 h2 h3 h4 h5 h6 h7; omega
  refine ⟨_, _, _, rfl, rfl, rfl, ?_, ?_, ?_, ?_, ?_⟩
  · rw [y3]; clear q1 y1 q2 y2 q3 y3 hX; omega
  · rw [y3, Nat.add_mul_mod_self_left]; exact Nat.mod_eq_of_lt (by clear q1 y1 q2 y2 q3 y3 hX; omega)
  · rw [y1]; clear q1 y1 q2 y2 q3 y3 hX; omega
  · rw [y2]; clear q1 y1 q2 y2 q3 y3 hX; omega
  · rw [hX]; clear q1 y1 q2 y2 q3 y3 hX; omega
theorem dg8 (f : Nat → Nat) : dg 8 8 f = f 0 + 256 * (f 1 + 256 * (f 2 + 256 * (f 3 + 256 * (f 4 + 256 * (f 5 + 256 * (f 6 + 256 * f 7)))))) := by
  simp [dg]
/-- the last steps -/
theorem tail {f : Nat → Nat} (h : ∀ j, f j ≤ 8) : ∃ Y Z U : Nat, dg 8 8 f + dg 8 8 f / 256 = Y ∧ Y + Y / 65536 = Z ∧ Z + Z / 4294967296 = U ∧ U < 18446744073709551616 ∧ U % 128 = sm f 8 ∧ Y < 18446744073709551616 ∧ Z < 18446744073709551616 ∧ dg 8 8 f < 18446744073709551616 := by
  have s : sm f 8 = 0 + f 0 + f 1 + f 2 + f 3 + f 4 + f 5 + f 6 + f 7 := by simp only [sm]
  rw [s]
  exact tailN (h 0) (h 1) (h 2) (h 3) (h 4) (h 5) (h 6) (h 7) (dg8 f)
end Pc
end Go.Proofs.YtbndgbjenmknmaaDoor
