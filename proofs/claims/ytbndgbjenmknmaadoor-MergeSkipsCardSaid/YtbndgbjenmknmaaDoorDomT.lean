/- The members of a set of 64 values, one after another from the lowest bit on: plain mathematics. No program. -/
import Derived.Test.YtbndgbjenmknmaaDoorDomM
import Derived.Lib.TrailingZeros
namespace Go.Proofs.YtbndgbjenmknmaaDoor
set_option linter.unusedVariables false
set_option linter.unusedSimpArgs false
namespace Dm
/-- the members of a set, in ascending order -/
def memF (S : Nat) : List (Fin 64) := (List.finRange 64).filter fun i => S.testBit i.val
theorem range_up : (List.finRange 64).Pairwise (· < ·) := by decide +kernel
theorem range_all (k : Fin 64) : k ∈ List.finRange 64 := by
  have h : ∀ k : Fin 64, k ∈ List.finRange 64 := by decide +kernel
  exact h k
theorem filter_first {p : Fin 64 → Bool} {k : Fin 64} (hk : p k = true) (hlt : ∀ i, i < k → p i = false) : ∀ (l : List (Fin 64)), l.Pairwise (· < ·) → k ∈ l → l.filter p = k :: l.filter (fun i => p i && decide (i ≠ k))
  | [], _, h => by cases h
  | a :: t, hp, h => by
    rw [List.pairwise_cons] at hp
    by_cases hak : a = k
    · subst hak
      have e : t.filter p = t.filter (fun i => p i && decide (i ≠ a)) := List.filter_congr fun i hi => by
        have := hp.1 i hi
        have hne : i ≠ a := fun h => by subst h; exact absurd this (Fin.lt_irrefl _)
        simp [hne]
      rw [List.filter_cons, List.filter_cons, if_pos hk, e]
      simp
    · have hkt : k ∈ t := by
        cases h with
        | head => exact absurd rfl hak
        | tail _ h => exact h
      have hpa : p a = false := hlt a (hp.1 k hkt)
      rw [List.filter_cons, List.filter_cons, hpa, filter_first hk hlt t hp.2 hkt]
      simp
theorem low_bits {R k m : Nat} (h : R = 2 ^ k * (2 * m + 1)) (i : Nat) : R.testBit i = (decide (k ≤ i) && (2 * m + 1).testBit (i - k)) := by
  rw [h, Nat.mul_comm, Nat.testBit_mul_two_pow]
theorem low_pred {R k m : Nat} (h : R = 2 ^ k * (2 * m + 1)) (i : Nat) : (R - 1).testBit i = if i < k then true else (2 * m).testBit (i - k) := by
  have hp : 0 < 2 ^ k := Nat.two_pow_pos k
  have e : R - 1 = 2 ^ k * (2 * m) + (2 ^ k - 1) := by
    rw [h, Nat.mul_add, Nat.mul_one]; omega
  rw [e, Nat.testBit_two_pow_mul_add _ (by omega)]
  split
  · rename_i hi
    rw [Nat.testBit_two_pow_sub_one]; simp [hi]
  · rfl
theorem low_off {R k m : Nat} (h : R = 2 ^ k * (2 * m + 1)) (i : Nat) : (R &&& (R - 1)).testBit i = (R.testBit i && decide (i ≠ k)) := by
  rw [Nat.testBit_and, low_pred h, low_bits h]
  by_cases h1 : i < k
  · have : ¬ k ≤ i := by omega
    simp [this]
  · rw [if_neg h1]
    by_cases h2 : i = k
    · subst h2; simp
    · obtain ⟨j, rfl⟩ : ∃ j, i = k + (j + 1) := ⟨i - k - 1, by omega⟩
      have e3 : k + (j + 1) - k = j + 1 := by omega
      rw [e3, Nat.testBit_succ, Nat.testBit_succ, show (2 * m + 1) / 2 = m by omega, show 2 * m / 2 = m by omega]
      cases m.testBit j <;> simp
/-- the lowest member, and what is left -/
theorem memF_step {R : Nat} (h0 : R ≠ 0) (h : R < 18446744073709551616) : ∃ hk : Lib.ctz 64 R < 64, memF R = ⟨Lib.ctz 64 R, hk⟩ :: memF (R &&& (R - 1)) := by
  obtain ⟨m, hm, hk⟩ := Lib.ctzFrom_spec 64 R (by omega) h
  have e : Lib.ctz 64 R = Lib.ctzFrom 64 R := by simp [Lib.ctz, h0]
  rw [← e] at hm hk
  refine ⟨hk, ?_⟩
  have hf := filter_first (p := fun i : Fin 64 => R.testBit i.val) (k := ⟨Lib.ctz 64 R, hk⟩) (by
    show R.testBit (Lib.ctz 64 R) = true
    rw [low_bits hm]; simp) (fun i hi => by
    show R.testBit i.val = false
    have hi' : i.val < Lib.ctz 64 R := hi
    rw [low_bits hm, decide_eq_false (by omega)]; rfl) (List.finRange 64) range_up (range_all _)
  rw [memF, hf, memF]
  congr 1
  refine List.filter_congr fun i _ => ?_
  rw [low_off hm]
  congr 1
  refine decide_eq_decide.2 ?_
  constructor
  · intro h h2; exact h (Fin.ext h2)
  · intro h h2; exact h (congrArg Fin.val h2)
theorem memF_zero : memF 0 = [] := by simp [memF]
theorem memF_len (S : Nat) : (memF S).length ≤ 64 := by
  have := List.length_filter_le (fun i : Fin 64 => S.testBit i.val) (List.finRange 64)
  simpa [memF] using this
theorem memF_mem {S : Nat} {x : Fin 64} : x ∈ memF S ↔ S.testBit x.val = true := by
  simp [memF, range_all]
theorem low_lt {R : Nat} (h0 : R ≠ 0) : R &&& (R - 1) < R := Nat.lt_of_le_of_lt Nat.and_le_right (by omega)
theorem finRange_val : (List.finRange 64).map Fin.val = List.range 64 := by decide +kernel
theorem memF_val (S : Nat) : (memF S).map Fin.val = (List.range 64).filter fun i => S.testBit i := by
  rw [← finRange_val, List.filter_map]; rfl
/-- the set of the buckets of some values -/
def fndN (B : Nat) : List (Fin 64) → Nat
  | [] => 0
  | x :: l => fndN B l ||| 2 ^ (x.val % B)
theorem fndN_snoc (B : Nat) (x : Fin 64) : ∀ (l : List (Fin 64)), fndN B (l ++ [x]) = fndN B l ||| 2 ^ (x.val % B)
  | [] => rfl
  | y :: l => by
    show fndN B (l ++ [x]) ||| _ = (fndN B l ||| _) ||| _
    rw [fndN_snoc B x l, Nat.or_assoc, Nat.or_assoc, Nat.or_comm (2 ^ _) (2 ^ _)]
theorem fndN_bit (B i : Nat) : ∀ (l : List (Fin 64)), (fndN B l).testBit i = l.any fun x => decide (x.val % B = i)
  | [] => by simp [fndN]
  | y :: l => by
    rw [fndN, Nat.testBit_or, fndN_bit B i l, Nat.testBit_two_pow, List.any_cons, Bool.or_comm]
theorem fndN_lt {B : Nat} (h1 : 1 ≤ B) (h2 : B ≤ 16) : ∀ (l : List (Fin 64)), fndN B l < 18446744073709551616
  | [] => by simp [fndN]
  | y :: l => by
    have := Nat.mod_lt y.val h1
    exact Nat.or_lt_two_pow (n := 64) (fndN_lt h1 h2 l) (p64 (n := y.val % B) (by omega))
end Dm
end Go.Proofs.YtbndgbjenmknmaaDoor
