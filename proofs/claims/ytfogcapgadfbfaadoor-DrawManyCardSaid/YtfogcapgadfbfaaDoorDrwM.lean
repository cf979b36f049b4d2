/- Heights of draws and the draws of a seed: plain mathematics. No program. -/
import Derived.WalkKit
import Derived.ProofKit
namespace Go.Proofs.YtfogcapgadfbfaaDoor
set_option linter.unusedVariables false
set_option linter.unusedSimpArgs false
namespace Dr
def M64 : Nat := 18446744073709551616
/-! ### heights -/
/-- the height of a draw: the loop of the specification, with n as it stands -/
def hgtF : Nat → Nat → Nat → Nat
  | 0, n, _ => n
  | f + 1, n, x => if n < 6 ∧ x % 2 = 1 then hgtF f (n + 1) (x / 2) else n
def hgt (x : Nat) : Nat := hgtF 5 1 x
theorem hgtF_six : ∀ (f x : Nat), hgtF f 6 x = 6
  | 0, _ => rfl
  | f + 1, x => by rw [hgtF, if_neg (by omega)]
theorem hgt_low (x : Nat) : hgt x = hgt (x % 32) := by
  have e1 : x % 32 % 2 = x % 2 := by omega
  have e2 : x % 32 / 2 % 2 = x / 2 % 2 := by omega
  have e3 : x % 32 / 2 / 2 % 2 = x / 2 / 2 % 2 := by omega
  have e4 : x % 32 / 2 / 2 / 2 % 2 = x / 2 / 2 / 2 % 2 := by omega
  have e5 : x % 32 / 2 / 2 / 2 / 2 % 2 = x / 2 / 2 / 2 / 2 % 2 := by omega
  simp only [hgt, hgtF, e1, e2, e3, e4, e5]
theorem hgt_bd (x : Nat) : 1 ≤ hgt x ∧ hgt x ≤ 6 := by
  rw [hgt_low]
  have h : ∀ r, r < 32 → 1 ≤ hgt r ∧ hgt r ≤ 6 := by decide +kernel
  exact h _ (by omega)
/-- what a height says of the bits -/
theorem hgt_bits (x : Nat) : x % 2 ^ (hgt x - 1) = 2 ^ (hgt x - 1) - 1 ∧ (hgt x < 6 → x / 2 ^ (hgt x - 1) % 2 = 0) := by
  have h : ∀ r, r < 32 → r % 2 ^ (hgt r - 1) = 2 ^ (hgt r - 1) - 1 ∧ (hgt r < 6 → r / 2 ^ (hgt r - 1) % 2 = 0) := by decide +kernel
  obtain ⟨h1, h2⟩ := h (x % 32) (by omega)
  rw [← hgt_low] at h1 h2
  have hb := hgt_bd x
  generalize hgt x = g at *
  obtain ⟨a, b⟩ := hb
  rcases (show g = 1 ∨ g = 2 ∨ g = 3 ∨ g = 4 ∨ g = 5 ∨ g = 6 by omega) with rfl | rfl | rfl | rfl | rfl | rfl
  all_goals (simp at h1 h2 ⊢; omega)
/-- how many of the first n numbers from y on have the height h -/
def cntH (y h : Nat) : Nat → Nat
  | 0 => 0
  | n + 1 => cntH y h n + if hgt (y + n) = h then 1 else 0
theorem cntH_shift (y h : Nat) : ∀ n, cntH (y + 1) h n + (if hgt y = h then 1 else 0) = cntH y h (n + 1)
  | 0 => by simp [cntH]
  | n + 1 => by
    rw [cntH, cntH, ← cntH_shift y h n, show y + 1 + n = y + (n + 1) by omega]
    omega
/-- of each 32 numbers in a row as many have a height as of the first 32 -/
theorem cntH_row (h : Nat) : ∀ y, cntH y h 32 = cntH 0 h 32
  | 0 => rfl
  | y + 1 => by
    have h1 : cntH (y + 1) h 32 + (if hgt y = h then 1 else 0) = cntH y h 33 := cntH_shift y h 32
    have h2 : cntH y h 33 = cntH y h 32 + if hgt (y + 32) = h then 1 else 0 := rfl
    have e : hgt (y + 32) = hgt y := by rw [hgt_low, show (y + 32) % 32 = y % 32 by omega, ← hgt_low]
    rw [e] at h2
    have := cntH_row h y
    omega
theorem cntH_32 : [cntH 0 1 32, cntH 0 2 32, cntH 0 3 32, cntH 0 4 32, cntH 0 5 32, cntH 0 6 32] = [16, 8, 4, 2, 1, 1] := by decide +kernel
/-! ### the draws of a seed -/
def stp : Nat := 11400714819323198485
def xs (k z : Nat) : Nat := z ^^^ (z / 2 ^ k)
def mix1 (z : Nat) : Nat := xs 31 (xs 27 (xs 30 z * 13787848793156543929 % M64) * 10723151780598845931 % M64)
/-- the number that is mixed: i is the number of a draw, as 64 bits -/
def mixN (seed i : Nat) : Nat := mix1 ((seed + (i + 1) % M64 * stp) % M64)
theorem xs_lt {k z : Nat} (h : z < M64) : xs k z < M64 := Nat.xor_lt_two_pow (n := 64) h (Nat.lt_of_le_of_lt (Nat.div_le_self _ _) h)
theorem xs_bit (k z j : Nat) : (xs k z).testBit j = (z.testBit j ^^ z.testBit (j + k)) := by
  rw [xs, Nat.testBit_xor, Nat.testBit_div_two_pow]
theorem xs_inj {k a b : Nat} (hk : 0 < k) (ha : a < M64) (hb : b < M64) (h : xs k a = xs k b) : a = b := by
  have key : ∀ d j, 64 ≤ j + d → a.testBit j = b.testBit j := by
    intro d
    induction d with
    | zero =>
      intro j hj
      rw [Nat.testBit_lt_two_pow (Nat.lt_of_lt_of_le ha (Nat.pow_le_pow_right (n := 2) (by omega) (by omega) : 2 ^ 64 ≤ 2 ^ j)), Nat.testBit_lt_two_pow (Nat.lt_of_lt_of_le hb (Nat.pow_le_pow_right (n := 2) (by omega) (by omega) : 2 ^ 64 ≤ 2 ^ j))]
    | succ d ih =>
      intro j hj
      have h1 := xs_bit k a j
      have h2 := xs_bit k b j
      rw [h, h2, ih (j + k) (by omega)] at h1
      have h3 : b.testBit j = a.testBit j := by simpa using h1
      exact h3.symm
  exact Nat.eq_of_testBit_eq fun j => key 64 j (by omega)
theorem mul_inj {c c' a b : Nat} (hc : c * c' % M64 = 1) (ha : a < M64) (hb : b < M64) (h : a * c % M64 = b * c % M64) : a = b := by
  have e : ∀ x, x < M64 → x * c % M64 * c' % M64 = x := fun x hx => by
    rw [Nat.mod_mul_mod, Nat.mul_assoc, Nat.mul_mod, hc, Nat.mul_one, Nat.mod_mod, Nat.mod_eq_of_lt hx]
  rw [← e a ha, h, e b hb]
theorem m64_pos : 0 < M64 := by decide
theorem mix1_inj {a b : Nat} (ha : a < M64) (hb : b < M64) (h : mix1 a = mix1 b) : a = b := by
  have l1 : ∀ z, z * 13787848793156543929 % M64 < M64 := fun z => Nat.mod_lt _ m64_pos
  have l2 : ∀ z, z * 10723151780598845931 % M64 < M64 := fun z => Nat.mod_lt _ m64_pos
  have h1 := xs_inj (k := 31) (by decide) (l2 _) (l2 _) h
  have h2 := mul_inj (c := 10723151780598845931) (c' := 3573116690164977347) (by decide +kernel) (xs_lt (l1 _)) (xs_lt (l1 _)) h1
  have h3 := xs_inj (k := 27) (by decide) (l1 _) (l1 _) h2
  have h4 := mul_inj (c := 13787848793156543929) (c' := 10871156337175269513) (by decide +kernel) (xs_lt ha) (xs_lt hb) h3
  exact xs_inj (k := 30) (by decide) ha hb h4
/-- different seeds have different draws -/
theorem add_inj {M s t q : Nat} (hs : s < M) (ht : t < M) (h : (s + q) % M = (t + q) % M) : s = t := by
  have h1 : (s + q + (M - q % M)) % M = (t + q + (M - q % M)) % M := by rw [Nat.add_mod, h, ← Nat.add_mod]
  have hq : q % M < M := Nat.mod_lt _ (by omega)
  have e : ∀ x, x < M → (x + q + (M - q % M)) % M = x := fun x hx => by
    have e1 : x + q + (M - q % M) = x + M * (q / M) + M := by
      have := Nat.mod_add_div q M
      generalize M * (q / M) = r at *
      omega
    rw [e1, Nat.add_mod_right, Nat.add_mul_mod_self_left, Nat.mod_eq_of_lt hx]
  rw [e s hs, e t ht] at h1
  exact h1
theorem mixN_inj {s t i : Nat} (hs : s < M64) (ht : t < M64) (h : mixN s i = mixN t i) : s = t :=
  add_inj hs ht (mix1_inj (Nat.mod_lt _ m64_pos) (Nat.mod_lt _ m64_pos) h)
/-- the draw number i is the draw number 0 of a greater seed -/
theorem mixN_seed (s i : Nat) (hi : i + 1 < M64) : mixN ((s + i * stp) % M64) 0 = mixN s i := by
  have e1 : (0 + 1) % M64 = 1 := by decide
  show mix1 (((s + i * stp) % M64 + (0 + 1) % M64 * stp) % M64) = mix1 ((s + (i + 1) % M64 * stp) % M64)
  rw [Nat.mod_eq_of_lt hi, e1, Nat.one_mul, Nat.mod_add_mod, Nat.add_mul, Nat.one_mul, Nat.add_assoc]
theorem mixN_lt (s i : Nat) : mixN s i < M64 := xs_lt (Nat.mod_lt _ m64_pos)
/-! ### tallies -/
/-- how many of the first n heights are h -/
def cn (l : List Int) (h : Int) : Nat → Nat
  | 0 => 0
  | n + 1 => cn l h n + if l.getD n 0 = h then 1 else 0
/-- whether the first n heights are from 1 to 6 -/
def okT (l : List Int) : Nat → Bool
  | 0 => true
  | n + 1 => okT l n && decide (1 ≤ l.getD n 0 ∧ l.getD n 0 ≤ 6)
theorem cn_le (l : List Int) (h : Int) : ∀ n, cn l h n ≤ n
  | 0 => Nat.le_refl _
  | n + 1 => by
    rw [cn]; have := cn_le l h n
    split <;> omega
theorem okT_iff (l : List Int) : ∀ n, okT l n = true ↔ ∀ k, k < n → 1 ≤ l.getD k 0 ∧ l.getD k 0 ≤ 6
  | 0 => by simp [okT]
  | n + 1 => by
    rw [okT, Bool.and_eq_true, okT_iff l n, decide_eq_true_eq]
    constructor
    · rintro ⟨a, b⟩ k hk
      by_cases e : k = n
      · subst e; exact b
      · exact a k (by omega)
    · intro h; exact ⟨fun k hk => h k (by omega), h n (by omega)⟩
theorem okT_no {l : List Int} {k n : Nat} (hk : k < n) (h : ¬ (1 ≤ l.getD k 0 ∧ l.getD k 0 ≤ 6)) : okT l n = false := by
  rw [← Bool.not_eq_true]; intro h'; exact h ((okT_iff l n).1 h' k hk)
theorem cn_congr {l r : List Int} (h : Int) : ∀ n, (∀ k, k < n → l.getD k 0 = r.getD k 0) → cn l h n = cn r h n
  | 0, _ => rfl
  | n + 1, e => by rw [cn, cn, cn_congr h n fun k hk => e k (by omega), e n (by omega)]
theorem okT_congr {l r : List Int} : ∀ n, (∀ k, k < n → l.getD k 0 = r.getD k 0) → okT l n = okT r n
  | 0, _ => rfl
  | n + 1, e => by rw [okT, okT, okT_congr n fun k hk => e k (by omega), e n (by omega)]
theorem getD_left (l r : List Int) (k : Nat) (h : k < l.length) : (l ++ r).getD k 0 = l.getD k 0 := by
  rw [List.getD_eq_getElem?_getD, List.getElem?_append_left h, List.getD_eq_getElem?_getD]
theorem getD_right (l r : List Int) (k : Nat) : (l ++ r).getD (l.length + k) 0 = r.getD k 0 := by
  rw [List.getD_eq_getElem?_getD, List.getElem?_append_right (by omega), List.getD_eq_getElem?_getD, Nat.add_sub_cancel_left]
theorem cn_app (l r : List Int) (h : Int) : ∀ n, cn (l ++ r) h (l.length + n) = cn l h l.length + cn r h n
  | 0 => by rw [Nat.add_zero, cn, Nat.add_zero]; exact cn_congr h _ fun k hk => getD_left l r k hk
  | n + 1 => by rw [← Nat.add_assoc, cn, cn_app l r h n, getD_right, cn, Nat.add_assoc]
theorem okT_app (l r : List Int) : ∀ n, okT (l ++ r) (l.length + n) = (okT l l.length && okT r n)
  | 0 => by rw [Nat.add_zero, okT, Bool.and_true]; exact okT_congr _ fun k hk => getD_left l r k hk
  | n + 1 => by rw [← Nat.add_assoc, okT, okT_app l r n, getD_right, okT, Bool.and_assoc]
theorem cn_sum (l : List Int) : ∀ n, okT l n = true → cn l 1 n + cn l 2 n + cn l 3 n + cn l 4 n + cn l 5 n + cn l 6 n = n
  | 0, _ => rfl
  | n + 1, h => by
    rw [okT, Bool.and_eq_true, decide_eq_true_eq] at h
    have := cn_sum l n h.1
    have h2 := h.2
    simp only [cn]
    generalize l.getD n 0 = x at *
    rcases (show x = 1 ∨ x = 2 ∨ x = 3 ∨ x = 4 ∨ x = 5 ∨ x = 6 by omega) with rfl | rfl | rfl | rfl | rfl | rfl <;> simp <;> omega
/-- the heights of the first n draws of a seed -/
def hgL (seed : Nat) : Nat → List Int
  | 0 => []
  | n + 1 => hgL seed n ++ [((hgt (mixN seed n) : Nat) : Int)]
theorem hgL_len (s : Nat) : ∀ n, (hgL s n).length = n
  | 0 => rfl
  | n + 1 => by rw [hgL, List.length_append, hgL_len s n]; rfl
theorem hgL_at (s : Nat) : ∀ {n k : Nat}, k < n → (hgL s n).getD k 0 = ((hgt (mixN s k) : Nat) : Int)
  | 0, k, h => by omega
  | n + 1, k, h => by
    rw [hgL]
    by_cases e : k = n
    · subst e
      have := getD_right (hgL s k) [((hgt (mixN s k) : Nat) : Int)] 0
      rw [hgL_len, Nat.add_zero] at this
      rw [this]; rfl
    · rw [getD_left _ _ _ (by rw [hgL_len]; omega), hgL_at s (by omega)]
theorem hgL_take (s : Nat) {m n : Nat} (h : m ≤ n) : ∀ k, k < m → (hgL s m).getD k 0 = (hgL s n).getD k 0 := fun k hk => by
  rw [hgL_at s hk, hgL_at s (Nat.lt_of_lt_of_le hk h)]
end Dr
end Go.Proofs.YtfogcapgadfbfaaDoor
