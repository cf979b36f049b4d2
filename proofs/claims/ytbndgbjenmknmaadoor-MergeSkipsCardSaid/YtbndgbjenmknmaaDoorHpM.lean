/- Binary heaps in a row, as container/heap keeps them: sifting up and down, plain mathematics over a key. No program. -/
import Derived.Lib.Hide
namespace Go.Proofs.YtbndgbjenmknmaaDoor
set_option linter.unusedVariables false
set_option linter.unusedSimpArgs false
namespace Hp
variable {E : Type}
def sw (a : Nat → E) (i j : Nat) : Nat → E := fun k => if k = i then a j else if k = j then a i else a k
theorem sw_l (a : Nat → E) (i j : Nat) : sw a i j i = a j := if_pos rfl
theorem sw_r (a : Nat → E) (i j : Nat) : sw a i j j = a i := by
  unfold sw
  by_cases h : j = i
  · rw [if_pos h, h]
  · rw [if_neg h, if_pos rfl]
theorem sw_o (a : Nat → E) {i j k : Nat} (h1 : k ≠ i) (h2 : k ≠ j) : sw a i j k = a k := by
  unfold sw; rw [if_neg h1, if_neg h2]
/-- what lies in the first n places -/
def Mem (a : Nat → E) (n : Nat) (x : E) : Prop := ∃ k, k < n ∧ a k = x
theorem mem_sw {a : Nat → E} {n i j : Nat} (hi : i < n) (hj : j < n) (x : E) : Mem (sw a i j) n x ↔ Mem a n x := by
  constructor
  · rintro ⟨k, hk, rfl⟩
    by_cases h1 : k = i
    · subst h1; exact ⟨j, hj, (sw_l a k j).symm⟩
    · by_cases h2 : k = j
      · subst h2; exact ⟨i, hi, (sw_r a i k).symm⟩
      · exact ⟨k, hk, (sw_o a h1 h2).symm⟩
  · rintro ⟨k, hk, rfl⟩
    by_cases h1 : k = i
    · subst h1; exact ⟨j, hj, sw_r a k j⟩
    · by_cases h2 : k = j
      · subst h2; exact ⟨i, hi, sw_l a i k⟩
      · exact ⟨k, hk, sw_o a h1 h2⟩
/-- each thing once: told by a mark -/
def Once (m : E → Int) (a : Nat → E) (n : Nat) : Prop := ∀ i j, i < n → j < n → m (a i) = m (a j) → i = j
theorem once_sw {m : E → Int} {a : Nat → E} {n i j : Nat} (h : Once m a n) (hi : i < n) (hj : j < n) : Once m (sw a i j) n := by
  have key : ∀ k, k < n → ∃ q, q < n ∧ sw a i j k = a q ∧ (k = i → q = j) ∧ (k = j → q = i) ∧ (k ≠ i → k ≠ j → q = k) := fun k hk => by
    by_cases h1 : k = i
    · subst h1; exact ⟨j, hj, sw_l a k j, fun _ => rfl, fun e => e.symm, fun e => absurd rfl e⟩
    · by_cases h2 : k = j
      · subst h2; exact ⟨i, hi, sw_r a i k, fun e => absurd e h1, fun _ => rfl, fun _ e => absurd rfl e⟩
      · exact ⟨k, hk, sw_o a h1 h2, fun e => absurd e h1, fun e => absurd e h2, fun _ _ => rfl⟩
  intro p q hp hq he
  obtain ⟨p', hp', ep, p1, p2, p3⟩ := key p hp
  obtain ⟨q', hq', eq, q1, q2, q3⟩ := key q hq
  rw [ep, eq] at he
  have := h p' q' hp' hq' he
  by_cases a1 : p = i <;> by_cases a2 : p = j <;> by_cases b1 : q = i <;> by_cases b2 : q = j <;> simp_all
section
variable (f : E → Int)
def Ok (a : Nat → E) (n : Nat) : Prop := ∀ k, 0 < k → k < n → f (a ((k - 1) / 2)) ≤ f (a k)
/-- in order but for what lies at j, that may be too small -/
structure Up (a : Nat → E) (n j : Nat) : Prop where
  jn : j < n
  one : ∀ k, 0 < k → k < n → k ≠ j → f (a ((k - 1) / 2)) ≤ f (a k)
  two : 0 < j → ∀ k, 0 < k → k < n → (k - 1) / 2 = j → f (a ((j - 1) / 2)) ≤ f (a k)
theorem Up.done {a : Nat → E} {n j : Nat} (h : Up f a n j) (hj : j = 0 ∨ f (a ((j - 1) / 2)) ≤ f (a j)) : Ok f a n := fun k k0 kn => by
  by_cases e : k = j
  · subst e
    rcases hj with h0 | h0
    · omega
    · exact h0
  · exact h.one k k0 kn e
theorem Up.step {a : Nat → E} {n j : Nat} (h : Up f a n j) (j0 : 0 < j) (hl : f (a j) < f (a ((j - 1) / 2))) : Up f (sw a ((j - 1) / 2) j) n ((j - 1) / 2) := by
  have jn := h.jn
  have hij : (j - 1) / 2 < j := by omega
  refine ⟨by omega, fun k k0 kn hk => ?_, fun i0 k k0 kn hk => ?_⟩
  · by_cases e : k = j
    · subst e
      rw [sw_l, sw_r]; omega
    · by_cases e2 : (k - 1) / 2 = j
      · rw [e2, sw_r, sw_o a hk e]
        exact h.two j0 k k0 kn e2
      · by_cases e3 : (k - 1) / 2 = (j - 1) / 2
        · rw [e3, sw_l, sw_o a hk e]
          have := h.one k k0 kn e
          rw [e3] at this; omega
        · rw [sw_o a e3 e2, sw_o a hk e]
          exact h.one k k0 kn e
  · have hp : f (a (((j - 1) / 2 - 1) / 2)) ≤ f (a ((j - 1) / 2)) := h.one _ i0 (by omega) (by omega)
    rw [sw_o a (show ((j - 1) / 2 - 1) / 2 ≠ (j - 1) / 2 by omega) (show ((j - 1) / 2 - 1) / 2 ≠ j by omega)]
    by_cases e : k = j
    · subst e; rw [sw_r]; exact hp
    · rw [sw_o a (show k ≠ (j - 1) / 2 by omega) e]
      have := h.one k k0 kn e
      rw [hk] at this; omega
/-- in order but for what lies at i, that may be too great -/
structure Dn (a : Nat → E) (n i : Nat) : Prop where
  one : ∀ k, 0 < k → k < n → (k - 1) / 2 ≠ i → f (a ((k - 1) / 2)) ≤ f (a k)
  two : 0 < i → i < n → ∀ k, 0 < k → k < n → (k - 1) / 2 = i → f (a ((i - 1) / 2)) ≤ f (a k)
theorem Dn.done {a : Nat → E} {n i : Nat} (h : Dn f a n i) (hi : ∀ k, k < n → (k = 2 * i + 1 ∨ k = 2 * i + 2) → f (a i) ≤ f (a k)) : Ok f a n := fun k k0 kn => by
  by_cases e : (k - 1) / 2 = i
  · rw [e]; exact hi k kn (by omega)
  · exact h.one k k0 kn e
/-- j the lesser child of i -/
theorem Dn.step {a : Nat → E} {n i j : Nat} (h : Dn f a n i) (jn : j < n) (hj : j = 2 * i + 1 ∨ j = 2 * i + 2) (hl : f (a j) < f (a i)) (hc : ∀ k, k < n → (k = 2 * i + 1 ∨ k = 2 * i + 2) → f (a j) ≤ f (a k)) : Dn f (sw a i j) n j := by
  refine ⟨fun k k0 kn hk => ?_, fun j0 _ k k0 kn hk => ?_⟩
  · by_cases e : k = i
    · subst e
      have h2 := h.two k0 kn j (by omega) jn (by omega)
      rw [sw_l, sw_o a (show (k - 1) / 2 ≠ k by omega) (show (k - 1) / 2 ≠ j by omega)]
      exact h2
    · by_cases e2 : k = j
      · subst e2
        rw [show (k - 1) / 2 = i by omega, sw_l, sw_r]; omega
      · by_cases e3 : (k - 1) / 2 = i
        · rw [e3, sw_l, sw_o a e e2]
          exact hc k kn (by omega)
        · rw [sw_o a e3 hk, sw_o a e e2]
          exact h.one k k0 kn e3
  · rw [show (j - 1) / 2 = i by omega, sw_l, sw_o a (show k ≠ i by omega) (show k ≠ j by omega)]
    have := h.one k k0 kn (by omega)
    rw [hk] at this; exact this
/-- the least lies at the root -/
theorem Ok.root {a : Nat → E} {n : Nat} (h : Ok f a n) : ∀ k, k < n → f (a 0) ≤ f (a k) := by
  intro k
  induction k using Nat.strongRecOn with
  | _ k ih =>
    intro kn
    by_cases e : k = 0
    · subst e; exact Int.le_refl _
    · have h1 := ih ((k - 1) / 2) (by omega) (by omega)
      have h2 := h k (by omega) kn
      omega
theorem Ok.less {a : Nat → E} {n m : Nat} (h : Ok f a n) (hm : m ≤ n) : Ok f a m := fun k k0 km => h k k0 (by omega)
/-- one more at the end -/
theorem Ok.push {a : Nat → E} {n : Nat} (h : Ok f a n) : Up f a (n + 1) n :=
  ⟨Nat.lt_succ_self n, fun k k0 kn hk => h k k0 (by omega), fun n0 k k0 kn hk => by omega⟩
/-- the root exchanged with the last one -/
theorem Ok.pop {a : Nat → E} {n : Nat} (h : Ok f a (n + 1)) : Dn f (sw a 0 n) n 0 := by
  refine ⟨fun k k0 kn hk => ?_, fun i0 => absurd i0 (Nat.lt_irrefl 0)⟩
  rw [sw_o a hk (show (k - 1) / 2 ≠ n by omega), sw_o a (by omega) (by omega)]
  exact h k k0 (by omega)
end
end Hp
end Go.Proofs.YtbndgbjenmknmaaDoor
