/- Maps from keys to domain values, their least keys, images and sets: plain mathematics. No program. -/
import Derived.WalkKit
import Derived.ProofKit
namespace Go.Proofs.Ytcipjjchclpgnaa
set_option linter.unusedVariables false
set_option linter.unusedSimpArgs false
set_option maxRecDepth 100000
namespace Dm
/-! ### cuts -/
def upTo (l : List Int) (i : Nat) : Prop := ∀ j, j < i → 0 < j → l.getD (j - 1) 0 < l.getD j 0
instance (l : List Int) (i : Nat) : Decidable (upTo l i) := inferInstanceAs (Decidable (∀ j, j < i → 0 < j → l.getD (j - 1) 0 < l.getD j 0))
theorem upTo_one (l : List Int) : upTo l 1 := fun j h1 h2 => by omega
theorem upTo_succ {l : List Int} {i : Nat} (h : upTo l i) (hi : l.getD (i - 1) 0 < l.getD i 0) : upTo l (i + 1) := fun j h1 h2 => by
  by_cases hj : j < i
  · exact h j hj h2
  · obtain rfl : j = i := by omega
    exact hi
theorem upTo_not {l : List Int} {i n : Nat} (hn : i < n) (h0 : 0 < i) (hi : ¬ l.getD (i - 1) 0 < l.getD i 0) : ¬ upTo l n := fun h => hi (h i hn h0)
theorem upTo_lt {l : List Int} {n : Nat} (h : upTo l n) : ∀ (i j : Nat), i < j → j < n → l.getD i 0 < l.getD j 0
  | i, 0, h1, h2 => by omega
  | i, j + 1, h1, h2 => by
    have h3 := h (j + 1) h2 (by omega)
    rw [Nat.add_sub_cancel] at h3
    by_cases hij : i = j
    · subst hij; exact h3
    · have := upTo_lt h i j (by omega) (by omega)
      omega
def okC (l : List Int) : Bool := decide (1 ≤ l.length ∧ l.length ≤ 63 ∧ l.getD 0 0 ≠ 0 ∧ upTo l l.length)
theorem okC_iff {l : List Int} : okC l = true ↔ 1 ≤ l.length ∧ l.length ≤ 63 ∧ l.getD 0 0 ≠ 0 ∧ upTo l l.length := decide_eq_true_iff
theorem okC_not {l : List Int} (h : ¬ (1 ≤ l.length ∧ l.length ≤ 63 ∧ l.getD 0 0 ≠ 0 ∧ upTo l l.length)) : okC l = false := decide_eq_false h

/-! ### maps -/
def dmB (k n : Int) (l : List Int) : Bool :=
  if k = 1 then decide (n = 0 ∧ l.length = 0) else if k = 2 then decide (1 ≤ n ∧ n ≤ 64 ∧ l.length = 0) else if k = 3 then decide (n = 0) && okC l else false
def dmE (k n : Int) (l : List Int) : Int := if dmB k n l = true then 0 else 2
def dmN (k n : Int) (l : List Int) : Int := if dmB k n l = true then if k = 2 then n else if k = 3 then (l.length : Int) + 1 else 1 else 0
/-- how many of the first i cuts are at most the key -/
def cnt (l : List Int) (key : Int) : Nat → Nat
  | 0 => 0
  | i + 1 => cnt l key i + if l.getD i 0 ≤ key then 1 else 0
def dmV (k n : Int) (l : List Int) (key : Int) : Int := if dmB k n l = true then if k = 2 then key % n else if k = 3 then (cnt l key l.length : Int) else 0 else 0
theorem cnt_le (l : List Int) (key : Int) : ∀ i, cnt l key i ≤ i
  | 0 => Nat.le_refl _
  | i + 1 => by have := cnt_le l key i; unfold cnt; split <;> omega
/-- the count in a rising list: the cuts at most the key are the first ones -/
theorem cnt_up {l : List Int} {key : Int} : ∀ {n : Nat}, upTo l n → (∀ j, j < n → (l.getD j 0 ≤ key ↔ j < cnt l key n))
  | 0, _, j, h => by omega
  | n + 1, hu, j, hj => by
    have hu' : upTo l n := fun i h1 h2 => hu i (by omega) h2
    have ih := cnt_up (key := key) hu'
    have hle := cnt_le l key n
    show _ ↔ j < cnt l key n + _
    by_cases hn : l.getD n 0 ≤ key
    · have hall : cnt l key n = n := by
        by_cases h0 : n = 0
        · subst h0; rfl
        · have h1 := (ih (n - 1) (by omega)).1 (by have := upTo_lt hu (n - 1) n (by omega) (by omega); omega)
          omega
      rw [if_pos hn, hall]
      constructor
      · intro _; omega
      · intro _
        by_cases hjn : j = n
        · subst hjn; exact hn
        · exact (ih j (by omega)).2 (by omega)
    · rw [if_neg hn]
      by_cases hjn : j = n
      · subst hjn
        constructor
        · intro h; exact absurd h hn
        · intro h; omega
      · exact ih j (by omega)

/-! ### least keys -/
def most : Int := 18446744073709551615
def lsM (n v from' : Int) : Option Int := if from' + (v - from') % n ≤ 18446744073709551615 then some (from' + (v - from') % n) else none
def lsC (l : List Int) (v from' : Int) : Option Int :=
  let x := if 0 < v then max from' (l.getD (v.toNat - 1) 0) else from'
  if v < l.length ∧ l.getD v.toNat 0 ≤ x then none else some x
def lsB (k n : Int) (l : List Int) (v : Int) : Bool := decide (0 ≤ v ∧ v < dmN k n l)
def lsE (k n : Int) (l : List Int) (v : Int) : Int := if dmB k n l = true then if lsB k n l v = true then 0 else 3 else 2
def dmL (k n : Int) (l : List Int) (v from' : Int) : Option Int :=
  if dmB k n l = true then if lsB k n l v = true then if k = 3 then lsC l v from' else lsM (dmN k n l) v from' else none else none
/-- the key after t steps has the value exactly if t is congruent to v - from -/
theorem mod_at {n v f t : Int} (hn : 0 < n) (h0 : 0 ≤ v) (h1 : v < n) (ht : 0 ≤ t) (ht1 : t < n) : (f + t) % n = v ↔ t = (v - f) % n := by
  constructor
  · intro h
    rw [← h]
    have e : ((f + t) % n - f) % n = t % n := by
      rw [Int.sub_emod, Int.emod_emod_of_dvd _ (Int.dvd_refl n), ← Int.sub_emod]
      congr 1; omega
    rw [e, Int.emod_eq_of_lt ht ht1]
  · intro h
    rw [h]
    have e : (f + (v - f) % n) % n = v % n := by
      rw [Int.add_emod, Int.emod_emod_of_dvd _ (Int.dvd_refl n), ← Int.add_emod]
      congr 1; omega
    rw [e, Int.emod_eq_of_lt h0 h1]

/-! ### sets of values -/
def img (p : Nat → Bool) : Nat → Nat
  | 0 => 0
  | n + 1 => if p n = true then img p n ||| 2 ^ n else img p n
theorem img_bit (p : Nat → Bool) : ∀ (n i : Nat), (img p n).testBit i = (decide (i < n) && p i)
  | 0, i => by simp [img]
  | n + 1, i => by
    have ih := img_bit p n i
    unfold img
    by_cases hp : p n = true
    · rw [if_pos hp, Nat.testBit_or, ih, Nat.testBit_two_pow]
      by_cases hi : n = i
      · subst hi; simp [hp]
      · have e : decide (i < n + 1) = decide (i < n) := by congr 1; apply propext; omega
        rw [decide_eq_false hi, e]; simp
    · rw [if_neg hp, ih]
      by_cases hi : n = i
      · subst hi; simp [hp]
      · have e : decide (i < n + 1) = decide (i < n) := by congr 1; apply propext; omega
        rw [e]
theorem img_lt (p : Nat → Bool) (n : Nat) : img p n < 2 ^ n := Nat.lt_pow_two_of_testBit _ fun i hi => by
  rw [img_bit, decide_eq_false (by omega)]; rfl
theorem img_congr {p q : Nat → Bool} {n : Nat} (h : ∀ i, i < n → p i = q i) : img p n = img q n := Nat.eq_of_testBit_eq fun i => by
  rw [img_bit, img_bit]
  by_cases hi : i < n
  · rw [h i hi]
  · simp [hi]
theorem img_all {n : Nat} : img (fun _ => true) n = 2 ^ n - 1 := Nat.eq_of_testBit_eq fun i => by
  rw [img_bit, Nat.testBit_two_pow_sub_one]; simp
/-- a set is the image of its bits -/
theorem img_of (S n : Nat) (h : S < 2 ^ n) : img (fun i => S.testBit i) n = S := Nat.eq_of_testBit_eq fun i => by
  rw [img_bit]
  by_cases hi : i < n
  · simp [hi]
  · rw [decide_eq_false hi, Bool.false_and]
    exact (Nat.testBit_lt_two_pow (Nat.lt_of_lt_of_le h (Nat.pow_le_pow_right (by omega) (by omega)))).symm
theorem one_bit (S n : Nat) : S &&& 2 ^ n = if S.testBit n = true then 2 ^ n else 0 := Nat.eq_of_testBit_eq fun i => by
  rw [Nat.testBit_and, Nat.testBit_two_pow]
  by_cases hi : n = i
  · subst hi
    cases h : S.testBit n <;> simp [h, Nat.testBit_two_pow]
  · rw [decide_eq_false hi, Bool.and_false]
    split
    · rw [Nat.testBit_two_pow, decide_eq_false hi]
    · simp
theorem p64 {n : Nat} (h : n < 64) : 2 ^ n < 18446744073709551616 := (Nat.pow_lt_pow_right (a := 2) (by omega) h : 2 ^ n < 2 ^ 64)
theorem img64 (p : Nat → Bool) {n : Nat} (h : n ≤ 64) : img p n < 18446744073709551616 := Nat.lt_of_lt_of_le (img_lt p n) ((Nat.pow_le_pow_right (n := 2) (by omega) h : 2 ^ n ≤ 2 ^ 64))

/-! ### the image of a range -/
def lsAt (k n : Int) (l : List Int) (lo hi : Int) (i : Nat) : Bool := match dmL k n l i lo with | some x => decide (x ≤ hi) | none => false
def imB (k n : Int) (l : List Int) (lo hi : Int) : Bool := dmB k n l && decide (lo ≤ hi)
def imV (k n : Int) (l : List Int) (lo hi : Int) : Nat := if imB k n l lo hi = true then img (lsAt k n l lo hi) (dmN k n l).toNat else 0
def imE (k n : Int) (l : List Int) (lo hi : Int) : Int := if dmB k n l = true then if lo ≤ hi then 0 else 13 else 2
def alV (k n : Int) (l : List Int) : Nat := if dmB k n l = true then img (fun _ => true) (dmN k n l).toNat else 0
theorem dmN_64 {k n : Int} {l : List Int} : 0 ≤ dmN k n l ∧ dmN k n l ≤ 64 := by
  unfold dmN
  split
  · rename_i h
    unfold dmB at h
    repeat' split
    all_goals simp_all [okC_iff] <;> omega
  · omega
theorem dmN_pos {k n : Int} {l : List Int} (h : dmB k n l = true) : 1 ≤ dmN k n l := by
  unfold dmN
  rw [if_pos h]
  unfold dmB at h
  repeat' split
  all_goals simp_all <;> omega
end Dm
end Go.Proofs.Ytcipjjchclpgnaa
