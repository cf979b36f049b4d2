/- The words of a new store, as mathematics: what each pool and each link says, and the state of a store whose words are being laid. -/
import Derived.Test.YtjcbjbhlclajnaaLyG
namespace Go.Proofs.Ytjcbjbhlclajnaa
set_option linter.unusedVariables false
set_option linter.unusedSimpArgs false
set_option maxRecDepth 100000
namespace Ly
/-- the first tower of a height -/
def po (g : Ge) (i : Nat) : Nat := if 0 < g.t i then 1 + tot g.t i else 0
/-- the link of the tower y + 1 -/
def nx (g : Ge) (y : Nat) : Nat := if ∃ i, i < 6 ∧ tot g.t i ≤ y ∧ y + 1 < tot g.t i + g.t i then y + 2 else 0
/-- the words while the pools below j and the links below m are laid -/
def st (g : Ge) (j m : Nat) (a : Nat) : Int :=
  if pP g ≤ a ∧ a < pP g + 6 then (if a - pP g < j then ((po g (a - pP g) : Nat) : Int) else 0)
  else if pK g ≤ a ∧ a < pK g + tot g.t 6 then (if a - pK g < m then ((nx g (a - pK g) : Nat) : Int) else 0) else 0
/-- the words of a new store -/
def ini (g : Ge) : List Int := (List.range (pW g)).map (st g 6 (tot g.t 6))
def updN (p : Nat → Int) (i : Nat) (v : Int) : Nat → Int := fun j => if j = i then v else p j
theorem map_upd (p : Nat → Int) (n i : Nat) (v : Int) : ((List.range n).map p).set i v = (List.range n).map (updN p i v) := by
  apply List.ext_getElem?
  intro k
  rw [List.getElem?_set]
  by_cases h : i = k
  · subst h
    by_cases hk : i < n
    · simp [hk, updN]
    · simp [hk]
  · rw [if_neg h]
    by_cases hk : k < n
    · simp [hk, updN, Ne.symm h]
    · simp [hk]
theorem nx_in (g : Ge) {i y : Nat} (hi : i < 6) (h0 : tot g.t i ≤ y) (h1 : y + 1 < tot g.t i + g.t i) : nx g y = y + 2 := if_pos ⟨i, hi, h0, h1⟩
theorem nx_last (g : Ge) {i y : Nat} (hi : i < 6) (h0 : tot g.t i ≤ y) (h1 : y + 1 = tot g.t i + g.t i) : nx g y = 0 := by
  rw [nx, if_neg]
  rintro ⟨k, hk, a, b⟩
  rcases Nat.lt_trichotomy i k with h | h | h
  · have := tot_le g.t h; omega
  · subst h; omega
  · have := tot_le g.t h; omega
theorem st_zero (g : Ge) : st g 0 0 = fun _ => 0 := by
  funext a
  unfold st
  split
  · rw [if_neg (by omega)]
  · split
    · rw [if_neg (by omega)]
    · rfl
theorem st_pool (g : Ge) {j m : Nat} (hj : j < 6) : updN (st g j m) (pP g + j) ((po g j : Nat) : Int) = st g (j + 1) m := by
  funext a
  unfold updN st
  by_cases h : a = pP g + j
  · subst h
    rw [if_pos rfl, if_pos (by omega), if_pos (by omega), show pP g + j - pP g = j by omega]
  · rw [if_neg h]
    by_cases h1 : pP g ≤ a ∧ a < pP g + 6
    · rw [if_pos h1, if_pos h1]
      by_cases h2 : a - pP g < j
      · rw [if_pos h2, if_pos (by omega)]
      · rw [if_neg h2, if_neg (by omega)]
    · rw [if_neg h1, if_neg h1]
theorem st_skip (g : Ge) {j : Nat} (m : Nat) (h0 : g.t j = 0) : st g (j + 1) m = st g j m := by
  funext a
  unfold st
  by_cases h1 : pP g ≤ a ∧ a < pP g + 6
  · rw [if_pos h1, if_pos h1]
    by_cases h2 : a - pP g < j
    · rw [if_pos h2, if_pos (by omega)]
    · rw [if_neg h2]
      by_cases h3 : a - pP g < j + 1
      · rw [if_pos h3, show a - pP g = j by omega, po, h0]; rfl
      · rw [if_neg h3]
  · rw [if_neg h1, if_neg h1]
theorem st_link (g : Ge) {j m : Nat} (hm : m < tot g.t 6) : updN (st g j m) (pK g + m) ((nx g m : Nat) : Int) = st g j (m + 1) := by
  funext a
  have hpk : pK g = pP g + 6 := by unfold pK pP; omega
  unfold updN st
  by_cases h : a = pK g + m
  · subst h
    rw [if_pos rfl, if_neg (by omega), if_pos (by omega), if_pos (by omega), show pK g + m - pK g = m by omega]
  · rw [if_neg h]
    by_cases h1 : pP g ≤ a ∧ a < pP g + 6
    · rw [if_pos h1, if_pos h1]
    · rw [if_neg h1, if_neg h1]
      by_cases h2 : pK g ≤ a ∧ a < pK g + tot g.t 6
      · rw [if_pos h2, if_pos h2]
        by_cases h3 : a - pK g < m
        · rw [if_pos h3, if_pos (by omega)]
        · rw [if_neg h3, if_neg (by omega)]
      · rw [if_neg h2, if_neg h2]
/-- a link that says nothing needs no store -/
theorem st_none (g : Ge) {j m : Nat} (h : nx g m = 0) : st g j (m + 1) = st g j m := by
  funext a
  unfold st
  by_cases h1 : pP g ≤ a ∧ a < pP g + 6
  · rw [if_pos h1, if_pos h1]
  · rw [if_neg h1, if_neg h1]
    by_cases h2 : pK g ≤ a ∧ a < pK g + tot g.t 6
    · rw [if_pos h2, if_pos h2]
      by_cases h3 : a - pK g < m
      · rw [if_pos h3, if_pos (by omega)]
      · rw [if_neg h3]
        by_cases h4 : a - pK g < m + 1
        · rw [if_pos h4, show a - pK g = m by omega, h]; rfl
        · rw [if_neg h4]
    · rw [if_neg h2, if_neg h2]
/-- the words while the towers above t are laid, from the last to the first -/
def sr (g : Ge) (t : Nat) (a : Nat) : Int :=
  if pP g ≤ a ∧ a < pP g + 6 then (if max t (tot g.t (a - pP g)) < tot g.t (a - pP g) + g.t (a - pP g) then ((max t (tot g.t (a - pP g)) + 1 : Nat) : Int) else 0)
  else if pK g ≤ a ∧ a < pK g + tot g.t 6 then (if t ≤ a - pK g then ((nx g (a - pK g) : Nat) : Int) else 0) else 0
theorem sr_top (g : Ge) : sr g (tot g.t 6) = fun _ => 0 := by
  funext a
  unfold sr
  split
  · rename_i h
    rw [if_neg]
    have := tot_le g.t (i := a - pP g) (j := 6) (by omega)
    omega
  · split
    · rw [if_neg (by omega)]
    · rfl
theorem sr_end (g : Ge) : sr g 0 = st g 6 (tot g.t 6) := by
  funext a
  unfold sr st
  by_cases h1 : pP g ≤ a ∧ a < pP g + 6
  · rw [if_pos h1, if_pos h1, if_pos (show a - pP g < 6 by omega), po, Nat.zero_max]
    by_cases h2 : 0 < g.t (a - pP g)
    · rw [if_pos (show tot g.t (a - pP g) < tot g.t (a - pP g) + g.t (a - pP g) by omega), if_pos h2, Nat.add_comm]
    · rw [if_neg (show ¬ tot g.t (a - pP g) < tot g.t (a - pP g) + g.t (a - pP g) by omega), if_neg h2]; rfl
  · rw [if_neg h1, if_neg h1]
    by_cases h2 : pK g ≤ a ∧ a < pK g + tot g.t 6
    · rw [if_pos h2, if_pos h2, if_pos (Nat.zero_le _), if_pos (by omega)]
    · rw [if_neg h2, if_neg h2]
/-- what the pool of the tower t + 1 says before that tower is laid: the next one of its height -/
theorem sr_read (g : Ge) {i t : Nat} (hi : i < 6) (h0 : tot g.t i ≤ t) (h1 : t < tot g.t i + g.t i) : sr g (t + 1) (pP g + i) = ((nx g t : Nat) : Int) := by
  unfold sr
  rw [if_pos (by omega), show pP g + i - pP g = i by omega, show max (t + 1) (tot g.t i) = t + 1 by omega]
  by_cases h2 : t + 1 < tot g.t i + g.t i
  · rw [if_pos h2, nx_in g hi h0 h2]
  · rw [if_neg h2, nx_last g hi h0 (by omega)]; rfl
theorem sr_step (g : Ge) {i t : Nat} (hi : i < 6) (h0 : tot g.t i ≤ t) (h1 : t < tot g.t i + g.t i) :
    updN (updN (sr g (t + 1)) (pK g + t) ((nx g t : Nat) : Int)) (pP g + i) ((t + 1 : Nat) : Int) = sr g t := by
  funext a
  have hpk : pK g = pP g + 6 := by unfold pK pP; omega
  have h6 := tot_le g.t hi
  unfold updN sr
  by_cases h : a = pP g + i
  · subst h
    rw [if_pos rfl, if_pos (by omega), show pP g + i - pP g = i by omega, show max t (tot g.t i) = t by omega, if_pos h1]
  · rw [if_neg h]
    by_cases h2 : a = pK g + t
    · subst h2
      rw [if_pos rfl, if_neg (by omega), if_pos (by omega), show pK g + t - pK g = t by omega, if_pos (Nat.le_refl _)]
    · rw [if_neg h2]
      by_cases h3 : pP g ≤ a ∧ a < pP g + 6
      · rw [if_pos h3, if_pos h3]
        have hne : a - pP g ≠ i := by omega
        generalize a - pP g = k at hne
        rcases Nat.lt_or_gt_of_ne hne with hk | hk
        · have := tot_le g.t hk
          rw [if_neg (by omega), if_neg (by omega)]
        · have := tot_le g.t hk
          rw [show max (t + 1) (tot g.t k) = max t (tot g.t k) by omega]
      · rw [if_neg h3, if_neg h3]
        by_cases h4 : pK g ≤ a ∧ a < pK g + tot g.t 6
        · rw [if_pos h4, if_pos h4]
          by_cases h5 : t ≤ a - pK g
          · rw [if_pos h5, if_pos (by omega)]
          · rw [if_neg h5, if_neg (by omega)]
        · rw [if_neg h4, if_neg h4]
theorem st_bd (g : Ge) (ok : g.ok) (j m a : Nat) : 0 ≤ st g j m a ∧ st g j m a ≤ 1100 := by
  have tt := ok.tt
  unfold st
  split
  · split
    · rename_i h1 h2
      have := tot_le g.t (i := a - pP g) (j := 6) (by omega)
      unfold po
      split <;> omega
    · omega
  · split
    · split
      · unfold nx
        split <;> omega
      · omega
    · omega
theorem sr_bd (g : Ge) (ok : g.ok) (t a : Nat) : 0 ≤ sr g t a ∧ sr g t a ≤ 1100 := by
  have tt := ok.tt
  unfold sr
  split
  · rename_i h
    have := tot_le g.t (i := a - pP g) (j := 6) (by omega)
    split <;> omega
  · split
    · split
      · unfold nx
        split <;> omega
      · omega
    · omega
theorem ini_len (g : Ge) : (ini g).length = pW g := by simp [ini]
end Ly
end Go.Proofs.Ytjcbjbhlclajnaa
