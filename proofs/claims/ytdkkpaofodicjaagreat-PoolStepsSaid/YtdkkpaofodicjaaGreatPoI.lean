/- A new store holds the stacks of all towers, as mathematics. Conditions: a layout's bounds. (Made ahead in round 13.) -/
import Derived.Test.YtdkkpaofodicjaaGreatPoM
import Derived.Test.YtdkkpaofodicjaaGreatLyI
namespace Go.Proofs.YtdkkpaofodicjaaGreat
set_option linter.unusedVariables false
set_option linter.unusedSimpArgs false
namespace Po
open Wd
open Ly (Ge tot pP pK pW pk)
/-- the heights of towers, from 0 on -/
def htG (g : Ge) (t : Nat) : Nat := pk g.t (t : Int) 6
/-- the towers of the height h, in ascending order -/
def stk0 (g : Ge) (h : Nat) : List Nat := List.range' (1 + tot g.t h) (g.t h)
theorem ch_range (f : Nat → Int) : ∀ (m s : Nat), (∀ j, j < m → f (s + j) = if j + 1 < m then ((s + j + 1 : Nat) : Int) else 0) → Ch f (List.range' s m)
  | 0, s, _ => trivial
  | m + 1, s, h => by
    rw [List.range'_succ]
    refine ⟨?_, ch_range f m (s + 1) fun j hj => ?_⟩
    · have h0 := h 0 (by omega)
      rw [Nat.add_zero] at h0
      rw [h0]
      cases m with
      | zero => simp [List.range']
      | succ m => rw [if_pos (by omega), List.range'_succ]; rfl
    · have h1 := h (j + 1) (by omega)
      rw [show s + 1 + j = s + (j + 1) by omega, h1]
      by_cases e : j + 1 < m
      · rw [if_pos (by omega), if_pos e]
      · rw [if_neg (by omega), if_neg e]
theorem exists_h (t : Nat → Nat) : ∀ (n k : Nat), k < tot t n → ∃ j, j < n ∧ tot t j ≤ k ∧ k < tot t j + t j
  | 0, k, h => by simp [tot] at h
  | n + 1, k, h => by
    rw [tot] at h
    by_cases hk : k < tot t n
    · obtain ⟨j, h1, h2, h3⟩ := exists_h t n k hk
      exact ⟨j, by omega, h2, h3⟩
    · exact ⟨n, by omega, by omega, h⟩
theorem ht_of (g : Ge) {j k : Nat} (hj : j < 6) (h0 : tot g.t j ≤ k) (h1 : k < tot g.t j + g.t j) : htG g (k + 1) = j := Ly.pk_of g.t 6 hj (by constructor <;> omega)
theorem mem_range (g : Ge) {h x : Nat} : x ∈ stk0 g h ↔ 1 + tot g.t h ≤ x ∧ x < 1 + tot g.t h + g.t h := by
  unfold stk0
  rw [List.mem_range'_1]
theorem pK_pP (g : Ge) : pK g = pP g + 6 := by unfold pK pP; omega
theorem pKn (g : Ge) : pK g + tot g.t 6 ≤ pW g := by
  unfold pW Ly.pT pK
  omega
theorem ini_get (g : Ge) {a : Nat} (h : a < pW g) : (⟨Ly.ini g, []⟩ : Wm).get (a : Nat) = Ly.st g 6 (tot g.t 6) a := by
  rw [get_nat]
  unfold Ly.ini
  rw [List.getD_eq_getElem?_getD, List.getElem?_map, List.getElem?_range h]
  rfl
/-- the pools of a new store -/
theorem in_start (g : Ge) (ok : g.ok) : In (pP g) (tot g.t 6) (htG g) ⟨⟨Ly.ini g, []⟩, fun _ => false, fun _ => false, fun _ => 0⟩ (stk0 g) (fun _ => 0) := by
  have hkp := pK_pP g
  have hkn := pKn g
  have hPh : ∀ h, h < 6 → (⟨Ly.ini g, []⟩ : Wm).get (hA (pP g) h) = ((Ly.po g h : Nat) : Int) := fun h hh => by
    unfold hA
    rw [ini_get g (by omega)]
    unfold Ly.st
    rw [if_pos ⟨by omega, by omega⟩, if_pos (by omega), show pP g + h - pP g = h by omega]
  have hPl : ∀ k, k < tot g.t 6 → (⟨Ly.ini g, []⟩ : Wm).get (lA (pP g) (k + 1)) = ((Ly.nx g k : Nat) : Int) := fun k hk => by
    unfold lA
    rw [ini_get g (by omega)]
    unfold Ly.st
    rw [if_neg (by omega), if_pos ⟨by omega, by omega⟩, if_pos (by omega), show pP g + 5 + (k + 1) - pK g = k by omega]
  have htl : ∀ h, h < 6 → tot g.t h + g.t h ≤ tot g.t 6 := fun h hh => Ly.tot_le g.t hh
  refine ⟨by show pP g + 6 + tot g.t 6 ≤ (Ly.ini g).length; rw [Ly.ini_len]; omega, ok.tt, fun h hh => ?_, fun h hh => ?_, fun t t1 t2 => ?_, fun h hh t ht => ?_, fun h hh => List.nodup_range' .., fun t t1 t2 => ?_⟩
  · show (⟨Ly.ini g, []⟩ : Wm).get (hA (pP g) h) = _
    rw [hPh h hh]
    unfold Ly.po wd stk0
    cases e : g.t h with
    | zero => simp [List.range']
    | succ m => rw [if_pos (by omega), List.range'_succ]; simp
  · refine ch_range _ _ _ fun j hj => ?_
    have hk := htl h hh
    show (⟨Ly.ini g, []⟩ : Wm).get (lA (pP g) (1 + tot g.t h + j)) = _
    rw [show 1 + tot g.t h + j = (tot g.t h + j) + 1 by omega, hPl _ (by omega)]
    by_cases e : j + 1 < g.t h
    · rw [if_pos e, Ly.nx_in g hh (by omega) (by omega)]
    · rw [if_neg e, Ly.nx_last g hh (by omega) (by omega)]; rfl
  · obtain ⟨k, rfl⟩ : ∃ k, t = k + 1 := ⟨t - 1, by omega⟩
    refine ⟨Ly.nx g k, hPl k (by omega), ?_⟩
    obtain ⟨j, h1, h2, h3⟩ := exists_h g.t 6 k (by omega)
    have := htl j h1
    by_cases e : k + 1 < tot g.t j + g.t j
    · rw [Ly.nx_in g h1 h2 e]; omega
    · rw [Ly.nx_last g h1 h2 (by omega)]; omega
  · obtain ⟨h1, h2⟩ := (mem_range g).1 ht
    have := htl h hh
    obtain ⟨k, rfl⟩ : ∃ k, t = k + 1 := ⟨t - 1, by omega⟩
    exact ⟨by omega, by omega, ht_of g hh (by omega) (by omega)⟩
  · obtain ⟨k, rfl⟩ : ∃ k, t = k + 1 := ⟨t - 1, by omega⟩
    obtain ⟨j, h1, h2, h3⟩ := exists_h g.t 6 k (by omega)
    have e := ht_of g h1 h2 h3
    rw [e]
    exact ⟨h1, ⟨fun hx => (by cases hx), fun hx => absurd ((mem_range g).2 ⟨by omega, by omega⟩) hx⟩⟩
theorem all_start (g : Ge) (ok : g.ok) : All (pP g) (tot g.t 6) (htG g) ⟨⟨Ly.ini g, []⟩, fun _ => false, fun _ => false, fun _ => 0⟩ (stk0 g) (fun _ => 0) (fun _ => none) 0 :=
  ⟨in_start g ok, fun i r h => (by cases h), fun i j r s h => (by cases h), fun t h => (by cases h), fun _ => Nat.le_refl _⟩
end Po
end Go.Proofs.YtdkkpaofodicjaaGreat
