/- Picks as mathematics: the thread that a pick chooses, and what the functions of package picks return. -/
import Derived.WalkKit
import Derived.ProofKit
namespace Go.Proofs.Ytnoggggbghkgkaa
set_option linter.unusedVariables false
set_option linter.unusedSimpArgs false
namespace Pk
/-- the error of 'fits' -/
def fitE (t n : Int) : Int := if t < 1 ∨ 64 < t ∨ n < 0 then 2 else if 65536 < n then 5 else 0
/-- the error of 'fitsThread' -/
def fitT (t h n : Int) : Int := if h < 0 ∨ t ≤ h then 2 else fitE t n
theorem tmod_mod (p t : Int) : p % t = (p.tmod t) % t := by
  have h1 := Int.mul_tdiv_add_tmod p t
  generalize p.tmod t = r at *
  generalize p.tdiv t = q at *
  rw [← h1, Int.add_comm (t * q), Int.add_mul_emod_self_left]
theorem tmod_neg {p t : Int} (ht : 0 < t) (h : p.tmod t < 0) : p.tmod t + t = p % t := by
  have h2 : -t < p.tmod t := Int.lt_tmod_of_pos p ht
  rw [tmod_mod p t]
  generalize p.tmod t = r at *
  rw [← Int.add_emod_right, Int.emod_eq_of_lt (by omega) (by omega)]
theorem tmod_pos {p t : Int} (ht : 0 < t) (h : 0 ≤ p.tmod t) : p.tmod t = p % t := by
  have h2 : p.tmod t < t := Int.tmod_lt_of_pos p ht
  rw [tmod_mod p t, Int.emod_eq_of_lt h h2]
theorem tmod_two {p t : Int} (ht : 0 < t) : (p.tmod t + t).tmod t = p % t := by
  have h2 : -t < p.tmod t := Int.lt_tmod_of_pos p ht
  rw [Int.tmod_eq_emod_of_nonneg (by omega), Int.add_emod_right]
  rcases Int.lt_or_le (p.tmod t) 0 with h | h
  · rw [← tmod_neg ht h, ← Int.add_emod_right (p.tmod t), Int.emod_eq_of_lt (by omega) (by omega)]
  · rw [tmod_pos ht h, Int.emod_emod_of_dvd _ (Int.dvd_refl t)]
/-- the thread that a pick chooses -/
def chF (t : Nat) (p : Int) : Fin 64 := Fin.ofNat 64 (p % (t : Int)).toNat
theorem chF_val {t : Nat} (h1 : 1 ≤ t) (h2 : t ≤ 64) (p : Int) : ((chF t p).val : Int) = p % (t : Int) := by
  have a := Int.emod_nonneg p (show (t : Int) ≠ 0 by omega)
  have b := Int.emod_lt_of_pos p (show (0 : Int) < t by omega)
  show (((p % (t : Int)).toNat % 64 : Nat) : Int) = _
  rw [Nat.mod_eq_of_lt (by omega)]
  omega
theorem ch_lt {t : Nat} (h1 : 1 ≤ t) (p : Int) : 0 ≤ p % (t : Int) ∧ p % (t : Int) < t := ⟨Int.emod_nonneg p (by omega), Int.emod_lt_of_pos p (by omega)⟩
/-- the threads that picks choose -/
def chL (t : Nat) (l : List Int) : List (Fin 64) := l.map (chF t)
def lst (l : List (Fin 64)) : List Int := l.map fun x => (x.val : Int)
theorem lst_snoc (l : List (Fin 64)) (x : Fin 64) : lst (l ++ [x]) = lst l ++ [(x.val : Int)] := by simp [lst]
theorem lst_len (l : List (Fin 64)) : (lst l).length = l.length := by simp [lst]
theorem chL_len (t : Nat) (l : List Int) : (chL t l).length = l.length := by simp [chL]
/-- the threads that picks choose, as numbers -/
def chI (t : Nat) (l : List Int) : List Int := l.map fun p => p % (t : Int)
theorem lst_chL {t : Nat} (h1 : 1 ≤ t) (h2 : t ≤ 64) (l : List Int) : lst (chL t l) = chI t l := by
  simp only [lst, chL, chI, List.map_map]
  apply List.map_congr_left
  intro p _
  exact chF_val h1 h2 p
/-- how often a thread is among those chosen -/
def cntF (l : List (Fin 64)) (k : Nat) : Nat := l.countP fun x => x.val == k
theorem cntF_snoc (l : List (Fin 64)) (x : Fin 64) (k : Nat) : cntF (l ++ [x]) k = cntF l k + if x.val = k then 1 else 0 := by
  simp [cntF, List.countP_append, List.countP_cons]
theorem cntF_le (l : List (Fin 64)) (k : Nat) : cntF l k ≤ l.length := List.countP_le_length
/-- the greatest number of elements in a row that are not h, and the number of those at the end -/
def gapF (h : Int) : List (Fin 64) → Nat × Nat := List.foldl (fun s x => if (x.val : Int) = h then (s.1, 0) else (max s.1 (s.2 + 1), s.2 + 1)) (0, 0)
theorem gapF_snoc (h : Int) (l : List (Fin 64)) (x : Fin 64) : gapF h (l ++ [x]) = if (x.val : Int) = h then ((gapF h l).1, 0) else (max (gapF h l).1 ((gapF h l).2 + 1), (gapF h l).2 + 1) := by
  simp [gapF, List.foldl_append]
theorem gap_fold (h : Int) : ∀ (l : List (Fin 64)) (s : Nat × Nat), (l.foldl (fun s x => if (x.val : Int) = h then (s.1, 0) else (max s.1 (s.2 + 1), s.2 + 1)) s).1 ≤ max s.1 (s.2 + l.length) ∧ (l.foldl (fun s x => if (x.val : Int) = h then (s.1, 0) else (max s.1 (s.2 + 1), s.2 + 1)) s).2 ≤ s.2 + l.length
  | [], s => by simp; omega
  | x :: l, s => by
    rw [List.foldl_cons]
    have ih := gap_fold h l (if (x.val : Int) = h then (s.1, 0) else (max s.1 (s.2 + 1), s.2 + 1))
    rw [List.length_cons]
    split at ih
    · rename_i e; simp only [if_pos e] at *; omega
    · rename_i e; simp only [if_neg e] at *; omega
theorem gapF_le (h : Int) (l : List (Fin 64)) : (gapF h l).1 ≤ l.length ∧ (gapF h l).2 ≤ l.length := by
  have := gap_fold h l (0, 0)
  simp only [gapF]
  omega
end Pk
end Go.Proofs.Ytnoggggbghkgkaa
