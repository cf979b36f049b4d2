/- The towers of a memory as mathematics: the node behind a node, the list of a domain value, its equations. No conditions besides those of each lemma. -/
import Derived.Test.YtjcbjbhlclajnaaLyP
import Derived.Test.YtjcbjbhlclajnaaWdM
namespace Go.Proofs.Ytjcbjbhlclajnaa
set_option linter.unusedVariables false
set_option linter.unusedSimpArgs false
namespace Tw
open Wd
open Ly (Ge tot pk pW nxO wdO ad tg gs InT)
/-- the height of a tower, 0 if there is none -/
def hgt (g : Ge) (x : Int) : Nat := if pk g.t x 6 < 6 then pk g.t x 6 + 1 else 0
theorem hgt_le (g : Ge) (x : Int) : hgt g x ≤ 6 := by unfold hgt; split <;> omega
theorem hgt_pos {g : Ge} {x : Int} (h : 0 < hgt g x) : 1 ≤ x ∧ x ≤ (tot g.t 6 : Nat) := by
  unfold hgt at h
  split at h
  · next h6 =>
    have h1 := Ly.pk_lt g.t 6 (Nat.le_refl _) h6
    have h2 := Ly.tot_le g.t h6
    omega
  · omega
/-- the next word of a node -/
def nxV (g : Ge) (M : Wm) (r u : Int) : Int := match nxO g r u with | some a => M.get (a : Nat) | none => 0
def nxE (g : Ge) (r u : Int) : Int := if (nxO g r u).isSome then 0 else 3
/-- the node behind a node -/
def af (g : Ge) (M : Wm) (r u : Int) : Int := if nxV g M r u ≤ (tot g.t 6 : Nat) then nxV g M r u else 0
theorem af_bd {g : Ge} {M : Wm} (hb : BdW M.W) (r u : Int) : 0 ≤ af g M r u ∧ af g M r u ≤ (tot g.t 6 : Nat) := by
  have h0 : 0 ≤ nxV g M r u := by
    unfold nxV
    split
    · exact (Wm.get_bd hb _).1
    · exact Int.le_refl _
  unfold af
  split
  · omega
  · omega
/-- the towers behind r, as long as they are new ones -/
def lsW (g : Ge) (M : Wm) (u : Int) : Nat → List Int → Int → List Int
  | 0, _, _ => []
  | n + 1, s, r => if (hgt g (af g M r u) : Int) ≤ u ∨ af g M r u ∈ s then [] else af g M r u :: lsW g M u n (s ++ [af g M r u]) (af g M r u)
/-- the list of a domain value -/
def ls (g : Ge) (M : Wm) (v u : Int) : List Int := lsW g M u (tot g.t 6 + 1) [] (-1 - v)
/-- a list of different numbers from 1 to n is no longer than n -/
theorem nodup_len : ∀ (n : Nat) (l : List Int), l.Nodup → (∀ x, x ∈ l → 1 ≤ x ∧ x ≤ (n : Int)) → l.length ≤ n
  | 0, l, _, h => by
    cases l with
    | nil => exact Nat.le_refl _
    | cons x l => have := h x (List.mem_cons_self ..); omega
  | n + 1, l, hd, h => by
    have h1 := nodup_len n (l.erase ((n + 1 : Nat) : Int)) (hd.erase _) fun x hx => by
      have h2 := h x (List.mem_of_mem_erase hx)
      have h3 : x ≠ ((n + 1 : Nat) : Int) := fun e => by subst e; exact absurd hx (List.Nodup.not_mem_erase hd)
      omega
    have h2 : l.length ≤ (l.erase ((n + 1 : Nat) : Int)).length + 1 := by
      rw [List.length_erase]
      split
      · omega
      · omega
    omega
/-- what the walk of a list keeps: the towers so far, the last node, what is still to come -/
structure Li (g : Ge) (M : Wm) (u : Int) (xs pre : List Int) (at_ : Int) (k : Nat) : Prop where
  e : xs = pre ++ lsW g M u k pre at_
  n : k + pre.length = tot g.t 6 + 1
  d : pre.Nodup
  b : ∀ x, x ∈ pre → 1 ≤ x ∧ x ≤ (tot g.t 6 : Nat)
theorem Li.start (g : Ge) (M : Wm) (v u : Int) : Li g M u (ls g M v u) [] (-1 - v) (tot g.t 6 + 1) := ⟨rfl, rfl, List.nodup_nil, fun x h => by cases h⟩
section
variable {g : Ge} {M : Wm} {u : Int} {xs pre : List Int} {at_ : Int} {k : Nat}
theorem Li.len (h : Li g M u xs pre at_ k) : pre.length ≤ tot g.t 6 := nodup_len _ _ h.d h.b
theorem Li.stop (h : Li g M u xs pre at_ k) (hs : (hgt g (af g M at_ u) : Int) ≤ u ∨ af g M at_ u ∈ pre) : xs = pre := by
  have hl := h.len
  have hn := h.n
  have he := h.e
  obtain ⟨j, rfl⟩ : ∃ j, k = j + 1 := ⟨k - 1, by omega⟩
  rw [lsW, if_pos hs, List.append_nil] at he
  exact he
theorem Li.go (h : Li g M u xs pre at_ k) (h0 : 0 ≤ u) (h1 : ¬ (hgt g (af g M at_ u) : Int) ≤ u) (h2 : af g M at_ u ∉ pre) : pre ++ [af g M at_ u] <+: xs ∧ ∃ j, k = j + 1 ∧ Li g M u xs (pre ++ [af g M at_ u]) (af g M at_ u) j := by
  have hl := h.len
  have hn := h.n
  have he := h.e
  obtain ⟨j, rfl⟩ : ∃ j, k = j + 1 := ⟨k - 1, by omega⟩
  rw [lsW, if_neg (fun hh => hh.elim h1 h2)] at he
  have he' : xs = (pre ++ [af g M at_ u]) ++ lsW g M u j (pre ++ [af g M at_ u]) (af g M at_ u) := by rw [he]; simp
  refine ⟨⟨_, he'.symm⟩, j, rfl, he', ?_, ?_, ?_⟩
  · rw [List.length_append, List.length_singleton]; omega
  · rw [List.nodup_append]
    refine ⟨h.d, by simp, fun a ha b hb => ?_⟩
    simp at hb
    subst hb
    exact fun e => h2 (e ▸ ha)
  · intro x hx
    rcases List.mem_append.1 hx with hx | hx
    · exact h.b x hx
    · simp at hx
      subst hx
      exact hgt_pos (by omega)
end
theorem lsW_mem (g : Ge) (M : Wm) (u : Int) (h0 : 0 ≤ u) : ∀ (n : Nat) (s : List Int) (r x : Int), x ∈ lsW g M u n s r → u < (hgt g x : Int)
  | 0, s, r, x, h => by simp [lsW] at h
  | n + 1, s, r, x, h => by
    rw [lsW] at h
    split at h
    · simp at h
    · next hh =>
      rcases List.mem_cons.1 h with e | h
      · subst e
        have := fun q => hh (.inl q)
        omega
      · exact lsW_mem g M u h0 n _ _ x h
theorem ls_mem {g : Ge} {M : Wm} {v u x : Int} (h0 : 0 ≤ u) (h : x ∈ ls g M v u) : u < (hgt g x : Int) ∧ 1 ≤ x ∧ x ≤ (tot g.t 6 : Nat) := by
  have h1 := lsW_mem g M u h0 _ _ _ x h
  exact ⟨h1, hgt_pos (by omega)⟩
theorem lsW_len (g : Ge) (M : Wm) (u : Int) : ∀ (n : Nat) (s : List Int) (r : Int), (lsW g M u n s r).length ≤ n
  | 0, s, r => Nat.le_refl _
  | n + 1, s, r => by
    rw [lsW]
    split
    · exact Nat.zero_le _
    · have := lsW_len g M u n (s ++ [af g M r u]) (af g M r u)
      rw [List.length_cons]; omega
theorem ls_len (g : Ge) (M : Wm) (v u : Int) : (ls g M v u).length ≤ tot g.t 6 + 1 := lsW_len ..
end Tw
end Go.Proofs.Ytjcbjbhlclajnaa
