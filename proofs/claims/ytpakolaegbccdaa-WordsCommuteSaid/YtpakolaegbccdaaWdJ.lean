/- Two accesses to different addresses, in either order. No conditions. -/
import Derived.Test.YtpakolaegbccdaaWdF
namespace Go.Proofs.Ytpakolaegbccdaa
open Go.RowKit Go.Sort
set_option linter.unusedVariables false
set_option linter.unusedSimpArgs false
namespace Wd
/-- what a deed does to a word g: its kind, the new word, whether it swapped -/
def eff (g : Int) (x : Dd) : Option (Int × Int × Bool) :=
  if x.d % 5 = 0 then some (1, g, false) else if x.d % 5 = 1 then some (2, x.v, false) else if x.d % 5 = 2 then some (3, (g + x.v) % 18446744073709551616, false)
  else if x.d % 5 = 3 then (if g = x.o then some (4, x.v, true) else some (4, g, false)) else none
def Wm.puts (M : Wm) (x : Dd) : Option (Int × Int × Bool) → Wm
  | none => M
  | some (k, n, s) => M.put x.t x.a k n s
theorem deed_eff (M : Wm) (x : Dd) : M.deed x = M.puts x (eff (M.get x.a) x) := by
  unfold Wm.deed eff
  by_cases c0 : x.d % 5 = 0
  · rw [if_pos c0, if_pos c0]; rfl
  rw [if_neg c0, if_neg c0]
  by_cases c1 : x.d % 5 = 1
  · rw [if_pos c1, if_pos c1]; rfl
  rw [if_neg c1, if_neg c1]
  by_cases c2 : x.d % 5 = 2
  · rw [if_pos c2, if_pos c2]; rfl
  rw [if_neg c2, if_neg c2]
  by_cases c3 : x.d % 5 = 3
  · rw [if_pos c3, if_pos c3, Wm.cas]
    by_cases e : M.get x.a = x.o
    · rw [if_pos e, if_pos e]; rfl
    · rw [if_neg e, if_neg e]; rfl
  · rw [if_neg c3, if_neg c3]; rfl
theorem get_other {M : Wm} {t a k n b : Int} {s : Bool} (h : a.toNat ≠ b.toNat) : (M.put t a k n s).get b = M.get b := by
  unfold Wm.get Wm.put
  rw [List.getD_eq_getElem?_getD, List.getElem?_set_ne h, List.getD_eq_getElem?_getD]
/-- the two logs: the same accesses the other way round, or fewer than two -/
def Swap (L L' : List Ac) : Prop := L.length = L'.length ∧ (L.length < 2 ∨ ∃ X Y, L = [X, Y] ∧ L' = [Y, X])
theorem comm (W : List Int) (x y : Dd) (h : x.a.toNat ≠ y.a.toNat) : (((⟨W, []⟩ : Wm).deed x).deed y).W = (((⟨W, []⟩ : Wm).deed y).deed x).W ∧ Swap (((⟨W, []⟩ : Wm).deed x).deed y).L (((⟨W, []⟩ : Wm).deed y).deed x).L := by
  rw [deed_eff, deed_eff, deed_eff ((⟨W, []⟩ : Wm).deed y) x, deed_eff (⟨W, []⟩ : Wm) y]
  rcases hx : eff ((⟨W, []⟩ : Wm).get x.a) x with _ | ⟨k, n, s⟩
  · simp only [Wm.puts]
    rcases hy : eff ((⟨W, []⟩ : Wm).get y.a) y with _ | ⟨k', n', s'⟩
    · simp only [Wm.puts, hx]; exact ⟨trivial, rfl, .inl (by simp)⟩
    · simp only [Wm.puts]
      rw [get_other (fun e => h e.symm), hx]
      exact ⟨rfl, rfl, .inl (by simp [Wm.put])⟩
  · simp only [Wm.puts]
    rw [get_other h]
    rcases hy : eff ((⟨W, []⟩ : Wm).get y.a) y with _ | ⟨k', n', s'⟩
    · simp only [Wm.puts, hx]; exact ⟨trivial, rfl, .inl (by simp [Wm.put])⟩
    · simp only [Wm.puts]
      rw [get_other (fun e => h e.symm), hx]
      refine ⟨?_, rfl, .inr ⟨⟨x.t, x.a, k, (⟨W, []⟩ : Wm).get x.a, n, s⟩, ⟨y.t, y.a, k', (⟨W, []⟩ : Wm).get y.a, n', s'⟩, ?_, ?_⟩⟩
      · show (W.set x.a.toNat n).set y.a.toNat n' = (W.set y.a.toNat n').set x.a.toNat n
        rw [List.set_comm _ _ h]
      · simp only [Wm.put, List.nil_append, List.cons_append]
        congr 3
        exact get_other (M := ⟨W, []⟩) (s := s) (k := k) (n := n) (t := x.t) h
      · simp only [Wm.put, List.nil_append, List.cons_append]
        congr 3
        exact get_other (M := ⟨W, []⟩) (s := s') (k := k') (n := n') (t := y.t) (fun e => h e.symm)
theorem run_two (W : List Int) (x y : Dd) : runM W [x, y] = ((⟨W, []⟩ : Wm).deed (nrm W.length x)).deed (nrm W.length y) := rfl
theorem comm_run (W : List Int) (x y : Dd) (h0 : 0 < W.length) (h : x.a % (W.length : Int) ≠ y.a % (W.length : Int)) : (runM W [x, y]).W = (runM W [y, x]).W ∧ Swap (runM W [x, y]).L (runM W [y, x]).L := by
  rw [run_two, run_two]
  refine comm W _ _ ?_
  show (x.a % (W.length : Int)).toNat ≠ (y.a % (W.length : Int)).toNat
  have h1 := Int.emod_nonneg x.a (show (W.length : Int) ≠ 0 by omega)
  have h2 := Int.emod_nonneg y.a (show (W.length : Int) ≠ 0 by omega)
  omega
theorem next_mod {n : Nat} (a : Int) (h : 2 ≤ n) : (a % (n : Int) + 1) % (n : Int) ≠ a % (n : Int) := by
  have h1 := Int.emod_nonneg a (show (n : Int) ≠ 0 by omega)
  have h2 := Int.emod_lt_of_pos a (show (0 : Int) < n by omega)
  by_cases e : a % (n : Int) + 1 = n
  · rw [e, Int.emod_self]; omega
  · rw [Int.emod_eq_of_lt (by omega) (by omega)]; omega
end Wd
end Go.Proofs.Ytpakolaegbccdaa
