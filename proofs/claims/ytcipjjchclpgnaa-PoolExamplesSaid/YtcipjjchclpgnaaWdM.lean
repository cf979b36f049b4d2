/- The memory of layer 8 as mathematics: accesses, what a call makes of the words and the log, what a log leads to. No conditions. -/
import Derived.Test.YtcipjjchclpgnaaWdN
namespace Go.Proofs.Ytcipjjchclpgnaa
set_option linter.unusedVariables false
set_option linter.unusedSimpArgs false
set_option maxRecDepth 100000
namespace Wd
/-- an access -/
structure Ac where
  t : Int
  a : Int
  k : Int
  o : Int
  n : Int
  s : Bool
deriving DecidableEq
/-- a memory: words and log -/
structure Wm where
  W : List Int
  L : List Ac
/-- a deed -/
structure Dd where
  d : Int
  t : Int
  a : Int
  o : Int
  v : Int
def BdW (l : List Int) : Prop := ∀ x, x ∈ l → 0 ≤ x ∧ x ≤ 18446744073709551615
namespace Wm
def err (M : Wm) (t a : Int) : Int := if 0 ≤ t ∧ t < 64 then (if 0 ≤ a ∧ a < M.W.length then 0 else 3) else 2
def get (M : Wm) (a : Int) : Int := M.W.getD a.toNat 0
def put (M : Wm) (t a k n : Int) (s : Bool) : Wm := ⟨M.W.set a.toNat n, M.L ++ [⟨t, a, k, M.get a, n, s⟩]⟩
def load (M : Wm) (t a : Int) : Wm := M.put t a 1 (M.get a) false
def stor (M : Wm) (t a v : Int) : Wm := M.put t a 2 v false
def sum (M : Wm) (a d : Int) : Int := (M.get a + d) % 18446744073709551616
def addw (M : Wm) (t a d : Int) : Wm := M.put t a 3 (M.sum a d) false
def cas (M : Wm) (t a o v : Int) : Wm := if M.get a = o then M.put t a 4 v true else M.put t a 4 (M.get a) false
def after (M : Wm) (e : Int) (N : Wm) : Wm := if e = 0 then N else M
/-- what a deed makes of a memory -/
def deed (M : Wm) (x : Dd) : Wm :=
  if x.d % 5 = 0 then M.load x.t x.a else if x.d % 5 = 1 then M.stor x.t x.a x.v else if x.d % 5 = 2 then M.addw x.t x.a x.v else if x.d % 5 = 3 then M.cas x.t x.a x.o x.v else M
theorem after_zero (M N : Wm) : M.after 0 N = N := if_pos rfl
theorem after_ne {M N : Wm} {e : Int} (h : e ≠ 0) : M.after e N = M := if_neg h
theorem get_in {M : Wm} {i : Nat} (h : i < M.W.length) : M.W[i]? = some (M.get (i : Nat)) := by
  unfold get
  rw [Int.toNat_natCast, List.getD_eq_getElem?_getD, List.getElem?_eq_getElem h]; rfl
theorem set_get (M : Wm) (a : Int) : M.W.set a.toNat (M.get a) = M.W := by
  apply List.ext_getElem?
  intro i
  rw [List.getElem?_set]
  split
  · rename_i h
    subst h
    split
    · rename_i h
      rw [get, List.getD_eq_getElem?_getD, List.getElem?_eq_getElem h]; rfl
    · rename_i h
      rw [List.getElem?_eq_none (by omega)]
  · rfl
theorem get_bd {M : Wm} (h : BdW M.W) (a : Int) : 0 ≤ M.get a ∧ M.get a ≤ 18446744073709551615 := by
  unfold get
  rw [List.getD_eq_getElem?_getD]
  by_cases hi : a.toNat < M.W.length
  · rw [List.getElem?_eq_getElem hi]
    exact h _ (List.getElem_mem hi)
  · rw [List.getElem?_eq_none (by omega)]
    exact ⟨Int.le_refl _, by simp⟩
theorem bd_set {W : List Int} (h : BdW W) (i : Nat) {x : Int} (h0 : 0 ≤ x) (h1 : x ≤ 18446744073709551615) : BdW (W.set i x) := fun y hy => by
  rcases List.mem_or_eq_of_mem_set hy with h2 | h2
  · exact h y h2
  · subst h2; exact ⟨h0, h1⟩
theorem bd_put {M : Wm} (h : BdW M.W) (t a k : Int) {n : Int} (s : Bool) (h0 : 0 ≤ n) (h1 : n ≤ 18446744073709551615) : BdW (M.put t a k n s).W := bd_set h _ h0 h1
theorem len_put (M : Wm) (t a k n : Int) (s : Bool) : (M.put t a k n s).W.length = M.W.length := by simp [put]
theorem sum_bd (M : Wm) (a d : Int) : 0 ≤ M.sum a d ∧ M.sum a d ≤ 18446744073709551615 := by unfold sum; omega
theorem sum_back {M : Wm} (h : BdW M.W) (a : Int) {d : Int} (d0 : 0 ≤ d) (d1 : d ≤ 18446744073709551615) : (M.sum a d - d) % 18446744073709551616 = M.get a := by
  have := get_bd h a
  unfold sum
  omega
theorem err_zero {M : Wm} {t a : Int} (h : M.err t a = 0) : 0 ≤ t ∧ t < 64 ∧ 0 ≤ a ∧ a < M.W.length := by
  unfold err at h
  split at h
  · split at h
    · rename_i h1 h2; exact ⟨h1.1, h1.2, h2.1, h2.2⟩
    · cases h
  · cases h
theorem err_ok {M : Wm} {t a : Int} (h1 : 0 ≤ t) (h2 : t < 64) (h3 : 0 ≤ a) (h4 : a < M.W.length) : M.err t a = 0 := by
  unfold err; rw [if_pos ⟨h1, h2⟩, if_pos ⟨h3, h4⟩]
theorem err_cases (M : Wm) (t a : Int) : (¬ (0 ≤ t ∧ t < 64) ∧ M.err t a = 2) ∨ ((0 ≤ t ∧ t < 64) ∧ ¬ (0 ≤ a ∧ a < M.W.length) ∧ M.err t a = 3) ∨ (∃ i : Nat, (0 ≤ t ∧ t < 64) ∧ a = (i : Int) ∧ i < M.W.length ∧ M.err t a = 0) := by
  by_cases h1 : 0 ≤ t ∧ t < 64
  · by_cases h2 : 0 ≤ a ∧ a < M.W.length
    · right; right
      exact ⟨a.toNat, h1, by omega, by omega, by unfold err; rw [if_pos h1, if_pos h2]⟩
    · right; left; exact ⟨h1, h2, by unfold err; rw [if_pos h1, if_neg h2]⟩
  · left; exact ⟨h1, by unfold err; rw [if_neg h1]⟩
end Wm
/-- an access that is possible when the words are W -/
def ok (W : List Int) (x : Ac) : Prop :=
  (0 ≤ x.t ∧ x.t < 64) ∧ (0 ≤ x.a ∧ x.a < W.length) ∧ x.o = W.getD x.a.toNat 0 ∧
    ((x.k = 1 ∧ x.n = x.o ∧ x.s = false) ∨ ((x.k = 2 ∨ x.k = 3) ∧ x.s = false) ∨ (x.k = 4 ∧ (x.s = true ∨ x.n = x.o)))
instance (W : List Int) (x : Ac) : Decidable (ok W x) := by unfold ok; exact inferInstance
/-- what accesses make of the words -/
def lead (W : List Int) (l : List Ac) : List Int := l.foldl (fun W x => W.set x.a.toNat x.n) W
theorem lead_nil (W : List Int) : lead W [] = W := rfl
theorem lead_snoc (W : List Int) (l : List Ac) (x : Ac) : lead W (l ++ [x]) = (lead W l).set x.a.toNat x.n := by simp [lead]
theorem lead_len (W : List Int) : ∀ l : List Ac, (lead W l).length = W.length := fun l => by
  induction l generalizing W with
  | nil => rfl
  | cons x l ih => show (lead (W.set x.a.toNat x.n) l).length = _; rw [ih]; simp
/-- the result of a replay: its words, the number of accesses or the index of the first that is not possible, the error -/
def scan : List Int → List Ac → Nat → Option (List Int) × Nat
  | W, [], i => (some W, i)
  | W, x :: l, i => if ok W x then scan (W.set x.a.toNat x.n) l (i + 1) else (none, i)
theorem scan_ok {W : List Int} {x : Ac} {l : List Ac} {i : Nat} (h : ok W x) : scan W (x :: l) i = scan (W.set x.a.toNat x.n) l (i + 1) := by simp only [scan]; exact if_pos h
theorem scan_bad {W : List Int} {x : Ac} {l : List Ac} {i : Nat} (h : ¬ ok W x) : scan W (x :: l) i = (none, i) := by simp only [scan]; exact if_neg h
/-- a log that the words W lead to: every access possible where it is made -/
def Good (W : List Int) (l : List Ac) : Prop := ∀ i x, l[i]? = some x → ok (lead W (l.take i)) x
theorem Good.snoc {W : List Int} {l : List Ac} {x : Ac} (h : Good W l) (hx : ok (lead W l) x) : Good W (l ++ [x]) := fun i y hy => by
  by_cases hi : i < l.length
  · rw [List.getElem?_append_left hi] at hy
    rw [List.take_append_of_le_length (by omega)]
    exact h i y hy
  · have hlen := (List.getElem?_eq_some_iff.1 hy).1
    simp at hlen
    obtain rfl : i = l.length := by omega
    simp at hy
    subst hy
    rw [List.take_left]
    exact hx
theorem scan_good : ∀ (l : List Ac) (W : List Int) (i : Nat), Good W l → scan W l i = (some (lead W l), i + l.length)
  | [], W, i, h => rfl
  | x :: l, W, i, h => by
    rw [scan_ok (show ok W x from h 0 x rfl), scan_good l (W.set x.a.toNat x.n) (i + 1) (fun j y hy => h (j + 1) y hy)]
    simp [lead]; omega
/-- a log whose access k is not possible -/
theorem scan_spoilt : ∀ (l : List Ac) (W : List Int) (i k : Nat), (∀ j x, j < k → l[j]? = some x → ok (lead W (l.take j)) x) → (∀ x, l[k]? = some x → ¬ ok (lead W (l.take k)) x) → k < l.length → scan W l i = (none, i + k)
  | [], W, i, k, h, hk, hl => absurd hl (Nat.not_lt_zero _)
  | x :: l, W, i, 0, h, hk, hl => scan_bad (show ¬ ok W x from hk x rfl)
  | x :: l, W, i, k + 1, h, hk, hl => by
    rw [scan_ok (show ok W x from h 0 x (Nat.succ_pos _) rfl), scan_spoilt l (W.set x.a.toNat x.n) (i + 1) k (fun j y hj hy => h (j + 1) y (by omega) hy) (fun y hy => hk y hy) (by simpa using hl)]
    congr 1; omega
end Wd
end Go.Proofs.Ytcipjjchclpgnaa
