/- Changes as they lie in memory (Rc) and as plans (Cg): the bridge. No program beside the definitions. -/
import Derived.Test.YtbdllakbkienoaaPlI
import Derived.Test.YtbdllakbkienoaaPlA
namespace Go.Proofs.Ytbdllakbkienoaa
set_option linter.unusedVariables false
set_option linter.unusedSimpArgs false
namespace Pl
open Om (getL setL outL Asc)
def canon (x : Rc) : Cg := ⟨x.k, if x.w = true then some x.o else none, if x.i = true then some x.n else none⟩
def rawC (c : Cg) : Rc := ⟨c.k, c.b.isSome, c.b.getD 0, c.a.isSome, c.a.getD 0⟩
theorem canon_raw (c : Cg) : canon (rawC c) = c := by
  obtain ⟨k, b, a⟩ := c
  cases b <;> cases a <;> simp [canon, rawC]
theorem raw_canon {x : Rc} (h : okR x) : rawC (canon x) = x := by
  obtain ⟨k, w, o, i, n⟩ := x
  obtain ⟨h1, h2, h3⟩ := h
  cases w <;> cases i <;> simp_all [canon, rawC]
theorem okR_raw {c : Cg} : okR (rawC c) ↔ (c.b ≠ none ∨ c.a ≠ none) := by
  obtain ⟨k, b, a⟩ := c
  cases b <;> cases a <;> simp [okR, rawC]
theorem canon_real {x : Rc} (h : okR x) : (canon x).b ≠ none ∨ (canon x).a ≠ none := okR_raw.1 (by rw [raw_canon h]; exact h)
theorem asc_step {l : List Cg} : AscC l ↔ ∀ (j : Nat) x y, l[j]? = some x → l[j + 1]? = some y → x.k < y.k := by
  constructor
  · intro h j x y hx hy
    obtain ⟨h1, e1⟩ := List.getElem?_eq_some_iff.1 hx
    obtain ⟨h2, e2⟩ := List.getElem?_eq_some_iff.1 hy
    have := List.pairwise_iff_getElem.1 h j (j + 1) h1 h2 (by omega)
    rw [e1, e2] at this
    exact this
  · intro h
    refine List.pairwise_iff_getElem.2 fun i j hi hj hij => ?_
    obtain ⟨t, rfl⟩ : ∃ t, j = i + 1 + t := ⟨j - (i + 1), by omega⟩
    clear hij
    induction t with
    | zero => exact h i _ _ (List.getElem?_eq_getElem hi) (List.getElem?_eq_getElem hj)
    | succ t ih =>
      have h1 := ih (by omega)
      have h2 := h (i + 1 + t) _ _ (List.getElem?_eq_getElem (by omega)) (List.getElem?_eq_getElem hj)
      omega
theorem chk_asc {l : List Rc} (h : chk l) : AscC (l.map canon) := asc_step.2 fun j x y hx hy => by
  rw [List.getElem?_map] at hx hy
  obtain ⟨x', hx', rfl⟩ := Option.map_eq_some_iff.1 hx
  obtain ⟨y', hy', rfl⟩ := Option.map_eq_some_iff.1 hy
  exact h.2 j x' y' hx' hy'
theorem chk_real {l : List Rc} (h : chk l) : Real (l.map canon) := fun c hc => by
  obtain ⟨x, hx, rfl⟩ := List.mem_map.1 hc
  exact canon_real (h.1 x hx)
theorem chk_raw {l : List Rc} (h : chk l) : (l.map canon).map rawC = l := by
  rw [List.map_map]
  exact (List.map_congr_left (g := id) fun x hx => raw_canon (h.1 x hx)).trans (List.map_id l)
theorem raw_chk {L : List Cg} (ha : AscC L) (hr : Real L) : chk (L.map rawC) := by
  refine ⟨fun x hx => ?_, fun j x y hx hy => ?_⟩
  · obtain ⟨c, hc, rfl⟩ := List.mem_map.1 hx
    exact okR_raw.2 (hr c hc)
  · rw [List.getElem?_map] at hx hy
    obtain ⟨x', hx', rfl⟩ := Option.map_eq_some_iff.1 hx
    obtain ⟨y', hy', rfl⟩ := Option.map_eq_some_iff.1 hy
    exact asc_step.1 ha j x' y' hx' hy'
theorem canon_raws (L : List Cg) : (L.map rawC).map canon = L := by
  rw [List.map_map]
  exact (List.map_congr_left (g := id) fun x _ => canon_raw x).trans (List.map_id L)
theorem fit1_iff {p : List Om.Pr} {x : Rc} (h : okR x) : fit1 p x ↔ getL p (canon x).k = (canon x).b := by
  obtain ⟨k, w, o, i, n⟩ := x
  obtain ⟨h1, h2, h3⟩ := h
  unfold fit1
  show ((getL p k).getD 0 = o ∧ (getL p k).isSome = w) ↔ getL p k = if w = true then some o else none
  cases w <;> cases hg : getL p k <;> simp_all
theorem fits_iff {p : List Om.Pr} {l : List Rc} (h : chk l) : (∀ x, x ∈ l → fit1 p x) ↔ fits p (l.map canon) := by
  constructor
  · intro hf c hc
    obtain ⟨x, hx, rfl⟩ := List.mem_map.1 hc
    exact (fit1_iff (h.1 x hx)).1 (hf x hx)
  · intro hf x hx
    exact (fit1_iff (h.1 x hx)).2 (hf _ (List.mem_map_of_mem hx))
theorem put1_eq (p : List Om.Pr) (x : Rc) : put1R p x = put1 p (canon x) := by
  unfold put1R put1 canon
  cases x.i <;> rfl
theorem app_eq (p : List Om.Pr) (l : List Rc) : appR p l = appL p (l.map canon) := by
  unfold appR appL
  rw [List.foldl_map]
  congr 1
  funext p x
  exact put1_eq p x
theorem rev_eq {x : Rc} (h : okR x) : canon (revR x) = (canon x).rev := rfl
theorem revs_eq (l : List Rc) : (l.map revR).map canon = inv (l.map canon) := by
  unfold inv
  rw [List.map_map, List.map_map]
  rfl
theorem revs_raw {l : List Rc} (h : chk l) : l.map revR = (inv (l.map canon)).map rawC := by
  rw [← revs_eq]
  refine (chk_raw ⟨fun x hx => ?_, fun j x y hx hy => ?_⟩).symm
  · obtain ⟨z, hz, rfl⟩ := List.mem_map.1 hx
    obtain ⟨h1, h2, h3⟩ := h.1 z hz
    exact ⟨h1.symm, h3, h2⟩
  · rw [List.getElem?_map] at hx hy
    obtain ⟨x', hx', rfl⟩ := Option.map_eq_some_iff.1 hx
    obtain ⟨y', hy', rfl⟩ := Option.map_eq_some_iff.1 hy
    exact h.2 j x' y' hx' hy'
theorem btw_eq (f g : Int → Option Int) (ks : List Int) : btw f g ks = (plan ks f g).map rawC := by
  unfold btw plan
  rw [List.map_map]
  rfl
theorem fnd_eq : ∀ (l : List Rc) (k : Int), (fnd l k).map canon = getC (l.map canon) k
  | [], k => rfl
  | x :: l, k => by
    show ((x :: l).find? _).map canon = getC (canon x :: l.map canon) k
    rw [getC_cons, List.find?_cons]
    by_cases e : x.k = k
    · rw [if_pos (show (canon x).k = k from e)]; simp [e]
    · rw [if_neg (show ¬ (canon x).k = k from e), ← fnd_eq l k]; simp [e, fnd]
theorem kys_eq (l : List Rc) : kys l = keysC (l.map canon) := by
  unfold kys keysC
  rw [List.map_map]
  rfl
/-- how the births, deaths and swaps count -/
theorem cnt_all (l : List Rc) : cnt isB l + cnt isG l + cnt isS l = l.length := by
  induction l with
  | nil => rfl
  | cons x l ih =>
    unfold cnt at ih ⊢
    obtain ⟨k, w, o, i, n⟩ := x
    cases w <;> cases i <;> simp [isB, isG, isS] at ih ⊢ <;> omega
end Pl
end Go.Proofs.Ytbdllakbkienoaa
