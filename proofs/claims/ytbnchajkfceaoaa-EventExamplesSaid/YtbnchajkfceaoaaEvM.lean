/- Histories of events as mathematics: when a list is well formed, its sections and waits, and what is so of prefixes and of one thread. -/
import Derived.WalkKit
import Derived.ProofKit
namespace Go.Proofs.Ytbnchajkfceaoaa
set_option linter.unusedVariables false
set_option linter.unusedSimpArgs false
namespace Ev
/-- an event: step, thread, kind, value -/
structure E where
  s : Int
  t : Int
  k : Int
  v : Int
deriving DecidableEq
/-- a section or a wait: thread, value, its first step, its last step (-1: none) -/
structure I where
  t : Int
  v : Int
  a : Int
  b : Int
deriving DecidableEq
/-- the kind and the value of the last event of a thread -/
def lastE (t : Int) (l : List E) : Int × Int := l.foldl (fun p e => if e.t = t then (e.k, e.v) else p) (0, 0)
theorem lastE_snoc (t : Int) (l : List E) (e : E) : lastE t (l ++ [e]) = if e.t = t then (e.k, e.v) else lastE t l := by
  simp [lastE]
def rangeB (e : E) : Bool := decide (0 ≤ e.s) && (decide (0 ≤ e.t) && (decide (e.t < 64) && (decide (1 ≤ e.k) && decide (e.k ≤ 4))))
def stepB (p e : E) : Bool := decide (p.s < e.s) || (decide (e.s = p.s) && (decide (p.k = 3) && (decide (e.k = 4) && decide (e.t = p.t))))
def allowB (i : Int × Int) (e : E) : Bool :=
  if e.k = 1 then decide (i.1 ≠ 1) && (decide (i.1 ≠ 3) && decide (e.v < 64))
  else if e.k = 2 then decide (i.1 = 1) && decide (e.v = i.2)
  else if e.k = 3 then decide (i.1 ≠ 1) && (decide (i.1 ≠ 3) && decide (e.v ≠ 0))
  else decide (i.1 = 3) && decide (e.v = i.2)
def prevB (l : List E) (e : E) : Bool := match l.getLast? with | some p => stepB p e | none => true
/-- an event violates no condition behind the events l -/
def goodB (l : List E) (e : E) : Bool := rangeB e && (prevB l e && allowB (lastE e.t l) e)
def e0 : E := ⟨0, 0, 0, 0⟩
/-- the first event that violates a condition -/
def chk (l : List E) : Option Nat := (List.range l.length).find? fun i => !goodB (l.take i) (l.getD i e0)
/-- well formed -/
def WF (l : List E) : Prop := ∀ i, i < l.length → goodB (l.take i) (l.getD i e0) = true
theorem chk_none {l : List E} : chk l = none ↔ WF l := by
  unfold chk WF
  rw [List.find?_eq_none]
  simp
theorem chk_some {l : List E} {i : Nat} (h : i < l.length) (h0 : ∀ j, j < i → goodB (l.take j) (l.getD j e0) = true) (h1 : goodB (l.take i) (l.getD i e0) = false) : chk l = some i := by
  unfold chk
  rw [List.find?_range_eq_some]
  refine ⟨by rw [h1]; rfl, by simpa using h, fun j hj => by rw [h0 j hj]; rfl⟩
theorem getD_get {l : List E} {i : Nat} (h : i < l.length) : l.getD i e0 = l[i] := by
  rw [List.getD_eq_getElem?_getD, List.getElem?_eq_getElem h]; rfl
theorem take_get {α : Type} {l : List α} {i : Nat} {d : α} (h : i < l.length) : l.take (i + 1) = l.take i ++ [l.getD i d] := by
  rw [List.take_succ_eq_append_getElem h, List.getD_eq_getElem?_getD, List.getElem?_eq_getElem h]; rfl
theorem WF_snoc {l : List E} {e : E} : WF (l ++ [e]) ↔ WF l ∧ goodB l e = true := by
  unfold WF
  constructor
  · intro h
    refine ⟨fun i hi => ?_, ?_⟩
    · have := h i (by simp; omega)
      rw [List.take_append_of_le_length (by omega)] at this
      rw [List.getD_eq_getElem?_getD, List.getElem?_append_left hi, ← List.getD_eq_getElem?_getD] at this
      exact this
    · have := h l.length (by simp)
      rw [List.take_append_of_le_length (Nat.le_refl _), List.take_length] at this
      rw [List.getD_eq_getElem?_getD, List.getElem?_append_right (Nat.le_refl _)] at this
      simpa using this
  · rintro ⟨h1, h2⟩ i hi
    simp at hi
    by_cases hlt : i < l.length
    · have := h1 i hlt
      rw [List.take_append_of_le_length (by omega)]
      rw [List.getD_eq_getElem?_getD, List.getElem?_append_left hlt, ← List.getD_eq_getElem?_getD]
      exact this
    · obtain rfl : i = l.length := by omega
      rw [List.take_append_of_le_length (Nat.le_refl _), List.take_length]
      rw [List.getD_eq_getElem?_getD, List.getElem?_append_right (Nat.le_refl _)]
      simpa using h2
theorem WF_nil : WF [] := fun i hi => by simp at hi
theorem WF_take {l : List E} (h : WF l) (n : Nat) : WF (l.take n) := fun i hi => by
  have hi2 : i < l.length := by simp at hi; omega
  have hin : i < n := by simp at hi; omega
  have := h i hi2
  rw [List.take_take, Nat.min_eq_left (by omega)]
  rw [List.getD_eq_getElem?_getD, List.getElem?_take_of_lt hin, ← List.getD_eq_getElem?_getD]
  exact this
theorem goodB_parts {l : List E} {e : E} (h : goodB l e = true) : (0 ≤ e.s ∧ 0 ≤ e.t ∧ e.t < 64 ∧ 1 ≤ e.k ∧ e.k ≤ 4) ∧ (∀ p, l.getLast? = some p → stepB p e = true) ∧ allowB (lastE e.t l) e = true := by
  unfold goodB at h
  simp only [Bool.and_eq_true] at h
  obtain ⟨h1, h2, h3⟩ := h
  refine ⟨by simpa [rangeB] using h1, fun p hp => ?_, h3⟩
  unfold prevB at h2
  rw [hp] at h2
  exact h2
theorem goodB_of {l : List E} {e : E} (h1 : rangeB e = true) (h2 : ∀ p, l.getLast? = some p → stepB p e = true) (h3 : allowB (lastE e.t l) e = true) : goodB l e = true := by
  unfold goodB prevB
  rw [h1, h3]
  cases h : l.getLast? with
  | none => rfl
  | some p => simp [h2 p h]
theorem stepB_le {p e : E} (h : stepB p e = true) : p.s ≤ e.s := by
  simp [stepB] at h; omega
theorem stepB_eq {p e : E} (h : stepB p e = true) (hs : e.s ≤ p.s) : e.s = p.s ∧ p.k = 3 ∧ e.k = 4 ∧ e.t = p.t := by
  simp [stepB] at h; omega
theorem last_snoc {l : List E} {e : E} : (l ++ [e]).getLast? = some e := by simp
/-- induction from the end -/
theorem snoc_ind {P : List E → Prop} (h0 : P []) (h1 : ∀ l e, P l → P (l ++ [e])) : ∀ l, P l := by
  intro l
  have : ∀ r : List E, P r.reverse := by
    intro r
    induction r with
    | nil => exact h0
    | cons e r ih => rw [List.reverse_cons]; exact h1 _ _ ih
  have := this l.reverse
  rwa [List.reverse_reverse] at this
/-- steps do not decrease -/
theorem WF_last {l : List E} (h : WF l) : ∀ p, l.getLast? = some p → ∀ x ∈ l, x.s ≤ p.s := by
  revert h
  refine snoc_ind (P := fun l => WF l → ∀ p, l.getLast? = some p → ∀ x ∈ l, x.s ≤ p.s) ?_ ?_ l
  · intro _ p hp; simp at hp
  · intro l e ih h p hp x hx
    rw [last_snoc] at hp
    injection hp with hp
    subst hp
    obtain ⟨h1, h2⟩ := WF_snoc.1 h
    obtain ⟨_, h3, _⟩ := goodB_parts h2
    simp at hx
    rcases hx with hx | rfl
    · cases hl : l.getLast? with
      | none => rw [List.getLast?_eq_none_iff] at hl; subst hl; cases hx
      | some q =>
        have := ih h1 q hl x hx
        have := stepB_le (h3 q hl)
        omega
    · exact Int.le_refl _
theorem WF_sorted {l : List E} : WF l → l.Pairwise fun x y => x.s ≤ y.s := by
  refine snoc_ind (P := fun l => WF l → l.Pairwise fun x y => x.s ≤ y.s) ?_ ?_ l
  · intro _; exact List.Pairwise.nil
  · intro l e ih h
    obtain ⟨h1, h2⟩ := WF_snoc.1 h
    obtain ⟨_, h3, _⟩ := goodB_parts h2
    rw [List.pairwise_append]
    refine ⟨ih h1, List.pairwise_singleton _ _, fun x hx y hy => ?_⟩
    simp at hy
    subst hy
    cases hl : l.getLast? with
    | none => rw [List.getLast?_eq_none_iff] at hl; subst hl; cases hx
    | some q =>
      have := WF_last h1 q hl x hx
      have := stepB_le (h3 q hl)
      omega
theorem WF_mem {l : List E} : WF l → ∀ e ∈ l, 0 ≤ e.s ∧ 0 ≤ e.t ∧ e.t < 64 ∧ 1 ≤ e.k ∧ e.k ≤ 4 := by
  refine snoc_ind (P := fun l => WF l → ∀ e ∈ l, 0 ≤ e.s ∧ 0 ≤ e.t ∧ e.t < 64 ∧ 1 ≤ e.k ∧ e.k ≤ 4) ?_ ?_ l
  · intro _ e he; cases he
  · intro l e ih h x hx
    obtain ⟨h1, h2⟩ := WF_snoc.1 h
    simp at hx
    rcases hx with hx | rfl
    · exact ih h1 x hx
    · exact (goodB_parts h2).1
/-- the step of the first event of a thread -/
def nxt (t : Int) : List E → Int
  | [] => -1
  | e :: r => if e.t = t then e.s else nxt t r
/-- the sections (k = 1) or waits (k = 3) -/
def ivs (k : Int) : List E → List I
  | [] => []
  | e :: r => if e.k = k then ⟨e.t, e.v, e.s, nxt e.t r⟩ :: ivs k r else ivs k r
theorem ivs_len (k : Int) : ∀ l, (ivs k l).length ≤ l.length
  | [] => Nat.le_refl _
  | e :: r => by
    have := ivs_len k r
    unfold ivs
    split <;> simp <;> omega
theorem nxt_bd {t : Int} : ∀ {l : List E}, (∀ e ∈ l, 0 ≤ e.s) → -1 ≤ nxt t l
  | [], _ => by simp [nxt]
  | e :: r, h => by
    unfold nxt
    split
    · have := h e (List.mem_cons_self ..); omega
    · exact nxt_bd fun x hx => h x (List.mem_cons_of_mem _ hx)
theorem ivs_mem {k : Int} : ∀ {l : List E}, (∀ e ∈ l, 0 ≤ e.s ∧ 0 ≤ e.t ∧ e.t < 64 ∧ 1 ≤ e.k ∧ e.k ≤ 4) → ∀ x ∈ ivs k l, 0 ≤ x.a ∧ -1 ≤ x.b ∧ 0 ≤ x.t ∧ x.t < 64
  | [], _, x, hx => by cases hx
  | e :: r, h, x, hx => by
    have hr : ∀ e ∈ r, 0 ≤ e.s ∧ 0 ≤ e.t ∧ e.t < 64 ∧ 1 ≤ e.k ∧ e.k ≤ 4 := fun y hy => h y (List.mem_cons_of_mem _ hy)
    have he := h e (List.mem_cons_self ..)
    unfold ivs at hx
    split at hx
    · simp at hx
      rcases hx with rfl | hx
      · exact ⟨he.1, nxt_bd fun y hy => (hr y hy).1, he.2.1, he.2.2.1⟩
      · exact ivs_mem hr x hx
    · exact ivs_mem hr x hx
def openB (st : Int) (x : I) : Bool := decide (x.a ≤ st) && (decide (x.b = -1) || decide (st < x.b))
def clos (x : I) : I := ⟨x.t, x.v, x.a, -1⟩
/-- the sections that are open behind a step -/
def opn (st : Int) (s : List I) : List I := (s.filter (openB st)).map clos
def upto (st : Int) (l : List E) : List E := l.filter fun e => decide (e.s ≤ st)
def ofT (t : Int) (l : List E) : List E := l.filter fun e => decide (e.t = t)
def ins (t st : Int) (l : List E) : Option I := (opn st (ivs 1 l)).find? fun x => decide (x.t = t)
end Ev
end Go.Proofs.Ytbnchajkfceaoaa
