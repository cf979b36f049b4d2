/- Histories of calls as mathematics: when a list is well formed, precedence, the calls of a thread, effects, orders, prefixes. -/
import Derived.WalkKit
import Derived.ProofKit
namespace Go.Proofs.Ytgfhfcjjodcgdaa
set_option linter.unusedVariables false
set_option linter.unusedSimpArgs false
namespace Hi
/-- a call: thread, index, the operation (seven numbers), invoked, took, answered, steps, the result (error, found, key, value, count) -/
structure C where
  t : Int
  i : Int
  k : Int
  p0 : Int
  p1 : Int
  p2 : Int
  p3 : Int
  p4 : Int
  p5 : Int
  v : Int
  u : Int
  a : Int
  s : Int
  re : Int
  rf : Bool
  rk : Int
  rv : Int
  rc : Int
deriving DecidableEq
def c0 : C := ⟨0, 0, 0, 0, 0, 0, 0, 0, 0, 0, 0, 0, 0, 0, false, 0, 0, 0⟩
/-- the calls of a thread -/
def ofT (t : Int) (l : List C) : List C := l.filter fun c => decide (c.t = t)
/-- x precedes y -/
def bfr (x y : C) : Bool := decide (0 ≤ x.a) && decide (x.a < y.v)
/-- the steps of a call -/
def stp (c : C) : List Int := [c.v, c.u, c.a].filter fun s => decide (0 ≤ s)
def meetB (x y : C) : Bool := (stp x).any fun s => decide (s ∈ stp y)
/-- the step at which the last call began -/
def prevV (l : List C) : Int := match l.getLast? with | some p => p.v | none => -1
def beginB (l : List C) (c : C) : Bool := decide (0 ≤ c.t) && (decide (c.t < 64) && (decide (c.i = ((ofT c.t l).length : Nat)) && (decide (0 ≤ c.v) && decide (prevV l < c.v))))
def takeB (c : C) : Bool := decide (c.u = -1) || decide (c.v ≤ c.u)
def rz (c : C) : Bool := decide (c.re = 0) && (!c.rf && (decide (c.rk = 0) && (decide (c.rv = 0) && decide (c.rc = 0))))
def endB (c : C) : Bool := if c.a < 0 then decide (c.a = -1) && (decide (c.s = 0) && rz c) else decide (0 ≤ c.u) && (decide (c.u ≤ c.a) && (decide (1 ≤ c.s) && (decide (c.s - 1 ≤ c.a - c.v) && (decide (c.a = c.v) || decide (2 ≤ c.s)))))
def follB (l : List C) (c : C) : Bool := match (ofT c.t l).getLast? with | some p => bfr p c | none => true
def partB (l : List C) (c : C) : Bool := l.all fun x => decide (x.t = c.t) || !meetB x c
/-- a call violates no condition behind the calls l -/
def goodB (l : List C) (c : C) : Bool := beginB l c && (takeB c && (endB c && (follB l c && partB l c)))
/-- the first call that violates a condition -/
def chk (l : List C) : Option Nat := (List.range l.length).find? fun i => !goodB (l.take i) (l.getD i c0)
/-- well formed -/
def WF (l : List C) : Prop := ∀ i, i < l.length → goodB (l.take i) (l.getD i c0) = true
theorem chk_none {l : List C} : chk l = none ↔ WF l := by
  unfold chk WF
  rw [List.find?_eq_none]
  simp
theorem chk_some {l : List C} {i : Nat} (h : i < l.length) (h0 : ∀ j, j < i → goodB (l.take j) (l.getD j c0) = true) (h1 : goodB (l.take i) (l.getD i c0) = false) : chk l = some i := by
  unfold chk
  rw [List.find?_range_eq_some]
  refine ⟨by rw [h1]; rfl, by simpa using h, fun j hj => by rw [h0 j hj]; rfl⟩
theorem chk_lt {l : List C} {i : Nat} (h : chk l = some i) : i < l.length := by
  unfold chk at h
  rw [List.find?_range_eq_some] at h
  simpa using h.2.1
theorem getD_get {l : List C} {i : Nat} (h : i < l.length) : l.getD i c0 = l[i] := by
  rw [List.getD_eq_getElem?_getD, List.getElem?_eq_getElem h]; rfl
theorem take_get {α : Type} {l : List α} {i : Nat} {d : α} (h : i < l.length) : l.take (i + 1) = l.take i ++ [l.getD i d] := by
  rw [List.take_succ_eq_append_getElem h, List.getD_eq_getElem?_getD, List.getElem?_eq_getElem h]; rfl
theorem WF_snoc {l : List C} {e : C} : WF (l ++ [e]) ↔ WF l ∧ goodB l e = true := by
  unfold WF
  constructor
  · intro h
    refine ⟨fun i hi => ?_, ?_⟩
    · have := h i (by simp; omega)
      rw [List.take_append_of_le_length (by omega)] at this
      rw [List.getD_eq_getElem?_getD, List.getElem?_append_left hi, ← List.getD_eq_getElem?_getD] at this
      exact this
    · have := h l.length (by simp)
      rw [List.take_append_of_le_length (Nat.le_refl _), List.take_length] at this
      rw [List.getD_eq_getElem?_getD, List.getElem?_append_right (Nat.le_refl _)] at this
      simpa using this
  · rintro ⟨h1, h2⟩ i hi
    simp at hi
    by_cases hlt : i < l.length
    · have := h1 i hlt
      rw [List.take_append_of_le_length (by omega)]
      rw [List.getD_eq_getElem?_getD, List.getElem?_append_left hlt, ← List.getD_eq_getElem?_getD]
      exact this
    · obtain rfl : i = l.length := by omega
      rw [List.take_append_of_le_length (Nat.le_refl _), List.take_length]
      rw [List.getD_eq_getElem?_getD, List.getElem?_append_right (Nat.le_refl _)]
      simpa using h2
theorem WF_nil : WF [] := fun i hi => by simp at hi
theorem WF_take {l : List C} (h : WF l) (n : Nat) : WF (l.take n) := fun i hi => by
  have hi2 : i < l.length := by simp at hi; omega
  have hin : i < n := by simp at hi; omega
  have := h i hi2
  rw [List.take_take, Nat.min_eq_left (by omega)]
  rw [List.getD_eq_getElem?_getD, List.getElem?_take_of_lt hin, ← List.getD_eq_getElem?_getD]
  exact this
theorem snoc_ind {P : List C → Prop} (h0 : P []) (h1 : ∀ l e, P l → P (l ++ [e])) : ∀ l, P l := by
  intro l
  have : ∀ r : List C, P r.reverse := by
    intro r
    induction r with
    | nil => exact h0
    | cons e r ih => rw [List.reverse_cons]; exact h1 _ _ ih
  have := this l.reverse
  rwa [List.reverse_reverse] at this
/-- the parts of a condition -/
structure Good (l : List C) (c : C) : Prop where
  t0 : 0 ≤ c.t
  t1 : c.t < 64
  i : c.i = ((ofT c.t l).length : Nat)
  v0 : 0 ≤ c.v
  v1 : prevV l < c.v
  tk : c.u = -1 ∨ c.v ≤ c.u
  en : endB c = true
  fo : ∀ p, (ofT c.t l).getLast? = some p → bfr p c = true
  pa : ∀ x ∈ l, x.t ≠ c.t → meetB x c = false
theorem goodB_iff {l : List C} {c : C} : goodB l c = true ↔ Good l c := by
  have hf : follB l c = true ↔ ∀ p, (ofT c.t l).getLast? = some p → bfr p c = true := by
    unfold follB
    cases h : (ofT c.t l).getLast? with
    | none => simp
    | some p => simp
  have hp : partB l c = true ↔ ∀ x ∈ l, x.t ≠ c.t → meetB x c = false := by
    unfold partB
    simp only [List.all_eq_true, Bool.or_eq_true, decide_eq_true_eq, Bool.not_eq_true']
    constructor
    · intro h x hx hn; exact (h x hx).resolve_left hn
    · intro h x hx
      by_cases hn : x.t = c.t
      · exact .inl hn
      · exact .inr (h x hx hn)
  unfold goodB
  simp only [Bool.and_eq_true, beginB, takeB, decide_eq_true_eq, Bool.or_eq_true, hf, hp]
  constructor
  · rintro ⟨⟨h1, h2, h3, h4, h5⟩, h6, h7, h8, h9⟩; exact ⟨h1, h2, h3, h4, h5, h6, h7, h8, h9⟩
  · rintro ⟨h1, h2, h3, h4, h5, h6, h7, h8, h9⟩; exact ⟨⟨h1, h2, h3, h4, h5⟩, h6, h7, h8, h9⟩
/-- what a call by itself keeps -/
structure One (c : C) : Prop where
  t0 : 0 ≤ c.t
  t1 : c.t < 64
  v0 : 0 ≤ c.v
  u0 : -1 ≤ c.u
  u1 : c.u = -1 ∨ c.v ≤ c.u
  a0 : -1 ≤ c.a
  a1 : 0 ≤ c.a → 0 ≤ c.u ∧ c.u ≤ c.a ∧ c.v ≤ c.u
  i0 : 0 ≤ c.i
theorem endB_a {c : C} (h : endB c = true) : -1 ≤ c.a ∧ (0 ≤ c.a → 0 ≤ c.u ∧ c.u ≤ c.a) := by
  unfold endB at h
  split at h
  · simp only [Bool.and_eq_true, decide_eq_true_eq] at h; omega
  · simp only [Bool.and_eq_true, decide_eq_true_eq] at h; omega
theorem Good.one {l : List C} {c : C} (h : Good l c) : One c := by
  have h1 := endB_a h.en
  refine ⟨h.t0, h.t1, h.v0, ?_, h.tk, h1.1, fun ha => ?_, by rw [h.i]; omega⟩
  · have := h.tk; have := h.v0; omega
  · have := h1.2 ha; have := h.tk; omega
theorem WF_one {l : List C} : WF l → ∀ c ∈ l, One c := by
  refine snoc_ind (P := fun l => WF l → ∀ c ∈ l, One c) ?_ ?_ l
  · intro _ c hc; cases hc
  · intro l e ih h c hc
    obtain ⟨h1, h2⟩ := WF_snoc.1 h
    simp at hc
    rcases hc with hc | rfl
    · exact ih h1 c hc
    · exact (goodB_iff.1 h2).one
theorem WF_prev {l : List C} : WF l → -1 ≤ prevV l ∧ ∀ x ∈ l, x.v ≤ prevV l := by
  refine snoc_ind (P := fun l => WF l → -1 ≤ prevV l ∧ ∀ x ∈ l, x.v ≤ prevV l) ?_ ?_ l
  · intro _; exact ⟨by simp [prevV], fun x hx => by cases hx⟩
  · intro l e ih h
    obtain ⟨h1, h2⟩ := WF_snoc.1 h
    have g := goodB_iff.1 h2
    have := ih h1
    have e1 : prevV (l ++ [e]) = e.v := by simp [prevV]
    rw [e1]
    refine ⟨by have := g.v0; omega, fun x hx => ?_⟩
    simp at hx
    rcases hx with hx | rfl
    · have := this.2 x hx; have := g.v1; omega
    · exact Int.le_refl _
/-- what holds of each call and a later one -/
structure Two (x y : C) : Prop where
  v : x.v < y.v
  same : x.t = y.t → bfr x y = true
  parts : x.t ≠ y.t → meetB x y = false
theorem WF_two {l : List C} : WF l → l.Pairwise Two := by
  refine snoc_ind (P := fun l => WF l → l.Pairwise Two) ?_ ?_ l
  · intro _; exact List.Pairwise.nil
  · intro l e ih h
    obtain ⟨h1, h2⟩ := WF_snoc.1 h
    have g := goodB_iff.1 h2
    have hp := ih h1
    have ho := WF_one h1
    rw [List.pairwise_append]
    refine ⟨hp, List.pairwise_singleton _ _, fun x hx y hy => ?_⟩
    simp at hy
    subst hy
    refine ⟨by have := (WF_prev h1).2 x hx; have := g.v1; omega, fun ht => ?_, fun ht => g.pa x hx ht⟩
    have hm : x ∈ ofT y.t l := by unfold ofT; rw [List.mem_filter]; exact ⟨hx, by simpa using ht⟩
    have hq : (ofT y.t l).Pairwise Two := hp.filter _
    have hfo := g.fo
    -- the last one of the thread
    have key : ∀ (q : List C), q.Pairwise Two → (∀ z ∈ q, z.t = y.t) → (∀ z ∈ q, One z) → x ∈ q → (∀ p, q.getLast? = some p → bfr p y = true) → bfr x y = true := by
      intro q
      refine snoc_ind (P := fun q => q.Pairwise Two → (∀ z ∈ q, z.t = y.t) → (∀ z ∈ q, One z) → x ∈ q → (∀ p, q.getLast? = some p → bfr p y = true) → bfr x y = true) ?_ ?_ q
      · intro _ _ _ hx; cases hx
      · intro q p _ hw ht ho hx hl
        have hpy := hl p (by simp)
        simp at hx
        rcases hx with hx | rfl
        · rw [List.pairwise_append] at hw
          have h2 := hw.2.2 x hx p (by simp)
          have h3 := h2.same ((ht x (by simp [hx])).trans (ht p (by simp)).symm)
          have h4 := ho p (by simp)
          have h5 := h4.a1
          simp [bfr] at h3 hpy ⊢
          omega
        · exact hpy
    exact key _ hq (fun z hz => by unfold ofT at hz; rw [List.mem_filter] at hz; simpa using hz.2) (fun z hz => ho z (by unfold ofT at hz; rw [List.mem_filter] at hz; exact hz.1)) hm hfo
theorem meet_no {x y : C} (h : meetB x y = false) {s : Int} (hx : s ∈ stp x) : s ∉ stp y := by
  intro hy
  have : meetB x y = true := by
    unfold meetB
    rw [List.any_eq_true]
    exact ⟨s, hx, by simpa using hy⟩
  rw [h] at this; cases this
theorem mem_stp {c : C} {s : Int} : s ∈ stp c ↔ (s = c.v ∨ s = c.u ∨ s = c.a) ∧ 0 ≤ s := by
  unfold stp
  rw [List.mem_filter]
  simp
/-- different calls take effect at different steps -/
theorem two_took {x y : C} (h : Two x y) (hx : One x) (hy : One y) (h0 : 0 ≤ x.u) (h1 : 0 ≤ y.u) : x.u ≠ y.u := by
  by_cases ht : x.t = y.t
  · have := h.same ht
    simp [bfr] at this
    have := hx.a1 this.1
    have := hy.u1
    omega
  · intro e
    exact meet_no (h.parts ht) (mem_stp.2 ⟨.inr (.inl rfl), h0⟩) (mem_stp.2 ⟨.inr (.inl e), h0⟩)
theorem pair_get {l : List C} {R : C → C → Prop} (h : l.Pairwise R) {i j : Nat} (hij : i < j) (hj : j < l.length) : R (l.getD i c0) (l.getD j c0) := by
  rw [getD_get (by omega), getD_get hj]
  exact List.pairwise_iff_getElem.1 h i j (by omega) hj hij
theorem mem_get {l : List C} {i : Nat} (h : i < l.length) : l.getD i c0 ∈ l := by rw [getD_get h]; exact List.getElem_mem h
theorem took_inj {l : List C} (h : WF l) {i j : Nat} (hi : i < l.length) (hj : j < l.length) (h0 : 0 ≤ (l.getD i c0).u) (e : (l.getD i c0).u = (l.getD j c0).u) : i = j := by
  have hp := WF_two h
  have ho := WF_one h
  rcases Nat.lt_trichotomy i j with hl | hl | hl
  · exact absurd e (two_took (pair_get hp hl hj) (ho _ (mem_get hi)) (ho _ (mem_get hj)) h0 (by omega))
  · exact hl
  · exact absurd e.symm (two_took (pair_get hp hl hi) (ho _ (mem_get hj)) (ho _ (mem_get hi)) (by omega) h0)
end Hi
end Go.Proofs.Ytgfhfcjjodcgdaa
