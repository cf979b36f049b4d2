/- Histories of calls as mathematics: effects in the order of their steps, and the reference's way to them. -/
import Derived.Test.YtgfhfcjjodcgdaaHiM
namespace Go.Proofs.Ytgfhfcjjodcgdaa
set_option linter.unusedVariables false
set_option linter.unusedSimpArgs false
namespace Hi
def tk (l : List C) (i : Nat) : Int := (l.getD i c0).u
/-- the calls that took effect -/
def took (l : List C) : List Nat := (List.range l.length).filter fun i => decide (0 ≤ tk l i)
/-- the calls that took effect, by the step -/
def eff (l : List C) : List Nat := (took l).mergeSort fun i j => decide (tk l i ≤ tk l j)
theorem mem_took {l : List C} {i : Nat} : i ∈ took l ↔ i < l.length ∧ 0 ≤ tk l i := by
  unfold took; rw [List.mem_filter]; simp
theorem eff_perm (l : List C) : (eff l).Perm (took l) := List.mergeSort_perm _ _
theorem mem_eff {l : List C} {i : Nat} : i ∈ eff l ↔ i < l.length ∧ 0 ≤ tk l i := (eff_perm l).mem_iff.trans mem_took
theorem took_nodup (l : List C) : (took l).Nodup := List.nodup_range.filter _
theorem eff_nodup (l : List C) : (eff l).Nodup := (eff_perm l).nodup_iff.2 (took_nodup l)
theorem eff_le (l : List C) : (eff l).Pairwise fun i j => tk l i ≤ tk l j := by
  have h := List.pairwise_mergeSort (le := fun i j => decide (tk l i ≤ tk l j)) (fun a b c h1 h2 => by simp at h1 h2 ⊢; omega) (fun a b => by simp; omega) (took l)
  exact h.imp fun h => by simpa using h
theorem eff_lt {l : List C} (h : WF l) : (eff l).Pairwise fun i j => tk l i < tk l j := by
  have h1 := (eff_le l).and (eff_nodup l)
  have h2 : ∀ i ∈ eff l, ∀ j ∈ eff l, (tk l i ≤ tk l j ∧ i ≠ j) → tk l i < tk l j := fun i hi j hj hw => by
    have hi := mem_eff.1 hi
    have hj := mem_eff.1 hj
    rcases Int.lt_or_eq_of_le hw.1 with hlt | he
    · exact hlt
    · exact absurd (took_inj h hi.1 hj.1 hi.2 he) hw.2
  exact List.Pairwise.imp_of_mem (fun hi hj hw => h2 _ hi _ hj hw) h1
theorem sorted_eq {α : Type} {f : α → Int} : ∀ {x y : List α}, x.Pairwise (fun a b => f a < f b) → y.Pairwise (fun a b => f a < f b) → (∀ a, a ∈ x ↔ a ∈ y) → x = y
  | [], [], _, _, _ => rfl
  | [], b :: y, _, _, h => by have := (h b).2 (List.mem_cons_self ..); cases this
  | a :: x, [], _, _, h => by have := (h a).1 (List.mem_cons_self ..); cases this
  | a :: x, b :: y, hx, hy, h => by
    have hx1 := List.pairwise_cons.1 hx
    have hy1 := List.pairwise_cons.1 hy
    have e : a = b := by
      have h1 := (h a).1 (List.mem_cons_self ..)
      have h2 := (h b).2 (List.mem_cons_self ..)
      simp at h1 h2
      rcases h1 with h1 | h1
      · exact h1
      · rcases h2 with h2 | h2
        · exact h2.symm
        · have := hy1.1 a h1; have := hx1.1 b h2; omega
    subst e
    congr 1
    refine sorted_eq hx1.2 hy1.2 fun c => ?_
    have hc := h c
    simp at hc
    constructor
    · intro h1
      have h2 := hx1.1 c h1
      rcases hc.1 (.inr h1) with h3 | h3
      · subst h3; omega
      · exact h3
    · intro h1
      have h2 := hy1.1 c h1
      rcases hc.2 (.inr h1) with h3 | h3
      · subst h3; omega
      · exact h3
/-- what is sorted and has the calls that took effect -/
theorem eff_uniq {l : List C} (h : WF l) {m : List Nat} (hp : m.Perm (took l)) (hs : m.Pairwise fun i j => tk l i ≤ tk l j) : m = eff l := by
  have hn : m.Nodup := hp.nodup_iff.2 (took_nodup l)
  have hm : ∀ i, i ∈ m ↔ i < l.length ∧ 0 ≤ tk l i := fun i => hp.mem_iff.trans mem_took
  refine sorted_eq (f := tk l) ?_ (eff_lt h) fun i => (hm i).trans mem_eff.symm
  refine List.Pairwise.imp_of_mem (fun {i j} hi hj hw => ?_) (hs.and hn)
  have hi := (hm i).1 hi
  have hj := (hm j).1 hj
  rcases Int.lt_or_eq_of_le hw.1 with hlt | he
  · exact hlt
  · exact absurd (took_inj h hi.1 hj.1 hi.2 he) hw.2
theorem eff_len (l : List C) : (eff l).length ≤ l.length := by
  rw [(eff_perm l).length_eq]
  have := List.length_filter_le (fun i => decide (0 ≤ tk l i)) (List.range l.length)
  simpa [took] using this
/-- i is to come: it took effect behind the first q effects -/
def cand (l : List C) (q i : Nat) : Prop := i < l.length ∧ 0 ≤ tk l i ∧ (0 < q → tk l ((eff l).getD (q - 1) 0) < tk l i)
theorem getD_eff {l : List C} {q : Nat} (h : q < (eff l).length) : (eff l).getD q 0 = (eff l)[q] := by
  rw [List.getD_eq_getElem?_getD, List.getElem?_eq_getElem h]; rfl
theorem cand_iff {l : List C} (h : WF l) {q i : Nat} (hq : q ≤ (eff l).length) : cand l q i ↔ ∃ k, q ≤ k ∧ ∃ hk : k < (eff l).length, (eff l)[k] = i := by
  have hs := List.pairwise_iff_getElem.1 (eff_lt h)
  constructor
  · rintro ⟨h1, h2, h3⟩
    obtain ⟨k, hk, e⟩ := List.getElem_of_mem (mem_eff.2 ⟨h1, h2⟩)
    refine ⟨k, ?_, hk, e⟩
    apply Nat.le_of_not_lt
    intro hlt
    have h4 := h3 (by omega)
    rw [getD_eff (by omega), ← e] at h4
    by_cases hk1 : k = q - 1
    · subst hk1; omega
    · have := hs k (q - 1) hk (by omega) (by omega); omega
  · rintro ⟨k, hqk, hk, rfl⟩
    have hm := mem_eff.1 (List.getElem_mem hk)
    refine ⟨hm.1, hm.2, fun h0 => ?_⟩
    rw [getD_eff (by omega)]
    exact hs (q - 1) k (by omega) hk (by omega)
theorem pick_none {l : List C} (h : WF l) {q : Nat} (hq : q ≤ (eff l).length) (hn : ∀ i, i < l.length → ¬ cand l q i) : q = (eff l).length := by
  apply Nat.le_antisymm hq
  apply Nat.le_of_not_lt
  intro hlt
  have hc : cand l q ((eff l)[q]) := (cand_iff h hq).2 ⟨q, Nat.le_refl _, hlt, rfl⟩
  exact hn _ hc.1 hc
theorem pick_some {l : List C} (h : WF l) {q n : Nat} (hq : q ≤ (eff l).length) (hc : cand l q n) (hm : ∀ i, i < l.length → cand l q i → tk l n ≤ tk l i) : ∃ hlt : q < (eff l).length, (eff l)[q] = n := by
  obtain ⟨k, hk1, hk2, e⟩ := (cand_iff h hq).1 hc
  have hlt : q < (eff l).length := by omega
  refine ⟨hlt, ?_⟩
  have hc2 : cand l q ((eff l)[q]) := (cand_iff h hq).2 ⟨q, Nat.le_refl _, hlt, rfl⟩
  have h1 := hm _ hc2.1 hc2
  by_cases hkq : k = q
  · subst hkq; exact e
  · have := List.pairwise_iff_getElem.1 (eff_lt h) q k hlt hk2 (by omega)
    rw [e] at this; omega
theorem pick_lt {l : List C} (h : WF l) {q n : Nat} (hq : q ≤ (eff l).length) (hc : cand l q n) : q < (eff l).length := by
  obtain ⟨k, hk1, hk2, _⟩ := (cand_iff h hq).1 hc
  omega
/-- what the look for the next effect has found among the first j calls -/
def nx (l : List C) (q j : Nat) (x : Int) : Prop := (x = -1 ∧ ∀ i, i < j → ¬ cand l q i) ∨ ∃ n : Nat, x = (n : Int) ∧ n < j ∧ cand l q n ∧ ∀ i, i < j → cand l q i → tk l n ≤ tk l i
theorem nx_zero (l : List C) (q : Nat) : nx l q 0 (-1) := .inl ⟨rfl, fun i hi => by omega⟩
theorem nx_skip {l : List C} {q j : Nat} {x : Int} (h : nx l q j x) (hn : ¬ cand l q j) : nx l q (j + 1) x := by
  rcases h with ⟨h1, h2⟩ | ⟨n, h1, h2, h3, h4⟩
  · refine .inl ⟨h1, fun i hi => ?_⟩
    by_cases e : i = j
    · subst e; exact hn
    · exact h2 i (by omega)
  · refine .inr ⟨n, h1, by omega, h3, fun i hi hc => ?_⟩
    by_cases e : i = j
    · subst e; exact absurd hc hn
    · exact h4 i (by omega) hc
theorem nx_take {l : List C} {q j : Nat} {x : Int} (h : nx l q j x) (hc : cand l q j) (hx : x = -1 ∨ ∀ n : Nat, x = (n : Int) → tk l j < tk l n) : nx l q (j + 1) (j : Int) := by
  refine .inr ⟨j, rfl, by omega, hc, fun i hi hi2 => ?_⟩
  by_cases e : i = j
  · subst e; omega
  · rcases h with ⟨h1, h2⟩ | ⟨n, h1, h2, h3, h4⟩
    · exact absurd hi2 (h2 i (by omega))
    · have := h4 i (by omega) hi2
      rcases hx with hx | hx
      · omega
      · have := hx n h1; omega
theorem nx_keep {l : List C} {q j n : Nat} (h : nx l q j (n : Int)) (hx : tk l n ≤ tk l j) : nx l q (j + 1) (n : Int) := by
  rcases h with ⟨h1, h2⟩ | ⟨n', h1, h2, h3, h4⟩
  · omega
  · obtain rfl : n = n' := by omega
    refine .inr ⟨n, rfl, by omega, h3, fun i hi hi2 => ?_⟩
    by_cases e : i = j
    · subst e; exact hx
    · exact h4 i (by omega) hi2
theorem eff_snoc {l : List C} {q : Nat} (hlt : q < (eff l).length) : (eff l).take (q + 1) = (eff l).take q ++ [(eff l)[q]] := List.take_succ_eq_append_getElem hlt
/-- a value at an index that an effect has -/
theorem eff_get_lt {l : List C} {q : Nat} (h : q < (eff l).length) : (eff l).getD q 0 < l.length ∧ 0 ≤ tk l ((eff l).getD q 0) := by
  rw [getD_eff h]; exact mem_eff.1 (List.getElem_mem h)
end Hi
end Go.Proofs.Ytgfhfcjjodcgdaa
