/- Histories of calls as mathematics: an order read from its end. -/
import Derived.Test.YtgfhfcjjodcgdaaHiD
namespace Go.Proofs.Ytgfhfcjjodcgdaa
set_option linter.unusedVariables false
set_option linter.unusedSimpArgs false
namespace Hi
/-- the least end of some calls -/
def minE (l : List C) (is : List Nat) : Int := is.foldl (fun m i => min m (endV (l.getD i c0))) maxI
theorem minE_nil (l : List C) : minE l [] = maxI := rfl
theorem minE_snoc (l : List C) (is : List Nat) (i : Nat) : minE l (is ++ [i]) = min (minE l is) (endV (l.getD i c0)) := by
  unfold minE; rw [List.foldl_append]; rfl
theorem snoc_ind' {α : Type} {p : List α → Prop} (h0 : p []) (h1 : ∀ l a, p l → p (l ++ [a])) : ∀ l, p l := fun l => by
  rw [← List.reverse_reverse l]
  induction l.reverse with
  | nil => exact h0
  | cons a r ih => rw [List.reverse_cons]; exact h1 _ _ ih
theorem minE_lt {l : List C} {v : Int} (hv : v ≤ maxI) : ∀ is : List Nat, minE l is < v ↔ ∃ i, i ∈ is ∧ endV (l.getD i c0) < v := by
  refine snoc_ind' ?_ ?_
  · rw [minE_nil]; constructor
    · intro h; omega
    · rintro ⟨i, h, _⟩; cases h
  · intro is a ih
    rw [minE_snoc]
    constructor
    · intro h
      by_cases h1 : minE l is < v
      · obtain ⟨i, h2, h3⟩ := ih.1 h1
        exact ⟨i, by simp [h2], h3⟩
      · exact ⟨a, by simp, by omega⟩
    · rintro ⟨i, h2, h3⟩
      rw [List.mem_append, List.mem_singleton] at h2
      rcases h2 with h2 | rfl
      · have := ih.2 ⟨i, h2, h3⟩; omega
      · omega
theorem minE_bd {l : List C} (h : ∀ i, -9223372036854775808 ≤ endV (l.getD i c0)) : ∀ is : List Nat, -9223372036854775808 ≤ minE l is ∧ minE l is ≤ maxI := by
  refine snoc_ind' ?_ ?_
  · rw [minE_nil]; unfold maxI; omega
  · intro is a ih
    rw [minE_snoc]
    have := h a
    omega
/-- the calls that are not in an order -/
def outs (l : List C) (o : List Int) (k : Nat) : List Nat := (List.range k).filter fun i => !decide ((i : Int) ∈ o)
theorem outs_yes {l : List C} {o : List Int} {k : Nat} (h : decide ((k : Int) ∈ o) = true) : outs l o (k + 1) = outs l o k := by
  unfold outs; rw [List.range_succ, List.filter_append]; simp at h; simp [h]
theorem outs_no {l : List C} {o : List Int} {k : Nat} (h : decide ((k : Int) ∈ o) = false) : outs l o (k + 1) = outs l o k ++ [k] := by
  unfold outs; rw [List.range_succ, List.filter_append]; simp at h; simp [h]
/-- the call at a place of an order -/
def gO (o : List Int) (x : Fin o.length) : Nat := (o.getD x.val 0).toNat
/-- every call of a row begins by the ends of those that are outside or before it in the row -/
def pas (l : List C) (ou is : List Nat) : Prop := ∀ j, j < is.length → ¬ minE l (ou ++ is.take j) < (l.getD (is.getD j 0) c0).v
theorem pas_nil (l : List C) (ou : List Nat) : pas l ou [] := fun j hj => by simp at hj
theorem gd_left {is : List Nat} {i j : Nat} (h : j < is.length) (t : List Nat) : (is ++ t).getD j 0 = is.getD j 0 := by
  rw [List.getD_eq_getElem?_getD, List.getElem?_append_left h, ← List.getD_eq_getElem?_getD]
theorem gd_mid (is t : List Nat) (i : Nat) : (is ++ i :: t).getD is.length 0 = i := by
  rw [List.getD_eq_getElem?_getD, List.getElem?_append_right (Nat.le_refl _)]; simp
theorem pas_snoc {l : List C} {ou is : List Nat} {i : Nat} (h : pas l ou is) (h1 : ¬ minE l (ou ++ is) < (l.getD i c0).v) : pas l ou (is ++ [i]) := fun j hj => by
  rw [List.length_append, List.length_singleton] at hj
  by_cases e : j < is.length
  · have := h j e
    rw [List.take_append_of_le_length (by omega), gd_left (i := i) e]
    exact this
  · obtain rfl : j = is.length := by omega
    rw [List.take_append_of_le_length (Nat.le_refl _), List.take_length, gd_mid]
    exact h1
theorem pas_not {l : List C} {ou is ys : List Nat} {i : Nat} (h : is ++ [i] <+: ys) (h1 : minE l (ou ++ is) < (l.getD i c0).v) : ¬ pas l ou ys := fun hp => by
  obtain ⟨t, rfl⟩ := h
  have := hp is.length (by simp)
  rw [List.append_assoc, List.singleton_append, List.take_left' rfl, gd_mid] at this
  exact this h1
def bO (o : List Int) : List Nat := (bwd o.length).map (gO o)
theorem bO_len (o : List Int) : (bO o).length = o.length := by simp [bO, bwd_len]
theorem bO_get {o : List Int} {j : Nat} (h : j < o.length) : (bO o).getD j 0 = (o.getD (o.length - 1 - j) 0).toNat := by
  unfold bO
  rw [List.getD_eq_getElem?_getD, List.getElem?_map, List.getElem?_eq_getElem (by rw [bwd_len]; exact h), bwd_at h]
  rfl
theorem bO_take {o : List Int} {j i : Nat} (h : j ≤ o.length) : i ∈ (bO o).take j ↔ ∃ k, o.length - j ≤ k ∧ k < o.length ∧ i = (o.getD k 0).toNat := by
  rw [List.mem_iff_getElem?]
  constructor
  · rintro ⟨q, hq⟩
    have hq1 : q < j := by
      have := (List.getElem?_eq_some_iff.1 hq).1
      rw [List.length_take] at this; omega
    rw [List.getElem?_take_of_lt hq1] at hq
    have := bO_get (o := o) (j := q) (by omega)
    rw [List.getD_eq_getElem?_getD, hq] at this
    exact ⟨o.length - 1 - q, by omega, by omega, this⟩
  · rintro ⟨k, h1, h2, rfl⟩
    refine ⟨o.length - 1 - k, ?_⟩
    rw [List.getElem?_take_of_lt (by omega)]
    have := bO_get (o := o) (j := o.length - 1 - k) (by omega)
    rw [show o.length - 1 - (o.length - 1 - k) = k by omega] at this
    rw [List.getD_eq_getElem?_getD, List.getElem?_eq_getElem (by rw [bO_len]; omega)] at this
    rw [List.getElem?_eq_getElem (by rw [bO_len]; omega)]
    simpa using this
theorem agB_pas {l : List C} {o : List Int} (hl : WF l) (hb : ∀ c ∈ l, c.v ≤ maxI) (ho : ordE l.length o = 0) : agB l o = true ↔ pas l (outs l o l.length) (bO o) := by
  have hbf : ∀ i k, k < o.length → (bfr (l.getD i c0) (l.getD (o.getD k 0).toNat c0) = true ↔ endV (l.getD i c0) < (l.getD (o.getD k 0).toNat c0).v) := fun i k hk => by
    have h1 := ord_in ho hk
    rw [bfr_endV (hb _ (mem_get (by omega)))]
    simp
  have hvk : ∀ k, k < o.length → (l.getD (o.getD k 0).toNat c0).v ≤ maxI := fun k hk => hb _ (mem_get (by have := ord_in ho hk; omega))
  rw [agB_iff]
  constructor
  · intro h j hj hv
    rw [bO_len] at hj
    rw [bO_get hj] at hv
    obtain ⟨k, hk⟩ : ∃ k, k = o.length - 1 - j := ⟨_, rfl⟩
    rw [← hk] at hv
    obtain ⟨i, h1, h2⟩ := (minE_lt (hvk k (by omega)) _).1 hv
    rw [List.mem_append] at h1
    rcases h1 with h1 | h1
    · unfold outs at h1
      rw [List.mem_filter, List.mem_range] at h1
      have := h k (by omega) i h1.1 ((hbf i k (by omega)).2 h2)
      have := List.mem_of_mem_take this
      simp [this] at h1
    · obtain ⟨q, h3, h4, rfl⟩ := (bO_take (by omega)).1 h1
      have hq := ord_in ho h4
      have := h k (by omega) _ (by omega) ((hbf _ k (by omega)).2 h2)
      rw [Int.toNat_of_nonneg hq.1] at this
      exact hq.2.2 ((List.take_prefix_take_left (show k ≤ q by omega)).subset this)
  · intro h k hk i hi hb'
    have h2 := (hbf i k hk).1 hb'
    apply Classical.byContradiction
    intro hn
    have hj := h (o.length - 1 - k) (by rw [bO_len]; omega)
    rw [bO_get (by omega), show o.length - 1 - (o.length - 1 - k) = k by omega] at hj
    apply hj
    rw [minE_lt (hvk k hk)]
    refine ⟨i, ?_, h2⟩
    rw [List.mem_append]
    by_cases hio : (i : Int) ∈ o
    · right
      rw [bO_take (by omega)]
      obtain ⟨q, hq, he⟩ := List.mem_iff_getElem.1 hio
      have hqd : o.getD q 0 = i := by rw [List.getD_eq_getElem?_getD, List.getElem?_eq_getElem hq]; exact he
      have hqk : k ≤ q := by
        apply Nat.le_of_not_lt
        intro hlt
        apply hn
        rw [← he]
        rw [List.mem_iff_getElem?]
        exact ⟨q, by rw [List.getElem?_take_of_lt hlt, List.getElem?_eq_getElem hq]⟩
      refine ⟨q, ?_, hq, by rw [hqd]; simp⟩
      have : q ≠ k := fun e => by
        subst e
        rw [hqd] at hb'
        simp only [Int.toNat_natCast] at hb'
        rw [bfr_self (WF_one hl _ (mem_get hi))] at hb'
        cases hb'
      omega
    · left
      unfold outs
      rw [List.mem_filter, List.mem_range]
      exact ⟨hi, by simp [hio]⟩
end Hi
end Go.Proofs.Ytgfhfcjjodcgdaa
