/- Histories of calls as mathematics: orders, and prefixes. -/
import Derived.Test.YtgfhfcjjodcgdaaHiE
namespace Go.Proofs.Ytgfhfcjjodcgdaa
set_option linter.unusedVariables false
set_option linter.unusedSimpArgs false
namespace Hi
/-- the fault of element k of an order of n calls: 0 if none -/
def ordAt (n : Nat) (o : List Int) (k : Nat) : Int := if (o.getD k 0 < 0 ∨ (n : Int) ≤ o.getD k 0) then 3 else if o.getD k 0 ∈ o.take k then 9 else 0
def ordE (n : Nat) (o : List Int) : Int := match (List.range o.length).find? fun k => ordAt n o k != 0 with | some k => ordAt n o k | none => 0
/-- a call, before which all must have begun that it does not precede -/
def maxI : Int := 9223372036854775807
def endV (c : C) : Int := if 0 ≤ c.a then c.a else maxI
theorem bfr_endV {x y : C} (hy : y.v ≤ maxI) : bfr x y = decide (endV x < y.v) := by
  unfold bfr endV
  by_cases h : 0 ≤ x.a
  · simp [h]
  · have : ¬ maxI < y.v := by omega
    simp [h, this]
/-- the order agrees with precedence -/
def agB (l : List C) (o : List Int) : Bool := (List.range o.length).all fun k => (List.range l.length).all fun i => !bfr (l.getD i c0) (l.getD (o.getD k 0).toNat c0) || decide ((i : Int) ∈ o.take k)
theorem agB_iff {l : List C} {o : List Int} : agB l o = true ↔ ∀ k, k < o.length → ∀ i, i < l.length → bfr (l.getD i c0) (l.getD (o.getD k 0).toNat c0) = true → (i : Int) ∈ o.take k := by
  unfold agB
  simp only [List.all_eq_true, List.mem_range, Bool.or_eq_true, Bool.not_eq_true', decide_eq_true_eq]
  constructor
  · intro h k hk i hi hb
    rcases h k hk i hi with h1 | h1
    · rw [hb] at h1; cases h1
    · exact h1
  · intro h k hk i hi
    cases hb : bfr (l.getD i c0) (l.getD (o.getD k 0).toNat c0) with
    | false => exact .inl rfl
    | true => exact .inr (h k hk i hi hb)
theorem bfr_self {c : C} (h : One c) : bfr c c = false := by
  have := h.a1
  cases hb : bfr c c with
  | false => rfl
  | true => simp [bfr] at hb; omega
/-- a call as it was after a step at which it had begun -/
def cutC (st : Int) (c : C) : C :=
  let d : C := if st < c.u then { c with u := -1 } else c
  if st < c.a then { d with a := -1, s := 0, re := 0, rf := false, rk := 0, rv := 0, rc := 0 } else d
def pref (st : Int) (l : List C) : List C := (l.filter fun c => decide (c.v ≤ st)).map (cutC st)
theorem cut_t (st : Int) (c : C) : (cutC st c).t = c.t := by unfold cutC; simp only; split <;> split <;> rfl
theorem cut_i (st : Int) (c : C) : (cutC st c).i = c.i := by unfold cutC; simp only; split <;> split <;> rfl
theorem cut_v (st : Int) (c : C) : (cutC st c).v = c.v := by unfold cutC; simp only; split <;> split <;> rfl
theorem cut_u (st : Int) (c : C) : (cutC st c).u = if st < c.u then -1 else c.u := by unfold cutC; simp only; split <;> split <;> rfl
theorem cut_a (st : Int) (c : C) : (cutC st c).a = if st < c.a then -1 else c.a := by unfold cutC; simp only; split <;> split <;> rfl
theorem cut_end {st : Int} {c : C} (h1 : -1 ≤ st) (h : endB c = true) : endB (cutC st c) = true := by
  by_cases ha : st < c.a
  · have e1 : (cutC st c).a = -1 := by rw [cut_a, if_pos ha]
    have e2 : (cutC st c).s = 0 := by unfold cutC; simp only; rw [if_pos ha]
    have e3 : rz (cutC st c) = true := by unfold cutC; simp only; rw [if_pos ha]; rfl
    unfold endB
    rw [if_pos (by omega), e1, e2, e3]; rfl
  · by_cases h0 : c.a < 0
    · have hu : c.u ≤ st ∨ st < c.u := by omega
      have e1 : (cutC st c).a = c.a := by rw [cut_a, if_neg ha]
      have e2 : (cutC st c).s = c.s := by unfold cutC; simp only; rw [if_neg ha]; split <;> rfl
      have e3 : rz (cutC st c) = rz c := by unfold cutC; simp only; rw [if_neg ha]; split <;> rfl
      unfold endB at h ⊢
      rw [e1, e2, e3, if_pos h0]
      rw [if_pos h0] at h
      exact h
    · have hn := (endB_a h).2 (by omega)
      have e : cutC st c = c := by unfold cutC; simp only; rw [if_neg ha, if_neg (by omega)]
      rw [e]; exact h
theorem cut_stp {st : Int} {c : C} {s : Int} (h : s ∈ stp (cutC st c)) : s ∈ stp c := by
  rw [mem_stp] at h ⊢
  rw [cut_v, cut_u, cut_a] at h
  obtain ⟨h1, h2⟩ := h
  refine ⟨?_, h2⟩
  rcases h1 with h1 | h1 | h1
  · exact .inl h1
  · split at h1
    · omega
    · exact .inr (.inl h1)
  · split at h1
    · omega
    · exact .inr (.inr h1)
theorem ofT_map (st t : Int) (l : List C) : ofT t (l.map (cutC st)) = (ofT t l).map (cutC st) := by
  unfold ofT
  rw [List.filter_map]
  congr 1
  apply List.filter_congr
  intro c _
  simp [cut_t]
theorem good_cut {st : Int} {l : List C} {c : C} (h1 : -1 ≤ st) (hc : c.v ≤ st) (h : Good l c) : Good (l.map (cutC st)) (cutC st c) := by
  refine ⟨by rw [cut_t]; exact h.t0, by rw [cut_t]; exact h.t1, ?_, by rw [cut_v]; exact h.v0, ?_, ?_, cut_end h1 h.en, ?_, ?_⟩
  · rw [cut_t, cut_i, ofT_map, List.length_map]; exact h.i
  · have hv := h.v1
    unfold prevV at hv ⊢
    rw [List.getLast?_map, cut_v]
    cases hl : l.getLast? with
    | none => rw [hl] at hv; exact hv
    | some p => rw [hl] at hv; simp only [Option.map_some]; rw [cut_v]; exact hv
  · rw [cut_u, cut_v]
    have := h.tk
    split <;> omega
  · rw [cut_t, ofT_map, List.getLast?_map]
    intro p hp
    cases hl : (ofT c.t l).getLast? with
    | none => rw [hl] at hp; cases hp
    | some q =>
      rw [hl] at hp
      simp only [Option.map_some, Option.some.injEq] at hp
      subst hp
      have := h.fo q hl
      simp only [bfr, Bool.and_eq_true, decide_eq_true_eq] at this ⊢
      rw [cut_a, cut_v]
      rw [if_neg (by omega)]
      exact this
  · intro x hx ht
    rw [List.mem_map] at hx
    obtain ⟨y, hy, rfl⟩ := hx
    rw [cut_t, cut_t] at ht
    have := h.pa y hy ht
    cases hm : meetB (cutC st y) (cutC st c) with
    | false => rfl
    | true =>
      unfold meetB at hm
      rw [List.any_eq_true] at hm
      obtain ⟨s, h2, h3⟩ := hm
      exact absurd (cut_stp (by simpa using h3)) (meet_no this (cut_stp h2))
/-- the calls that had begun come first -/
theorem begun_take {st : Int} {l : List C} (h : WF l) : ∃ m, m ≤ l.length ∧ (l.filter fun c => decide (c.v ≤ st)) = l.take m ∧ ∀ i, i < l.length → (i < m ↔ (l.getD i c0).v ≤ st) := by
  have key : ∀ l : List C, l.Pairwise (fun x y => x.v < y.v) → ∃ m, m ≤ l.length ∧ (l.filter fun c => decide (c.v ≤ st)) = l.take m ∧ ∀ i, i < l.length → (i < m ↔ (l.getD i c0).v ≤ st) := by
    intro l
    induction l with
    | nil => intro _; exact ⟨0, Nat.zero_le _, rfl, fun i hi => by simp at hi⟩
    | cons e r ih =>
      intro hp
      have hp1 := List.pairwise_cons.1 hp
      by_cases hs : e.v ≤ st
      · obtain ⟨m, h1, h2, h3⟩ := ih hp1.2
        refine ⟨m + 1, by simp; omega, ?_, fun i hi => ?_⟩
        · rw [List.filter_cons_of_pos (by simpa using hs), h2, List.take_succ_cons]
        · cases i with
          | zero => simp [hs]
          | succ i =>
            have := h3 i (by simpa using hi)
            rw [List.getD_cons_succ]
            omega
      · refine ⟨0, Nat.zero_le _, ?_, fun i hi => ?_⟩
        · rw [List.take_zero, List.filter_eq_nil_iff]
          intro x hx
          simp at hx
          rcases hx with rfl | hx
          · simpa using hs
          · have := hp1.1 x hx; simp; omega
        · cases i with
          | zero => simp; omega
          | succ i =>
            rw [List.getD_cons_succ]
            have hi2 : i < r.length := by simpa using hi
            have := hp1.1 _ (mem_get hi2)
            omega
  exact key l ((WF_two h).imp fun h => h.v)
theorem WF_map_cut {st : Int} (h1 : -1 ≤ st) : ∀ l : List C, WF l → (∀ c ∈ l, c.v ≤ st) → WF (l.map (cutC st)) := by
  refine snoc_ind ?_ ?_
  · intro _ _; exact WF_nil
  · intro l e ih h hv
    obtain ⟨h2, h3⟩ := WF_snoc.1 h
    rw [List.map_append, List.map_cons, List.map_nil, WF_snoc]
    exact ⟨ih h2 fun c hc => hv c (by simp [hc]), goodB_iff.2 (good_cut h1 (hv e (by simp)) (goodB_iff.1 h3))⟩
theorem WF_pref {st : Int} {l : List C} (h1 : -1 ≤ st) (h : WF l) : WF (pref st l) := by
  obtain ⟨m, _, e, _⟩ := begun_take (st := st) h
  unfold pref
  rw [e]
  refine WF_map_cut h1 _ (WF_take h m) fun c hc => ?_
  rw [← e, List.mem_filter] at hc
  simpa using hc.2
theorem cut_cut {s t : Int} (hs : -1 ≤ s) (ht : -1 ≤ t) (c : C) : cutC t (cutC s c) = cutC (min s t) c := by
  obtain ⟨q1, q2, q3, q4, q5, q6, q7, q8, q9, v, u, a, ss, re, rf, rk, rv, rc⟩ := c
  unfold cutC
  simp only
  by_cases h1 : s < u <;> by_cases h2 : s < a <;> by_cases h3 : t < u <;> by_cases h4 : t < a
  all_goals
    have e1 : (min s t < u) = (s < u ∨ t < u) := by apply propext; omega
    have e2 : (min s t < a) = (s < a ∨ t < a) := by apply propext; omega
    have e3 : ¬ t < -1 := by omega
    simp [h1, h2, h3, h4, e1, e2, e3]
theorem pref_pref {s t : Int} (hs : -1 ≤ s) (ht : -1 ≤ t) (l : List C) : pref t (pref s l) = pref (min s t) l := by
  unfold pref
  rw [List.filter_map, List.map_map, List.filter_filter]
  have e1 : (cutC t ∘ cutC s) = cutC (min s t) := funext fun c => cut_cut hs ht c
  rw [e1]
  congr 1
  apply List.filter_congr
  intro c _
  simp only [Function.comp, cut_v]
  rw [← Bool.decide_and]
  congr 1
  apply propext
  omega
theorem pref_len (st : Int) (l : List C) : (pref st l).length ≤ l.length := by
  unfold pref; rw [List.length_map]; exact List.length_filter_le _ _
/-- the effects of a prefix are the first ones -/
theorem eff_pref {st : Int} {l : List C} (h1 : -1 ≤ st) (h : WF l) : ∃ q, q ≤ (eff l).length ∧ eff (pref st l) = (eff l).take q ∧ ∀ k, k < (eff l).length → (k < q ↔ tk l ((eff l).getD k 0) ≤ st) := by
  obtain ⟨m, hm, e, hmi⟩ := begun_take (st := st) h
  have ho := WF_one h
  -- the effects up to the step
  have key : ∀ x : List Nat, x.Pairwise (fun i j => tk l i < tk l j) → ∃ q, q ≤ x.length ∧ (x.filter fun i => decide (tk l i ≤ st)) = x.take q ∧ ∀ k, k < x.length → (k < q ↔ tk l (x.getD k 0) ≤ st) := by
    intro x
    induction x with
    | nil => intro _; exact ⟨0, Nat.zero_le _, rfl, fun i hi => by simp at hi⟩
    | cons e r ih =>
      intro hp
      have hp1 := List.pairwise_cons.1 hp
      by_cases hs : tk l e ≤ st
      · obtain ⟨q, h1, h2, h3⟩ := ih hp1.2
        refine ⟨q + 1, by simp; omega, ?_, fun i hi => ?_⟩
        · rw [List.filter_cons_of_pos (by simpa using hs), h2, List.take_succ_cons]
        · cases i with
          | zero => simp [hs]
          | succ i =>
            have := h3 i (by simpa using hi)
            rw [List.getD_cons_succ]
            omega
      · refine ⟨0, Nat.zero_le _, ?_, fun i hi => ?_⟩
        · rw [List.take_zero, List.filter_eq_nil_iff]
          intro x hx
          simp at hx
          rcases hx with rfl | hx
          · simpa using hs
          · have := hp1.1 x hx; simp; omega
        · cases i with
          | zero => simp; omega
          | succ i =>
            rw [List.getD_cons_succ]
            have hi2 : i < r.length := by simpa using hi
            have hx : r.getD i 0 ∈ r := by rw [List.getD_eq_getElem?_getD, List.getElem?_eq_getElem hi2]; exact List.getElem_mem hi2
            have := hp1.1 _ hx
            omega
  obtain ⟨q, hq, e2, hk⟩ := key (eff l) (eff_lt h)
  refine ⟨q, hq, ?_, hk⟩
  have hlen : (pref st l).length = m := by unfold pref; rw [e, List.length_map, List.length_take]; omega
  have hget : ∀ i, i < m → (pref st l).getD i c0 = cutC st (l.getD i c0) := by
    intro i hi
    unfold pref
    rw [e, List.getD_eq_getElem?_getD, List.getElem?_map, List.getElem?_take_of_lt hi, List.getD_eq_getElem?_getD, List.getElem?_eq_getElem (by omega)]
    rfl
  have htk : ∀ i, i < m → tk (pref st l) i = if st < tk l i then -1 else tk l i := fun i hi => by
    unfold tk; rw [hget i hi, cut_u]
  rw [← e2]
  refine sorted_eq (f := tk (pref st l)) (eff_lt (WF_pref h1 h)) ?_ ?_
  · refine List.Pairwise.imp_of_mem (fun {i j} hi hj hw => ?_) ((eff_lt h).filter _)
    rw [List.mem_filter] at hi hj
    have hi1 := mem_eff.1 hi.1
    have hj1 := mem_eff.1 hj.1
    have hi2 : tk l i ≤ st := by simpa using hi.2
    have hj2 : tk l j ≤ st := by simpa using hj.2
    have oi := ho _ (mem_get hi1.1)
    have oj := ho _ (mem_get hj1.1)
    have him : i < m := (hmi i hi1.1).2 (by have := oi.u1; have := hi1.2; unfold tk at *; omega)
    have hjm : j < m := (hmi j hj1.1).2 (by have := oj.u1; have := hj1.2; unfold tk at *; omega)
    rw [htk i him, htk j hjm, if_neg (by omega), if_neg (by omega)]
    exact hw
  · intro i
    rw [mem_eff, hlen, List.mem_filter, mem_eff]
    constructor
    · rintro ⟨hi, h0⟩
      rw [htk i hi] at h0
      split at h0
      · omega
      · exact ⟨⟨by omega, h0⟩, by simp; omega⟩
    · rintro ⟨⟨hi, h0⟩, h2⟩
      have h2 : tk l i ≤ st := by simpa using h2
      have oi := ho _ (mem_get hi)
      have him : i < m := (hmi i hi).2 (by have := oi.u1; unfold tk at *; omega)
      refine ⟨him, ?_⟩
      rw [htk i him, if_neg (by omega)]
      exact h0
end Hi
end Go.Proofs.Ytgfhfcjjodcgdaa
