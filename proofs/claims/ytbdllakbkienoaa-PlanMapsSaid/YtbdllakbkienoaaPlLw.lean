/- What the laws of layer 6 say, as mathematics of plans. No program. -/
import Derived.Test.YtbdllakbkienoaaPlE
import Derived.Test.YtbdllakbkienoaaPlL
namespace Go.Proofs.Ytbdllakbkienoaa
set_option linter.unusedVariables false
set_option linter.unusedSimpArgs false
namespace Pl
open Om (Asc getL inL outL mvL)
/-! ### PlanUndoes -/
theorem revR_revR (x : Rc) : revR (revR x) = x := rfl
theorem map_rev_rev (l : List Rc) : (l.map revR).map revR = l := by
  rw [List.map_map]
  exact (List.map_congr_left (g := id) fun x _ => rfl).trans (List.map_id l)
theorem okR_rev {x : Rc} (h : okR x) : okR (revR x) := ⟨h.1.symm, h.2.2, h.2.1⟩
theorem chk_rev {l : List Rc} (h : chk l) : chk (l.map revR) := by
  refine ⟨fun x hx => ?_, fun j x y hx hy => ?_⟩
  · obtain ⟨z, hz, rfl⟩ := List.mem_map.1 hx
    exact okR_rev (h.1 z hz)
  · rw [List.getElem?_map] at hx hy
    obtain ⟨x', hx', rfl⟩ := Option.map_eq_some_iff.1 hx
    obtain ⟨y', hy', rfl⟩ := Option.map_eq_some_iff.1 hy
    exact h.2 j x' y' hx' hy'
theorem apE_zero {p : List Om.Pr} {l : List Rc} (h : apE p l = 0) : Asc p ∧ chk l ∧ fits p (l.map canon) := by
  by_cases hk : Asc p ∧ chk l
  · by_cases hf : fits p (l.map canon)
    · exact ⟨hk.1, hk.2, hf⟩
    · rw [apE_st hk.1 hk.2 hf] at h; cases h
  · rw [apE_no hk] at h; cases h
theorem undo {p : List Om.Pr} {l : List Rc} (h : apE p l = 0) : apE (apR p l) (l.map revR) = 0 ∧ apR (apR p l) (l.map revR) = p := by
  obtain ⟨ha, hk, hf⟩ := apE_zero h
  have e : apR p l = appL p (l.map canon) := apR_yes h
  have ha2 : Asc (apR p l) := by rw [e]; exact appL_asc _ ha
  have hf2 : fits (apR p l) ((l.map revR).map canon) := by rw [e, revs_eq]; exact inv_fits ha (chk_asc hk)
  have h0 := apE_ok ha2 (chk_rev hk) hf2
  refine ⟨h0, ?_⟩
  rw [apR_yes h0, e, revs_eq]
  exact inv_back ha (chk_asc hk) hf
theorem cnt_cons (f : Rc → Bool) (x : Rc) (l : List Rc) : cnt f (x :: l) = (if f x then 1 else 0) + cnt f l := by
  unfold cnt
  rw [List.filter_cons]
  cases f x <;> simp; omega
theorem cnt_rev : ∀ {l : List Rc}, (∀ x, x ∈ l → okR x) → cnt isG (l.map revR) = cnt isB l ∧ cnt isB (l.map revR) = cnt isG l ∧ cnt isS (l.map revR) = cnt isS l ∧ (l.map canon).length = l.length ∧ nB (l.map canon) = cnt isB l ∧ nG (l.map canon) = cnt isG l
  | [], _ => ⟨rfl, rfl, rfl, rfl, rfl, rfl⟩
  | x :: l, h => by
    obtain ⟨h1, h2, h3, h4, h5, h6⟩ := cnt_rev (l := l) fun y hy => h y (List.mem_cons_of_mem _ hy)
    have ho := h x (List.mem_cons_self ..)
    have e1 : nB (canon x :: l.map canon) = (if (canon x).b = none then 1 else 0) + nB (l.map canon) := by
      unfold nB; rw [List.filter_cons]
      by_cases e : (canon x).b = none <;> simp [e]; omega
    have e2 : nG (canon x :: l.map canon) = (if (canon x).a = none then 1 else 0) + nG (l.map canon) := by
      unfold nG; rw [List.filter_cons]
      by_cases e : (canon x).a = none <;> simp [e]; omega
    simp only [List.map_cons, List.length_cons]
    rw [cnt_cons, cnt_cons, cnt_cons, cnt_cons, cnt_cons, cnt_cons, h1, h2, h3, e1, e2, h5, h6]
    obtain ⟨k, w, o, i, n⟩ := x
    obtain ⟨o1, o2, o3⟩ := ho
    cases w <;> cases i <;> simp_all [isB, isG, isS, revR, canon]
/-- how many pairs there are behind a plan -/
theorem undo_len {p : List Om.Pr} {l : List Rc} (h : apE p l = 0) : (apR p l).length + cnt isG l = p.length + cnt isB l := by
  obtain ⟨ha, hk, hf⟩ := apE_zero h
  have := app_len (l.map canon) ha (chk_asc hk) (chk_real hk) hf
  obtain ⟨_, _, _, _, h5, h6⟩ := cnt_rev hk.1
  rw [apR_yes h]
  omega
/-! ### PlanCancels -/
def cnl (l : List Rc) : List Rc := (l.filter (·.w)).map fun x => ⟨x.k, true, x.o, true, x.o⟩
theorem inv_okT {L : List Cg} : okT L (inv L) := fun k x y hx hy => by
  rw [inv_get, hx] at hy
  cases hy; rfl
theorem thL_inv {L : List Cg} (h : AscC L) : thL L (inv L) = L.filterMap fun x => if x.b = none then none else some ⟨x.k, x.b, x.b⟩ := by
  induction L with
  | nil => rfl
  | cons x L ih =>
    show thL (x :: L) (x.rev :: inv L) = _
    have hi : AscC (x.rev :: inv L) := inv_asc h
    rw [thL_eq h hi rfl, ih h.tail, List.filterMap_cons]
    by_cases hb : x.b = none
    · rw [if_pos ⟨hb, hb⟩, if_pos hb]
    · rw [if_neg (fun q => hb q.1), if_neg hb]; rfl
theorem cnl_eq : ∀ {l : List Rc}, (∀ x, x ∈ l → okR x) → ((l.map canon).filterMap fun x => if x.b = none then none else some (⟨x.k, x.b, x.b⟩ : Cg)).map rawC = cnl l
  | [], _ => rfl
  | x :: l, h => by
    have ih := cnl_eq (l := l) fun y hy => h y (List.mem_cons_of_mem _ hy)
    rw [List.map_cons, List.filterMap_cons]
    unfold cnl at ih ⊢
    rw [List.filter_cons]
    obtain ⟨k, w, o, i, n⟩ := x
    cases w
    · simpa [canon] using ih
    · simp only [canon, if_true]
      simp only [reduceCtorEq, if_false, List.map_cons]
      rw [← ih]
      rfl
theorem cancel {l : List Rc} (h : chk l) : thE l (l.map revR) = 0 ∧ thR l (l.map revR) = cnl l := by
  have hk : okT (l.map canon) ((l.map revR).map canon) := by rw [revs_eq]; exact inv_okT
  have h0 := thE_ok h (chk_rev h) hk
  refine ⟨h0, ?_⟩
  rw [thR_yes h0, revs_eq, thL_inv (chk_asc h), cnl_eq h.1]
theorem cnl_take_yes {l : List Rc} {j : Nat} {x : Rc} (hx : l[j]? = some x) (h : x.w = true) : cnl (l.take (j + 1)) = cnl (l.take j) ++ [⟨x.k, true, x.o, true, x.o⟩] ∧ (cnl l)[(cnl (l.take j)).length]? = some ⟨x.k, true, x.o, true, x.o⟩ := by
  have e1 : cnl (l.take (j + 1)) = cnl (l.take j) ++ [⟨x.k, true, x.o, true, x.o⟩] := by
    unfold cnl; rw [take_succ' hx, List.filter_append, List.map_append]; simp [h]
  refine ⟨e1, ?_⟩
  have e2 : cnl l = cnl (l.take (j + 1)) ++ cnl (l.drop (j + 1)) := by
    unfold cnl; rw [← List.map_append, ← List.filter_append, List.take_append_drop]
  rw [e2, e1, List.append_assoc, List.getElem?_append_right (Nat.le_refl _), Nat.sub_self]
  rfl
theorem cnl_take_no {l : List Rc} {j : Nat} {x : Rc} (hx : l[j]? = some x) (h : x.w = false) : cnl (l.take (j + 1)) = cnl (l.take j) := by
  unfold cnl; rw [take_succ' hx, List.filter_append, List.map_append]; simp [h]
theorem cnl_len (l : List Rc) : (cnl l).length ≤ l.length := by
  unfold cnl; rw [List.length_map]; exact List.length_filter_le _ _
/-! ### PlanJoins -/
structure Pn (p : List Om.Pr) (L : List Cg) : Prop where
  asc : AscC L
  real : Real L
  fit : fits p L
theorem Pn.nil (p : List Om.Pr) : Pn p [] := ⟨AscC.nil, fun x hx => (by cases hx), fun x hx => (by cases hx)⟩
theorem bd_mv {p : List Om.Pr} {lo hi d : Int} (hb : Om.Bd p) (d0 : 0 ≤ d) (hs : hi + d ≤ 18446744073709551615) : Om.Bd (mvL p lo hi d) := fun x hx => by
  rcases Om.mem_setA _ _ _ hx with h | h
  · exact hb x (List.mem_filter.1 h).1
  · obtain ⟨y, hy, rfl⟩ := List.mem_map.1 h
    obtain ⟨h1, h2, h3⟩ := Om.in_mem hy
    obtain ⟨b0, b1, b2, b3⟩ := hb y h1
    exact ⟨show 0 ≤ y.1 + d by omega, show y.1 + d ≤ _ by omega, b2, b3⟩
theorem one_plan {p : List Om.Pr} {lo hi d : Int} (ha : Asc p) (hb : Om.Bd p) (d0 : 0 ≤ d) : ∃ L, oneR p lo hi d = L.map rawC ∧ Pn p L ∧ (appL p L).length ≤ p.length ∧ Om.Bd (appL p L) ∧ L.length ≤ 2 * p.length := by
  have hlen := oneR_len p lo hi d
  unfold oneR at hlen ⊢
  by_cases h0 : d = 0
  · rw [if_pos h0] at hlen ⊢
    by_cases h : deE p lo hi = 0
    · rw [deR_yes h] at hlen ⊢
      rw [List.length_map] at hlen
      refine ⟨deP p lo hi, rfl, ⟨deP_asc ha _ _, deP_real ha _ _, plan_fits⟩, ?_, ?_, hlen⟩
      · rw [deP_app ha]; exact Om.outL_len _ _ _
      · rw [deP_app ha]; exact fun x hx => hb x (List.mem_filter.1 hx).1
    · rw [deR_no rfl h]
      exact ⟨[], rfl, Pn.nil p, Nat.le_refl _, hb, Nat.zero_le _⟩
  · rw [if_neg h0] at hlen ⊢
    by_cases h : mvE p lo hi d = 0
    · rw [mvR_yes h] at hlen ⊢
      rw [List.length_map] at hlen
      have hs : hi + d ≤ 18446744073709551615 := by
        rw [mvE_sh ha h0] at h
        rcases shE_cases lo hi d with h1 | h1 | h1
        · exact h1.2.2
        · omega
        · omega
      refine ⟨mvP p lo hi d, rfl, ⟨mvP_asc ha _ _ _, mvP_real ha _ _ _, plan_fits⟩, ?_, ?_, hlen⟩
      · rw [mvP_app ha]; exact Om.mvL_len_le _ _ _ _
      · rw [mvP_app ha]; exact bd_mv hb d0 hs
    · rw [mvR_no rfl h]
      exact ⟨[], rfl, Pn.nil p, Nat.le_refl _, hb, Nat.zero_le _⟩
theorem Pn.chk {p : List Om.Pr} {L : List Cg} (h : Pn p L) : chk (L.map rawC) := raw_chk h.asc h.real
theorem Pn.ap {p : List Om.Pr} {L : List Cg} (h : Pn p L) (ha : Asc p) : apE p (L.map rawC) = 0 ∧ apR p (L.map rawC) = appL p L := by
  have h0 : apE p (L.map rawC) = 0 := apE_ok ha h.chk (by rw [canon_raws]; exact h.fit)
  exact ⟨h0, by rw [apR_yes h0, canon_raws]⟩
theorem Pn.th {p : List Om.Pr} {a b : List Cg} (ha : Asc p) (h : Pn p a) (h2 : Pn (appL p a) b) : Pn p (thL a b) ∧ thE (a.map rawC) (b.map rawC) = 0 ∧ thR (a.map rawC) (b.map rawC) = (thL a b).map rawC ∧ appL p (thL a b) = appL (appL p a) b := by
  have hk := okT_of ha h.asc h2.fit
  have h0 : thE (a.map rawC) (b.map rawC) = 0 := thE_ok h.chk h2.chk (by rw [canon_raws, canon_raws]; exact hk)
  exact ⟨⟨thL_asc h.asc h2.asc, thL_real h.real h2.real h.asc h2.asc, thL_fits ha h.asc h2.asc h.fit h2.fit⟩, h0, by rw [thR_yes h0, canon_raws, canon_raws], thL_app ha h.asc h2.asc h.fit h2.fit⟩
theorem Pn.assoc {p : List Om.Pr} {a b c : List Cg} (ha : Asc p) (h : Pn p a) (h2 : Pn (appL p a) b) (h3 : Pn (appL (appL p a) b) c) : thL (thL a b) c = thL a (thL b c) := by
  have hab := h.th ha h2
  have hp := appL_asc a ha
  have hbc := h2.th hp h3
  refine thL_assoc h.asc h2.asc h3.asc h.real h2.real h3.real (okT_of ha h.asc h2.fit) (okT_of hp h2.asc h3.fit) ?_ ?_
  · exact okT_of ha hab.1.asc (by rw [hab.2.2.2]; exact h3.fit)
  · exact okT_of ha h.asc hbc.1.fit
end Pl
end Go.Proofs.Ytbdllakbkienoaa
