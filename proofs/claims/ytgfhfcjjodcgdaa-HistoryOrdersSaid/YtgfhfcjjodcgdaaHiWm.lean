/- Layer 12: what the laws say, as mathematics: effects, threads, orders. No conditions besides those of each lemma. -/
import Derived.Test.YtgfhfcjjodcgdaaHiLw
namespace Go.Proofs.Ytgfhfcjjodcgdaa
open Go.RowKit Go.Shelf Go.Sort
set_option linter.unusedVariables false
set_option linter.unusedSimpArgs false
namespace Hi
variable {α : Type}
/-- the effects as a row -/
def eL (l : List C) : List Int := (eff l).map fun i : Nat => (i : Int)
theorem eL_len (l : List C) : (eL l).length = (eff l).length := List.length_map _
theorem efL_wf {l : List C} (h : WF l) : efL l = eL l := by unfold efL eL; rw [if_pos (erC_ok h)]
theorem efL_no {l : List C} (h : ¬ WF l) : efL l = [] := by
  unfold efL
  rw [if_neg]
  unfold erC
  rw [if_neg (fun e => h (chk_none.1 e))]
  decide
theorem eL_get {l : List C} {k : Nat} (h : k < (eff l).length) : (eL l).getD k 0 = ((eff l).getD k 0 : Nat) := by
  unfold eL
  rw [List.getD_eq_getElem?_getD, List.getElem?_map, List.getElem?_eq_getElem h, List.getD_eq_getElem?_getD, List.getElem?_eq_getElem h]; rfl
theorem eL_take {l : List C} {k e : Nat} : (e : Int) ∈ (eL l).take k ↔ e ∈ (eff l).take k := by
  unfold eL
  rw [← List.map_take, List.mem_map]
  constructor
  · rintro ⟨a, h, e'⟩
    obtain rfl : a = e := by omega
    exact h
  · intro h; exact ⟨e, h, rfl⟩
theorem eff_fresh {l : List C} {k : Nat} (h : k < (eff l).length) : ¬ (eff l).getD k 0 ∈ (eff l).take k := by
  intro hm
  rw [getD_eff h] at hm
  have hn := eff_nodup l
  rw [← List.take_append_drop k (eff l), List.nodup_append] at hn
  refine hn.2.2 _ hm _ ?_ rfl
  rw [List.drop_eq_getElem_cons h]
  exact List.mem_cons_self ..
theorem eL_fresh {l : List C} {k e : Nat} (h : k < (eff l).length) (he : (eff l).getD k 0 = e) : inO (eL l) k e = false := by
  unfold inO
  rw [decide_eq_false_iff_not, eL_take, ← he]
  exact eff_fresh h
theorem eL_seen {l : List C} {i m : Nat} (hm : m = (eff l).length) (hi : i < l.length) : inO (eL l) m i = decide (0 ≤ tk l i) := by
  subst hm
  unfold inO
  apply decide_eq_decide.2
  rw [eL_take, List.take_length, mem_eff]
  exact ⟨fun h => h.2, fun h => ⟨hi, h⟩⟩
theorem eff_step {l : List C} (h : WF l) {k : Nat} (hk : k + 1 < (eff l).length) : tk l ((eff l).getD k 0) < tk l ((eff l).getD (k + 1) 0) := by
  rw [getD_eff hk, getD_eff (by omega)]
  exact List.pairwise_iff_getElem.1 (eff_lt h) k (k + 1) (by omega) hk (by omega)
/-- an answered call has taken effect -/
theorem ans_took {l : List C} (h : WF l) {i : Nat} (hi : i < l.length) (ha : 0 ≤ (l.getD i c0).a) : 0 ≤ tk l i := ((WF_one h _ (mem_get hi)).a1 ha).1
theorem eL_ord {l : List C} : ordE l.length (eL l) = 0 := by
  refine ordE_no fun k hk => ?_
  rw [eL_len] at hk
  unfold ordAt
  rw [eL_get hk]
  have h1 := eff_get_lt hk
  rw [if_neg (by omega), if_neg]
  rw [eL_take]
  exact eff_fresh hk
theorem eL_ag {l : List C} (h : WF l) : agB l (eL l) = true := by
  rw [agB_iff]
  intro k hk i hi hb
  rw [eL_len] at hk
  rw [eL_get hk] at hb
  rw [eL_take]
  obtain ⟨he, hu⟩ := eff_get_lt hk
  obtain ⟨e, hee⟩ : ∃ e, (eff l).getD k 0 = e := ⟨_, rfl⟩
  rw [hee] at he hu hb
  rw [show ((e : Nat) : Int).toNat = e by omega] at hb
  unfold bfr at hb
  simp only [Bool.and_eq_true, decide_eq_true_eq] at hb
  have o1 := WF_one h _ (mem_get hi)
  have o2 := WF_one h _ (mem_get he)
  have a1 := o1.a1 hb.1
  have u1 := o2.u1
  have hlt : tk l i < tk l e := by unfold tk at hu ⊢; omega
  have hm : i ∈ eff l := mem_eff.2 ⟨hi, a1.1⟩
  obtain ⟨j, hj, ej⟩ := List.mem_iff_getElem.1 hm
  have hp := List.pairwise_iff_getElem.1 (eff_lt h)
  rw [getD_eff hk] at hee
  have hjk : j < k := by
    rcases Nat.lt_trichotomy j k with hl | hl | hl
    · exact hl
    · subst hl; rw [ej] at hee; subst hee; omega
    · have := hp k j hk hj hl; rw [ej, hee] at this; omega
  rw [List.mem_take_iff_getElem]
  exact ⟨j, by omega, ej⟩
theorem eL_yes {l : List C} (h : WF l) : agV l (eL l) = true ∧ erA l (eL l) = 0 := by
  have e : erA l (eL l) = 0 := by unfold erA; rw [if_pos (erC_ok h)]; exact eL_ord
  exact ⟨by unfold agV; rw [e, eL_ag h]; rfl, e⟩
/-- how many calls of the threads below t -/
def sumT (f : Nat → Nat) : Nat → Nat
  | 0 => 0
  | t + 1 => sumT f t + f t
theorem sumT_add (f g : Nat → Nat) : ∀ t, sumT (fun k => f k + g k) t = sumT f t + sumT g t
  | 0 => rfl
  | t + 1 => by simp only [sumT]; rw [sumT_add f g t]; omega
theorem sumT_zero : ∀ t, sumT (fun _ => 0) t = 0
  | 0 => rfl
  | t + 1 => by simp only [sumT]; rw [sumT_zero t]
theorem sumT_one (k v : Nat) : ∀ t, sumT (fun i => if i = k then v else 0) t = if k < t then v else 0
  | 0 => by simp [sumT]
  | t + 1 => by
    simp only [sumT]
    rw [sumT_one k v t]
    by_cases h : k < t
    · rw [if_pos h, if_neg (by omega), if_pos (by omega)]
      rfl
    · rw [if_neg h]
      by_cases h2 : t = k
      · rw [if_pos h2, if_pos (by omega)]; omega
      · rw [if_neg h2, if_neg (by omega)]
theorem sumT_congr {f g : Nat → Nat} (h : ∀ k, f k = g k) : ∀ t, sumT f t = sumT g t
  | 0 => rfl
  | t + 1 => by simp only [sumT]; rw [sumT_congr h t, h t]
theorem sumT_le {f : Nat → Nat} {n : Nat} (h : ∀ k, f k ≤ n) : ∀ t, sumT f t ≤ t * n
  | 0 => by simp [sumT]
  | t + 1 => by simp only [sumT]; have := sumT_le h t; have := h t; rw [Nat.succ_mul]; omega
/-- the calls of all threads, as far as p holds of them -/
theorem sum_of (p : C → Bool) {n : Nat} : ∀ l : List C, (∀ c ∈ l, 0 ≤ c.t ∧ c.t < n) → sumT (fun t => ((ofT (t : Int) l).filter p).length) n = (l.filter p).length := by
  intro l
  induction l with
  | nil => intro _; exact sumT_zero n
  | cons c l ih =>
    intro h
    have hc := h c (List.mem_cons_self ..)
    have ih := ih fun x hx => h x (List.mem_cons_of_mem _ hx)
    have e : ∀ t : Nat, ((ofT (t : Int) (c :: l)).filter p).length = ((ofT (t : Int) l).filter p).length + (if t = c.t.toNat then (if p c = true then 1 else 0) else 0) := fun t => by
      unfold ofT
      by_cases ht : t = c.t.toNat
      · have : decide (c.t = (t : Int)) = true := decide_eq_true (by omega)
        rw [if_pos ht, List.filter_cons_of_pos (p := fun c : C => decide (c.t = (t : Int))) this]
        by_cases hp : p c = true
        · rw [if_pos hp, List.filter_cons_of_pos hp]; rfl
        · rw [if_neg hp, List.filter_cons_of_neg hp]; rfl
      · have : ¬ decide (c.t = (t : Int)) = true := by rw [decide_eq_true_eq]; omega
        rw [if_neg ht, List.filter_cons_of_neg (p := fun c : C => decide (c.t = (t : Int))) this]; rfl
    rw [sumT_congr e, sumT_add, ih, sumT_one, if_pos (by omega)]
    by_cases hp : p c = true
    · rw [if_pos hp, List.filter_cons_of_pos hp]; rfl
    · rw [if_neg hp, List.filter_cons_of_neg hp]; rfl
theorem idx_all (p : C → Bool) : ∀ l : List C, (idx p l l.length).length = (l.filter p).length := by
  refine snoc_ind ?_ ?_
  · rfl
  · intro l e ih
    have hg : ∀ j, j < l.length → (l ++ [e]).getD j c0 = l.getD j c0 := fun j hj => by
      rw [List.getD_eq_getElem?_getD, List.getElem?_append_left hj, ← List.getD_eq_getElem?_getD]
    have hl : (l ++ [e]).getD l.length c0 = e := by
      rw [List.getD_eq_getElem?_getD, List.getElem?_append_right (Nat.le_refl _)]; simp
    have hi : idx p (l ++ [e]) l.length = idx p l l.length := by
      unfold idx
      congr 1
      apply List.filter_congr
      intro x hx
      rw [List.mem_range] at hx
      rw [hg x hx]
    rw [List.length_append, List.length_singleton, idx_succ, hl, hi, List.filter_append]
    by_cases h : p e = true
    · rw [if_pos h, List.filter_cons_of_pos h, List.length_append, List.length_append, ih]; rfl
    · rw [if_neg h, List.filter_cons_of_neg h, ih, List.filter_nil, List.append_nil]
theorem sum_all {l : List C} (h : WF l) : sumT (fun t => (ofT (t : Int) l).length) 64 = l.length := by
  have := sum_of (n := 64) (fun _ => true) l fun c hc => by have := WF_one h c hc; exact ⟨this.t0, this.t1⟩
  have e : ∀ l : List C, l.filter (fun _ => true) = l := fun l => List.filter_eq_self.2 (by simp)
  simp only [e] at this
  exact this
theorem sum_wait {l : List C} (h : WF l) : sumT (fun t => (peL (ofT (t : Int) l)).length) 64 = (peL l).length := by
  have := sum_of (n := 64) (fun c => !ansB c) l fun c hc => by have := WF_one h c hc; exact ⟨this.t0, this.t1⟩
  unfold peL
  rw [idx_all, ← this]
  exact sumT_congr (fun k => idx_all _ _) 64
/-- the calls of one thread of a well-formed history -/
structure Thr (t : Int) (o : List C) : Prop where
  t : ∀ i, i < o.length → (o.getD i c0).t = t
  i : ∀ i, i < o.length → (o.getD i c0).i = (i : Nat)
  b : ∀ i, i + 1 < o.length → bfr (o.getD i c0) (o.getD (i + 1) c0) = true
theorem gdC_left {l : List C} {i : Nat} (h : i < l.length) (t : List C) : (l ++ t).getD i c0 = l.getD i c0 := by
  rw [List.getD_eq_getElem?_getD, List.getElem?_append_left h, ← List.getD_eq_getElem?_getD]
theorem gdC_last (l : List C) (e : C) : (l ++ [e]).getD l.length c0 = e := by
  rw [List.getD_eq_getElem?_getD, List.getElem?_append_right (Nat.le_refl _)]; simp
theorem thr_of {l : List C} (t : Int) : WF l → Thr t (ofT t l) := by
  refine snoc_ind (P := fun l => WF l → Thr t (ofT t l)) ?_ ?_ l
  · intro _; exact ⟨fun i hi => by simp [ofT] at hi, fun i hi => by simp [ofT] at hi, fun i hi => by simp [ofT] at hi⟩
  · intro l e ih h
    obtain ⟨h1, h2⟩ := WF_snoc.1 h
    have g := goodB_iff.1 h2
    have ih := ih h1
    rw [ofT_snoc]
    by_cases he : e.t = t
    · rw [if_pos he]
      have gi := g.i
      have gf := g.fo
      rw [he] at gi gf
      obtain ⟨o, ho⟩ : ∃ o, ofT t l = o := ⟨_, rfl⟩
      rw [ho] at gi gf ih ⊢
      refine ⟨fun i hi => ?_, fun i hi => ?_, fun i hi => ?_⟩
      · by_cases hl : i < o.length
        · rw [gdC_left hl]; exact ih.t i hl
        · obtain rfl : i = o.length := by simp at hi; omega
          rw [gdC_last]; exact he
      · by_cases hl : i < o.length
        · rw [gdC_left hl]; exact ih.i i hl
        · obtain rfl : i = o.length := by simp at hi; omega
          rw [gdC_last]; exact gi
      · by_cases hl : i + 1 < o.length
        · rw [gdC_left hl, gdC_left (by omega)]; exact ih.b i hl
        · have hi2 : i + 1 = o.length := by simp at hi; omega
          rw [hi2, gdC_last, gdC_left (by omega)]
          refine gf _ ?_
          rw [List.getLast?_eq_getElem?, show o.length - 1 = i by omega, List.getD_eq_getElem?_getD, List.getElem?_eq_getElem (by omega)]; rfl
    · rw [if_neg he]; exact ih
/-- of one thread's calls at most the last one is pending -/
theorem thr_pend {t : Int} {o : List C} (h : Thr t o) : peL o = [] ∨ (0 < o.length ∧ peL o = [((o.length - 1 : Nat) : Int)]) := by
  have key : ∀ j, j < o.length → idx (fun c => !ansB c) o j = [] := by
    intro j
    induction j with
    | zero => intro _; rfl
    | succ j ih =>
      intro hj
      have hb := h.b j hj
      rw [idx_succ, ih (by omega), if_neg]
      unfold bfr at hb
      simp only [Bool.and_eq_true, decide_eq_true_eq] at hb
      unfold ansB
      rw [decide_eq_true hb.1]
      decide
  unfold peL
  cases hn : o.length with
  | zero => exact .inl rfl
  | succ n =>
    rw [idx_succ, key n (by omega)]
    by_cases hp : (!ansB (o.getD n c0)) = true
    · rw [if_pos hp]; exact .inr ⟨by omega, by simp⟩
    · rw [if_neg hp]; exact .inl rfl
/-- the order that the law takes: the indices of calls, each once -/
def ordT (n : Nat) : List Int → List Int → List Int
  | o, [] => o
  | o, x :: r => if (0 ≤ x ∧ x < n) ∧ ¬ x ∈ o then ordT n (o ++ [x]) r else ordT n o r
def ordK (n : Nat) (l : List Int) (k : Nat) : List Int := ordT n [] (l.take k)
theorem ordT_snoc (n : Nat) (x : Int) : ∀ (r o : List Int), ordT n o (r ++ [x]) = if (0 ≤ x ∧ x < n) ∧ ¬ x ∈ ordT n o r then ordT n o r ++ [x] else ordT n o r
  | [], o => by
    simp only [List.nil_append, ordT]
    by_cases h : (0 ≤ x ∧ x < n) ∧ ¬ x ∈ o <;> simp [h]
  | y :: r, o => by
    simp only [List.cons_append, ordT]
    split
    · exact ordT_snoc n x r _
    · exact ordT_snoc n x r _
theorem ordK_zero (n : Nat) (l : List Int) : ordK n l 0 = [] := rfl
theorem ordK_next {n : Nat} {l : List Int} {k : Nat} (h : k < l.length) : ordK n l (k + 1) = if (0 ≤ l.getD k 0 ∧ l.getD k 0 < n) ∧ ¬ l.getD k 0 ∈ ordK n l k then ordK n l k ++ [l.getD k 0] else ordK n l k := by
  unfold ordK
  rw [take_get (d := 0) h, ordT_snoc]
theorem ordT_len (n : Nat) : ∀ (r o : List Int), (ordT n o r).length ≤ o.length + r.length
  | [], o => by simp [ordT]
  | y :: r, o => by
    simp only [ordT]
    split
    · have := ordT_len n r (o ++ [y]); simp at this ⊢; omega
    · have := ordT_len n r o; simp at this ⊢; omega
theorem ordK_len (n : Nat) (l : List Int) (k : Nat) : (ordK n l k).length ≤ k := by
  have := ordT_len n (l.take k) []
  unfold ordK
  simp at this ⊢
  omega
/-- each once, all of them calls -/
def Dist (n : Nat) (o : List Int) : Prop := o.Nodup ∧ ∀ x ∈ o, 0 ≤ x ∧ x < n
theorem dist_T (n : Nat) : ∀ (r o : List Int), Dist n o → Dist n (ordT n o r)
  | [], o, h => h
  | y :: r, o, h => by
    simp only [ordT]
    split
    · rename_i hy
      refine dist_T n r _ ⟨?_, fun x hx => ?_⟩
      · rw [List.nodup_append]
        refine ⟨h.1, by simp, fun a ha b hb => ?_⟩
        rw [List.mem_singleton] at hb
        rintro rfl
        exact hy.2 (hb ▸ ha)
      · rcases List.mem_append.1 hx with hx | hx
        · exact h.2 x hx
        · rw [List.mem_singleton] at hx; subst hx; exact hy.1
    · exact dist_T n r o h
theorem ordK_dist (n : Nat) (l : List Int) (k : Nat) : Dist n (ordK n l k) := dist_T n _ _ ⟨List.nodup_nil, fun x hx => by cases hx⟩
theorem dist_ord {n : Nat} {o : List Int} (h : Dist n o) : ordE n o = 0 := by
  refine ordE_no fun k hk => ?_
  have hm : o.getD k 0 ∈ o := by rw [List.getD_eq_getElem?_getD, List.getElem?_eq_getElem hk]; exact List.getElem_mem hk
  have h1 := h.2 _ hm
  unfold ordAt
  rw [if_neg (by omega), if_neg]
  intro ht
  have hn := h.1
  rw [← List.take_append_drop k o, List.nodup_append] at hn
  refine hn.2.2 _ ht _ ?_ rfl
  rw [List.drop_eq_getElem_cons hk, List.getD_eq_getElem?_getD, List.getElem?_eq_getElem hk]
  exact List.mem_cons_self ..
/-- what the law's loops have found by the call i of the place k -/
def wantK (l : List C) (o : List Int) (k : Nat) : Bool := (List.range k).all fun k => (List.range l.length).all fun i => !bfr (l.getD i c0) (l.getD (o.getD k 0).toNat c0) || decide ((i : Int) ∈ o.take k)
def wantI (l : List C) (o : List Int) (k i : Nat) : Bool := (List.range i).all fun i => !bfr (l.getD i c0) (l.getD (o.getD k 0).toNat c0) || decide ((i : Int) ∈ o.take k)
theorem want_zero (l : List C) (o : List Int) : wantK l o 0 = true := rfl
theorem want_all (l : List C) (o : List Int) : wantK l o o.length = agB l o := rfl
theorem wantI_zero (l : List C) (o : List Int) (k : Nat) : wantI l o k 0 = true := rfl
theorem wantI_next (l : List C) (o : List Int) (k i : Nat) : wantI l o k (i + 1) = (wantI l o k i && (!bfr (l.getD i c0) (l.getD (o.getD k 0).toNat c0) || decide ((i : Int) ∈ o.take k))) := by
  unfold wantI
  rw [List.range_succ, List.all_append]
  simp
theorem wantK_next (l : List C) (o : List Int) (k : Nat) : wantK l o (k + 1) = (wantK l o k && wantI l o k l.length) := by
  unfold wantK
  rw [List.range_succ, List.all_append]
  simp [wantI]
theorem agV_dist {l : List C} {o : List Int} (h : Dist l.length o) : erA l o = erC l ∧ agV l o = (decide (erC l = 0) && agB l o) := by
  have e : erA l o = erC l := by
    unfold erA
    rw [dist_ord h]
    split
    · rename_i h0; exact h0.symm
    · rfl
  exact ⟨e, by unfold agV; rw [e]⟩
theorem i64m : I64 (-1) := ⟨by decide, by decide⟩
theorem i64z : I64 0 := ⟨by decide, by decide⟩
theorem u64z : U64 0 := ⟨by decide, by decide⟩
theorem cut_bd (st : Int) {c : C} (h : Bd1 c) : Bd1 (cutC st c) := by
  unfold cutC
  simp only
  split <;> split <;> (constructor <;> first | exact h.t | exact h.i | exact h.k | exact h.p0 | exact h.p1 | exact h.p2 | exact h.p3 | exact h.p4 | exact h.p5 | exact h.v | exact h.u | exact h.a | exact h.s | exact h.re | exact h.rk | exact h.rv | exact h.rc | exact i64m | exact i64z | exact u64z)
theorem pref_bd (st : Int) {l : List C} (h : Bd l) : Bd (pref st l) := fun x hx => by
  unfold pref at hx
  obtain ⟨y, hy, rfl⟩ := List.mem_map.1 hx
  exact cut_bd st (h y (List.mem_filter.1 hy).1)
theorem pfL_ok {st : Int} {l : List C} (h : WF l) (h1 : -1 ≤ st) : pfL st l = pref st l := by unfold pfL; rw [if_pos (erS_ok h h1)]
theorem pfL_low {st : Int} {l : List C} (h : WF l) (h1 : st < -1) : pfL st l = [] := by unfold pfL; rw [if_neg (by rw [erS_low h h1]; decide)]
theorem pfL_no {st : Int} {l : List C} (h : ¬ WF l) : pfL st l = [] := by unfold pfL; rw [if_neg (by rw [erS_no h]; decide)]
/-- the effects of a prefix: the first ones, those by the step -/
theorem eL_pref {st : Int} {l : List C} (h1 : -1 ≤ st) (h : WF l) : ∃ q, q ≤ (eff l).length ∧ eL (pref st l) = (eL l).take q ∧ (q < (eff l).length → st < tk l ((eff l).getD q 0)) := by
  obtain ⟨q, hq, e, hk⟩ := eff_pref h1 h
  refine ⟨q, hq, by unfold eL; rw [e, List.map_take], fun hlt => ?_⟩
  have := hk q hlt
  omega
/-- as rw_use, with the capacity -/
theorem rw_useC {K : Kd α} {er : Int} {xs : List α} {w : World} {e : Ending} {w' : World} (h : RwPost K er xs w e w') :
    ∃ A c, e = .returned (.tuple #[.slice A xs.length c, .int .i64 er]) ∧ xs.length ≤ c ∧ K.Rd w' A xs ∧ Zr K w' w.heap.size A xs.length c ∧ Below w.heap.size w w' := by
  obtain ⟨v, h1, h2, h3⟩ := h
  obtain ⟨_, A, c, rfl, hc, hr, _⟩ := K.row h2
  exact ⟨A, c, h1, hc, hr, Zr.of h2, h3⟩
end Hi
end Go.Proofs.Ytgfhfcjjodcgdaa
