/- Places in an ascending list of pairs, the union of two such lists, and a sorted list without doubles: plain mathematics. No program. -/
import Derived.Test.YtbdllakbkienoaaOmW
namespace Go.Proofs.Ytbdllakbkienoaa
set_option linter.unusedVariables false
set_option linter.unusedSimpArgs false
namespace Om
theorem getD_some {l : List Pr} {i : Nat} {x : Pr} (h : l[i]? = some x) : l.getD i (0, 0) = x := by rw [List.getD_eq_getElem?_getD, h]; rfl
theorem lowN_app (a b : List Pr) (k : Int) : lowN (a ++ b) k = lowN a k + lowN b k := by simp [lowN]
theorem lowN_lt {a : List Pr} {k : Int} (h : ∀ x, x ∈ a → x.1 < k) : lowN a k = a.length := by
  unfold lowN
  rw [List.filter_eq_self.2 fun x hx => decide_eq_true (h x hx)]
theorem lowN_ge {a : List Pr} {k : Int} (h : ∀ x, x ∈ a → k ≤ x.1) : lowN a k = 0 := by
  unfold lowN
  rw [List.length_eq_zero_iff, List.filter_eq_nil_iff]
  intro x hx
  have := h x hx
  simp; omega
theorem lowN_mono (l : List Pr) {k q : Int} (h : k ≤ q) : lowN l k ≤ lowN l q := by
  induction l with
  | nil => exact Nat.le_refl _
  | cons x t ih =>
    have e : ∀ k, lowN (x :: t) k = (if x.1 < k then 1 else 0) + lowN t k := fun k => by
      have := lowN_app [x] t k
      rw [show [x] ++ t = x :: t from rfl] at this
      rw [this]
      congr 1
      by_cases c : x.1 < k <;> simp [lowN, List.filter_cons, c]
    rw [e, e]
    split <;> split <;> omega
/-- the count that a search makes -/
theorem low_range (l : List Pr) (k : Int) : ∀ n, n ≤ l.length → (List.range n).countP (fun i => !decide (k ≤ (l.getD i (0, 0)).1)) = lowN (l.take n) k
  | 0, _ => rfl
  | n + 1, h => by
    have hx : l[n]? = some (l[n]'(by omega)) := List.getElem?_eq_getElem (by omega)
    rw [List.range_succ, List.countP_append, low_range l k n (by omega), take_succ' hx, lowN_app]
    congr 1
    rw [List.countP_singleton, getD_some hx]
    by_cases c : (l[n]'(by omega)).1 < k
    · rw [decide_eq_false (by omega)]; simp [lowN, List.filter_cons, c]
    · rw [decide_eq_true (by omega)]; simp [lowN, List.filter_cons, c]
theorem low_count (l : List Pr) (k : Int) (n : Nat) (hn : l.length = n) : (List.range n).countP (fun i => !decide (k ≤ (l.getD i (0, 0)).1)) = lowN l k := by
  rw [low_range l k n (by omega), List.take_of_length_le (by omega)]
theorem low_count' (l : List Pr) (k : Int) (n : Nat) (hn : l.length = n) : (List.range n).countP (fun i => !decide (k < (l.getD i (0, 0)).1)) = lowN l (k + 1) := by
  rw [← low_count l (k + 1) n hn]
  congr 1
/-- a list in three parts -/
theorem three (l : List Pr) {a b : Nat} (h : a ≤ b) : l = l.take a ++ ((l.take b).drop a ++ l.drop b) := by
  rw [← List.append_assoc]
  have e : l.take a = (l.take b).take a := by rw [List.take_take, Nat.min_eq_left h]
  rw [e, List.take_append_drop, List.take_append_drop]
theorem mem_mid {l : List Pr} (ha : Asc l) {lo hi : Int} {x : Pr} (h : x ∈ (l.take (lowN l (hi + 1))).drop (lowN l lo)) : lo ≤ x.1 ∧ x.1 ≤ hi := by
  constructor
  · refine (take_drop_low ha lo).2 x ?_
    rw [List.drop_take] at h
    exact List.mem_of_mem_take h
  · have := (take_drop_low ha (hi + 1)).1 x (List.mem_of_mem_drop h)
    omega
theorem in_cut {l : List Pr} (ha : Asc l) {lo hi : Int} (h : lo ≤ hi) : inL l lo hi = (l.take (lowN l (hi + 1))).drop (lowN l lo) := by
  have hab := lowN_mono l (k := lo) (q := hi + 1) (by omega)
  conv => lhs; rw [three l hab]
  rw [inL, List.filter_append, List.filter_append]
  rw [List.filter_eq_nil_iff.2, List.filter_eq_self.2, List.filter_eq_nil_iff.2]
  · simp
  · intro x hx
    have := (take_drop_low ha (hi + 1)).2 x hx
    simp [inB]; omega
  · intro x hx
    exact decide_eq_true (mem_mid ha hx)
  · intro x hx
    have := (take_drop_low ha lo).1 x hx
    simp [inB]; omega
theorem out_cut {l : List Pr} (ha : Asc l) {lo hi : Int} (h : lo ≤ hi) : outL l lo hi = l.take (lowN l lo) ++ l.drop (lowN l (hi + 1)) := by
  have hab := lowN_mono l (k := lo) (q := hi + 1) (by omega)
  conv => lhs; rw [three l hab]
  rw [outL, List.filter_append, List.filter_append]
  rw [List.filter_eq_self.2, List.filter_eq_nil_iff.2, List.filter_eq_self.2]
  · simp
  · intro x hx
    have := (take_drop_low ha (hi + 1)).2 x hx
    simp [inB]; omega
  · intro x hx
    have := mem_mid ha hx
    simp [inB]; omega
  · intro x hx
    have := (take_drop_low ha lo).1 x hx
    simp [inB]; omega
/-- a key that is present, in its place -/
theorem at_key {l : List Pr} (ha : Asc l) {k u : Int} (hg : getL l k = some u) : ∃ t, l = l.take (lowN l k) ++ (k, u) :: t ∧ (∀ x, x ∈ t → k < x.1) := by
  have hm := (getL_mem ha).1 hg
  have h1 := take_drop_low ha k
  have hd : Asc (l.drop (lowN l k)) := List.Pairwise.sublist (List.drop_sublist _ _) ha
  have e := (List.take_append_drop (lowN l k) l).symm
  have hm2 : (k, u) ∈ l.drop (lowN l k) := by
    rw [e] at hm
    rcases List.mem_append.1 hm with h | h
    · have := h1.1 _ h; simp at this
    · exact h
  cases hc : l.drop (lowN l k) with
  | nil => rw [hc] at hm2; cases hm2
  | cons y t =>
    rw [hc] at hm2 hd
    have hy := h1.2 y (by rw [hc]; simp)
    rcases List.mem_cons.1 hm2 with e2 | h2
    · refine ⟨t, by rw [e2, ← hc]; exact e, fun x hx => ?_⟩
      have := hd.head x hx
      rw [← e2] at this
      exact this
    · have := hd.head _ h2
      simp at this; omega
theorem at_get {l : List Pr} (ha : Asc l) {k u : Int} (hg : getL l k = some u) : l[lowN l k]? = some (k, u) ∧ lowN l k < l.length := by
  obtain ⟨t, e, _⟩ := at_key ha hg
  have hl : (l.take (lowN l k)).length = lowN l k := by rw [List.length_take]; have := lowN_le l k; omega
  have h : ∀ i, i = lowN l k → l[i]? = some (k, u) := fun i hi => by
    rw [e, List.getElem?_append_right (by omega), hl, hi, Nat.sub_self]; rfl
  have h := h _ rfl
  exact ⟨h, (List.getElem?_eq_some_iff.1 h).1⟩
theorem no_get {l : List Pr} {k : Int} (hg : getL l k = none) {x : Pr} {i : Nat} (h : l[i]? = some x) : (x.1 == k) = false := by
  have := getL_none.1 hg x (List.mem_of_getElem? h)
  simp [this]
theorem set_at {l : List Pr} (ha : Asc l) {k u : Int} (x : Int) (hg : getL l k = some u) : setL l (k, x) = l.set (lowN l k) (k, x) := by
  obtain ⟨t, e, ht⟩ := at_key ha hg
  have hl : (l.take (lowN l k)).length = lowN l k := by rw [List.length_take]; have := lowN_le l k; omega
  have h1 := setL_old (p := (k, x)) (v := u) (a := l.take (lowN l k)) (b := t) (take_drop_low ha k).1 ht
  have h2 : (l.take (lowN l k) ++ (k, u) :: t).set (lowN l k) (k, x) = l.take (lowN l k) ++ (k, x) :: t := by
    rw [List.set_append, if_neg (by omega), hl, Nat.sub_self]; rfl
  rw [← e] at h1 h2
  rw [h1, h2]
theorem set_new {l : List Pr} (ha : Asc l) {k : Int} (x : Int) (hg : getL l k = none) : setL l (k, x) = l.take (lowN l k) ++ (k, x) :: l.drop (lowN l k) := by
  have h := setL_new (p := (k, x)) (a := l.take (lowN l k)) (b := l.drop (lowN l k)) (take_drop_low ha k).1 (fun y hy => by
    have h1 := (take_drop_low ha k).2 y hy
    have h2 := getL_none.1 hg y (List.mem_of_mem_drop hy)
    show k < y.1
    omega)
  rwa [List.take_append_drop] at h
theorem del_at {l : List Pr} (ha : Asc l) {k u : Int} (hg : getL l k = some u) : outL l k k = l.take (lowN l k) ++ l.drop (lowN l k + 1) := by
  rw [out_cut ha (Int.le_refl k)]
  obtain ⟨t, e, ht⟩ := at_key ha hg
  have hl : (l.take (lowN l k)).length = lowN l k := by rw [List.length_take]; have := lowN_le l k; omega
  have h0 : ∀ q, lowN l q = lowN (l.take (lowN l k)) q + lowN ((k, u) :: t) q := fun q => by
    conv => lhs; rw [e]
    rw [lowN_app]
  have h : lowN l (k + 1) = lowN l k + 1 := by
    rw [h0 (k + 1), lowN_lt (fun x hx => by have := (take_drop_low ha k).1 x hx; omega), hl]
    congr 1
    have := lowN_app [(k, u)] t (k + 1)
    rw [show [(k, u)] ++ t = (k, u) :: t from rfl] at this
    rw [this, lowN_ge (a := t) (fun x hx => by have := ht x hx; omega), lowN_lt (fun x hx => by simp at hx; subst hx; simp; omega)]
    rfl
  rw [h]
theorem del_no {l : List Pr} {k : Int} (hg : getL l k = none) : outL l k k = l := by
  unfold outL
  rw [List.filter_eq_self]
  intro x hx
  have := getL_none.1 hg x hx
  simp [inB]; omega
/-! ### the union -/
def uniL : List Pr → List Pr → List Pr
  | [], b => b
  | a, [] => a
  | x :: s, y :: t => if x.1 < y.1 then x :: uniL s (y :: t) else if x.1 = y.1 then x :: uniL s t else y :: uniL (x :: s) t
termination_by a b => a.length + b.length
theorem uniL_nil (b : List Pr) : uniL [] b = b := by unfold uniL; rfl
theorem uniL_nil' (a : List Pr) : uniL a [] = a := by cases a <;> unfold uniL <;> rfl
theorem uniL_lt {x y : Pr} {s t : List Pr} (h : x.1 < y.1) : uniL (x :: s) (y :: t) = x :: uniL s (y :: t) := by rw [uniL, if_pos h]
theorem uniL_eq {x y : Pr} {s t : List Pr} (h : x.1 = y.1) : uniL (x :: s) (y :: t) = x :: uniL s t := by rw [uniL, if_neg (by omega), if_pos h]
theorem uniL_gt {x y : Pr} {s t : List Pr} (h : y.1 < x.1) : uniL (x :: s) (y :: t) = y :: uniL (x :: s) t := by rw [uniL, if_neg (by omega), if_neg (by omega)]
theorem uni_ind {p : List Pr → List Pr → Prop} (h1 : ∀ b, p [] b) (h2 : ∀ a, p a []) (h3 : ∀ x s y t, x.1 < y.1 → p s (y :: t) → p (x :: s) (y :: t)) (h4 : ∀ x s y t, x.1 = y.1 → p s t → p (x :: s) (y :: t)) (h5 : ∀ x s y t, y.1 < x.1 → p (x :: s) t → p (x :: s) (y :: t)) : ∀ (n : Nat) (a b : List Pr), a.length + b.length ≤ n → p a b
  | 0, a, b, h => by
    obtain rfl : a = [] := List.eq_nil_of_length_eq_zero (by omega)
    exact h1 b
  | n + 1, [], b, h => h1 b
  | n + 1, x :: s, [], h => h2 _
  | n + 1, x :: s, y :: t, h => by
    simp only [List.length_cons] at h
    rcases Int.lt_trichotomy x.1 y.1 with c | c | c
    · exact h3 x s y t c (uni_ind h1 h2 h3 h4 h5 n s (y :: t) (by simp only [List.length_cons]; omega))
    · exact h4 x s y t c (uni_ind h1 h2 h3 h4 h5 n s t (by omega))
    · exact h5 x s y t c (uni_ind h1 h2 h3 h4 h5 n (x :: s) t (by simp only [List.length_cons]; omega))
theorem mem_uniL (a b : List Pr) : ∀ x, x ∈ uniL a b → x ∈ a ∨ x ∈ b :=
  uni_ind (p := fun a b => ∀ x, x ∈ uniL a b → x ∈ a ∨ x ∈ b) (fun b x h => by rw [uniL_nil] at h; exact .inr h) (fun a x h => by rw [uniL_nil'] at h; exact .inl h)
    (fun x s y t c ih z hz => by
      rw [uniL_lt c, List.mem_cons] at hz
      rcases hz with rfl | hz
      · simp
      · rcases ih z hz with h | h
        · simp [h]
        · exact .inr h)
    (fun x s y t c ih z hz => by
      rw [uniL_eq c, List.mem_cons] at hz
      rcases hz with rfl | hz
      · simp
      · rcases ih z hz with h | h <;> simp [h])
    (fun x s y t c ih z hz => by
      rw [uniL_gt c, List.mem_cons] at hz
      rcases hz with rfl | hz
      · simp
      · rcases ih z hz with h | h
        · exact .inl h
        · simp [h]) (a.length + b.length) a b (Nat.le_refl _)
theorem uniL_asc (a b : List Pr) : Asc a → Asc b → Asc (uniL a b) :=
  uni_ind (p := fun a b => Asc a → Asc b → Asc (uniL a b)) (fun b _ h => by rw [uniL_nil]; exact h) (fun a h _ => by rw [uniL_nil']; exact h)
    (fun x s y t c ih ha hb => by
      rw [uniL_lt c]
      refine List.pairwise_cons.2 ⟨fun z hz => ?_, ih ha.tail hb⟩
      rcases mem_uniL _ _ z hz with h | h
      · exact ha.head z h
      · rcases List.mem_cons.1 h with rfl | h
        · exact c
        · have := hb.head z h; omega)
    (fun x s y t c ih ha hb => by
      rw [uniL_eq c]
      refine List.pairwise_cons.2 ⟨fun z hz => ?_, ih ha.tail hb.tail⟩
      rcases mem_uniL _ _ z hz with h | h
      · exact ha.head z h
      · have := hb.head z h; omega)
    (fun x s y t c ih ha hb => by
      rw [uniL_gt c]
      refine List.pairwise_cons.2 ⟨fun z hz => ?_, ih ha hb.tail⟩
      rcases mem_uniL _ _ z hz with h | h
      · rcases List.mem_cons.1 h with rfl | h
        · exact c
        · have := ha.head z h; omega
      · exact hb.head z h) (a.length + b.length) a b (Nat.le_refl _)
theorem uniL_len (a b : List Pr) : b.length ≤ (uniL a b).length ∧ (uniL a b).length ≤ a.length + b.length :=
  uni_ind (p := fun a b => b.length ≤ (uniL a b).length ∧ (uniL a b).length ≤ a.length + b.length) (fun b => by rw [uniL_nil]; simp) (fun a => by rw [uniL_nil']; simp)
    (fun x s y t c ih => by rw [uniL_lt c]; simp only [List.length_cons] at ih ⊢; omega)
    (fun x s y t c ih => by rw [uniL_eq c]; simp only [List.length_cons] at ih ⊢; omega)
    (fun x s y t c ih => by rw [uniL_gt c]; simp only [List.length_cons] at ih ⊢; omega) (a.length + b.length) a b (Nat.le_refl _)
theorem getL_app (a b : List Pr) (k : Int) : getL (a ++ b) k = (getL a k).or (getL b k) := by
  induction a with
  | nil => rfl
  | cons x t ih =>
    rw [List.cons_append, getL, getL]
    by_cases c : x.1 = k
    · rw [if_pos c, if_pos c]; rfl
    · rw [if_neg c, if_neg c, ih]
theorem getL_hd {x : Pr} {t : List Pr} {k : Int} (h : x.1 = k) : getL (x :: t) k = some x.2 := by rw [getL, if_pos h]
theorem getL_tl {x : Pr} {t : List Pr} {k : Int} (h : x.1 ≠ k) : getL (x :: t) k = getL t k := by rw [getL, if_neg h]
theorem getL_uniL (a b : List Pr) (k : Int) : Asc a → Asc b → getL (uniL a b) k = (getL a k).or (getL b k) :=
  uni_ind (p := fun a b => Asc a → Asc b → getL (uniL a b) k = (getL a k).or (getL b k)) (fun b _ _ => by rw [uniL_nil]; rfl) (fun a _ _ => by rw [uniL_nil']; simp [getL])
    (fun x s y t c ih ha hb => by
      rw [uniL_lt c]
      by_cases e : x.1 = k
      · rw [getL_hd e, getL_hd e]; rfl
      · rw [getL_tl e, getL_tl e, ih ha.tail hb])
    (fun x s y t c ih ha hb => by
      rw [uniL_eq c]
      by_cases e : x.1 = k
      · rw [getL_hd e, getL_hd e]; rfl
      · rw [getL_tl e, getL_tl e, ih ha.tail hb.tail, getL_tl (x := y) (by omega)])
    (fun x s y t c ih ha hb => by
      rw [uniL_gt c]
      by_cases e : y.1 = k
      · rw [getL_hd e, getL_hd (x := y) e]
        have : getL (x :: s) k = none := getL_none.2 fun z hz => by
          rcases List.mem_cons.1 hz with rfl | hz
          · omega
          · have := ha.head z hz; omega
        rw [this]; rfl
      · rw [getL_tl e, ih ha hb.tail, getL_tl (x := y) e]) (a.length + b.length) a b (Nat.le_refl _)
/-! ### Move, by places -/
theorem take_asc {l : List Pr} (h : Asc l) (n : Nat) : Asc (l.take n) := List.Pairwise.sublist (List.take_sublist _ _) h
theorem drop_asc {l : List Pr} (h : Asc l) (n : Nat) : Asc (l.drop n) := List.Pairwise.sublist (List.drop_sublist _ _) h
theorem sh_mem {l : List Pr} {lo hi d : Int} {x : Pr} (h : x ∈ shL (inL l lo hi) d) : lo + d ≤ x.1 ∧ x.1 ≤ hi + d := by
  obtain ⟨y, hy, rfl⟩ := List.mem_map.1 h
  have := (in_mem hy).2
  show lo + d ≤ y.1 + d ∧ y.1 + d ≤ hi + d
  omega
theorem mv_cut {l : List Pr} (ha : Asc l) {lo hi d : Int} (h : lo ≤ hi) :
    mvL l lo hi d = (outL l lo hi).take (lowN (outL l lo hi) (lo + d)) ++ (uniL (shL (inL l lo hi) d) (((outL l lo hi).take (lowN (outL l lo hi) (hi + d + 1))).drop (lowN (outL l lo hi) (lo + d))) ++ (outL l lo hi).drop (lowN (outL l lo hi) (hi + d + 1))) := by
  have hr : Asc (outL l lo hi) := ha.filter _
  have hm : Asc (shL (inL l lo hi) d) := shL_asc (ha.filter _) d
  have hsm := fun x => sh_mem (l := l) (lo := lo) (hi := hi) (d := d) (x := x)
  have hL : ∀ k, getL (mvL l lo hi d) k = (getL (shL (inL l lo hi) d) k).or (getL (outL l lo hi) k) := fun k => getL_setA _ hr hm k
  have hLa : Asc (mvL l lo hi d) := mvL_asc ha lo hi d
  generalize outL l lo hi = r at *
  generalize shL (inL l lo hi) d = m at *
  have hab := lowN_mono r (k := lo + d) (q := hi + d + 1) (by omega)
  have hmid : Asc ((r.take (lowN r (hi + d + 1))).drop (lowN r (lo + d))) := drop_asc (take_asc hr _) _
  have hmm : ∀ x, x ∈ (r.take (lowN r (hi + d + 1))).drop (lowN r (lo + d)) → lo + d ≤ x.1 ∧ x.1 ≤ hi + d := fun x hx => mem_mid hr hx
  have h3 := three r hab
  have hA := (take_drop_low hr (lo + d)).1
  have hB := (take_drop_low hr (hi + d + 1)).2
  have hAa := take_asc hr (lowN r (lo + d))
  have hBa := drop_asc hr (lowN r (hi + d + 1))
  generalize r.take (lowN r (lo + d)) = A at *
  generalize (r.take (lowN r (hi + d + 1))).drop (lowN r (lo + d)) = D at *
  generalize r.drop (lowN r (hi + d + 1)) = B at *
  have hu : ∀ x, x ∈ uniL m D → lo + d ≤ x.1 ∧ x.1 ≤ hi + d := fun x hx => by
    rcases mem_uniL _ _ x hx with h | h
    · exact hsm x h
    · exact hmm x h
  refine asc_get hLa ?_ fun k => ?_
  · refine List.pairwise_append.2 ⟨hAa, List.pairwise_append.2 ⟨uniL_asc m D hm hmid, hBa, fun x hx y hy => ?_⟩, fun x hx y hy => ?_⟩
    · have := (hu x hx).2; have := hB y hy; omega
    · have h1 := hA x hx
      rcases List.mem_append.1 hy with h | h
      · have := (hu y h).1; omega
      · have := hB y h; omega
  · rw [hL, h3, getL_app, getL_app, getL_app, getL_app, getL_uniL m D k hm hmid]
    cases hg : getL m k with
    | none => rfl
    | some v =>
      have hk := hsm (k, v) ((getL_mem hm).1 hg)
      have : getL A k = none := getL_none.2 fun x hx => by have := hA x hx; have := hk.1; simp at this; omega
      rw [this]; rfl
theorem out_len_le (l : List Pr) (lo hi : Int) : (outL l lo hi).length ≤ l.length := List.length_filter_le _ _
/-! ### a sorted list without doubles -/
theorem nw_get (q : List Pr) (k : Int) : getL (nwL q) k = none ↔ ∀ x, x ∈ q → x.1 ≠ k := by
  rw [nwL, setA_none q Asc.nil k]
  constructor
  · intro h; exact getL_none.1 h.2
  · intro h; exact ⟨rfl, getL_none.2 h⟩
theorem okN_iff (ps : List Pr) : ∀ n, n ≤ ps.length → (okN ps n = true ↔ ((ps.take n).map (·.1)).Nodup)
  | 0, _ => by simp [okN]
  | n + 1, h => by
    have hx : ps[n]? = some (ps[n]'(by omega)) := List.getElem?_eq_getElem (by omega)
    rw [okN, Bool.and_eq_true, okN_iff ps n (by omega), take_succ' hx, List.map_append, List.nodup_append, getD_some hx]
    have e : (getL (nwL (ps.take n)) (ps[n]'(by omega)).1).isNone = true ↔ ∀ x, x ∈ ps.take n → x.1 ≠ (ps[n]'(by omega)).1 := by
      rw [Option.isNone_iff_eq_none, nw_get]
    rw [e]
    constructor
    · rintro ⟨h1, h2⟩
      refine ⟨h1, by simp, fun a ha b hb => ?_⟩
      obtain ⟨x, hx, rfl⟩ := List.mem_map.1 ha
      simp at hb
      subst hb
      exact h2 x hx
    · rintro ⟨h1, _, h2⟩
      exact ⟨h1, fun x hx => h2 x.1 (List.mem_map.2 ⟨x, hx, rfl⟩) _ (by simp)⟩
theorem setA_keep : ∀ (ps l : List Pr) (x : Pr), x ∈ l → (∀ y, y ∈ ps → y.1 ≠ x.1) → x ∈ setA l ps
  | [], l, x, h, _ => h
  | p :: ps, l, x, h, hn => setA_keep ps (setL l p) x ((mem_setL l p x).2 (.inr ⟨h, fun e => hn p (by simp) e.symm⟩)) fun y hy => hn y (by simp [hy])
theorem setA_has : ∀ (ps l : List Pr) (x : Pr), x ∈ ps → (ps.map (·.1)).Nodup → x ∈ setA l ps
  | [], l, x, h, _ => by cases h
  | p :: ps, l, x, h, hn => by
    rw [List.map_cons, List.nodup_cons] at hn
    rcases List.mem_cons.1 h with rfl | h
    · exact setA_keep ps (setL l x) x ((mem_setL l x x).2 (.inl rfl)) fun y hy e => hn.1 (List.mem_map.2 ⟨y, hy, e⟩)
    · exact setA_has ps (setL l p) x h hn.2
theorem asc_nodup {m : List Pr} (h : Asc m) : (m.map (·.1)).Nodup := by
  rw [List.Nodup, List.pairwise_map]
  exact h.imp fun hab e => by rw [e] at hab; exact absurd hab (Int.lt_irrefl _)
theorem new_ok {ps m : List Pr} (hp : m.Perm ps) (ha : Asc m) : okN ps ps.length = true ∧ nwL ps = m := by
  have hn : (ps.map (·.1)).Nodup := (hp.map (·.1)).nodup_iff.1 (asc_nodup ha)
  refine ⟨(okN_iff ps ps.length (Nat.le_refl _)).2 (by rw [List.take_length]; exact hn), asc_ext (nwL_asc ps) ha fun x => ?_⟩
  rw [hp.mem_iff]
  constructor
  · intro h
    rcases mem_setA ps [] x h with h | h
    · cases h
    · exact h
  · intro h; exact setA_has ps [] x h hn
theorem new_no {ps m : List Pr} (hp : m.Perm ps) {i : Nat} {x y : Pr} (hx : m[i]? = some x) (hy : m[i + 1]? = some y) (e : x.1 = y.1) : okN ps ps.length = false := by
  rw [← Bool.not_eq_true, okN_iff ps ps.length (Nat.le_refl _), List.take_length, ← (hp.map (·.1)).nodup_iff]
  intro h
  obtain ⟨h1, e1⟩ := List.getElem?_eq_some_iff.1 hx
  obtain ⟨h2, e2⟩ := List.getElem?_eq_some_iff.1 hy
  have := (List.pairwise_iff_getElem.1 h) i (i + 1) (by simpa using h1) (by simpa using h2) (by omega)
  simp only [List.getElem_map, e1, e2] at this
  exact this e
theorem sorted_asc {m : List Pr} (hs : m.Pairwise (fun a b => a.1 ≤ b.1)) (h : ∀ (j : Nat) x y, m[j]? = some x → m[j + 1]? = some y → x.1 ≠ y.1) : Asc m := by
  refine asc_iff.2 fun j x y hx hy => ?_
  obtain ⟨h1, e1⟩ := List.getElem?_eq_some_iff.1 hx
  obtain ⟨h2, e2⟩ := List.getElem?_eq_some_iff.1 hy
  have := List.pairwise_iff_getElem.1 hs j (j + 1) h1 h2 (by omega)
  rw [e1, e2] at this
  have := h j x y hx hy
  omega
end Om
end Go.Proofs.Ytbdllakbkienoaa
