/- Pairs in ascending order of keys, and what the operations of an ordered map make of them: plain mathematics. No program. -/
import Derived.WalkKit
import Derived.ProofKit
namespace Go.Proofs.YtbndgbjenmknmaaDoor
set_option linter.unusedVariables false
set_option linter.unusedSimpArgs false
namespace Om
abbrev Pr := Int × Int
/-- the value of a key, if it is present -/
def getL : List Pr → Int → Option Int
  | [], _ => none
  | x :: t, k => if x.1 = k then some x.2 else getL t k
def Asc (l : List Pr) : Prop := l.Pairwise (fun a b => a.1 < b.1)
/-- a pair put in its place -/
def setL : List Pr → Pr → List Pr
  | [], p => [p]
  | x :: t, p => if p.1 ≤ x.1 then p :: (x :: t).filter (fun y => decide (y.1 ≠ p.1)) else x :: setL t p
def inB (lo hi : Int) (x : Pr) : Bool := decide (lo ≤ x.1 ∧ x.1 ≤ hi)
def inL (l : List Pr) (lo hi : Int) : List Pr := l.filter (inB lo hi)
def outL (l : List Pr) (lo hi : Int) : List Pr := l.filter (fun x => !inB lo hi x)
def setA (l ps : List Pr) : List Pr := ps.foldl setL l
def shL (l : List Pr) (d : Int) : List Pr := l.map fun x => (x.1 + d, x.2)
def mvL (l : List Pr) (lo hi d : Int) : List Pr := setA (outL l lo hi) (shL (inL l lo hi) d)
theorem mem_setL : ∀ (l : List Pr) (p y : Pr), y ∈ setL l p ↔ y = p ∨ (y ∈ l ∧ y.1 ≠ p.1)
  | [], p, y => by simp [setL]
  | x :: t, p, y => by
    unfold setL
    split
    · rw [List.mem_cons, List.mem_filter, decide_eq_true_eq]
    · rw [List.mem_cons, mem_setL t p y, List.mem_cons]
      constructor
      · rintro (rfl | rfl | ⟨h1, h2⟩)
        · exact .inr ⟨.inl rfl, by omega⟩
        · exact .inl rfl
        · exact .inr ⟨.inr h1, h2⟩
      · rintro (rfl | ⟨rfl | h1, h2⟩)
        · exact .inr (.inl rfl)
        · exact .inl rfl
        · exact .inr (.inr ⟨h1, h2⟩)
theorem Asc.nil : Asc [] := List.Pairwise.nil
theorem Asc.tail {x : Pr} {t : List Pr} (h : Asc (x :: t)) : Asc t := (List.pairwise_cons.1 h).2
theorem Asc.head {x : Pr} {t : List Pr} (h : Asc (x :: t)) : ∀ y, y ∈ t → x.1 < y.1 := (List.pairwise_cons.1 h).1
theorem Asc.filter {l : List Pr} (h : Asc l) (f : Pr → Bool) : Asc (l.filter f) := List.Pairwise.filter f h
theorem setL_asc : ∀ {l : List Pr}, Asc l → ∀ p, Asc (setL l p)
  | [], _, p => by simp [setL, Asc]
  | x :: t, h, p => by
    unfold setL
    split
    · rename_i hp
      refine List.pairwise_cons.2 ⟨fun y hy => ?_, h.filter _⟩
      rw [List.mem_filter, decide_eq_true_eq] at hy
      rcases List.mem_cons.1 hy.1 with rfl | h1
      · have := hy.2; omega
      · have := h.head y h1; omega
    · rename_i hp
      refine List.pairwise_cons.2 ⟨fun y hy => ?_, setL_asc h.tail p⟩
      rcases (mem_setL t p y).1 hy with rfl | ⟨h1, _⟩
      · omega
      · exact h.head y h1
theorem getL_none : ∀ {l : List Pr} {k : Int}, getL l k = none ↔ ∀ x, x ∈ l → x.1 ≠ k
  | [], k => by simp [getL]
  | x :: t, k => by
    unfold getL
    split
    · rename_i h
      constructor
      · intro h'; cases h'
      · intro h'; exact absurd h (h' x (by simp))
    · rename_i h
      rw [getL_none]
      constructor
      · intro h' y hy
        rcases List.mem_cons.1 hy with rfl | hy
        · exact h
        · exact h' y hy
      · intro h' y hy; exact h' y (by simp [hy])
theorem getL_mem : ∀ {l : List Pr}, Asc l → ∀ {k v : Int}, getL l k = some v ↔ (k, v) ∈ l
  | [], _, k, v => by simp [getL]
  | x :: t, h, k, v => by
    unfold getL
    split
    · rename_i hk
      subst hk
      rw [List.mem_cons]
      constructor
      · intro h'; cases h'; exact .inl rfl
      · rintro (h' | h')
        · rw [← h']
        · have := h.head _ h'; simp at this
    · rename_i hk
      rw [getL_mem h.tail, List.mem_cons]
      constructor
      · exact .inr
      · rintro (h' | h')
        · exact absurd (by rw [← h']) hk
        · exact h'
theorem asc_ext : ∀ {l r : List Pr}, Asc l → Asc r → (∀ x, x ∈ l ↔ x ∈ r) → l = r
  | [], [], _, _, _ => rfl
  | [], y :: r, _, _, h => by have := (h y).2 (by simp); cases this
  | x :: l, [], _, _, h => by have := (h x).1 (by simp); cases this
  | x :: l, y :: r, hl, hr, h => by
    have exy : x = y := by
      rcases List.mem_cons.1 ((h x).1 (by simp)) with e | hx
      · exact e
      · rcases List.mem_cons.1 ((h y).2 (by simp)) with e | hy
        · exact e.symm
        · have := hr.head x hx; have := hl.head y hy; omega
    subst exy
    have ht : ∀ z, z ∈ l ↔ z ∈ r := fun z => by
      have hz := h z
      rw [List.mem_cons, List.mem_cons] at hz
      constructor
      · intro hzl
        rcases hz.1 (.inr hzl) with rfl | h'
        · have := hl.head z hzl; omega
        · exact h'
      · intro hzr
        rcases hz.2 (.inr hzr) with rfl | h'
        · have := hr.head z hzr; omega
        · exact h'
    rw [asc_ext hl.tail hr.tail ht]
theorem asc_get {l r : List Pr} (hl : Asc l) (hr : Asc r) (h : ∀ k, getL l k = getL r k) : l = r :=
  asc_ext hl hr fun ⟨k, v⟩ => by rw [← getL_mem hl, ← getL_mem hr, h]
theorem getL_setL {l : List Pr} (h : Asc l) (p : Pr) (k : Int) : getL (setL l p) k = if k = p.1 then some p.2 else getL l k := by
  by_cases hk : k = p.1
  · rw [if_pos hk, getL_mem (setL_asc h p), mem_setL]
    exact .inl (by rw [hk])
  · rw [if_neg hk]
    cases hg : getL l k with
    | none =>
      rw [getL_none] at hg ⊢
      intro x hx
      rcases (mem_setL l p x).1 hx with rfl | ⟨h1, _⟩
      · exact fun e => hk e.symm
      · exact hg x h1
    | some v =>
      rw [getL_mem h] at hg
      rw [getL_mem (setL_asc h p), mem_setL]
      exact .inr ⟨hg, hk⟩
theorem getL_filter {l : List Pr} (h : Asc l) (f : Pr → Bool) (g : Int → Bool) (hf : ∀ x, f x = g x.1) (k : Int) : getL (l.filter f) k = if g k = true then getL l k else none := by
  by_cases hk : g k = true
  · rw [if_pos hk]
    cases hg : getL l k with
    | none =>
      rw [getL_none] at hg ⊢
      intro x hx
      exact hg x (List.mem_filter.1 hx).1
    | some v =>
      rw [getL_mem h] at hg
      rw [getL_mem (h.filter f), List.mem_filter]
      exact ⟨hg, by rw [hf]; exact hk⟩
  · rw [if_neg hk, getL_none]
    intro x hx e
    rw [List.mem_filter, hf, e] at hx
    exact hk hx.2
theorem getL_inL {l : List Pr} (h : Asc l) (lo hi k : Int) : getL (inL l lo hi) k = if lo ≤ k ∧ k ≤ hi then getL l k else none := by
  have := getL_filter h (inB lo hi) (fun k => decide (lo ≤ k ∧ k ≤ hi)) (fun _ => rfl) k
  simpa [inL] using this
theorem getL_outL {l : List Pr} (h : Asc l) (lo hi k : Int) : getL (outL l lo hi) k = if lo ≤ k ∧ k ≤ hi then none else getL l k := by
  have := getL_filter h (fun x => !inB lo hi x) (fun k => !decide (lo ≤ k ∧ k ≤ hi)) (fun _ => rfl) k
  rw [outL, this]
  by_cases c : lo ≤ k ∧ k ≤ hi
  · rw [if_pos c, if_neg (by simp [c])]
  · rw [if_neg c, if_pos (by simp only [Bool.not_eq_true', decide_eq_false_iff_not]; exact c)]
theorem shL_asc {l : List Pr} (h : Asc l) (d : Int) : Asc (shL l d) := by
  unfold Asc shL
  rw [List.pairwise_map]
  exact h.imp (by intro a b hab; simpa using hab)
theorem getL_shL : ∀ (l : List Pr) (d k : Int), getL (shL l d) k = getL l (k - d)
  | [], d, k => rfl
  | x :: t, d, k => by
    have e : shL (x :: t) d = (x.1 + d, x.2) :: shL t d := rfl
    rw [e, getL, getL, getL_shL t d k]
    by_cases c : x.1 = k - d
    · rw [if_pos c, if_pos (by simp; omega)]
    · rw [if_neg c, if_neg (by simp; omega)]
theorem setA_asc : ∀ (ps : List Pr) {l : List Pr}, Asc l → Asc (setA l ps)
  | [], _, h => h
  | p :: ps, l, h => setA_asc ps (l := setL l p) (setL_asc h p)
/-- what is put last under a key counts -/
theorem getL_setA : ∀ (ps : List Pr) {l : List Pr}, Asc l → Asc ps → ∀ k, getL (setA l ps) k = (getL ps k).or (getL l k)
  | [], l, h, _, k => by simp [setA, getL]
  | p :: ps, l, h, hp, k => by
    have e : setA l (p :: ps) = setA (setL l p) ps := rfl
    rw [e, getL_setA ps (setL_asc h p) hp.tail k, getL_setL h, getL]
    by_cases c : p.1 = k
    · subst c
      have hn : getL ps p.1 = none := getL_none.2 fun x hx => by have := hp.head x hx; omega
      rw [hn, if_pos rfl, if_pos rfl]; rfl
    · rw [if_neg c, if_neg (fun h => c h.symm)]
theorem mvL_asc {l : List Pr} (h : Asc l) (lo hi d : Int) : Asc (mvL l lo hi d) := setA_asc _ (h.filter _)
theorem getL_mvL {l : List Pr} (h : Asc l) (lo hi d k : Int) :
    getL (mvL l lo hi d) k = (if lo ≤ k - d ∧ k - d ≤ hi then getL l (k - d) else none).or (if lo ≤ k ∧ k ≤ hi then none else getL l k) := by
  have h1 : Asc (outL l lo hi) := h.filter _
  have h2 : Asc (inL l lo hi) := h.filter _
  rw [mvL, getL_setA _ h1 (shL_asc h2 d), getL_shL, getL_outL h, getL_inL h]
/-! ### lengths -/
theorem setL_len_le (l : List Pr) (p : Pr) : (setL l p).length ≤ l.length + 1 := by
  induction l with
  | nil => simp [setL]
  | cons x t ih =>
    unfold setL
    split
    · rw [List.length_cons]
      have := List.length_filter_le (fun y : Pr => decide (y.1 ≠ p.1)) (x :: t)
      omega
    · rw [List.length_cons, List.length_cons]; omega
theorem setA_len_le : ∀ (ps l : List Pr), (setA l ps).length ≤ l.length + ps.length
  | [], l => Nat.le_refl _
  | p :: ps, l => by
    have h1 := setA_len_le ps (setL l p)
    have h2 := setL_len_le l p
    show (setA (setL l p) ps).length ≤ _
    rw [List.length_cons]
    omega
theorem in_out_len (l : List Pr) (lo hi : Int) : (inL l lo hi).length + (outL l lo hi).length = l.length := by
  induction l with
  | nil => rfl
  | cons x t ih =>
    simp only [inL, outL, List.filter_cons] at ih ⊢
    cases inB lo hi x <;> simp <;> omega
theorem mvL_len_le (l : List Pr) (lo hi d : Int) : (mvL l lo hi d).length ≤ l.length := by
  have h1 := setA_len_le (shL (inL l lo hi) d) (outL l lo hi)
  have h2 := in_out_len l lo hi
  have h3 : (shL (inL l lo hi) d).length = (inL l lo hi).length := by simp [shL]
  unfold mvL
  omega
/-! ### a pair in its place, by parts -/
theorem filter_all {l : List Pr} {p : Pr} (h : ∀ x, x ∈ l → x.1 ≠ p.1) : l.filter (fun y => decide (y.1 ≠ p.1)) = l :=
  List.filter_eq_self.2 fun x hx => decide_eq_true (h x hx)
theorem setL_past : ∀ (a b : List Pr) (p : Pr), (∀ x, x ∈ a → x.1 < p.1) → setL (a ++ b) p = a ++ setL b p
  | [], b, p, _ => rfl
  | x :: a, b, p, h => by
    have hx := h x (by simp)
    rw [List.cons_append, setL, if_neg (by omega), setL_past a b p fun y hy => h y (by simp [hy])]; rfl
theorem setL_new {a b : List Pr} {p : Pr} (ha : ∀ x, x ∈ a → x.1 < p.1) (hb : ∀ x, x ∈ b → p.1 < x.1) : setL (a ++ b) p = a ++ p :: b := by
  rw [setL_past a b p ha]
  cases b with
  | nil => rfl
  | cons y b =>
    have hy := hb y (by simp)
    rw [setL, if_pos (by omega), filter_all fun x hx => by have := hb x hx; omega]
theorem setL_old {a b : List Pr} {p : Pr} {v : Int} (ha : ∀ x, x ∈ a → x.1 < p.1) (hb : ∀ x, x ∈ b → p.1 < x.1) : setL (a ++ (p.1, v) :: b) p = a ++ p :: b := by
  rw [setL_past a _ p ha, setL, if_pos (by simp), List.filter_cons, if_neg (by simp), filter_all fun x hx => by have := hb x hx; omega]
theorem setL_done {l : List Pr} {p y : Pr} (h : ∃ x, x ∈ l ∧ p.1 ≤ x.1) : setL (l ++ [y]) p = setL l p ++ (if y.1 ≠ p.1 then [y] else []) := by
  induction l with
  | nil => obtain ⟨x, hx, _⟩ := h; cases hx
  | cons z t ih =>
    rw [List.cons_append, setL, setL]
    by_cases c : p.1 ≤ z.1
    · rw [if_pos c, if_pos c, List.cons_append, ← List.cons_append, List.filter_append]
      congr 1
      by_cases e : y.1 = p.1 <;> simp [List.filter_cons, e]
    · rw [if_neg c, if_neg c, ih, List.cons_append]
      obtain ⟨x, hx, hp⟩ := h
      rcases List.mem_cons.1 hx with rfl | hx
      · exact absurd hp c
      · exact ⟨x, hx, hp⟩
/-! ### where a key is -/
/-- how many keys are below k -/
def lowN (l : List Pr) (k : Int) : Nat := (l.filter fun x => decide (x.1 < k)).length
theorem lowN_le (l : List Pr) (k : Int) : lowN l k ≤ l.length := List.length_filter_le _ _
theorem take_drop_low : ∀ {l : List Pr}, Asc l → ∀ (k : Int), (∀ x, x ∈ l.take (lowN l k) → x.1 < k) ∧ (∀ x, x ∈ l.drop (lowN l k) → k ≤ x.1)
  | [], _, k => by simp [lowN]
  | y :: t, h, k => by
    have ih := take_drop_low h.tail k
    by_cases c : y.1 < k
    · have e : lowN (y :: t) k = lowN t k + 1 := by simp [lowN, List.filter_cons, c]
      rw [e, List.take_succ_cons, List.drop_succ_cons]
      refine ⟨fun x hx => ?_, ih.2⟩
      rcases List.mem_cons.1 hx with rfl | hx
      · exact c
      · exact ih.1 x hx
    · have e : lowN (y :: t) k = 0 := by
        unfold lowN
        rw [List.length_eq_zero_iff, List.filter_eq_nil_iff]
        intro x hx
        rcases List.mem_cons.1 hx with rfl | hx
        · simpa using c
        · have := h.head x hx
          simp; omega
      rw [e]
      refine ⟨fun x hx => by simp at hx, fun x hx => ?_⟩
      rcases List.mem_cons.1 (by simpa using hx) with rfl | hx
      · omega
      · have := h.head x hx; omega
/-- the index of a key among the first n pairs, or none -/
def plcL (l : List Pr) (k : Int) : Option Nat := l.findIdx? fun x => decide (x.1 = k)
/-! ### the keys of a map made of pairs; the first pair of each key -/
theorem setA_none : ∀ (ps : List Pr) {l : List Pr}, Asc l → ∀ k, getL (setA l ps) k = none ↔ getL l k = none ∧ getL ps k = none
  | [], l, h, k => by simp [setA, getL]
  | p :: ps, l, h, k => by
    have e : setA l (p :: ps) = setA (setL l p) ps := rfl
    rw [e, setA_none ps (setL_asc h p) k, getL_setL h, getL]
    by_cases c : k = p.1
    · rw [if_pos c, if_pos c.symm]; simp
    · rw [if_neg c, if_neg (fun h => c h.symm)]
theorem getL_snoc (l : List Pr) (x : Pr) (k : Int) : getL (l ++ [x]) k = (getL l k).or (if x.1 = k then some x.2 else none) := by
  induction l with
  | nil => simp [getL]
  | cons y t ih =>
    rw [List.cons_append, getL, getL]
    by_cases c : y.1 = k
    · rw [if_pos c, if_pos c]; rfl
    · rw [if_neg c, if_neg c, ih]
/-- of several pairs with one key the first one counts -/
def mdA (acc ps : List Pr) : List Pr := ps.foldl (fun a x => if (getL a x.1).isSome then a else a ++ [x]) acc
def mdL (ps : List Pr) : List Pr := mdA [] ps
theorem mdL_snoc (ps : List Pr) (x : Pr) : mdL (ps ++ [x]) = if (getL (mdL ps) x.1).isSome then mdL ps else mdL ps ++ [x] := by unfold mdL mdA; rw [List.foldl_append]; rfl
theorem mdA_len : ∀ (ps acc : List Pr), (mdA acc ps).length ≤ acc.length + ps.length
  | [], acc => Nat.le_refl _
  | p :: ps, acc => by
    have e : mdA acc (p :: ps) = mdA (if (getL acc p.1).isSome then acc else acc ++ [p]) ps := rfl
    have h := mdA_len ps (if (getL acc p.1).isSome then acc else acc ++ [p])
    rw [e, List.length_cons]
    split at h
    · rename_i hc; rw [if_pos hc]; omega
    · rename_i hc; rw [if_neg hc]; simp at h; omega
theorem mdL_len (ps : List Pr) : (mdL ps).length ≤ ps.length := by have := mdA_len ps []; simpa [mdL] using this
theorem mdA_mem : ∀ (ps acc : List Pr) (x : Pr), x ∈ mdA acc ps → x ∈ acc ∨ x ∈ ps
  | [], acc, x, h => .inl h
  | p :: ps, acc, x, h => by
    have e : mdA acc (p :: ps) = mdA (if (getL acc p.1).isSome then acc else acc ++ [p]) ps := rfl
    rw [e] at h
    rcases mdA_mem ps _ x h with h' | h'
    · split at h'
      · exact .inl h'
      · rcases List.mem_append.1 h' with h' | h'
        · exact .inl h'
        · exact .inr (by simp at h'; simp [h'])
    · exact .inr (by simp [h'])
theorem mem_setA : ∀ (ps l : List Pr) (x : Pr), x ∈ setA l ps → x ∈ l ∨ x ∈ ps
  | [], l, x, h => .inl h
  | p :: ps, l, x, h => by
    have e : setA l (p :: ps) = setA (setL l p) ps := rfl
    rw [e] at h
    rcases mem_setA ps _ x h with h' | h'
    · rcases (mem_setL l p x).1 h' with rfl | ⟨h', _⟩
      · exact .inr (by simp)
      · exact .inl h'
    · exact .inr (by simp [h'])
end Om
end Go.Proofs.YtbndgbjenmknmaaDoor
