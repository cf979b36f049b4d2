/- Plans (what changes, key by key), as lists of keys with the value before and after: plain mathematics. No program. -/
import Derived.Test.YtbdllakbkienoaaOmM
namespace Go.Proofs.Ytbdllakbkienoaa
set_option linter.unusedVariables false
set_option linter.unusedSimpArgs false
namespace Pl
open Om
/-- a change: key, before, after -/
structure Cg where
  k : Int
  b : Option Int
  a : Option Int
deriving DecidableEq
def AscC (l : List Cg) : Prop := l.Pairwise (fun x y => x.k < y.k)
def getC : List Cg → Int → Option Cg
  | [], _ => none
  | x :: t, k => if x.k = k then some x else getC t k
theorem getC_cons (x : Cg) (t : List Cg) (k : Int) : getC (x :: t) k = if x.k = k then some x else getC t k := rfl
/-- each change has a before or an after -/
def Real (l : List Cg) : Prop := ∀ x, x ∈ l → x.b ≠ none ∨ x.a ≠ none
theorem AscC.nil : AscC [] := List.Pairwise.nil
theorem AscC.tail {x : Cg} {t : List Cg} (h : AscC (x :: t)) : AscC t := (List.pairwise_cons.1 h).2
theorem AscC.head {x : Cg} {t : List Cg} (h : AscC (x :: t)) : ∀ y, y ∈ t → x.k < y.k := (List.pairwise_cons.1 h).1
theorem getC_none : ∀ {l : List Cg} {k : Int}, getC l k = none ↔ ∀ x, x ∈ l → x.k ≠ k
  | [], k => by simp [getC]
  | x :: t, k => by
    unfold getC
    by_cases h : x.k = k
    · simp [h]
    · rw [if_neg h, getC_none (l := t)]
      constructor
      · intro h1 y hy
        rcases List.mem_cons.1 hy with rfl | hy
        · exact h
        · exact h1 y hy
      · exact fun h1 y hy => h1 y (List.mem_cons_of_mem _ hy)
theorem getC_key : ∀ {l : List Cg} {k : Int} {x : Cg}, getC l k = some x → x.k = k ∧ x ∈ l
  | [], k, x, h => by simp [getC] at h
  | y :: t, k, x, h => by
    unfold getC at h
    by_cases e : y.k = k
    · rw [if_pos e] at h; cases h; exact ⟨e, List.mem_cons_self ..⟩
    · rw [if_neg e] at h
      obtain ⟨h1, h2⟩ := getC_key h
      exact ⟨h1, List.mem_cons_of_mem _ h2⟩
theorem getC_mem : ∀ {l : List Cg}, AscC l → ∀ {x : Cg}, x ∈ l → getC l x.k = some x
  | [], _, x, h => by cases h
  | y :: t, ha, x, h => by
    unfold getC
    rcases List.mem_cons.1 h with rfl | h
    · rw [if_pos rfl]
    · have := ha.head x h
      rw [if_neg (by omega)]
      exact getC_mem ha.tail h
theorem ext_mem : ∀ {l r : List Cg}, AscC l → AscC r → (∀ x, x ∈ l ↔ x ∈ r) → l = r
  | [], [], _, _, _ => rfl
  | [], y :: r, _, _, h => by have := (h y).2 (List.mem_cons_self ..); cases this
  | x :: l, [], _, _, h => by have := (h x).1 (List.mem_cons_self ..); cases this
  | x :: l, y :: r, hl, hr, h => by
    have e : x = y := by
      rcases List.mem_cons.1 ((h x).1 (List.mem_cons_self ..)) with e | e
      · exact e
      · rcases List.mem_cons.1 ((h y).2 (List.mem_cons_self ..)) with e2 | e2
        · exact e2.symm
        · have h1 := hr.head x e; have h2 := hl.head y e2; omega
    subst e
    congr 1
    refine ext_mem hl.tail hr.tail fun z => ⟨fun hz => ?_, fun hz => ?_⟩
    · rcases List.mem_cons.1 ((h z).1 (List.mem_cons_of_mem _ hz)) with e | e
      · have := hl.head z hz; rw [e] at this; omega
      · exact e
    · rcases List.mem_cons.1 ((h z).2 (List.mem_cons_of_mem _ hz)) with e | e
      · have := hr.head z hz; rw [e] at this; omega
      · exact e
/-- two plans with the same answers are one -/
theorem ext_get {l r : List Cg} (hl : AscC l) (hr : AscC r) (h : ∀ k, getC l k = getC r k) : l = r :=
  ext_mem hl hr fun x => ⟨fun hx => (getC_key ((h x.k).symm.trans (getC_mem hl hx))).2, fun hx => (getC_key ((h x.k).trans (getC_mem hr hx))).2⟩
/-! ### a plan applied -/
def fits (p : List Pr) (l : List Cg) : Prop := ∀ x, x ∈ l → getL p x.k = x.b
def put1 (p : List Pr) (x : Cg) : List Pr := match x.a with | some v => setL p (x.k, v) | none => outL p x.k x.k
def appL (p : List Pr) (l : List Cg) : List Pr := l.foldl put1 p
theorem outL_asc' {p : List Pr} (h : Asc p) (a b : Int) : Asc (outL p a b) := h.filter _
theorem put1_asc {p : List Pr} (h : Asc p) (x : Cg) : Asc (put1 p x) := by
  unfold put1
  split
  · exact setL_asc h _
  · exact outL_asc' h _ _
theorem put1_get {p : List Pr} (h : Asc p) (x : Cg) (k : Int) : getL (put1 p x) k = if k = x.k then x.a else getL p k := by
  unfold put1
  split
  · rename_i v e; rw [getL_setL h, e]
  · rename_i e
    rw [getL_outL h, e]
    by_cases hk : k = x.k
    · rw [if_pos (by omega), if_pos hk]
    · rw [if_neg (by omega), if_neg hk]
theorem appL_asc : ∀ (l : List Cg) {p : List Pr}, Asc p → Asc (appL p l)
  | [], p, h => h
  | x :: l, p, h => appL_asc l (put1_asc h x)
theorem appL_get : ∀ (l : List Cg) {p : List Pr}, Asc p → AscC l → ∀ k, getL (appL p l) k = match getC l k with | some x => x.a | none => getL p k
  | [], p, h, _, k => rfl
  | x :: l, p, h, hl, k => by
    show getL (appL (put1 p x) l) k = _
    rw [appL_get l (put1_asc h x) hl.tail, put1_get h, getC_cons]
    by_cases e : x.k = k
    · subst e
      rw [getC_none.2 (fun y hy => by have := hl.head y hy; omega), if_pos rfl, if_pos rfl]
    · rw [if_neg e, if_neg (fun e' => e e'.symm)]
theorem fits_get {p : List Pr} {l : List Cg} (h : fits p l) {k : Int} {x : Cg} (hx : getC l k = some x) : getL p k = x.b := by
  obtain ⟨h1, h2⟩ := getC_key hx
  rw [← h1]; exact h x h2
theorem appL_of {p : List Pr} {l : List Cg} {k : Int} {x : Cg} (h : Asc p) (hl : AscC l) (hx : getC l k = some x) : getL (appL p l) k = x.a := by rw [appL_get l h hl, hx]
theorem appL_else {p : List Pr} {l : List Cg} {k : Int} (h : Asc p) (hl : AscC l) (hx : getC l k = none) : getL (appL p l) k = getL p k := by rw [appL_get l h hl, hx]
/-! ### a plan turned round -/
def Cg.rev (x : Cg) : Cg := ⟨x.k, x.a, x.b⟩
def inv (l : List Cg) : List Cg := l.map Cg.rev
theorem inv_inv (l : List Cg) : inv (inv l) = l := by
  unfold inv
  rw [List.map_map]
  exact (List.map_congr_left (g := id) fun x _ => rfl).trans (List.map_id l)
theorem inv_asc {l : List Cg} (h : AscC l) : AscC (inv l) := List.pairwise_map.2 h
theorem inv_get : ∀ (l : List Cg) (k : Int), getC (inv l) k = (getC l k).map Cg.rev
  | [], k => rfl
  | x :: l, k => by
    show getC (x.rev :: inv l) k = _
    unfold getC
    by_cases e : x.k = k
    · rw [if_pos e, if_pos (show x.rev.k = k from e)]; rfl
    · rw [if_neg e, if_neg (show ¬ x.rev.k = k from e), inv_get l k]
theorem inv_real {l : List Cg} (h : Real l) : Real (inv l) := fun x hx => by
  obtain ⟨y, hy, rfl⟩ := List.mem_map.1 hx
  exact (h y hy).symm
theorem inv_fits {p : List Pr} {l : List Cg} (hp : Asc p) (hl : AscC l) : fits (appL p l) (inv l) := fun x hx => by
  obtain ⟨y, hy, rfl⟩ := List.mem_map.1 hx
  exact appL_of hp hl (getC_mem hl hy)
/-- back again -/
theorem inv_back {p : List Pr} {l : List Cg} (hp : Asc p) (hl : AscC l) (hf : fits p l) : appL (appL p l) (inv l) = p :=
  asc_get (appL_asc _ (appL_asc _ hp)) hp fun k => by
    rw [appL_get _ (appL_asc _ hp) (inv_asc hl), inv_get]
    cases hx : getC l k with
    | none => exact appL_else hp hl hx
    | some x => exact (fits_get hf hx).symm
/-! ### two ascending lists of keys, each key once -/
def AscI (l : List Int) : Prop := l.Pairwise (· < ·)
def mg (x : Int) (a : List Int) (f : List Int → List Int) : List Int → List Int
  | [] => x :: a
  | y :: b => if x < y then x :: f (y :: b) else if x = y then y :: f b else y :: mg x a f b
def mergeK : List Int → List Int → List Int
  | [] => fun b => b
  | x :: a => mg x a (mergeK a)
theorem mergeK_nil (a : List Int) : mergeK a [] = a := by cases a <;> rfl
theorem mergeK_cons (x : Int) (a : List Int) (y : Int) (b : List Int) : mergeK (x :: a) (y :: b) = if x < y then x :: mergeK a (y :: b) else if x = y then y :: mergeK a b else y :: mergeK (x :: a) b := rfl
theorem mergeK_mem : ∀ (a b : List Int) (z : Int), z ∈ mergeK a b ↔ z ∈ a ∨ z ∈ b
  | [], b, z => by simp [mergeK]
  | x :: a, [], z => by rw [mergeK_nil]; simp
  | x :: a, y :: b, z => by
    rw [mergeK_cons]
    split
    · rw [List.mem_cons, mergeK_mem a (y :: b) z, List.mem_cons, List.mem_cons]; grind
    · split
      · rw [List.mem_cons, mergeK_mem a b z, List.mem_cons, List.mem_cons]; grind
      · rw [List.mem_cons, mergeK_mem (x :: a) b z, List.mem_cons, List.mem_cons]; grind
termination_by a b => a.length + b.length
theorem mergeK_asc : ∀ {a b : List Int}, AscI a → AscI b → AscI (mergeK a b)
  | [], b, _, hb => hb
  | x :: a, [], ha, _ => by rw [mergeK_nil]; exact ha
  | x :: a, y :: b, ha, hb => by
    have ha' := List.pairwise_cons.1 ha
    have hb' := List.pairwise_cons.1 hb
    rw [mergeK_cons]
    split
    · rename_i h
      refine List.pairwise_cons.2 ⟨fun z hz => ?_, mergeK_asc ha'.2 hb⟩
      rcases (mergeK_mem _ _ z).1 hz with h1 | h1
      · exact ha'.1 z h1
      · rcases List.mem_cons.1 h1 with rfl | h1
        · exact h
        · have := hb'.1 z h1; omega
    · rename_i h
      split
      · rename_i h2
        subst h2
        refine List.pairwise_cons.2 ⟨fun z hz => ?_, mergeK_asc ha'.2 hb'.2⟩
        rcases (mergeK_mem _ _ z).1 hz with h1 | h1
        · exact ha'.1 z h1
        · exact hb'.1 z h1
      · rename_i h2
        refine List.pairwise_cons.2 ⟨fun z hz => ?_, mergeK_asc ha hb'.2⟩
        rcases (mergeK_mem _ _ z).1 hz with h1 | h1
        · rcases List.mem_cons.1 h1 with rfl | h1
          · omega
          · have := ha'.1 z h1; omega
        · exact hb'.1 z h1
termination_by a b => a.length + b.length
theorem mergeK_len (a b : List Int) : (mergeK a b).length ≤ a.length + b.length := by
  induction a generalizing b with
  | nil => simp [mergeK]
  | cons x a iha =>
    induction b with
    | nil => rw [mergeK_nil]; simp
    | cons y b ihb =>
      rw [mergeK_cons]
      split
      · have := iha (y :: b); simp at this ⊢; omega
      · split
        · have := iha b; simp at this ⊢; omega
        · simp at ihb ⊢; omega
/-! ### plans from keys -/
def plan (ks : List Int) (f g : Int → Option Int) : List Cg := ks.map fun k => ⟨k, f k, g k⟩
theorem plan_asc {ks : List Int} (h : AscI ks) (f g : Int → Option Int) : AscC (plan ks f g) := List.pairwise_map.2 h
theorem plan_get : ∀ (ks : List Int) (f g : Int → Option Int) (k : Int), getC (plan ks f g) k = if k ∈ ks then some ⟨k, f k, g k⟩ else none
  | [], f, g, k => rfl
  | x :: ks, f, g, k => by
    show getC (⟨x, f x, g x⟩ :: plan ks f g) k = _
    unfold getC
    by_cases e : x = k
    · subst e; simp
    · rw [if_neg (show ¬ (⟨x, f x, g x⟩ : Cg).k = k from e), plan_get ks f g k]
      simp [show ¬ k = x from fun h => e h.symm]
def keysL (p : List Pr) : List Int := p.map (·.1)
theorem keysL_asc {p : List Pr} (h : Asc p) : AscI (keysL p) := List.pairwise_map.2 h
theorem keysL_mem {p : List Pr} {k : Int} : k ∈ keysL p ↔ getL p k ≠ none := by
  rw [Ne, getL_none]
  simp [keysL]
/-- the plan of moving -/
def mvK (p : List Pr) (lo hi d : Int) : List Int := mergeK (keysL (inL p lo hi)) ((keysL (inL p lo hi)).map (· + d))
def mvP (p : List Pr) (lo hi d : Int) : List Cg := plan (mvK p lo hi d) (getL p) (getL (mvL p lo hi d))
/-- the plan of deleting -/
def deP (p : List Pr) (lo hi : Int) : List Cg := plan (keysL (inL p lo hi)) (getL p) (getL (outL p lo hi))
theorem mvK_asc {p : List Pr} (h : Asc p) (lo hi d : Int) : AscI (mvK p lo hi d) :=
  mergeK_asc (keysL_asc (h.filter _)) (List.pairwise_map.2 ((keysL_asc (h.filter _)).imp fun h => by omega))
theorem mvP_asc {p : List Pr} (h : Asc p) (lo hi d : Int) : AscC (mvP p lo hi d) := plan_asc (mvK_asc h lo hi d) _ _
theorem deP_asc {p : List Pr} (h : Asc p) (lo hi : Int) : AscC (deP p lo hi) := plan_asc (keysL_asc (h.filter _)) _ _
theorem plan_fits {ks : List Int} {p : List Pr} {g : Int → Option Int} : fits p (plan ks (getL p) g) := fun x hx => by
  obtain ⟨k, _, rfl⟩ := List.mem_map.1 hx
  rfl
theorem mvK_mem {p : List Pr} (h : Asc p) (lo hi d k : Int) : k ∈ mvK p lo hi d ↔ (lo ≤ k ∧ k ≤ hi ∧ getL p k ≠ none) ∨ (lo ≤ k - d ∧ k - d ≤ hi ∧ getL p (k - d) ≠ none) := by
  have hm : ∀ q, q ∈ keysL (inL p lo hi) ↔ lo ≤ q ∧ q ≤ hi ∧ getL p q ≠ none := fun q => by
    rw [keysL_mem, getL_inL h]
    by_cases e : lo ≤ q ∧ q ≤ hi
    · rw [if_pos e]; simp [e]
    · rw [if_neg e]
      simp only [ne_eq, not_true_eq_false, false_iff]
      intro h'; exact e ⟨h'.1, h'.2.1⟩
  unfold mvK
  rw [mergeK_mem, hm, List.mem_map]
  constructor
  · rintro (h1 | ⟨q, hq, rfl⟩)
    · exact .inl h1
    · rw [hm] at hq
      rw [show q + d - d = q by omega]
      exact .inr hq
  · rintro (h1 | h1)
    · exact .inl h1
    · exact .inr ⟨k - d, (hm _).2 h1, by omega⟩
theorem mvP_app {p : List Pr} (h : Asc p) (lo hi d : Int) : appL p (mvP p lo hi d) = mvL p lo hi d :=
  asc_get (appL_asc _ h) (mvL_asc h _ _ _) fun k => by
    rw [appL_get _ h (mvP_asc h _ _ _)]
    unfold mvP
    rw [plan_get]
    by_cases e : k ∈ mvK p lo hi d
    · rw [if_pos e]
    · rw [if_neg e]
      rw [mvK_mem h] at e
      show getL p k = _
      rw [getL_mvL h]
      have h1 : ¬ (lo ≤ k ∧ k ≤ hi ∧ getL p k ≠ none) := fun q => e (.inl q)
      have h2 : ¬ (lo ≤ k - d ∧ k - d ≤ hi ∧ getL p (k - d) ≠ none) := fun q => e (.inr q)
      by_cases g : lo ≤ k ∧ k ≤ hi
      · have hn : getL p k = none := Classical.byContradiction fun q => h1 ⟨g.1, g.2, q⟩
        rw [if_pos g, hn]
        by_cases g2 : lo ≤ k - d ∧ k - d ≤ hi
        · have hn2 : getL p (k - d) = none := Classical.byContradiction fun q => h2 ⟨g2.1, g2.2, q⟩
          rw [if_pos g2, hn2]; rfl
        · rw [if_neg g2]; rfl
      · rw [if_neg g]
        by_cases g2 : lo ≤ k - d ∧ k - d ≤ hi
        · have hn2 : getL p (k - d) = none := Classical.byContradiction fun q => h2 ⟨g2.1, g2.2, q⟩
          rw [if_pos g2, hn2]; rfl
        · rw [if_neg g2]; rfl
theorem deP_app {p : List Pr} (h : Asc p) (lo hi : Int) : appL p (deP p lo hi) = outL p lo hi :=
  asc_get (appL_asc _ h) (outL_asc' h _ _) fun k => by
    rw [appL_get _ h (deP_asc h _ _)]
    unfold deP
    rw [plan_get, getL_outL h]
    by_cases e : k ∈ keysL (inL p lo hi)
    · rw [if_pos e, ← getL_outL h]
    · rw [if_neg e]
      rw [keysL_mem, getL_inL h] at e
      show getL p k = _
      by_cases g : lo ≤ k ∧ k ≤ hi
      · rw [if_pos g] at e ⊢
        exact Classical.byContradiction fun q => e q
      · rw [if_neg g]
theorem mvP_real {p : List Pr} (h : Asc p) (lo hi d : Int) : Real (mvP p lo hi d) := fun x hx => by
  obtain ⟨k, hk, rfl⟩ := List.mem_map.1 hx
  rcases (mvK_mem h _ _ _ _).1 hk with ⟨_, _, h1⟩ | ⟨h1, h2, h3⟩
  · exact .inl h1
  · refine .inr ?_
    show getL (mvL p lo hi d) k ≠ none
    rw [getL_mvL h, if_pos ⟨h1, h2⟩]
    cases hg : getL p (k - d) with
    | none => exact absurd hg h3
    | some v => simp
theorem deP_real {p : List Pr} (h : Asc p) (lo hi : Int) : Real (deP p lo hi) := fun x hx => by
  obtain ⟨k, hk, rfl⟩ := List.mem_map.1 hx
  rw [keysL_mem, getL_inL h] at hk
  refine .inl ?_
  show getL p k ≠ none
  intro e
  apply hk
  split
  · exact e
  · rfl
/-! ### one plan after another -/
def jn (k : Int) (x y : Option Cg) : Option Cg :=
  match x, y with
  | none, none => none
  | some x, none => some x
  | none, some y => some y
  | some x, some y => if x.b = none ∧ y.a = none then none else some ⟨k, x.b, y.a⟩
def keysC (l : List Cg) : List Int := l.map (·.k)
theorem keysC_asc {l : List Cg} (h : AscC l) : AscI (keysC l) := List.pairwise_map.2 h
theorem keysC_mem {l : List Cg} {k : Int} : k ∈ keysC l ↔ getC l k ≠ none := by
  rw [Ne, getC_none]
  simp [keysC]
def okT (a b : List Cg) : Prop := ∀ k x y, getC a k = some x → getC b k = some y → x.a = y.b
def thL (a b : List Cg) : List Cg := (mergeK (keysC a) (keysC b)).filterMap fun k => jn k (getC a k) (getC b k)
theorem jn_key {a b : List Cg} {k : Int} {z : Cg} (h : jn k (getC a k) (getC b k) = some z) : z.k = k := by
  unfold jn at h
  split at h
  · cases h
  · rename_i x h1 h2; cases h; exact (getC_key h1).1
  · rename_i y h1 h2; cases h; exact (getC_key h2).1
  · split at h
    · cases h
    · cases h; rfl
theorem fm_get {f : Int → Option Cg} (hf : ∀ k z, f k = some z → z.k = k) : ∀ (ks : List Int), AscI ks → ∀ k, getC (ks.filterMap f) k = if k ∈ ks then f k else none
  | [], _, k => rfl
  | x :: ks, h, k => by
    have h' := List.pairwise_cons.1 h
    have ih := fm_get hf ks h'.2 k
    rw [List.filterMap_cons]
    cases hx : f x with
    | none =>
      show getC (ks.filterMap f) k = _
      rw [ih]
      by_cases e : k = x
      · subst e
        rw [if_neg (fun q => by have := h'.1 k q; omega)]
        simp [hx]
      · simp [e]
    | some z =>
      show getC (z :: ks.filterMap f) k = _
      have hz := hf x z hx
      unfold getC
      by_cases e : k = x
      · subst e; rw [if_pos hz]; simp [hx]
      · rw [if_neg (fun q => e (q.symm.trans hz)), ih]; simp [e]
theorem fm_asc {f : Int → Option Cg} (hf : ∀ k z, f k = some z → z.k = k) : ∀ {ks : List Int}, AscI ks → AscC (ks.filterMap f)
  | [], _ => AscC.nil
  | x :: ks, h => by
    have h' := List.pairwise_cons.1 h
    rw [List.filterMap_cons]
    cases hx : f x with
    | none => exact fm_asc hf h'.2
    | some z =>
      refine List.pairwise_cons.2 ⟨fun y hy => ?_, fm_asc hf h'.2⟩
      obtain ⟨q, hq, hfq⟩ := List.mem_filterMap.1 hy
      rw [hf x z hx, hf q y hfq]
      exact h'.1 q hq
theorem thL_asc {a b : List Cg} (ha : AscC a) (hb : AscC b) : AscC (thL a b) := fm_asc (fun k z h => jn_key h) (mergeK_asc (keysC_asc ha) (keysC_asc hb))
theorem thL_get {a b : List Cg} (ha : AscC a) (hb : AscC b) (k : Int) : getC (thL a b) k = jn k (getC a k) (getC b k) := by
  unfold thL
  rw [fm_get (fun k z h => jn_key h) _ (mergeK_asc (keysC_asc ha) (keysC_asc hb))]
  by_cases e : k ∈ mergeK (keysC a) (keysC b)
  · rw [if_pos e]
  · rw [if_neg e]
    rw [mergeK_mem, keysC_mem, keysC_mem] at e
    have h1 : getC a k = none := Classical.byContradiction fun q => e (.inl q)
    have h2 : getC b k = none := Classical.byContradiction fun q => e (.inr q)
    rw [h1, h2]; rfl
theorem thL_real {a b : List Cg} (ha : Real a) (hb : Real b) (sa : AscC a) (sb : AscC b) : Real (thL a b) := fun z hz => by
  have h := getC_mem (thL_asc sa sb) hz
  rw [thL_get sa sb] at h
  unfold jn at h
  split at h
  · cases h
  · rename_i x h1 h2; cases h; exact ha _ (getC_key h1).2
  · rename_i y h1 h2; cases h; exact hb _ (getC_key h2).2
  · rename_i x y h1 h2
    split at h
    · cases h
    · rename_i hne
      have e := Option.some.inj h
      have e1 := congrArg Cg.b e
      have e2 := congrArg Cg.a e
      rw [← show x.b = z.b from e1, ← show y.a = z.a from e2]
      by_cases q : x.b = none
      · exact .inr fun q2 => hne ⟨q, q2⟩
      · exact .inl q
theorem okT_of {p : List Pr} {a b : List Cg} (hp : Asc p) (ha : AscC a) (hf : fits (appL p a) b) : okT a b := fun k x y hx hy => by
  rw [← appL_of hp ha hx]; exact fits_get hf hy
theorem thL_fits {p : List Pr} {a b : List Cg} (hp : Asc p) (ha : AscC a) (hb : AscC b) (fa : fits p a) (fb : fits (appL p a) b) : fits p (thL a b) := fun z hz => by
  have h := getC_mem (thL_asc ha hb) hz
  rw [thL_get ha hb] at h
  have hk := jn_key h
  unfold jn at h
  split at h
  · cases h
  · rename_i x h1 h2; cases h; exact fits_get fa h1
  · rename_i y h1 h2; cases h; rw [← appL_else hp ha h1]; exact fits_get fb h2
  · rename_i x y h1 h2
    split at h
    · cases h
    · have e := Option.some.inj h
      have e1 := congrArg Cg.b e
      rw [← show x.b = z.b from e1]
      exact fits_get fa h1
theorem thL_app {p : List Pr} {a b : List Cg} (hp : Asc p) (ha : AscC a) (hb : AscC b) (fa : fits p a) (fb : fits (appL p a) b) : appL p (thL a b) = appL (appL p a) b :=
  asc_get (appL_asc _ hp) (appL_asc _ (appL_asc _ hp)) fun k => by
    rw [appL_get _ hp (thL_asc ha hb), appL_get _ (appL_asc _ hp) hb, appL_get _ hp ha, thL_get ha hb]
    cases h1 : getC a k with
    | none => cases h2 : getC b k <;> simp [jn]
    | some x =>
      cases h2 : getC b k with
      | none => simp [jn]
      | some y =>
        simp only [jn]
        by_cases q : x.b = none ∧ y.a = none
        · rw [if_pos q]
          show getL p k = y.a
          rw [fits_get fa h1, q.1, q.2]
        · rw [if_neg q]
/-- three plans: whichever two are joined first -/
theorem thL_assoc {a b c : List Cg} (ha : AscC a) (hb : AscC b) (hc : AscC c) (ra : Real a) (rb : Real b) (rc : Real c) (hab : okT a b) (hbc : okT b c) (h1 : okT (thL a b) c) (h2 : okT a (thL b c)) : thL (thL a b) c = thL a (thL b c) :=
  ext_get (thL_asc (thL_asc ha hb) hc) (thL_asc ha (thL_asc hb hc)) fun k => by
    have q1 := h1 k
    have q2 := h2 k
    rw [thL_get ha hb] at q1
    rw [thL_get hb hc] at q2
    rw [thL_get (thL_asc ha hb) hc, thL_get ha (thL_asc hb hc), thL_get ha hb, thL_get hb hc]
    cases ea : getC a k with
    | none =>
      rw [ea] at q1 q2
      cases eb : getC b k with
      | none => cases ec : getC c k <;> rfl
      | some y =>
        rw [eb] at q1 q2
        cases ec : getC c k with
        | none => rfl
        | some z =>
          by_cases q : y.b = none ∧ z.a = none <;> simp [jn, q]
    | some x =>
      rw [ea] at q1 q2
      have kx := (getC_key ea).1
      cases eb : getC b k with
      | none =>
        rw [eb] at q1 q2
        cases ec : getC c k <;> rfl
      | some y =>
        rw [eb] at q1 q2
        have hxy := hab k x y ea eb
        have rx := ra x (getC_key ea).2
        have ry := rb y (getC_key eb).2
        cases ec : getC c k with
        | none =>
          by_cases q : x.b = none ∧ y.a = none <;> simp [jn, q]
        | some z =>
          have hyz := hbc k y z eb ec
          have rz := rc z (getC_key ec).2
          have kz := (getC_key ec).1
          rw [ec] at q2
          simp only [jn] at q1 q2 ⊢
          obtain ⟨xk, xb, xa⟩ := x
          obtain ⟨yk, yb, ya⟩ := y
          obtain ⟨zk, zb, za⟩ := z
          simp only at hxy hyz rx ry rz kx kz ⊢
          subst hxy hyz kx
          cases xb <;> cases za <;> cases ya <;> cases xa <;> simp_all
end Pl
end Go.Proofs.Ytbdllakbkienoaa
