/- Two plans walked side by side, a move walked side by side, births: plain mathematics. No program. -/
import Derived.Test.YtbdllakbkienoaaPlM
namespace Go.Proofs.Ytbdllakbkienoaa
set_option linter.unusedVariables false
set_option linter.unusedSimpArgs false
namespace Pl
open Om
/-! ### Then -/
def thG (x : Cg) (f : List Cg → Option (List Cg)) : List Cg → Option (List Cg)
  | [] => (f []).map (x :: ·)
  | y :: b => if y.k < x.k then (thG x f b).map (y :: ·) else if y.k = x.k then (if x.a = y.b then (if x.b = none ∧ y.a = none then f b else (f b).map (⟨x.k, x.b, y.a⟩ :: ·)) else none) else (f (y :: b)).map (x :: ·)
def thW : List Cg → List Cg → Option (List Cg)
  | [] => fun b => some b
  | x :: a => thG x (thW a)
theorem thW_nil (b : List Cg) : thW [] b = some b := rfl
theorem thW_end (x : Cg) (a : List Cg) : thW (x :: a) [] = (thW a []).map (x :: ·) := rfl
theorem thW_cons (x : Cg) (a : List Cg) (y : Cg) (b : List Cg) : thW (x :: a) (y :: b) = if y.k < x.k then (thW (x :: a) b).map (y :: ·) else if y.k = x.k then (if x.a = y.b then (if x.b = none ∧ y.a = none then thW a b else (thW a b).map (⟨x.k, x.b, y.a⟩ :: ·)) else none) else (thW a (y :: b)).map (x :: ·) := rfl
theorem thL_key {a b : List Cg} {z : Cg} (h : z ∈ thL a b) : z.k ∈ keysC a ∨ z.k ∈ keysC b := by
  obtain ⟨k, hk, hz⟩ := List.mem_filterMap.1 h
  rw [jn_key hz]
  exact (mergeK_mem _ _ _).1 hk
theorem keysC_gt {l : List Cg} {x : Cg} (h : ∀ y, y ∈ l → x.k < y.k) {k : Int} (hk : k ∈ keysC l) : x.k < k := by
  obtain ⟨y, hy, rfl⟩ := List.mem_map.1 hk
  exact h y hy
theorem getC_past {l : List Cg} {k : Int} (h : ∀ y, y ∈ l → k < y.k) : getC l k = none := getC_none.2 fun y hy => by have := h y hy; omega
theorem thL_nil (b : List Cg) (hb : AscC b) : thL [] b = b := ext_get (thL_asc AscC.nil hb) hb fun k => by
  rw [thL_get AscC.nil hb]
  cases h : getC b k with
  | none => rfl
  | some y => rfl
theorem thL_end {a : List Cg} (ha : AscC a) : thL a [] = a := ext_get (thL_asc ha AscC.nil) ha fun k => by
  rw [thL_get ha AscC.nil]
  cases h : getC a k with
  | none => rfl
  | some y => rfl
theorem thL_lo {x y : Cg} {a b : List Cg} (ha : AscC (x :: a)) (hb : AscC (y :: b)) (h : y.k < x.k) : thL (x :: a) (y :: b) = y :: thL (x :: a) b := by
  have gx : ∀ z, z ∈ x :: a → y.k < z.k := fun z hz => by
    rcases List.mem_cons.1 hz with rfl | hz
    · exact h
    · have := ha.head z hz; omega
  refine ext_get (thL_asc ha hb) (List.pairwise_cons.2 ⟨fun z hz => ?_, thL_asc ha hb.tail⟩) fun k => ?_
  · rcases thL_key hz with h1 | h1
    · exact keysC_gt gx h1
    · exact keysC_gt hb.head h1
  · rw [thL_get ha hb, getC_cons y, getC_cons y, thL_get ha hb.tail]
    by_cases e : y.k = k
    · subst e
      rw [if_pos rfl, if_pos rfl, getC_past gx]; rfl
    · rw [if_neg e, if_neg e]
theorem thL_hi {x y : Cg} {a b : List Cg} (ha : AscC (x :: a)) (hb : AscC (y :: b)) (h : x.k < y.k) : thL (x :: a) (y :: b) = x :: thL a (y :: b) := by
  have gx : ∀ z, z ∈ y :: b → x.k < z.k := fun z hz => by
    rcases List.mem_cons.1 hz with rfl | hz
    · exact h
    · have := hb.head z hz; omega
  refine ext_get (thL_asc ha hb) (List.pairwise_cons.2 ⟨fun z hz => ?_, thL_asc ha.tail hb⟩) fun k => ?_
  · rcases thL_key hz with h1 | h1
    · exact keysC_gt ha.head h1
    · exact keysC_gt gx h1
  · rw [thL_get ha hb, getC_cons x, getC_cons x, thL_get ha.tail hb]
    by_cases e : x.k = k
    · subst e
      rw [if_pos rfl, if_pos rfl, getC_past gx]; rfl
    · rw [if_neg e, if_neg e]
theorem thL_eq {x y : Cg} {a b : List Cg} (ha : AscC (x :: a)) (hb : AscC (y :: b)) (h : y.k = x.k) : thL (x :: a) (y :: b) = if x.b = none ∧ y.a = none then thL a b else ⟨x.k, x.b, y.a⟩ :: thL a b := by
  have gt : ∀ z, z ∈ thL a b → x.k < z.k := fun z hz => by
    rcases thL_key hz with h1 | h1
    · exact keysC_gt ha.head h1
    · have := keysC_gt hb.head h1; omega
  have base := thL_asc ha.tail hb.tail
  by_cases c : x.b = none ∧ y.a = none
  · rw [if_pos c]
    refine ext_get (thL_asc ha hb) base fun k => ?_
    rw [thL_get ha hb, thL_get ha.tail hb.tail, getC_cons x, getC_cons y]
    by_cases e : x.k = k
    · subst e
      rw [if_pos rfl, if_pos h, getC_past ha.head, getC_past (fun z hz => by have := hb.head z hz; omega)]
      simp [jn, c]
    · rw [if_neg e, if_neg (by omega)]
  · rw [if_neg c]
    refine ext_get (thL_asc ha hb) (List.pairwise_cons.2 ⟨gt, base⟩) fun k => ?_
    rw [thL_get ha hb, getC_cons ⟨x.k, x.b, y.a⟩, thL_get ha.tail hb.tail, getC_cons x, getC_cons y]
    by_cases e : x.k = k
    · subst e
      rw [if_pos rfl, if_pos h, if_pos rfl]
      simp [jn, c]
    · rw [if_neg e, if_neg (show ¬ y.k = k by omega), if_neg (show ¬ (⟨x.k, x.b, y.a⟩ : Cg).k = k from e)]
theorem okT.tail {x : Cg} {a b : List Cg} (ha : AscC (x :: a)) (h : okT (x :: a) b) : okT a b := fun k z y hz hy => h k z y (by
  rw [getC_cons, if_neg (fun e => ?_)]
  · exact hz
  · obtain ⟨h1, h2⟩ := getC_key hz
    have := ha.head z h2
    omega) hy
theorem okT.tail2 {y : Cg} {a b : List Cg} (hb : AscC (y :: b)) (h : okT a (y :: b)) : okT a b := fun k z z' hz hy => h k z z' hz (by
  rw [getC_cons, if_neg (fun e => ?_)]
  · exact hy
  · obtain ⟨h1, h2⟩ := getC_key hy
    have := hb.head z' h2
    omega)
/-- the walk finds the joined plan -/
theorem thW_ok : ∀ (a b : List Cg), AscC a → AscC b → okT a b → thW a b = some (thL a b)
  | [], b, _, hb, _ => by rw [thL_nil b hb]; rfl
  | x :: a, [], ha, hb, hk => by
    rw [thW_end, thW_ok a [] ha.tail hb (hk.tail ha), thL_end ha, thL_end ha.tail]; rfl
  | x :: a, y :: b, ha, hb, hk => by
    rw [thW_cons]
    by_cases h1 : y.k < x.k
    · rw [if_pos h1, thW_ok (x :: a) b ha hb.tail (hk.tail2 hb), thL_lo ha hb h1]; rfl
    · rw [if_neg h1]
      by_cases h2 : y.k = x.k
      · have hxy : x.a = y.b := hk x.k x y (by rw [getC_cons, if_pos rfl]) (by rw [getC_cons, if_pos h2])
        rw [if_pos h2, if_pos hxy, thW_ok a b ha.tail hb.tail ((hk.tail ha).tail2 hb), thL_eq ha hb h2]
        by_cases c : x.b = none ∧ y.a = none
        · rw [if_pos c, if_pos c]
        · rw [if_neg c, if_neg c]; rfl
      · rw [if_neg h2, thW_ok a (y :: b) ha.tail hb (hk.tail ha), thL_hi ha hb (by omega)]; rfl
termination_by a b => a.length + b.length
/-- and finds only what may be joined -/
theorem thW_some : ∀ (a b : List Cg), AscC a → AscC b → (thW a b).isSome = true → okT a b
  | [], b, _, hb, _ => fun k x y hx _ => by simp [getC] at hx
  | x :: a, [], ha, hb, h => fun k x y _ hy => by simp [getC] at hy
  | x :: a, y :: b, ha, hb, h => by
    rw [thW_cons] at h
    by_cases h1 : y.k < x.k
    · rw [if_pos h1, Option.isSome_map] at h
      have ih := thW_some (x :: a) b ha hb.tail h
      intro k z z' hz hz'
      rw [getC_cons y] at hz'
      by_cases e : y.k = k
      · exfalso
        obtain ⟨e1, e2⟩ := getC_key hz
        rcases List.mem_cons.1 e2 with rfl | e2
        · omega
        · have := ha.head z e2; omega
      · rw [if_neg e] at hz'; exact ih k z z' hz hz'
    · rw [if_neg h1] at h
      by_cases h2 : y.k = x.k
      · rw [if_pos h2] at h
        by_cases hxy : x.a = y.b
        · rw [if_pos hxy] at h
          have h' : (thW a b).isSome = true := by
            by_cases c : x.b = none ∧ y.a = none
            · rw [if_pos c] at h; exact h
            · rw [if_neg c, Option.isSome_map] at h; exact h
          have ih := thW_some a b ha.tail hb.tail h'
          intro k z z' hz hz'
          rw [getC_cons] at hz hz'
          by_cases e : x.k = k
          · rw [if_pos e] at hz; rw [if_pos (h2.trans e)] at hz'
            cases hz; cases hz'; exact hxy
          · rw [if_neg e] at hz; rw [if_neg (by omega)] at hz'
            exact ih k z z' hz hz'
        · rw [if_neg hxy] at h; simp at h
      · rw [if_neg h2, Option.isSome_map] at h
        have ih := thW_some a (y :: b) ha.tail hb h
        intro k z z' hz hz'
        rw [getC_cons x] at hz
        by_cases e : x.k = k
        · exfalso
          obtain ⟨e1, e2⟩ := getC_key hz'
          rcases List.mem_cons.1 e2 with rfl | e2
          · omega
          · have := hb.head z' e2; omega
        · rw [if_neg e] at hz; exact ih k z z' hz hz'
termination_by a b => a.length + b.length
theorem thW_no {a b : List Cg} (ha : AscC a) (hb : AscC b) (h : ¬ okT a b) : thW a b = none := by
  cases e : thW a b with
  | none => rfl
  | some r => exact absurd (thW_some a b ha hb (by rw [e]; rfl)) h
theorem thL_len {a b : List Cg} : (thL a b).length ≤ a.length + b.length := by
  unfold thL
  refine Nat.le_trans (List.length_filterMap_le _ _) ?_
  have := mergeK_len (keysC a) (keysC b)
  simpa [keysC] using this
/-! ### Move -/
def mvG (lo hi d : Int) (x : Pr) (f : List Pr → List Cg) : List Pr → List Cg
  | [] => ⟨x.1 + d, none, some x.2⟩ :: f []
  | y :: r => if y.1 < x.1 + d then (if inB lo hi y then ⟨y.1, some y.2, none⟩ :: mvG lo hi d x f r else mvG lo hi d x f r) else if y.1 = x.1 + d then ⟨y.1, some y.2, some x.2⟩ :: f r else ⟨x.1 + d, none, some x.2⟩ :: f (y :: r)
def mvW (lo hi d : Int) : List Pr → List Pr → List Cg
  | [] => fun _ => []
  | x :: xs => mvG lo hi d x (mvW lo hi d xs)
theorem mvW_end (lo hi d : Int) (x : Pr) (xs : List Pr) : mvW lo hi d (x :: xs) [] = ⟨x.1 + d, none, some x.2⟩ :: mvW lo hi d xs [] := rfl
theorem mvW_cons (lo hi d : Int) (x : Pr) (xs : List Pr) (y : Pr) (r : List Pr) : mvW lo hi d (x :: xs) (y :: r) = if y.1 < x.1 + d then (if inB lo hi y then ⟨y.1, some y.2, none⟩ :: mvW lo hi d (x :: xs) r else mvW lo hi d (x :: xs) r) else if y.1 = x.1 + d then ⟨y.1, some y.2, some x.2⟩ :: mvW lo hi d xs r else ⟨x.1 + d, none, some x.2⟩ :: mvW lo hi d xs (y :: r) := rfl
/-- the keys of the walk -/
theorem mvW_key (lo hi d : Int) : ∀ (xs r : List Pr) (z : Cg), z ∈ mvW lo hi d xs r → (∃ x, x ∈ xs ∧ z.k = x.1 + d) ∨ ∃ y, y ∈ r ∧ z.k = y.1
  | [], r, z, h => by cases h
  | x :: xs, [], z, h => by
    rw [mvW_end] at h
    rcases List.mem_cons.1 h with rfl | h
    · exact .inl ⟨x, List.mem_cons_self .., rfl⟩
    · rcases mvW_key lo hi d xs [] z h with ⟨q, h1, h2⟩ | ⟨q, h1, h2⟩
      · exact .inl ⟨q, List.mem_cons_of_mem _ h1, h2⟩
      · exact .inr ⟨q, h1, h2⟩
  | x :: xs, y :: r, z, h => by
    have up1 : ((∃ q, q ∈ x :: xs ∧ z.k = q.1 + d) ∨ ∃ q, q ∈ r ∧ z.k = q.1) → (∃ q, q ∈ x :: xs ∧ z.k = q.1 + d) ∨ ∃ q, q ∈ y :: r ∧ z.k = q.1 := by
      rintro (h | ⟨q, h1, h2⟩)
      · exact .inl h
      · exact .inr ⟨q, List.mem_cons_of_mem _ h1, h2⟩
    rw [mvW_cons] at h
    by_cases c1 : y.1 < x.1 + d
    · rw [if_pos c1] at h
      by_cases c2 : inB lo hi y
      · rw [if_pos c2] at h
        rcases List.mem_cons.1 h with rfl | h
        · exact .inr ⟨y, List.mem_cons_self .., rfl⟩
        · exact up1 (mvW_key lo hi d (x :: xs) r z h)
      · rw [if_neg c2] at h
        exact up1 (mvW_key lo hi d (x :: xs) r z h)
    · rw [if_neg c1] at h
      by_cases c2 : y.1 = x.1 + d
      · rw [if_pos c2] at h
        rcases List.mem_cons.1 h with rfl | h
        · exact .inr ⟨y, List.mem_cons_self .., rfl⟩
        · rcases mvW_key lo hi d xs r z h with ⟨q, h1, h2⟩ | ⟨q, h1, h2⟩
          · exact .inl ⟨q, List.mem_cons_of_mem _ h1, h2⟩
          · exact .inr ⟨q, List.mem_cons_of_mem _ h1, h2⟩
      · rw [if_neg c2] at h
        rcases List.mem_cons.1 h with rfl | h
        · exact .inl ⟨x, List.mem_cons_self .., rfl⟩
        · rcases mvW_key lo hi d xs (y :: r) z h with ⟨q, h1, h2⟩ | ⟨q, h1, h2⟩
          · exact .inl ⟨q, List.mem_cons_of_mem _ h1, h2⟩
          · exact .inr ⟨q, h1, h2⟩
termination_by xs r => xs.length + r.length
theorem mvW_asc (lo hi d : Int) : ∀ (xs r : List Pr), Asc xs → Asc r → AscC (mvW lo hi d xs r)
  | [], r, _, _ => AscC.nil
  | x :: xs, [], hx, hr => by
    rw [mvW_end]
    refine List.pairwise_cons.2 ⟨fun z hz => ?_, mvW_asc lo hi d xs [] hx.tail hr⟩
    rcases mvW_key lo hi d xs [] z hz with ⟨q, h1, h2⟩ | ⟨q, h1, h2⟩
    · have := hx.head q h1; show x.1 + d < z.k; omega
    · cases h1
  | x :: xs, y :: r, hx, hr => by
    rw [mvW_cons]
    have toX : ∀ z, z ∈ mvW lo hi d (x :: xs) r → y.1 < x.1 + d → y.1 < z.k := fun z hz c => by
      rcases mvW_key lo hi d (x :: xs) r z hz with ⟨q, h1, h2⟩ | ⟨q, h1, h2⟩
      · rcases List.mem_cons.1 h1 with rfl | h1
        · omega
        · have := hx.head q h1; omega
      · have := hr.head q h1; omega
    by_cases c1 : y.1 < x.1 + d
    · rw [if_pos c1]
      by_cases c2 : inB lo hi y
      · rw [if_pos c2]
        exact List.pairwise_cons.2 ⟨fun z hz => toX z hz c1, mvW_asc lo hi d (x :: xs) r hx hr.tail⟩
      · rw [if_neg c2]
        exact mvW_asc lo hi d (x :: xs) r hx hr.tail
    · rw [if_neg c1]
      by_cases c2 : y.1 = x.1 + d
      · rw [if_pos c2]
        refine List.pairwise_cons.2 ⟨fun z hz => ?_, mvW_asc lo hi d xs r hx.tail hr.tail⟩
        rcases mvW_key lo hi d xs r z hz with ⟨q, h1, h2⟩ | ⟨q, h1, h2⟩
        · have := hx.head q h1; show y.1 < z.k; omega
        · have := hr.head q h1; show y.1 < z.k; omega
      · rw [if_neg c2]
        refine List.pairwise_cons.2 ⟨fun z hz => ?_, mvW_asc lo hi d xs (y :: r) hx.tail hr⟩
        rcases mvW_key lo hi d xs (y :: r) z hz with ⟨q, h1, h2⟩ | ⟨q, h1, h2⟩
        · have := hx.head q h1; show x.1 + d < z.k; omega
        · rcases List.mem_cons.1 h1 with rfl | h1
          · show x.1 + d < z.k; omega
          · have := hr.head q h1; show x.1 + d < z.k; omega
termination_by xs r => xs.length + r.length
theorem getL_cons (x : Pr) (t : List Pr) (k : Int) : getL (x :: t) k = if x.1 = k then some x.2 else getL t k := rfl
theorem getL_past {l : List Pr} {k : Int} (h : ∀ y, y ∈ l → k < y.1) : getL l k = none := getL_none.2 fun y hy => by have := h y hy; omega
/-- what the walk says of a key -/
def mvA (lo hi d : Int) (xs r : List Pr) (k : Int) : Option Cg := match getL xs (k - d) with
  | some v => some ⟨k, getL r k, some v⟩
  | none => if lo ≤ k ∧ k ≤ hi then (getL r k).map fun v => ⟨k, some v, none⟩ else none
theorem mvW_get (lo hi d : Int) : ∀ (xs r : List Pr), Asc xs → Asc r → (∀ y, y ∈ r → inB lo hi y = true → ∃ x, x ∈ xs ∧ y.1 < x.1 + d) → ∀ k, getC (mvW lo hi d xs r) k = mvA lo hi d xs r k
  | [], r, _, hr, h, k => by
    show none = _
    unfold mvA
    show none = if lo ≤ k ∧ k ≤ hi then _ else none
    by_cases c : lo ≤ k ∧ k ≤ hi
    · rw [if_pos c]
      have : getL r k = none := getL_none.2 fun y hy e => by
        obtain ⟨x, hx, _⟩ := h y hy (by simp [inB]; omega)
        cases hx
      rw [this]; rfl
    · rw [if_neg c]
  | x :: xs, [], hx, hr, h, k => by
    rw [mvW_end, getC_cons, mvW_get lo hi d xs [] hx.tail hr (fun y hy => by cases hy) k]
    unfold mvA
    rw [getL_cons]
    by_cases e : x.1 + d = k
    · rw [if_pos (show (⟨x.1 + d, none, some x.2⟩ : Cg).k = k from e), if_pos (by omega), e]; rfl
    · rw [if_neg (show ¬ (⟨x.1 + d, none, some x.2⟩ : Cg).k = k from e), if_neg (show ¬ x.1 = k - d by omega)]
  | x :: xs, y :: r, hx, hr, h, k => by
    rw [mvW_cons]
    have low : ∀ q : Int, q < x.1 → getL (x :: xs) q = none := fun q hq => getL_past fun z hz => by
      rcases List.mem_cons.1 hz with rfl | hz
      · exact hq
      · have := hx.head z hz; omega
    by_cases c1 : y.1 < x.1 + d
    · rw [if_pos c1]
      have ih := mvW_get lo hi d (x :: xs) r hx hr.tail (fun z hz hb => h z (List.mem_cons_of_mem _ hz) hb) k
      by_cases c2 : inB lo hi y
      · rw [if_pos c2, getC_cons, ih]
        unfold mvA
        rw [getL_cons y]
        by_cases e : y.1 = k
        · have c2' : lo ≤ k ∧ k ≤ hi := by simp [inB] at c2; omega
          rw [if_pos (show (⟨y.1, some y.2, none⟩ : Cg).k = k from e), if_pos e, low _ (by omega), e]
          show _ = if lo ≤ k ∧ k ≤ hi then _ else none
          rw [if_pos c2']; rfl
        · rw [if_neg (show ¬ (⟨y.1, some y.2, none⟩ : Cg).k = k from e), if_neg e]
      · rw [if_neg c2, ih]
        unfold mvA
        rw [getL_cons y]
        by_cases e : y.1 = k
        · have c2' : ¬ (lo ≤ k ∧ k ≤ hi) := by simp [inB] at c2; omega
          rw [if_pos e, low _ (by omega), if_neg c2', if_neg c2']
        · rw [if_neg e]
    · rw [if_neg c1]
      by_cases c2 : y.1 = x.1 + d
      · have ih := mvW_get lo hi d xs r hx.tail hr.tail (fun z hz hb => by
          obtain ⟨q, hq, hl⟩ := h z (List.mem_cons_of_mem _ hz) hb
          rcases List.mem_cons.1 hq with rfl | hq
          · have := hr.head z hz; omega
          · exact ⟨q, hq, hl⟩) k
        rw [if_pos c2, getC_cons, ih]
        unfold mvA
        rw [getL_cons, getL_cons]
        by_cases e : y.1 = k
        · rw [if_pos (show (⟨y.1, some y.2, some x.2⟩ : Cg).k = k from e), if_pos (show x.1 = k - d by omega), if_pos e, e]
        · rw [if_neg (show ¬ (⟨y.1, some y.2, some x.2⟩ : Cg).k = k from e), if_neg (show ¬ x.1 = k - d by omega), if_neg e]
      · have ih := mvW_get lo hi d xs (y :: r) hx.tail hr (fun z hz hb => by
          obtain ⟨q, hq, hl⟩ := h z hz hb
          rcases List.mem_cons.1 hq with rfl | hq
          · rcases List.mem_cons.1 hz with rfl | hz
            · omega
            · have := hr.head z hz; omega
          · exact ⟨q, hq, hl⟩) k
        rw [if_neg c2, getC_cons, ih]
        unfold mvA
        rw [getL_cons x]
        by_cases e : x.1 + d = k
        · have hn : getL (y :: r) k = none := getL_past fun z hz => by
            rcases List.mem_cons.1 hz with rfl | hz
            · omega
            · have := hr.head z hz; omega
          rw [if_pos (show (⟨x.1 + d, none, some x.2⟩ : Cg).k = k from e), if_pos (show x.1 = k - d by omega), hn, e]
        · rw [if_neg (show ¬ (⟨x.1 + d, none, some x.2⟩ : Cg).k = k from e), if_neg (show ¬ x.1 = k - d by omega)]
termination_by xs r => xs.length + r.length
theorem mvW_eq {p : List Pr} (h : Asc p) {lo hi d : Int} (hd : 0 < d) : mvW lo hi d (inL p lo hi) p = mvP p lo hi d := by
  refine ext_get (mvW_asc lo hi d _ _ (h.filter _) h) (mvP_asc h _ _ _) fun k => ?_
  rw [mvW_get lo hi d (inL p lo hi) p (h.filter _) h (fun y hy hb => ⟨y, List.mem_filter.2 ⟨hy, hb⟩, by omega⟩)]
  unfold mvP mvA
  rw [plan_get, getL_inL h]
  have hm := mvK_mem h lo hi d k
  by_cases g2 : lo ≤ k - d ∧ k - d ≤ hi
  · rw [if_pos g2]
    cases hv : getL p (k - d) with
    | some v =>
      rw [if_pos (hm.2 (.inr ⟨g2.1, g2.2, by rw [hv]; simp⟩)), getL_mvL h, if_pos g2, hv]; rfl
    | none =>
      show (if lo ≤ k ∧ k ≤ hi then _ else none) = _
      by_cases g : lo ≤ k ∧ k ≤ hi
      · rw [if_pos g]
        cases hk : getL p k with
        | none => rw [if_neg (fun q => by rcases hm.1 q with ⟨_, _, q⟩ | ⟨_, _, q⟩; exact q hk; exact q hv)]; rfl
        | some v => rw [if_pos (hm.2 (.inl ⟨g.1, g.2, by rw [hk]; simp⟩)), getL_mvL h, if_pos g2, if_pos g, hv]; rfl
      · rw [if_neg g, if_neg (fun q => by rcases hm.1 q with ⟨q1, q2, _⟩ | ⟨_, _, q⟩; exact g ⟨q1, q2⟩; exact q hv)]
  · rw [if_neg g2]
    show (if lo ≤ k ∧ k ≤ hi then _ else none) = _
    by_cases g : lo ≤ k ∧ k ≤ hi
    · rw [if_pos g]
      cases hk : getL p k with
      | none => rw [if_neg (fun q => by rcases hm.1 q with ⟨_, _, q⟩ | ⟨q1, q2, q⟩; exact q hk; exact g2 ⟨q1, q2⟩)]; rfl
      | some v => rw [if_pos (hm.2 (.inl ⟨g.1, g.2, by rw [hk]; simp⟩)), getL_mvL h, if_neg g2, if_pos g]; rfl
    · rw [if_neg g, if_neg (fun q => by rcases hm.1 q with ⟨q1, q2, _⟩ | ⟨q1, q2, _⟩; exact g ⟨q1, q2⟩; exact g2 ⟨q1, q2⟩)]
theorem mvP_len (p : List Pr) (lo hi d : Int) : (mvP p lo hi d).length ≤ 2 * p.length := by
  unfold mvP plan mvK
  rw [List.length_map]
  have h1 := mergeK_len (keysL (inL p lo hi)) ((keysL (inL p lo hi)).map (· + d))
  have h2 : (inL p lo hi).length ≤ p.length := List.length_filter_le _ _
  simp only [List.length_map, keysL] at h1 ⊢
  omega
/-! ### Delete -/
def dth (x : Pr) : Cg := ⟨x.1, some x.2, none⟩
theorem de_eq {p : List Pr} (h : Asc p) (lo hi : Int) : (inL p lo hi).map dth = deP p lo hi := by
  unfold deP plan keysL
  rw [List.map_map]
  refine List.map_congr_left fun x hx => ?_
  have hx' := List.mem_filter.1 hx
  have h1 : getL p x.1 = some x.2 := (getL_mem h).2 hx'.1
  have h2 : lo ≤ x.1 ∧ x.1 ≤ hi := by have := hx'.2; simpa [inB] using this
  show _ = (⟨x.1, getL p x.1, getL (outL p lo hi) x.1⟩ : Cg)
  rw [getL_outL h, if_pos h2, h1]; rfl
/-! ### pairs as births -/
def bth (x : Pr) : Cg := ⟨x.1, none, some x.2⟩
theorem bth_asc {p : List Pr} : AscC (p.map bth) ↔ Asc p := List.pairwise_map
theorem bth_get : ∀ (p : List Pr) (k : Int), getC (p.map bth) k = (getL p k).map fun v => ⟨k, none, some v⟩
  | [], k => rfl
  | x :: p, k => by
    show getC (bth x :: p.map bth) k = _
    rw [getC_cons, getL_cons]
    by_cases e : x.1 = k
    · rw [if_pos (show (bth x).k = k from e), if_pos e, ← e]; rfl
    · rw [if_neg (show ¬ (bth x).k = k from e), if_neg e, bth_get p k]
/-- what is left of births after a plan -/
theorem ap_fits {p : List Pr} {l : List Cg} (hp : Asc p) (hl : AscC l) (hr : Real l) : fits p l ↔ okT (p.map bth) l ∧ ∀ z, z ∈ thL (p.map bth) l → z.b = none := by
  have hq := bth_asc.2 hp
  constructor
  · intro h
    refine ⟨fun k x y hx hy => ?_, fun z hz => ?_⟩
    · rw [bth_get] at hx
      obtain ⟨v, hv, rfl⟩ := Option.map_eq_some_iff.1 hx
      rw [← fits_get h hy, hv]
    · have hz := getC_mem (thL_asc hq hl) hz
      rw [thL_get hq hl, bth_get] at hz
      cases hv : getL p z.k with
      | none =>
        rw [hv] at hz
        cases hy : getC l z.k with
        | none => rw [hy] at hz; cases hz
        | some y =>
          rw [hy] at hz
          cases hz
          rw [← fits_get h hy]; exact hv
      | some v =>
        rw [hv] at hz
        cases hy : getC l z.k with
        | none => rw [hy] at hz; simp only [Option.map_some, jn, Option.some.injEq] at hz; rw [← hz]
        | some y =>
          rw [hy] at hz
          simp only [Option.map_some, jn] at hz
          split at hz
          · cases hz
          · have := Option.some.inj hz; rw [← this]
  · rintro ⟨h1, h2⟩ x hx
    have hx' := getC_mem hl hx
    cases hv : getL p x.k with
    | some v =>
      exact h1 x.k _ x (by rw [bth_get, hv]; rfl) hx'
    | none =>
      have hz : getC (thL (p.map bth) l) x.k = some x := by rw [thL_get hq hl, bth_get, hv, hx']; rfl
      exact (h2 x (getC_key hz).2).symm
theorem ap_left {p : List Pr} {l : List Cg} (hp : Asc p) (hl : AscC l) (hr : Real l) (h : fits p l) : (thL (p.map bth) l).map (fun z => (z.k, z.a.getD 0)) = appL p l := by
  have hq := bth_asc.2 hp
  have hT := thL_asc hq hl
  have hR : ∀ z, z ∈ thL (p.map bth) l → z.a ≠ none := fun z hz => by
    have hb := ((ap_fits hp hl hr).1 h).2 z hz
    have := thL_real (a := p.map bth) (b := l) (fun x hx => by obtain ⟨y, _, rfl⟩ := List.mem_map.1 hx; exact .inr (by simp [bth])) hr hq hl z hz
    rcases this with h1 | h1
    · exact absurd hb h1
    · exact h1
  have hget : ∀ (L : List Cg), (∀ z, z ∈ L → z.a ≠ none) → ∀ k, getL (L.map fun z => (z.k, z.a.getD 0)) k = (getC L k).bind (·.a) := fun L => by
    induction L with
    | nil => intro _ k; rfl
    | cons z L ih =>
      intro hz k
      show getL ((z.k, z.a.getD 0) :: L.map _) k = _
      rw [getL_cons, getC_cons]
      by_cases e : z.k = k
      · rw [if_pos e, if_pos e]
        have := hz z (List.mem_cons_self ..)
        cases ha : z.a with
        | none => exact absurd ha this
        | some v => rw [Option.bind_some, ha]; rfl
      · rw [if_neg e, if_neg e, ih (fun q hq => hz q (List.mem_cons_of_mem _ hq)) k]
  refine asc_get (List.pairwise_map.2 hT) (appL_asc _ hp) fun k => ?_
  rw [hget _ hR k, thL_get hq hl, bth_get, appL_get _ hp hl]
  cases hy : getC l k with
  | none => cases hv : getL p k <;> rfl
  | some y =>
    have hb := fits_get h hy
    cases hv : getL p k with
    | none => rfl
    | some v =>
      simp only [Option.map_some, jn]
      split
      · rename_i c
        rw [c.2]; rfl
      · rfl
end Pl
end Go.Proofs.Ytbdllakbkienoaa
