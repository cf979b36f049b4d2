/- Least keys and images of ranges, as plain mathematics: the least key is the least one that has the value; an image is the set of the values of the keys. No program. -/
import Derived.Test.YtnjgolbghcjijaaDoorDomE
namespace Go.Proofs.YtnjgolbghcjijaaDoor
set_option linter.unusedVariables false
set_option linter.unusedSimpArgs false
namespace Dm
theorem cnt_eq {l : List Int} {y : Int} {p : Nat} (hu : upTo l l.length) (hp : p ≤ l.length) :
    cnt l y l.length = p ↔ (p = 0 ∨ l.getD (p - 1) 0 ≤ y) ∧ (l.length ≤ p ∨ y < l.getD p 0) := by
  have hc := cnt_le l y l.length
  have hk := cnt_up (key := y) hu
  generalize cnt l y l.length = c at *
  constructor
  · intro h
    subst h
    refine ⟨?_, ?_⟩
    · by_cases h0 : c = 0
      · exact .inl h0
      · exact .inr ((hk (c - 1) (by omega)).2 (by omega))
    · by_cases h1 : l.length ≤ c
      · exact .inl h1
      · right
        have := mt (hk c (by omega)).1 (by omega)
        omega
  · rintro ⟨h1, h2⟩
    by_cases hlt : c < p
    · have h3 : l.getD (p - 1) 0 ≤ y := by rcases h1 with h1 | h1; · omega
                                           exact h1
      have := (hk (p - 1) (by omega)).1 h3
      omega
    · by_cases hgt : p < c
      · have h3 : y < l.getD p 0 := by rcases h2 with h2 | h2; · omega
                                       exact h2
        have := (hk p (by omega)).2 hgt
        omega
      · omega
/-- the value that the map names first, from a key on -/
theorem lsC_eq {l : List Int} {p : Nat} {f : Int} : lsC l (p : Int) f =
    if p < l.length ∧ l.getD p 0 ≤ (if p = 0 then f else max f (l.getD (p - 1) 0)) then none else some (if p = 0 then f else max f (l.getD (p - 1) 0)) := by
  rcases p with _ | p
  · rw [lsC_zero]; simp
  · by_cases h : f < l.getD p 0
    · rw [lsC_high h]
      simp only [Nat.add_sub_cancel, Nat.add_one_ne_zero, if_false, show max f (l.getD p 0) = l.getD p 0 by omega]
      have e : (((p + 1 : Nat) : Int) < (l.length : Int)) = (p + 1 < l.length) := by apply propext; omega
      simp only [e]
    · rw [lsC_low h]
      simp only [Nat.add_sub_cancel, Nat.add_one_ne_zero, if_false, show max f (l.getD p 0) = f by omega]
      have e : (((p + 1 : Nat) : Int) < (l.length : Int)) = (p + 1 < l.length) := by apply propext; omega
      simp only [e]
theorem dmL_spec {k n : Int} {l : List Int} {v f : Int} (hd : BdU l) (fl : 0 ≤ f) (fh : f ≤ 18446744073709551615) (hb : dmB k n l = true) (v0 : 0 ≤ v) (v1 : v < dmN k n l) :
    (∀ x, dmL k n l v f = some x → dmV k n l x = v ∧ ∀ y, f ≤ y → y < x → dmV k n l y ≠ v) ∧ (dmL k n l v f = none → ∀ y, f ≤ y → y ≤ 18446744073709551615 → dmV k n l y ≠ v) := by
  have hL := (dmL_ok (f := f) hb (decide_eq_true ⟨v0, v1⟩)).1
  by_cases h3 : k = 3
  · subst h3
    rw [if_pos rfl] at hL
    obtain ⟨hu, hN, hV⟩ : upTo l l.length ∧ dmN 3 n l = l.length + 1 ∧ ∀ key, dmV 3 n l key = cnt l key l.length := by
      rcases dm_forms hb with ⟨a, _⟩ | ⟨a, _⟩ | ⟨_, _, _, _, a, b, c⟩
      · omega
      · omega
      · exact ⟨a, b, c⟩
    obtain ⟨p, rfl⟩ := Int.eq_ofNat_of_zero_le v0
    have hp : p ≤ l.length := by omega
    rw [lsC_eq] at hL
    have key : ∀ y, dmV 3 n l y = (p : Int) ↔ (p = 0 ∨ l.getD (p - 1) 0 ≤ y) ∧ (l.length ≤ p ∨ y < l.getD p 0) := fun y => by
      rw [hV, ← cnt_eq hu hp]; omega
    have hX : ∃ X : Int, X = (if p = 0 then f else max f (l.getD (p - 1) 0)) ∧ f ≤ X ∧ (p = 0 → X = f) ∧ (p ≠ 0 → X = max f (l.getD (p - 1) 0)) := by
      refine ⟨_, rfl, ?_, fun h => if_pos h, fun h => if_neg h⟩
      split <;> omega
    obtain ⟨X, e, X0, X1, X2⟩ := hX
    rw [← e] at hL
    clear e
    refine ⟨fun x hx => ?_, fun hx y hy0 hy1 => ?_⟩
    · rw [hL] at hx
      split at hx
      · cases hx
      · rename_i hc
        cases hx
        refine ⟨(key _).2 ?_, fun y hy0 hy1 h => ?_⟩
        · refine ⟨?_, ?_⟩
          · by_cases h0 : p = 0
            · exact .inl h0
            · right; have := X2 h0; omega
          · by_cases h1 : l.length ≤ p
            · exact .inl h1
            · right
              have hc' : ¬ l.getD p 0 ≤ X := fun h => hc ⟨by omega, h⟩
              omega
        · have h' := ((key y).1 h).1
          by_cases h0 : p = 0
          · have := X1 h0; omega
          · have := X2 h0
            rcases h' with h' | h'
            · exact h0 h'
            · omega
    · rw [hL] at hx
      split at hx
      · rename_i hc
        intro h
        obtain ⟨h1, h2⟩ := (key y).1 h
        obtain ⟨hc1, hc2⟩ := hc
        have h2' : y < l.getD p 0 := by rcases h2 with h2 | h2; · omega
                                        exact h2
        by_cases h0 : p = 0
        · have := X1 h0; omega
        · have := X2 h0
          rcases h1 with h1 | h1
          · exact h0 h1
          · omega
      · cases hx
  · rw [if_neg h3, lsM] at hL
    have hN := dmN_pos hb
    have hV := dm_mod hb h3
    have T0 : 0 ≤ (v - f) % dmN k n l := Int.emod_nonneg _ (by omega)
    have T1 : (v - f) % dmN k n l < dmN k n l := Int.emod_lt_of_pos _ (by omega)
    have TM : ∀ t, 0 ≤ t → t < dmN k n l → ((f + t) % dmN k n l = v ↔ t = (v - f) % dmN k n l) := fun t a b => mod_at (by omega) v0 v1 a b
    generalize dmN k n l = N at *
    generalize (v - f) % N = T at *
    have off : ∀ y, f ≤ y → y < f + T → dmV k n l y ≠ v := fun y a b h => by
      rw [hV] at h
      have := (TM (y - f) (by omega) (by omega)).1 (by rw [show f + (y - f) = y by omega]; exact h)
      omega
    refine ⟨fun x hx => ?_, fun hx y hy0 hy1 => ?_⟩
    · rw [hL] at hx
      split at hx
      · cases hx
        exact ⟨by rw [hV]; exact (TM T T0 T1).2 rfl, fun y a b => off y a b⟩
      · cases hx
    · rw [hL] at hx
      split at hx
      · cases hx
      · exact off y hy0 (by omega)
theorem dmV_bd {k n : Int} {l : List Int} (hb : dmB k n l = true) (y : Int) : 0 ≤ dmV k n l y ∧ dmV k n l y < dmN k n l := by
  by_cases h3 : k = 3
  · subst h3
    rcases dm_forms hb with ⟨a, _⟩ | ⟨a, _⟩ | ⟨_, _, _, _, _, b, c⟩
    · omega
    · omega
    · rw [b, c]
      have := cnt_le l y l.length
      omega
  · have hN := dmN_pos hb
    rw [dm_mod hb h3]
    exact ⟨Int.emod_nonneg _ (by omega), Int.emod_lt_of_pos _ (by omega)⟩
/-- a value is in the image exactly if a key of the range has it -/
theorem lsAt_iff {k n : Int} {l : List Int} {lo hi : Int} (hd : BdU l) (ll : 0 ≤ lo) (lh : lo ≤ 18446744073709551615) (hh : hi ≤ 18446744073709551615) (hb : dmB k n l = true) {i : Nat} (h1 : (i : Int) < dmN k n l) :
    lsAt k n l lo hi i = true ↔ ∃ y, lo ≤ y ∧ y ≤ hi ∧ dmV k n l y = i := by
  obtain ⟨s1, s2⟩ := dmL_spec hd ll lh hb (show 0 ≤ (i : Int) by omega) h1
  unfold lsAt
  cases h : dmL k n l (i : Nat) lo with
  | none =>
    constructor
    · intro h'; cases h'
    · rintro ⟨y, a, b, c⟩
      exact absurd c (s2 h y a (by omega))
  | some x =>
    obtain ⟨t1, t2⟩ := s1 x h
    obtain ⟨x0, x1⟩ := dmL_bd hd ll lh h
    show decide (x ≤ hi) = true ↔ _
    rw [decide_eq_true_eq]
    constructor
    · intro hx; exact ⟨x, x0, hx, t1⟩
    · rintro ⟨y, a, b, c⟩
      by_cases hyx : y < x
      · exact absurd c (t2 y a hyx)
      · omega
theorem imV_bit {k n : Int} {l : List Int} {lo hi : Int} (hb : dmB k n l = true) (hle : lo ≤ hi) (i : Nat) : (imV k n l lo hi).testBit i = (decide ((i : Int) < dmN k n l) && lsAt k n l lo hi i) := by
  have hN := dmN_pos hb
  rw [imV, if_pos (by rw [imB, hb, decide_eq_true hle]; rfl), img_bit]
  congr 1
  refine decide_eq_decide.2 ?_
  omega
theorem imV_iff {k n : Int} {l : List Int} {lo hi : Int} (hd : BdU l) (ll : 0 ≤ lo) (lh : lo ≤ 18446744073709551615) (hh : hi ≤ 18446744073709551615) (hb : dmB k n l = true) (hle : lo ≤ hi) (i : Nat) :
    (imV k n l lo hi).testBit i = true ↔ ∃ y, lo ≤ y ∧ y ≤ hi ∧ dmV k n l y = i := by
  rw [imV_bit hb hle, Bool.and_eq_true, decide_eq_true_eq]
  constructor
  · rintro ⟨h1, h2⟩
    exact (lsAt_iff hd ll lh hh hb h1).1 h2
  · rintro ⟨y, a, b, c⟩
    have h1 : (i : Int) < dmN k n l := by have := (dmV_bd hb y).2; omega
    exact ⟨h1, (lsAt_iff hd ll lh hh hb h1).2 ⟨y, a, b, c⟩⟩
theorem imV_lt {k n : Int} {l : List Int} {lo hi : Int} : imV k n l lo hi < 18446744073709551616 := by
  unfold imV
  split
  · exact img64 _ (by have := (dmN_64 (k := k) (n := n) (l := l)).2; omega)
  · omega
theorem alV_bit {k n : Int} {l : List Int} (hb : dmB k n l = true) (i : Nat) : (alV k n l).testBit i = decide ((i : Int) < dmN k n l) := by
  have hN := dmN_pos hb
  rw [alV, if_pos hb, img_bit, Bool.and_true]
  refine decide_eq_decide.2 ?_
  omega
theorem alV_lt {k n : Int} {l : List Int} : alV k n l < 18446744073709551616 := by
  unfold alV
  split
  · exact img64 _ (by have := (dmN_64 (k := k) (n := n) (l := l)).2; omega)
  · omega
/-- the images of two parts of a range -/
theorem imV_parts {k n : Int} {l : List Int} {lo hi at' : Int} (hd : BdU l) (ll : 0 ≤ lo) (hh : hi ≤ 18446744073709551615) (hb : dmB k n l = true) (h1 : lo ≤ at') (h2 : at' < hi) :
    imV k n l lo at' ||| imV k n l (at' + 1) hi = imV k n l lo hi := by
  refine Nat.eq_of_testBit_eq fun i => ?_
  rw [Nat.testBit_or, Bool.eq_iff_iff, Bool.or_eq_true, imV_iff hd ll (by omega) (by omega) hb h1, imV_iff hd (by omega) (by omega) hh hb (by omega), imV_iff hd ll (by omega) hh hb (by omega)]
  constructor
  · rintro (⟨y, a, b, c⟩ | ⟨y, a, b, c⟩)
    · exact ⟨y, a, by omega, c⟩
    · exact ⟨y, by omega, b, c⟩
  · rintro ⟨y, a, b, c⟩
    by_cases h : y ≤ at'
    · exact .inl ⟨y, a, h, c⟩
    · exact .inr ⟨y, by omega, b, c⟩
/-- each value has a key -/
theorem some_key {k n : Int} {l : List Int} (hd : BdU l) (hb : dmB k n l = true) {v : Int} (v0 : 0 ≤ v) (v1 : v < dmN k n l) : ∃ y, 0 ≤ y ∧ y ≤ 18446744073709551615 ∧ dmV k n l y = v := by
  by_cases h3 : k = 3
  · subst h3
    have h1 := cuts_one hb hd
    obtain ⟨hu, hN, hV⟩ : upTo l l.length ∧ dmN 3 n l = l.length + 1 ∧ ∀ key, dmV 3 n l key = cnt l key l.length := by
      rcases dm_forms hb with ⟨a, _⟩ | ⟨a, _⟩ | ⟨_, _, _, _, a, b, c⟩
      · omega
      · omega
      · exact ⟨a, b, c⟩
    obtain ⟨p, rfl⟩ := Int.eq_ofNat_of_zero_le v0
    have hp : p ≤ l.length := by omega
    rcases p with _ | p
    · refine ⟨0, by omega, by omega, ?_⟩
      rw [hV, (cnt_eq hu hp).2 ⟨.inl rfl, ?_⟩]
      by_cases h : l.length ≤ 0
      · exact .inl h
      · right; have := h1 0 (by omega); omega
    · have hx := hd p (by omega)
      refine ⟨l.getD p 0, hx.1, hx.2, ?_⟩
      rw [hV, (cnt_eq hu hp).2 ⟨.inr (by rw [Nat.add_sub_cancel]; exact Int.le_refl _), ?_⟩]
      by_cases h : l.length ≤ p + 1
      · exact .inl h
      · right; exact upTo_lt hu p (p + 1) (by omega) (by omega)
  · have := (dmN_64 (k := k) (n := n) (l := l)).2
    refine ⟨v, v0, by omega, ?_⟩
    rw [dm_mod hb h3]
    exact Int.emod_eq_of_lt v0 v1
theorem imV_all {k n : Int} {l : List Int} (hd : BdU l) (hb : dmB k n l = true) : imV k n l 0 18446744073709551615 = alV k n l := by
  refine Nat.eq_of_testBit_eq fun i => ?_
  rw [Bool.eq_iff_iff, imV_iff hd (by omega) (by omega) (by omega) hb (by omega), alV_bit hb, decide_eq_true_eq]
  constructor
  · rintro ⟨y, a, b, c⟩
    have := (dmV_bd hb y).2
    omega
  · intro h
    exact some_key hd hb (by omega) h
theorem imV_pos {k n : Int} {l : List Int} {lo hi : Int} (hd : BdU l) (ll : 0 ≤ lo) (lh : lo ≤ 18446744073709551615) (hh : hi ≤ 18446744073709551615) (hb : dmB k n l = true) (hle : lo ≤ hi) : imV k n l lo hi ≠ 0 := by
  intro h
  have hv := dmV_bd hb lo
  obtain ⟨p, hp⟩ := Int.eq_ofNat_of_zero_le hv.1
  have := (imV_iff hd ll lh hh hb hle p).2 ⟨lo, by omega, hle, hp⟩
  rw [h] at this
  simp at this
end Dm
end Go.Proofs.YtnjgolbghcjijaaDoor
