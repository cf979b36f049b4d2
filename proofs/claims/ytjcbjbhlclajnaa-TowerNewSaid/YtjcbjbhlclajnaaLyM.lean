/- Layouts as mathematics: groups of words, what each address is (ofL), where a place is (adL). -/
import Derived.WalkKit
import Derived.ProofKit
namespace Go.Proofs.Ytjcbjbhlclajnaa
set_option linter.unusedVariables false
set_option linter.unusedSimpArgs false
set_option maxRecDepth 100000
namespace Ly
structure G where
  k : Int
  i : Nat
  n : Nat
  s : Nat
abbrev Pl := Int × Int × Int
def G.at' (g : G) (x : Nat) : Pl := (g.k, ((g.i + x / g.s : Nat) : Int), ((x % g.s : Nat) : Int))
def G.what (g : G) : List Pl := (List.range (g.n * g.s)).map g.at'
def total : List G → Nat
  | [] => 0
  | g :: r => g.n * g.s + total r
def whatL (gs : List G) : List Pl := gs.flatMap G.what
def ofL : List G → Nat → Pl
  | [], _ => (0, 0, 0)
  | g :: r, x => if x < g.n * g.s then g.at' x else ofL r (x - g.n * g.s)
theorem what_len (g : G) : g.what.length = g.n * g.s := by simp [G.what]
theorem whatL_cons (g : G) (r : List G) : whatL (g :: r) = g.what ++ whatL r := by simp [whatL]
theorem whatL_app (a b : List G) : whatL (a ++ b) = whatL a ++ whatL b := by simp [whatL]
theorem whatL_nil : whatL [] = [] := rfl
theorem total_app : ∀ a b : List G, total (a ++ b) = total a + total b
  | [], b => by simp [total]
  | g :: r, b => by rw [List.cons_append, total, total, total_app r b]; omega
theorem whatL_len : ∀ gs : List G, (whatL gs).length = total gs
  | [] => rfl
  | g :: r => by rw [whatL_cons, List.length_append, what_len, whatL_len r, total]
theorem whatL_at : ∀ (gs : List G) (x : Nat), x < total gs → (whatL gs)[x]? = some (ofL gs x)
  | [], x, h => by simp [total] at h
  | g :: r, x, h => by
    rw [whatL_cons, ofL]
    by_cases hx : x < g.n * g.s
    · rw [if_pos hx, List.getElem?_append_left (by rw [what_len]; exact hx)]
      simp [G.what, hx]
    · rw [if_neg hx, List.getElem?_append_right (by rw [what_len]; omega), what_len]
      exact whatL_at r _ (by rw [total] at h; omega)
theorem ofL_out : ∀ (gs : List G) (x : Nat), total gs ≤ x → ofL gs x = (0, 0, 0)
  | [], x, h => rfl
  | g :: r, x, h => by
    rw [total] at h
    rw [ofL, if_neg (by omega)]
    exact ofL_out r _ (by omega)
/-- the address of a place, the groups beginning at f -/
def adL : List G → Nat → Pl → Option Nat
  | [], _, _ => none
  | g :: r, f, p => if p.1 = g.k ∧ (g.i : Int) ≤ p.2.1 ∧ p.2.1 < ((g.i + g.n : Nat) : Int) ∧ 0 ≤ p.2.2 ∧ p.2.2 < (g.s : Int) then some (f + (p.2.1 - g.i).toNat * g.s + p.2.2.toNat) else adL r (f + g.n * g.s) p
def Apart (gs : List G) : Prop := gs.Pairwise fun g h => g.k ≠ h.k ∨ g.i + g.n ≤ h.i
theorem at_in {g : G} {x : Nat} (h : x < g.n * g.s) : 0 < g.s ∧ x / g.s < g.n ∧ x % g.s < g.s := by
  have hs : 0 < g.s := by
    rcases Nat.eq_zero_or_pos g.s with e | e
    · rw [e] at h; simp at h
    · exact e
  exact ⟨hs, Nat.div_lt_of_lt_mul (by rw [Nat.mul_comm]; exact h), Nat.mod_lt _ hs⟩
theorem at_of {g : G} {i w : Nat} (hi : i < g.n) (hw : w < g.s) : i * g.s + w < g.n * g.s ∧ g.at' (i * g.s + w) = (g.k, ((g.i + i : Nat) : Int), (w : Int)) := by
  have h1 : (i + 1) * g.s ≤ g.n * g.s := Nat.mul_le_mul_right _ hi
  rw [Nat.succ_mul] at h1
  have h2 : (i * g.s + w) / g.s = i := by
    rw [Nat.mul_comm, Nat.mul_add_div (by omega), Nat.div_eq_of_lt hw]; omega
  have h3 : (i * g.s + w) % g.s = w := by
    rw [Nat.mul_comm, Nat.mul_add_mod, Nat.mod_eq_of_lt hw]
  exact ⟨by omega, by rw [G.at', h2, h3]⟩
/-- a place that ofL tells is one of some group -/
theorem ofL_mem : ∀ (gs : List G) (x : Nat), x < total gs → ∃ g ∈ gs, ∃ i w : Nat, i < g.n ∧ w < g.s ∧ ofL gs x = (g.k, ((g.i + i : Nat) : Int), (w : Int))
  | [], x, h => by simp [total] at h
  | g :: r, x, h => by
    rw [total] at h
    rw [ofL]
    by_cases hx : x < g.n * g.s
    · rw [if_pos hx]
      have := at_in hx
      exact ⟨g, List.mem_cons_self, x / g.s, x % g.s, this.2.1, this.2.2, rfl⟩
    · rw [if_neg hx]
      obtain ⟨h', hm, i, w, a, b, c⟩ := ofL_mem r (x - g.n * g.s) (by omega)
      exact ⟨h', List.mem_cons_of_mem _ hm, i, w, a, b, c⟩
theorem adL_iff : ∀ (gs : List G) (f : Nat) (p : Pl) (a : Nat), Apart gs → (adL gs f p = some a ↔ ∃ x, a = f + x ∧ x < total gs ∧ ofL gs x = p)
  | [], f, p, a, _ => by simp [adL, total]
  | g :: r, f, p, a, hap => by
    have hr : Apart r := (List.pairwise_cons.1 hap).2
    have hg := (List.pairwise_cons.1 hap).1
    have ih := adL_iff r (f + g.n * g.s) p a hr
    rw [adL]
    by_cases hp : p.1 = g.k ∧ (g.i : Int) ≤ p.2.1 ∧ p.2.1 < ((g.i + g.n : Nat) : Int) ∧ 0 ≤ p.2.2 ∧ p.2.2 < (g.s : Int)
    · rw [if_pos hp]
      obtain ⟨h1, h2, h3, h4, h5⟩ := hp
      obtain ⟨p1, p2, p3⟩ := p
      simp only at h1 h2 h3 h4 h5 ⊢
      obtain ⟨i, rfl⟩ : ∃ i : Nat, p2 = ((g.i + i : Nat) : Int) := ⟨(p2 - g.i).toNat, by omega⟩
      obtain ⟨w, rfl⟩ : ∃ w : Nat, p3 = (w : Int) := ⟨p3.toNat, by omega⟩
      have hi : i < g.n := by omega
      have hw : w < g.s := by omega
      have ha := at_of hi hw
      have e1 : ((((g.i + i : Nat) : Int)) - (g.i : Int)).toNat = i := by omega
      rw [e1, Int.toNat_natCast, Option.some.injEq]
      constructor
      · intro e
        exact ⟨i * g.s + w, by omega, by rw [total]; omega, by rw [ofL, if_pos ha.1, ha.2, h1]⟩
      · rintro ⟨x, rfl, hx, ho⟩
        rw [total] at hx
        rw [ofL] at ho
        by_cases hxx : x < g.n * g.s
        · rw [if_pos hxx, G.at', Prod.mk.injEq, Prod.mk.injEq] at ho
          have e2 : x / g.s = i := by omega
          have e3 : x % g.s = w := by omega
          have := Nat.div_add_mod x g.s
          rw [e2, e3, Nat.mul_comm] at this
          omega
        · rw [if_neg hxx] at ho
          obtain ⟨h', hm, i', w', a1, a2, a3⟩ := ofL_mem r (x - g.n * g.s) (by omega)
          rw [ho, Prod.mk.injEq, Prod.mk.injEq] at a3
          rcases hg h' hm with hk | hk
          · exact absurd (h1.symm.trans a3.1) hk
          · omega
    · rw [if_neg hp, ih]
      constructor
      · rintro ⟨x, rfl, hx, ho⟩
        exact ⟨g.n * g.s + x, by omega, by rw [total]; omega, by rw [ofL, if_neg (by omega), show g.n * g.s + x - g.n * g.s = x by omega]; exact ho⟩
      · rintro ⟨x, rfl, hx, ho⟩
        rw [total] at hx
        rw [ofL] at ho
        by_cases hxx : x < g.n * g.s
        · rw [if_pos hxx] at ho
          have hin := at_in hxx
          refine absurd ?_ hp
          rw [← ho]
          simp only [G.at']
          generalize x / g.s = q at hin ⊢
          generalize x % g.s = u at hin ⊢
          exact ⟨trivial, by omega, by omega, by omega, by omega⟩
        · rw [if_neg hxx] at ho
          exact ⟨x - g.n * g.s, by omega, by omega, ho⟩
theorem adL_of {gs : List G} (hap : Apart gs) {x : Nat} (hx : x < total gs) : adL gs 0 (ofL gs x) = some x := (adL_iff gs 0 _ _ hap).2 ⟨x, by omega, hx, rfl⟩
theorem ofL_ad {gs : List G} (hap : Apart gs) {p : Pl} {a : Nat} (h : adL gs 0 p = some a) : a < total gs ∧ ofL gs a = p := by
  obtain ⟨x, rfl, hx, ho⟩ := (adL_iff gs 0 p a hap).1 h
  rw [Nat.zero_add]
  exact ⟨hx, ho⟩
theorem ofL_inj {gs : List G} (hap : Apart gs) {x y : Nat} (hx : x < total gs) (hy : y < total gs) (h : ofL gs x = ofL gs y) : x = y := by
  have a := adL_of hap hx
  rw [h, adL_of hap hy] at a
  injection a with a; exact a.symm
/-- the search of a place in a list of places -/
def fnd (l : List Pl) (p : Pl) : Option Nat := l.findIdx? (fun q => decide (q = p))
theorem fnd_some {l : List Pl} {p : Pl} {i : Nat} (hi : l[i]? = some p) (hb : ∀ j, j < i → l[j]? ≠ some p) : fnd l p = some i := by
  obtain ⟨hlt, e⟩ := List.getElem?_eq_some_iff.1 hi
  rw [fnd, List.findIdx?_eq_some_iff_getElem]
  refine ⟨hlt, by rw [e]; simp, fun j hj => ?_⟩
  have := hb j hj
  rw [List.getElem?_eq_getElem (by omega)] at this
  simpa using this
theorem fnd_none {l : List Pl} {p : Pl} (hb : ∀ j, j < l.length → l[j]? ≠ some p) : fnd l p = none := by
  rw [fnd, List.findIdx?_eq_none_iff]
  intro x hx
  obtain ⟨i, hi⟩ := List.mem_iff_getElem?.1 hx
  have := hb i (List.getElem?_eq_some_iff.1 hi).1
  rw [hi] at this
  simpa using this
theorem fnd_what {gs : List G} (hap : Apart gs) (p : Pl) : fnd (whatL gs) p = adL gs 0 p := by
  cases h : adL gs 0 p with
  | some a =>
    have := ofL_ad hap h
    refine fnd_some (by rw [whatL_at gs a this.1, this.2]) fun j hj e => ?_
    rw [whatL_at gs j (by omega)] at e
    injection e with e
    have := ofL_inj hap (by omega) this.1 (e.trans this.2.symm)
    omega
  | none =>
    refine fnd_none fun j hj e => ?_
    rw [whatL_len] at hj
    rw [whatL_at gs j hj] at e
    injection e with e
    rw [← e, adL_of hap hj] at h
    cases h
/-- a group of n elements is n groups of one -/
def ones (k : Int) (s : Nat) : Nat → Nat → List G
  | _, 0 => []
  | i, n + 1 => ⟨k, i, 1, s⟩ :: ones k s (i + 1) n
theorem what_ones (k : Int) (s : Nat) : ∀ n i : Nat, whatL (ones k s i n) = (G.mk k i n s).what
  | 0, i => by simp [ones, whatL, G.what]
  | n + 1, i => by
    rw [ones, whatL_cons, what_ones k s n (i + 1)]
    apply List.ext_getElem?
    intro x
    have l1 := what_len ⟨k, i, 1, s⟩
    have l2 := what_len ⟨k, i + 1, n, s⟩
    have l3 := what_len ⟨k, i, n + 1, s⟩
    simp only at l1 l2 l3
    rw [Nat.succ_mul] at l3
    rw [Nat.one_mul] at l1
    by_cases hx : x < s
    · rw [List.getElem?_append_left (by omega)]
      have h0 : x / s = 0 := Nat.div_eq_of_lt hx
      have h3 : x < (n + 1) * s := by rw [Nat.succ_mul]; omega
      simp [G.what, G.at', hx, h0, h3]
    · rw [List.getElem?_append_right (by omega), l1]
      by_cases hy : x - s < n * s
      · have hs : 0 < s := by
          rcases Nat.eq_zero_or_pos s with e | e
          · rw [e] at hy; simp at hy
          · exact e
        have e1 : x / s = (x - s) / s + 1 := by rw [← Nat.add_div_right (x - s) hs]; congr 1; omega
        have e2 : x % s = (x - s) % s := by rw [← Nat.add_mod_right (x - s) s]; congr 1; omega
        have hz : x < (n + 1) * s := by rw [Nat.succ_mul]; omega
        have l4 : (G.mk k (i + 1) n s).what[x - s]? = some ((G.mk k (i + 1) n s).at' (x - s)) := by simp [G.what, hy]
        have l5 : (G.mk k i (n + 1) s).what[x]? = some ((G.mk k i (n + 1) s).at' x) := by simp [G.what, hz]
        rw [l4, l5, G.at', G.at', e1, e2]
        show some ((k, ((i + 1 + (x - s) / s : Nat) : Int), (((x - s) % s : Nat) : Int)) : Pl) = some (k, ((i + ((x - s) / s + 1) : Nat) : Int), (((x - s) % s : Nat) : Int))
        rw [show i + 1 + (x - s) / s = i + ((x - s) / s + 1) by omega]
      · rw [List.getElem?_eq_none_iff.2 (by rw [l2]; omega), List.getElem?_eq_none_iff.2 (by rw [l3]; omega)]
end Ly
end Go.Proofs.Ytjcbjbhlclajnaa
