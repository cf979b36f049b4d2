/- Layouts as mathematics: groups of words, what each address is (ofL), where a place is (adL). · The groups of a store, as mathematics: their sizes, where each place is. -/
import Derived.WalkKit
import Derived.ProofKit
namespace Go.Proofs.YtdkkpaofodicjaaGreat
set_option linter.unusedVariables false
set_option linter.unusedSimpArgs false
set_option maxRecDepth 100000
namespace Ly
structure G where
  k : Int
  i : Nat
  n : Nat
  s : Nat
abbrev Pl := Int × Int × Int
def G.at' (g : G) (x : Nat) : Pl := (g.k, ((g.i + x / g.s : Nat) : Int), ((x % g.s : Nat) : Int))
def G.what (g : G) : List Pl := (List.range (g.n * g.s)).map g.at'
def total : List G → Nat
  | [] => 0
  | g :: r => g.n * g.s + total r
def whatL (gs : List G) : List Pl := gs.flatMap G.what
def ofL : List G → Nat → Pl
  | [], _ => (0, 0, 0)
  | g :: r, x => if x < g.n * g.s then g.at' x else ofL r (x - g.n * g.s)
theorem what_len (g : G) : g.what.length = g.n * g.s := by simp [G.what]
theorem whatL_cons (g : G) (r : List G) : whatL (g :: r) = g.what ++ whatL r := by simp [whatL]
theorem whatL_app (a b : List G) : whatL (a ++ b) = whatL a ++ whatL b := by simp [whatL]
theorem whatL_nil : whatL [] = [] := rfl
theorem total_app : ∀ a b : List G, total (a ++ b) = total a + total b
  | [], b => by simp [total]
  | g :: r, b => by rw [List.cons_append, total, total, total_app r b]; omega
theorem whatL_len : ∀ gs : List G, (whatL gs).length = total gs
  | [] => rfl
  | g :: r => by rw [whatL_cons, List.length_append, what_len, whatL_len r, total]
theorem whatL_at : ∀ (gs : List G) (x : Nat), x < total gs → (whatL gs)[x]? = some (ofL gs x)
  | [], x, h => by simp [total] at h
  | g :: r, x, h => by
    rw [whatL_cons, ofL]
    by_cases hx : x < g.n * g.s
    · rw [if_pos hx, List.getElem?_append_left (by rw [what_len]; exact hx)]
      simp [G.what, hx]
    · rw [if_neg hx, List.getElem?_append_right (by rw [what_len]; omega), what_len]
      exact whatL_at r _ (by rw [total] at h; omega)
theorem ofL_out : ∀ (gs : List G) (x : Nat), total gs ≤ x → ofL gs x = (0, 0, 0)
  | [], x, h => rfl
  | g :: r, x, h => by
    rw [total] at h
    rw [ofL, if_neg (by omega)]
    exact ofL_out r _ (by omega)
/-- the address of a place, the groups beginning at f -/
def adL : List G → Nat → Pl → Option Nat
  | [], _, _ => none
  | g :: r, f, p => if p.1 = g.k ∧ (g.i : Int) ≤ p.2.1 ∧ p.2.1 < ((g.i + g.n : Nat) : Int) ∧ 0 ≤ p.2.2 ∧ p.2.2 < (g.s : Int) then some (f + (p.2.1 - g.i).toNat * g.s + p.2.2.toNat) else adL r (f + g.n * g.s) p
def Apart (gs : List G) : Prop := gs.Pairwise fun g h => g.k ≠ h.k ∨ g.i + g.n ≤ h.i
theorem at_in {g : G} {x : Nat} (h : x < g.n * g.s) : 0 < g.s ∧ x / g.s < g.n ∧ x % g.s < g.s := by
  have hs : 0 < g.s := by
    rcases Nat.eq_zero_or_pos g.s with e | e
    · rw [e] at h; simp at h
    · exact e
  exact ⟨hs, Nat.div_lt_of_lt_mul (by rw [Nat.mul_comm]; exact h), Nat.mod_lt _ hs⟩
theorem at_of {g : G} {i w : Nat} (hi : i < g.n) (hw : w < g.s) : i * g.s + w < g.n * g.s ∧ g.at' (i * g.s + w) = (g.k, ((g.i + i : Nat) : Int), (w : Int)) := by
  have h1 : (i + 1) * g.s ≤ g.n * g.s := Nat.mul_le_mul_right _ hi
  rw [Nat.succ_mul] at h1
  have h2 : (i * g.s + w) / g.s = i := by
    rw [Nat.mul_comm, Nat.mul_add_div (by omega), Nat.div_eq_of_lt hw]; omega
  have h3 : (i * g.s + w) % g.s = w := by
    rw [Nat.mul_comm, Nat.mul_add_mod, Nat.mod_eq_of_lt hw]
  exact ⟨by omega, by rw [G.at', h2, h3]⟩
/-- a place that ofL tells is one of some group -/
theorem ofL_mem : ∀ (gs : List G) (x : Nat), x < total gs → ∃ g ∈ gs, ∃ i w : Nat, i < g.n ∧ w < g.s ∧ ofL gs x = (g.k, ((g.i + i : Nat) : Int), (w : Int))
  | [], x, h => by simp [total] at h
  | g :: r, x, h => by
    rw [total] at h
    rw [ofL]
    by_cases hx : x < g.n * g.s
    · rw [if_pos hx]
      have := at_in hx
      exact ⟨g, List.mem_cons_self, x / g.s, x % g.s, this.2.1, this.2.2, rfl⟩
    · rw [if_neg hx]
      obtain ⟨h', hm, i, w, a, b, c⟩ := ofL_mem r (x - g.n * g.s) (by omega)
      exact ⟨h', List.mem_cons_of_mem _ hm, i, w, a, b, c⟩
theorem adL_iff : ∀ (gs : List G) (f : Nat) (p : Pl) (a : Nat), Apart gs → (adL gs f p = some a ↔ ∃ x, a = f + x ∧ x < total gs ∧ ofL gs x = p)
  | [], f, p, a, _ => by simp [adL, total]
  | g :: r, f, p, a, hap => by
    have hr : Apart r := (List.pairwise_cons.1 hap).2
    have hg := (List.pairwise_cons.1 hap).1
    have ih := adL_iff r (f + g.n * g.s) p a hr
    rw [adL]
    by_cases hp : p.1 = g.k ∧ (g.i : Int) ≤ p.2.1 ∧ p.2.1 < ((g.i + g.n : Nat) : Int) ∧ 0 ≤ p.2.2 ∧ p.2.2 < (g.s : Int)
    · rw [if_pos hp]
      obtain ⟨h1, h2, h3, h4, h5⟩ := hp
      obtain ⟨p1, p2, p3⟩ := p
      simp only at h1 h2 h3 h4 h5 ⊢
      obtain ⟨i, rfl⟩ : ∃ i : Nat, p2 = ((g.i + i : Nat) : Int) := ⟨(p2 - g.i).toNat, by omega⟩
      obtain ⟨w, rfl⟩ : ∃ w : Nat, p3 = (w : Int) := ⟨p3.toNat, by omega⟩
      have hi : i < g.n := by omega
      have hw : w < g.s := by omega
      have ha := at_of hi hw
      have e1 : ((((g.i + i : Nat) : Int)) - (g.i : Int)).toNat = i := by omega
      rw [e1, Int.toNat_natCast, Option.some.injEq]
      constructor
      · intro e
        exact ⟨i * g.s + w, by omega, by rw [total]; omega, by rw [ofL, if_pos ha.1, ha.2, h1]⟩
      · rintro ⟨x, rfl, hx, ho⟩
        rw [total] at hx
        rw [ofL] at ho
        by_cases hxx : x < g.n * g.s
        · rw [if_pos hxx, G.at', Prod.mk.injEq, Prod.mk.injEq] at ho
          have e2 : x / g.s = i := by omega
          have e3 : x % g.s = w := by omega
          have := Nat.div_add_mod x g.s
          rw [e2, e3, Nat.mul_comm] at this
          omega
        · rw [if_neg hxx] at ho
          obtain ⟨h', hm, i', w', a1, a2, a3⟩ := ofL_mem r (x - g.n * g.s) (by omega)
          rw [ho, Prod.mk.injEq, Prod.mk.injEq] at a3
          rcases hg h' hm with hk | hk
          · exact absurd (h1.symm.trans a3.1) hk
          · omega
    · rw [if_neg hp, ih]
      constructor
      · rintro ⟨x, rfl, hx, ho⟩
        exact ⟨g.n * g.s + x, by omega, by rw [total]; omega, by rw [ofL, if_neg (by omega), show g.n * g.s + x - g.n * g.s = x by omega]; exact ho⟩
      · rintro ⟨x, rfl, hx, ho⟩
        rw [total] at hx
        rw [ofL] at ho
        by_cases hxx : x < g.n * g.s
        · rw [if_pos hxx] at ho
          have hin := at_in hxx
          refine absurd ?_ hp
          rw [← ho]
          simp only [G.at']
          generalize x / g.s = q at hin ⊢
          generalize x % g.s = u at hin ⊢
          exact ⟨trivial, by omega, by omega, by omega, by omega⟩
        · rw [if_neg hxx] at ho
          exact ⟨x - g.n * g.s, by omega, by omega, ho⟩
theorem adL_of {gs : List G} (hap : Apart gs) {x : Nat} (hx : x < total gs) : adL gs 0 (ofL gs x) = some x := (adL_iff gs 0 _ _ hap).2 ⟨x, by omega, hx, rfl⟩
theorem ofL_ad {gs : List G} (hap : Apart gs) {p : Pl} {a : Nat} (h : adL gs 0 p = some a) : a < total gs ∧ ofL gs a = p := by
  obtain ⟨x, rfl, hx, ho⟩ := (adL_iff gs 0 p a hap).1 h
  rw [Nat.zero_add]
  exact ⟨hx, ho⟩
theorem ofL_inj {gs : List G} (hap : Apart gs) {x y : Nat} (hx : x < total gs) (hy : y < total gs) (h : ofL gs x = ofL gs y) : x = y := by
  have a := adL_of hap hx
  rw [h, adL_of hap hy] at a
  injection a with a; exact a.symm
/-- the search of a place in a list of places -/
def fnd (l : List Pl) (p : Pl) : Option Nat := l.findIdx? (fun q => decide (q = p))
theorem fnd_some {l : List Pl} {p : Pl} {i : Nat} (hi : l[i]? = some p) (hb : ∀ j, j < i → l[j]? ≠ some p) : fnd l p = some i := by
  obtain ⟨hlt, e⟩ := List.getElem?_eq_some_iff.1 hi
  rw [fnd, List.findIdx?_eq_some_iff_getElem]
  refine ⟨hlt, by rw [e]; simp, fun j hj => ?_⟩
  have := hb j hj
  rw [List.getElem?_eq_getElem (by omega)] at this
  simpa using this
theorem fnd_none {l : List Pl} {p : Pl} (hb : ∀ j, j < l.length → l[j]? ≠ some p) : fnd l p = none := by
  rw [fnd, List.findIdx?_eq_none_iff]
  intro x hx
  obtain ⟨i, hi⟩ := List.mem_iff_getElem?.1 hx
  have := hb i (List.getElem?_eq_some_iff.1 hi).1
  rw [hi] at this
  simpa using this
theorem fnd_what {gs : List G} (hap : Apart gs) (p : Pl) : fnd (whatL gs) p = adL gs 0 p := by
  cases h : adL gs 0 p with
  | some a =>
    have := ofL_ad hap h
    refine fnd_some (by rw [whatL_at gs a this.1, this.2]) fun j hj e => ?_
    rw [whatL_at gs j (by omega)] at e
    injection e with e
    have := ofL_inj hap (by omega) this.1 (e.trans this.2.symm)
    omega
  | none =>
    refine fnd_none fun j hj e => ?_
    rw [whatL_len] at hj
    rw [whatL_at gs j hj] at e
    injection e with e
    rw [← e, adL_of hap hj] at h
    cases h
/-- a group of n elements is n groups of one -/
def ones (k : Int) (s : Nat) : Nat → Nat → List G
  | _, 0 => []
  | i, n + 1 => ⟨k, i, 1, s⟩ :: ones k s (i + 1) n
theorem what_ones (k : Int) (s : Nat) : ∀ n i : Nat, whatL (ones k s i n) = (G.mk k i n s).what
  | 0, i => by simp [ones, whatL, G.what]
  | n + 1, i => by
    rw [ones, whatL_cons, what_ones k s n (i + 1)]
    apply List.ext_getElem?
    intro x
    have l1 := what_len ⟨k, i, 1, s⟩
    have l2 := what_len ⟨k, i + 1, n, s⟩
    have l3 := what_len ⟨k, i, n + 1, s⟩
    simp only at l1 l2 l3
    rw [Nat.succ_mul] at l3
    rw [Nat.one_mul] at l1
    by_cases hx : x < s
    · rw [List.getElem?_append_left (by omega)]
      have h0 : x / s = 0 := Nat.div_eq_of_lt hx
      have h3 : x < (n + 1) * s := by rw [Nat.succ_mul]; omega
      simp [G.what, G.at', hx, h0, h3]
    · rw [List.getElem?_append_right (by omega), l1]
      by_cases hy : x - s < n * s
      · have hs : 0 < s := by
          rcases Nat.eq_zero_or_pos s with e | e
          · rw [e] at hy; simp at hy
          · exact e
        have e1 : x / s = (x - s) / s + 1 := by rw [← Nat.add_div_right (x - s) hs]; congr 1; omega
        have e2 : x % s = (x - s) % s := by rw [← Nat.add_mod_right (x - s) s]; congr 1; omega
        have hz : x < (n + 1) * s := by rw [Nat.succ_mul]; omega
        have l4 : (G.mk k (i + 1) n s).what[x - s]? = some ((G.mk k (i + 1) n s).at' (x - s)) := by simp [G.what, hy]
        have l5 : (G.mk k i (n + 1) s).what[x]? = some ((G.mk k i (n + 1) s).at' x) := by simp [G.what, hz]
        rw [l4, l5, G.at', G.at', e1, e2]
        show some ((k, ((i + 1 + (x - s) / s : Nat) : Int), (((x - s) % s : Nat) : Int)) : Pl) = some (k, ((i + ((x - s) / s + 1) : Nat) : Int), (((x - s) % s : Nat) : Int))
        rw [show i + 1 + (x - s) / s = i + ((x - s) / s + 1) by omega]
      · rw [List.getElem?_eq_none_iff.2 (by rw [l2]; omega), List.getElem?_eq_none_iff.2 (by rw [l3]; omega)]
end Ly
end Go.Proofs.YtdkkpaofodicjaaGreat
namespace Go.Proofs.YtdkkpaofodicjaaGreat
set_option linter.unusedVariables false
set_option linter.unusedSimpArgs false
set_option maxRecDepth 100000
namespace Ly
def tot (t : Nat → Nat) : Nat → Nat
  | 0 => 0
  | i + 1 => tot t i + t i
def wds (t : Nat → Nat) : Nat → Nat
  | 0 => 0
  | i + 1 => wds t i + t i * (6 + i)
def tg (t : Nat → Nat) (i : Nat) : G := ⟨9, 1 + tot t i, t i, 6 + i⟩
def tgs (t : Nat → Nat) (n : Nat) : List G := (List.range n).map (tg t)
structure Ge where
  S : Nat
  E : Nat
  L : Nat
  D : Nat
  t : Nat → Nat
structure Ge.ok (g : Ge) : Prop where
  s1 : 1 ≤ g.S
  s2 : g.S ≤ 64
  e1 : 1 ≤ g.E
  e2 : g.E ≤ 128
  l1 : 1 ≤ g.L
  l2 : g.L ≤ 16
  d1 : 1 ≤ g.D
  d2 : g.D ≤ 64
  tt : tot g.t 6 ≤ 1024
def g0 (g : Ge) : List G := [⟨1, 0, g.S, 1⟩, ⟨2, 0, 1, g.E⟩, ⟨3, 0, 1, 1⟩, ⟨4, 0, g.L, 3⟩, ⟨5, 0, g.L, 1⟩, ⟨6, 0, 6, 1⟩, ⟨7, 1, tot g.t 6, 1⟩, ⟨8, 0, g.D, 7⟩]
def gs (g : Ge) : List G := g0 g ++ tgs g.t 6
def pE (g : Ge) : Nat := g.S
def pM (g : Ge) : Nat := g.S + g.E
def pL (g : Ge) : Nat := g.S + g.E + 1
def pD (g : Ge) : Nat := g.S + g.E + 1 + 3 * g.L
def pP (g : Ge) : Nat := g.S + g.E + 1 + 4 * g.L
def pK (g : Ge) : Nat := g.S + g.E + 7 + 4 * g.L
def pH (g : Ge) : Nat := g.S + g.E + 7 + 4 * g.L + tot g.t 6
def pT (g : Ge) : Nat := g.S + g.E + 7 + 4 * g.L + tot g.t 6 + 7 * g.D
def pW (g : Ge) : Nat := pT g + wds g.t 6
theorem tot_mono (t : Nat → Nat) {i j : Nat} (h : i ≤ j) : tot t i ≤ tot t j := by
  obtain ⟨d, rfl⟩ := Nat.le.dest h
  clear h
  induction d with
  | zero => exact Nat.le_refl _
  | succ d ih => rw [← Nat.add_assoc, tot]; omega
theorem tot_le (t : Nat → Nat) {i j : Nat} (h : i < j) : tot t i + t i ≤ tot t j := tot_mono t (i := i + 1) h
theorem wds_mono (t : Nat → Nat) {i j : Nat} (h : i ≤ j) : wds t i ≤ wds t j := by
  obtain ⟨d, rfl⟩ := Nat.le.dest h
  clear h
  induction d with
  | zero => exact Nat.le_refl _
  | succ d ih => rw [← Nat.add_assoc, wds]; omega
theorem wds_le (t : Nat → Nat) {i j : Nat} (h : i < j) : wds t i + t i * (6 + i) ≤ wds t j := wds_mono t (i := i + 1) h
theorem wds_tot (t : Nat → Nat) : ∀ n, n ≤ 6 → wds t n ≤ tot t n * 11
  | 0, _ => Nat.zero_le _
  | n + 1, h => by
    have ih := wds_tot t n (by omega)
    have : t n * (6 + n) ≤ t n * 11 := Nat.mul_le_mul_left _ (by omega)
    rw [wds, tot, Nat.add_mul]
    omega
theorem tgs_succ (t : Nat → Nat) (n : Nat) : tgs t (n + 1) = tgs t n ++ [tg t n] := by
  rw [tgs, List.range_succ, List.map_append]; rfl
theorem total_tgs (t : Nat → Nat) : ∀ n, total (tgs t n) = wds t n
  | 0 => rfl
  | n + 1 => by rw [tgs_succ, total_app, total_tgs t n, wds]; simp [total, tg]
theorem total_g0 (g : Ge) : total (g0 g) = pT g := by
  simp only [g0, total, pT]; omega
theorem total_gs (g : Ge) : total (gs g) = pW g := by rw [gs, total_app, total_g0, total_tgs, pW]
theorem ofL_app : ∀ (a b : List G) (x : Nat), ofL (a ++ b) (total a + x) = ofL b x
  | [], b, x => by simp [total]
  | g :: r, b, x => by
    rw [List.cons_append, ofL, total, if_neg (by omega), show g.n * g.s + total r + x - g.n * g.s = total r + x by omega]
    exact ofL_app r b x
theorem ofL_left : ∀ (a b : List G) (x : Nat), x < total a → ofL (a ++ b) x = ofL a x
  | [], b, x, h => by simp [total] at h
  | g :: r, b, x, h => by
    rw [total] at h
    rw [List.cons_append, ofL, ofL]
    by_cases hx : x < g.n * g.s
    · rw [if_pos hx, if_pos hx]
    · rw [if_neg hx, if_neg hx]; exact ofL_left r b _ (by omega)
theorem ofL_tgs (t : Nat → Nat) : ∀ (n i y : Nat), i < n → y < t i * (6 + i) → ofL (tgs t n) (wds t i + y) = (tg t i).at' y
  | 0, i, y, h, _ => by omega
  | n + 1, i, y, h, hy => by
    rw [tgs_succ]
    by_cases e : i = n
    · subst e
      rw [← total_tgs t i, ofL_app, ofL, if_pos (by exact hy)]
    · rw [ofL_left _ _ _ (by rw [total_tgs]; have := wds_le t (i := i) (j := n) (by omega); omega)]
      exact ofL_tgs t n i y (by omega) hy
theorem apart_tgs (t : Nat → Nat) : ∀ n, Apart (tgs t n)
  | 0 => List.Pairwise.nil
  | n + 1 => by
    rw [tgs_succ, Apart, List.pairwise_append]
    refine ⟨apart_tgs t n, by simp, fun a ha b hb => ?_⟩
    obtain ⟨i, hi, rfl⟩ := List.mem_map.1 ha
    rw [List.mem_singleton] at hb
    subst hb
    right
    have := tot_le t (i := i) (j := n) (List.mem_range.1 hi)
    simp only [tg]; omega
theorem apart (g : Ge) : Apart (gs g) := by
  rw [gs, Apart, List.pairwise_append]
  refine ⟨by simp [g0], apart_tgs _ _, fun a ha b hb => ?_⟩
  obtain ⟨i, hi, rfl⟩ := List.mem_map.1 hb
  left
  simp only [g0, List.mem_cons, List.not_mem_nil, or_false] at ha
  rcases ha with h | h | h | h | h | h | h | h <;> subst h <;> simp [tg]
/-- the address of a place -/
def ad (g : Ge) (k x w : Int) : Option Nat := adL (gs g) 0 (k, x, w)
theorem ad_iff (g : Ge) (p : Pl) (a : Nat) : ad g p.1 p.2.1 p.2.2 = some a ↔ a < pW g ∧ ofL (gs g) a = p := by
  rw [ad, adL_iff _ _ _ _ (apart g), total_gs]
  constructor
  · rintro ⟨x, rfl, h, e⟩; rw [Nat.zero_add]; exact ⟨h, e⟩
  · rintro ⟨h, e⟩; exact ⟨a, by omega, h, e⟩
theorem ad_in {g : Ge} {a : Nat} {k x w : Int} (h : a < pW g) (e : ofL (gs g) a = (k, x, w)) : ad g k x w = some a := (ad_iff g (k, x, w) a).2 ⟨h, e⟩
/-- a word of a tower -/
theorem of_tower (g : Ge) {i x w : Nat} (hi : i < 6) (hx : x < g.t i) (hw : w < 6 + i) :
    pT g + wds g.t i + x * (6 + i) + w < pW g ∧ ofL (gs g) (pT g + wds g.t i + x * (6 + i) + w) = (9, ((1 + tot g.t i + x : Nat) : Int), (w : Int)) := by
  have ha := at_of (g := tg g.t i) (i := x) (w := w) hx hw
  simp only [tg] at ha
  have h1 := wds_le g.t (i := i) (j := 6) hi
  refine ⟨by rw [pW]; omega, ?_⟩
  rw [gs, show pT g + wds g.t i + x * (6 + i) + w = total (g0 g) + (wds g.t i + (x * (6 + i) + w)) by rw [total_g0]; omega, ofL_app, ofL_tgs g.t 6 i _ hi ha.1]
  exact ha.2
theorem ad_tower (g : Ge) {i x w : Nat} (hi : i < 6) (hx : x < g.t i) (hw : w < 6 + i) : ad g 9 ((1 + tot g.t i + x : Nat) : Int) (w : Int) = some (pT g + wds g.t i + x * (6 + i) + w) :=
  ad_in (of_tower g hi hx hw).1 (of_tower g hi hx hw).2
/-- a word of a head -/
theorem of_head (g : Ge) {v w : Nat} (hv : v < g.D) (hw : w < 7) : pH g + 7 * v + w < pT g ∧ ofL (gs g) (pH g + 7 * v + w) = (8, (v : Int), (w : Int)) := by
  have hT := total_g0 g
  have hlt : pH g + 7 * v + w < pT g := by simp only [pH, pT]; omega
  refine ⟨hlt, ?_⟩
  rw [gs, ofL_left _ _ _ (by omega)]
  have ha := at_of (g := ⟨8, 0, g.D, 7⟩) (i := v) (w := w) hv hw
  have e : g0 g = [⟨1, 0, g.S, 1⟩, ⟨2, 0, 1, g.E⟩, ⟨3, 0, 1, 1⟩, ⟨4, 0, g.L, 3⟩, ⟨5, 0, g.L, 1⟩, ⟨6, 0, 6, 1⟩, ⟨7, 1, tot g.t 6, 1⟩] ++ [⟨8, 0, g.D, 7⟩] := rfl
  have et : total [⟨1, 0, g.S, 1⟩, ⟨2, 0, 1, g.E⟩, ⟨3, 0, 1, 1⟩, ⟨4, 0, g.L, 3⟩, ⟨5, 0, g.L, 1⟩, ⟨6, 0, 6, 1⟩, ⟨7, 1, tot g.t 6, 1⟩] = pH g := by simp only [total, pH]; omega
  rw [e, show pH g + 7 * v + w = total [⟨1, 0, g.S, 1⟩, ⟨2, 0, 1, g.E⟩, ⟨3, 0, 1, 1⟩, ⟨4, 0, g.L, 3⟩, ⟨5, 0, g.L, 1⟩, ⟨6, 0, 6, 1⟩, ⟨7, 1, tot g.t 6, 1⟩] + (v * 7 + w) by rw [et]; omega, ofL_app, ofL, if_pos (by exact ha.1), ha.2]
  simp
theorem ad_head (g : Ge) {v w : Nat} (hv : v < g.D) (hw : w < 7) : ad g 8 (v : Int) (w : Int) = some (pH g + 7 * v + w) :=
  ad_in (by have := (of_head g hv hw).1; rw [pW]; omega) (of_head g hv hw).2
/-- what is no place has no address -/
theorem gs_mem {g : Ge} {h : G} (hm : h ∈ gs g) : h ∈ g0 g ∨ ∃ i, i < 6 ∧ h = tg g.t i := by
  rw [gs, List.mem_append] at hm
  rcases hm with hm | hm
  · exact .inl hm
  · obtain ⟨i, hi, rfl⟩ := List.mem_map.1 hm
    exact .inr ⟨i, List.mem_range.1 hi, rfl⟩
theorem ad_some {g : Ge} {k x w : Int} {a : Nat} (h : ad g k x w = some a) : ∃ q ∈ gs g, k = q.k ∧ (q.i : Int) ≤ x ∧ x < ((q.i + q.n : Nat) : Int) ∧ 0 ≤ w ∧ w < (q.s : Int) := by
  have := (ad_iff g (k, x, w) a).1 h
  obtain ⟨q, hq, i, u, h1, h2, h3⟩ := ofL_mem (gs g) a (by rw [total_gs]; exact this.1)
  rw [this.2, Prod.mk.injEq, Prod.mk.injEq] at h3
  exact ⟨q, hq, h3.1, by omega, by omega, by omega, by omega⟩
theorem ad_tower_none (g : Ge) {x w : Int} (h : ∀ i, i < 6 → (((1 + tot g.t i : Nat) : Int) ≤ x ∧ x < ((1 + tot g.t i + g.t i : Nat) : Int)) → (w < 0 ∨ ((6 + i : Nat) : Int) ≤ w)) : ad g 9 x w = none := by
  cases e : ad g 9 x w with
  | none => rfl
  | some a =>
    obtain ⟨q, hq, h1, h2, h3, h4, h5⟩ := ad_some e
    rcases gs_mem hq with hm | ⟨i, hi, rfl⟩
    · simp only [g0, List.mem_cons, List.not_mem_nil, or_false] at hm
      rcases hm with e | e | e | e | e | e | e | e <;> subst e <;> simp at h1
    · simp only [tg] at h2 h3 h5
      have := h i hi ⟨h2, h3⟩
      omega
theorem ad_head_none (g : Ge) {x w : Int} (h : 0 ≤ x → x < (g.D : Int) → (w < 0 ∨ 7 ≤ w)) : ad g 8 x w = none := by
  cases e : ad g 8 x w with
  | none => rfl
  | some a =>
    obtain ⟨q, hq, h1, h2, h3, h4, h5⟩ := ad_some e
    rcases gs_mem hq with hm | ⟨i, hi, rfl⟩
    · simp only [g0, List.mem_cons, List.not_mem_nil, or_false] at hm
      rcases hm with e | e | e | e | e | e | e | e <;> subst e <;> simp at h1 h2 h3 h5
      have := h (by omega) (by omega)
      omega
    · simp [tg] at h1
/-- the height of the group that a tower lies in, less one; 6: none -/
def pk (t : Nat → Nat) (x : Int) : Nat → Nat
  | 0 => 6
  | n + 1 => if ((1 + tot t n : Nat) : Int) ≤ x ∧ x < ((1 + tot t n + t n : Nat) : Int) then n else pk t x n
theorem in_uniq (t : Nat → Nat) {x : Int} {i j : Nat} (hi : ((1 + tot t i : Nat) : Int) ≤ x ∧ x < ((1 + tot t i + t i : Nat) : Int)) (hj : ((1 + tot t j : Nat) : Int) ≤ x ∧ x < ((1 + tot t j + t j : Nat) : Int)) : i = j := by
  rcases Nat.lt_trichotomy i j with h | h | h
  · have := tot_le t h; omega
  · exact h
  · have := tot_le t h; omega
theorem pk_of (t : Nat → Nat) {x : Int} {i : Nat} : ∀ n, i < n → (((1 + tot t i : Nat) : Int) ≤ x ∧ x < ((1 + tot t i + t i : Nat) : Int)) → pk t x n = i
  | 0, h, _ => by omega
  | n + 1, h, hx => by
    rw [pk]
    split
    · rename_i hn; exact in_uniq t hn hx
    · rename_i hn
      refine pk_of t n ?_ hx
      rcases Nat.lt_or_ge i n with h' | h'
      · exact h'
      · obtain rfl : i = n := by omega
        exact absurd hx hn
theorem pk_no (t : Nat → Nat) {x : Int} : ∀ n, (∀ i, i < n → ¬ (((1 + tot t i : Nat) : Int) ≤ x ∧ x < ((1 + tot t i + t i : Nat) : Int))) → pk t x n = 6
  | 0, _ => rfl
  | n + 1, h => by rw [pk, if_neg (h n (by omega))]; exact pk_no t n fun i hi => h i (by omega)
theorem pk_lt (t : Nat → Nat) {x : Int} : ∀ n, n ≤ 6 → pk t x n < 6 → (((1 + tot t (pk t x n) : Nat) : Int) ≤ x ∧ x < ((1 + tot t (pk t x n) + t (pk t x n) : Nat) : Int))
  | 0, _, h => by simp [pk] at h
  | n + 1, hn, h => by
    rw [pk] at h ⊢
    by_cases hx : ((1 + tot t n : Nat) : Int) ≤ x ∧ x < ((1 + tot t n + t n : Nat) : Int)
    · simp only [if_pos hx]; exact hx
    · simp only [if_neg hx] at h ⊢; exact pk_lt t n (by omega) h
theorem in_some (t : Nat → Nat) : ∀ (n : Nat) (x : Int), 1 ≤ x → x ≤ (tot t n : Int) → ∃ i, i < n ∧ ((1 + tot t i : Nat) : Int) ≤ x ∧ x < ((1 + tot t i + t i : Nat) : Int)
  | 0, x, h, h' => by simp [tot] at h'; omega
  | n + 1, x, h, h' => by
    by_cases hx : x ≤ (tot t n : Int)
    · obtain ⟨i, hi, hx⟩ := in_some t n x h hx
      exact ⟨i, by omega, hx⟩
    · rw [tot] at h'
      exact ⟨n, by omega, by omega, by omega⟩
end Ly
end Go.Proofs.YtdkkpaofodicjaaGreat
