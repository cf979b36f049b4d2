/- The groups of a store, as mathematics: their sizes, where each place is. -/
import Derived.Test.YtjcbjbhlclajnaaLyM
namespace Go.Proofs.Ytjcbjbhlclajnaa
set_option linter.unusedVariables false
set_option linter.unusedSimpArgs false
set_option maxRecDepth 100000
namespace Ly
def tot (t : Nat → Nat) : Nat → Nat
  | 0 => 0
  | i + 1 => tot t i + t i
def wds (t : Nat → Nat) : Nat → Nat
  | 0 => 0
  | i + 1 => wds t i + t i * (6 + i)
def tg (t : Nat → Nat) (i : Nat) : G := ⟨9, 1 + tot t i, t i, 6 + i⟩
def tgs (t : Nat → Nat) (n : Nat) : List G := (List.range n).map (tg t)
structure Ge where
  S : Nat
  E : Nat
  L : Nat
  D : Nat
  t : Nat → Nat
structure Ge.ok (g : Ge) : Prop where
  s1 : 1 ≤ g.S
  s2 : g.S ≤ 64
  e1 : 1 ≤ g.E
  e2 : g.E ≤ 128
  l1 : 1 ≤ g.L
  l2 : g.L ≤ 16
  d1 : 1 ≤ g.D
  d2 : g.D ≤ 64
  tt : tot g.t 6 ≤ 1024
def g0 (g : Ge) : List G := [⟨1, 0, g.S, 1⟩, ⟨2, 0, 1, g.E⟩, ⟨3, 0, 1, 1⟩, ⟨4, 0, g.L, 3⟩, ⟨5, 0, g.L, 1⟩, ⟨6, 0, 6, 1⟩, ⟨7, 1, tot g.t 6, 1⟩, ⟨8, 0, g.D, 7⟩]
def gs (g : Ge) : List G := g0 g ++ tgs g.t 6
def pE (g : Ge) : Nat := g.S
def pM (g : Ge) : Nat := g.S + g.E
def pL (g : Ge) : Nat := g.S + g.E + 1
def pD (g : Ge) : Nat := g.S + g.E + 1 + 3 * g.L
def pP (g : Ge) : Nat := g.S + g.E + 1 + 4 * g.L
def pK (g : Ge) : Nat := g.S + g.E + 7 + 4 * g.L
def pH (g : Ge) : Nat := g.S + g.E + 7 + 4 * g.L + tot g.t 6
def pT (g : Ge) : Nat := g.S + g.E + 7 + 4 * g.L + tot g.t 6 + 7 * g.D
def pW (g : Ge) : Nat := pT g + wds g.t 6
theorem tot_mono (t : Nat → Nat) {i j : Nat} (h : i ≤ j) : tot t i ≤ tot t j := by
  obtain ⟨d, rfl⟩ := Nat.le.dest h
  clear h
  induction d with
  | zero => exact Nat.le_refl _
  | succ d ih => rw [← Nat.add_assoc, tot]; omega
theorem tot_le (t : Nat → Nat) {i j : Nat} (h : i < j) : tot t i + t i ≤ tot t j := tot_mono t (i := i + 1) h
theorem wds_mono (t : Nat → Nat) {i j : Nat} (h : i ≤ j) : wds t i ≤ wds t j := by
  obtain ⟨d, rfl⟩ := Nat.le.dest h
  clear h
  induction d with
  | zero => exact Nat.le_refl _
  | succ d ih => rw [← Nat.add_assoc, wds]; omega
theorem wds_le (t : Nat → Nat) {i j : Nat} (h : i < j) : wds t i + t i * (6 + i) ≤ wds t j := wds_mono t (i := i + 1) h
theorem wds_tot (t : Nat → Nat) : ∀ n, n ≤ 6 → wds t n ≤ tot t n * 11
  | 0, _ => Nat.zero_le _
  | n + 1, h => by
    have ih := wds_tot t n (by omega)
    have : t n * (6 + n) ≤ t n * 11 := Nat.mul_le_mul_left _ (by omega)
    rw [wds, tot, Nat.add_mul]
    omega
theorem tgs_succ (t : Nat → Nat) (n : Nat) : tgs t (n + 1) = tgs t n ++ [tg t n] := by
  rw [tgs, List.range_succ, List.map_append]; rfl
theorem total_tgs (t : Nat → Nat) : ∀ n, total (tgs t n) = wds t n
  | 0 => rfl
  | n + 1 => by rw [tgs_succ, total_app, total_tgs t n, wds]; simp [total, tg]
theorem total_g0 (g : Ge) : total (g0 g) = pT g := by
  simp only [g0, total, pT]; omega
theorem total_gs (g : Ge) : total (gs g) = pW g := by rw [gs, total_app, total_g0, total_tgs, pW]
theorem ofL_app : ∀ (a b : List G) (x : Nat), ofL (a ++ b) (total a + x) = ofL b x
  | [], b, x => by simp [total]
  | g :: r, b, x => by
    rw [List.cons_append, ofL, total, if_neg (by omega), show g.n * g.s + total r + x - g.n * g.s = total r + x by omega]
    exact ofL_app r b x
theorem ofL_left : ∀ (a b : List G) (x : Nat), x < total a → ofL (a ++ b) x = ofL a x
  | [], b, x, h => by simp [total] at h
  | g :: r, b, x, h => by
    rw [total] at h
    rw [List.cons_append, ofL, ofL]
    by_cases hx : x < g.n * g.s
    · rw [if_pos hx, if_pos hx]
    · rw [if_neg hx, if_neg hx]; exact ofL_left r b _ (by omega)
theorem ofL_tgs (t : Nat → Nat) : ∀ (n i y : Nat), i < n → y < t i * (6 + i) → ofL (tgs t n) (wds t i + y) = (tg t i).at' y
  | 0, i, y, h, _ => by omega
  | n + 1, i, y, h, hy => by
    rw [tgs_succ]
    by_cases e : i = n
    · subst e
      rw [← total_tgs t i, ofL_app, ofL, if_pos (by exact hy)]
    · rw [ofL_left _ _ _ (by rw [total_tgs]; have := wds_le t (i := i) (j := n) (by omega); omega)]
      exact ofL_tgs t n i y (by omega) hy
theorem apart_tgs (t : Nat → Nat) : ∀ n, Apart (tgs t n)
  | 0 => List.Pairwise.nil
  | n + 1 => by
    rw [tgs_succ, Apart, List.pairwise_append]
    refine ⟨apart_tgs t n, by simp, fun a ha b hb => ?_⟩
    obtain ⟨i, hi, rfl⟩ := List.mem_map.1 ha
    rw [List.mem_singleton] at hb
    subst hb
    right
    have := tot_le t (i := i) (j := n) (List.mem_range.1 hi)
    simp only [tg]; omega
theorem apart (g : Ge) : Apart (gs g) := by
  rw [gs, Apart, List.pairwise_append]
  refine ⟨by simp [g0], apart_tgs _ _, fun a ha b hb => ?_⟩
  obtain ⟨i, hi, rfl⟩ := List.mem_map.1 hb
  left
  simp only [g0, List.mem_cons, List.not_mem_nil, or_false] at ha
  rcases ha with h | h | h | h | h | h | h | h <;> subst h <;> simp [tg]
/-- the address of a place -/
def ad (g : Ge) (k x w : Int) : Option Nat := adL (gs g) 0 (k, x, w)
theorem ad_iff (g : Ge) (p : Pl) (a : Nat) : ad g p.1 p.2.1 p.2.2 = some a ↔ a < pW g ∧ ofL (gs g) a = p := by
  rw [ad, adL_iff _ _ _ _ (apart g), total_gs]
  constructor
  · rintro ⟨x, rfl, h, e⟩; rw [Nat.zero_add]; exact ⟨h, e⟩
  · rintro ⟨h, e⟩; exact ⟨a, by omega, h, e⟩
theorem ad_in {g : Ge} {a : Nat} {k x w : Int} (h : a < pW g) (e : ofL (gs g) a = (k, x, w)) : ad g k x w = some a := (ad_iff g (k, x, w) a).2 ⟨h, e⟩
/-- a word of a tower -/
theorem of_tower (g : Ge) {i x w : Nat} (hi : i < 6) (hx : x < g.t i) (hw : w < 6 + i) :
    pT g + wds g.t i + x * (6 + i) + w < pW g ∧ ofL (gs g) (pT g + wds g.t i + x * (6 + i) + w) = (9, ((1 + tot g.t i + x : Nat) : Int), (w : Int)) := by
  have ha := at_of (g := tg g.t i) (i := x) (w := w) hx hw
  simp only [tg] at ha
  have h1 := wds_le g.t (i := i) (j := 6) hi
  refine ⟨by rw [pW]; omega, ?_⟩
  rw [gs, show pT g + wds g.t i + x * (6 + i) + w = total (g0 g) + (wds g.t i + (x * (6 + i) + w)) by rw [total_g0]; omega, ofL_app, ofL_tgs g.t 6 i _ hi ha.1]
  exact ha.2
theorem ad_tower (g : Ge) {i x w : Nat} (hi : i < 6) (hx : x < g.t i) (hw : w < 6 + i) : ad g 9 ((1 + tot g.t i + x : Nat) : Int) (w : Int) = some (pT g + wds g.t i + x * (6 + i) + w) :=
  ad_in (of_tower g hi hx hw).1 (of_tower g hi hx hw).2
/-- a word of a head -/
theorem of_head (g : Ge) {v w : Nat} (hv : v < g.D) (hw : w < 7) : pH g + 7 * v + w < pT g ∧ ofL (gs g) (pH g + 7 * v + w) = (8, (v : Int), (w : Int)) := by
  have hT := total_g0 g
  have hlt : pH g + 7 * v + w < pT g := by simp only [pH, pT]; omega
  refine ⟨hlt, ?_⟩
  rw [gs, ofL_left _ _ _ (by omega)]
  have ha := at_of (g := ⟨8, 0, g.D, 7⟩) (i := v) (w := w) hv hw
  have e : g0 g = [⟨1, 0, g.S, 1⟩, ⟨2, 0, 1, g.E⟩, ⟨3, 0, 1, 1⟩, ⟨4, 0, g.L, 3⟩, ⟨5, 0, g.L, 1⟩, ⟨6, 0, 6, 1⟩, ⟨7, 1, tot g.t 6, 1⟩] ++ [⟨8, 0, g.D, 7⟩] := rfl
  have et : total [⟨1, 0, g.S, 1⟩, ⟨2, 0, 1, g.E⟩, ⟨3, 0, 1, 1⟩, ⟨4, 0, g.L, 3⟩, ⟨5, 0, g.L, 1⟩, ⟨6, 0, 6, 1⟩, ⟨7, 1, tot g.t 6, 1⟩] = pH g := by simp only [total, pH]; omega
  rw [e, show pH g + 7 * v + w = total [⟨1, 0, g.S, 1⟩, ⟨2, 0, 1, g.E⟩, ⟨3, 0, 1, 1⟩, ⟨4, 0, g.L, 3⟩, ⟨5, 0, g.L, 1⟩, ⟨6, 0, 6, 1⟩, ⟨7, 1, tot g.t 6, 1⟩] + (v * 7 + w) by rw [et]; omega, ofL_app, ofL, if_pos (by exact ha.1), ha.2]
  simp
theorem ad_head (g : Ge) {v w : Nat} (hv : v < g.D) (hw : w < 7) : ad g 8 (v : Int) (w : Int) = some (pH g + 7 * v + w) :=
  ad_in (by have := (of_head g hv hw).1; rw [pW]; omega) (of_head g hv hw).2
/-- what is no place has no address -/
theorem gs_mem {g : Ge} {h : G} (hm : h ∈ gs g) : h ∈ g0 g ∨ ∃ i, i < 6 ∧ h = tg g.t i := by
  rw [gs, List.mem_append] at hm
  rcases hm with hm | hm
  · exact .inl hm
  · obtain ⟨i, hi, rfl⟩ := List.mem_map.1 hm
    exact .inr ⟨i, List.mem_range.1 hi, rfl⟩
theorem ad_some {g : Ge} {k x w : Int} {a : Nat} (h : ad g k x w = some a) : ∃ q ∈ gs g, k = q.k ∧ (q.i : Int) ≤ x ∧ x < ((q.i + q.n : Nat) : Int) ∧ 0 ≤ w ∧ w < (q.s : Int) := by
  have := (ad_iff g (k, x, w) a).1 h
  obtain ⟨q, hq, i, u, h1, h2, h3⟩ := ofL_mem (gs g) a (by rw [total_gs]; exact this.1)
  rw [this.2, Prod.mk.injEq, Prod.mk.injEq] at h3
  exact ⟨q, hq, h3.1, by omega, by omega, by omega, by omega⟩
theorem ad_tower_none (g : Ge) {x w : Int} (h : ∀ i, i < 6 → (((1 + tot g.t i : Nat) : Int) ≤ x ∧ x < ((1 + tot g.t i + g.t i : Nat) : Int)) → (w < 0 ∨ ((6 + i : Nat) : Int) ≤ w)) : ad g 9 x w = none := by
  cases e : ad g 9 x w with
  | none => rfl
  | some a =>
    obtain ⟨q, hq, h1, h2, h3, h4, h5⟩ := ad_some e
    rcases gs_mem hq with hm | ⟨i, hi, rfl⟩
    · simp only [g0, List.mem_cons, List.not_mem_nil, or_false] at hm
      rcases hm with e | e | e | e | e | e | e | e <;> subst e <;> simp at h1
    · simp only [tg] at h2 h3 h5
      have := h i hi ⟨h2, h3⟩
      omega
theorem ad_head_none (g : Ge) {x w : Int} (h : 0 ≤ x → x < (g.D : Int) → (w < 0 ∨ 7 ≤ w)) : ad g 8 x w = none := by
  cases e : ad g 8 x w with
  | none => rfl
  | some a =>
    obtain ⟨q, hq, h1, h2, h3, h4, h5⟩ := ad_some e
    rcases gs_mem hq with hm | ⟨i, hi, rfl⟩
    · simp only [g0, List.mem_cons, List.not_mem_nil, or_false] at hm
      rcases hm with e | e | e | e | e | e | e | e <;> subst e <;> simp at h1 h2 h3 h5
      have := h (by omega) (by omega)
      omega
    · simp [tg] at h1
/-- the height of the group that a tower lies in, less one; 6: none -/
def pk (t : Nat → Nat) (x : Int) : Nat → Nat
  | 0 => 6
  | n + 1 => if ((1 + tot t n : Nat) : Int) ≤ x ∧ x < ((1 + tot t n + t n : Nat) : Int) then n else pk t x n
theorem in_uniq (t : Nat → Nat) {x : Int} {i j : Nat} (hi : ((1 + tot t i : Nat) : Int) ≤ x ∧ x < ((1 + tot t i + t i : Nat) : Int)) (hj : ((1 + tot t j : Nat) : Int) ≤ x ∧ x < ((1 + tot t j + t j : Nat) : Int)) : i = j := by
  rcases Nat.lt_trichotomy i j with h | h | h
  · have := tot_le t h; omega
  · exact h
  · have := tot_le t h; omega
theorem pk_of (t : Nat → Nat) {x : Int} {i : Nat} : ∀ n, i < n → (((1 + tot t i : Nat) : Int) ≤ x ∧ x < ((1 + tot t i + t i : Nat) : Int)) → pk t x n = i
  | 0, h, _ => by omega
  | n + 1, h, hx => by
    rw [pk]
    split
    · rename_i hn; exact in_uniq t hn hx
    · rename_i hn
      refine pk_of t n ?_ hx
      rcases Nat.lt_or_ge i n with h' | h'
      · exact h'
      · obtain rfl : i = n := by omega
        exact absurd hx hn
theorem pk_no (t : Nat → Nat) {x : Int} : ∀ n, (∀ i, i < n → ¬ (((1 + tot t i : Nat) : Int) ≤ x ∧ x < ((1 + tot t i + t i : Nat) : Int))) → pk t x n = 6
  | 0, _ => rfl
  | n + 1, h => by rw [pk, if_neg (h n (by omega))]; exact pk_no t n fun i hi => h i (by omega)
theorem pk_lt (t : Nat → Nat) {x : Int} : ∀ n, n ≤ 6 → pk t x n < 6 → (((1 + tot t (pk t x n) : Nat) : Int) ≤ x ∧ x < ((1 + tot t (pk t x n) + t (pk t x n) : Nat) : Int))
  | 0, _, h => by simp [pk] at h
  | n + 1, hn, h => by
    rw [pk] at h ⊢
    by_cases hx : ((1 + tot t n : Nat) : Int) ≤ x ∧ x < ((1 + tot t n + t n : Nat) : Int)
    · simp only [if_pos hx]; exact hx
    · simp only [if_neg hx] at h ⊢; exact pk_lt t n (by omega) h
theorem in_some (t : Nat → Nat) : ∀ (n : Nat) (x : Int), 1 ≤ x → x ≤ (tot t n : Int) → ∃ i, i < n ∧ ((1 + tot t i : Nat) : Int) ≤ x ∧ x < ((1 + tot t i + t i : Nat) : Int)
  | 0, x, h, h' => by simp [tot] at h'; omega
  | n + 1, x, h, h' => by
    by_cases hx : x ≤ (tot t n : Int)
    · obtain ⟨i, hi, hx⟩ := in_some t n x h hx
      exact ⟨i, by omega, hx⟩
    · rw [tot] at h'
      exact ⟨n, by omega, by omega, by omega⟩
end Ly
end Go.Proofs.Ytjcbjbhlclajnaa
