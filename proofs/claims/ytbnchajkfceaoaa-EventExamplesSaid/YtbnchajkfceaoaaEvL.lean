/- Arguments that are a list of events; rows that are written over. No conditions beside those of each lemma. -/
import Derived.Test.YtbnchajkfceaoaaEvAw
import Derived.ChangeOld
namespace Go.Proofs.Ytbnchajkfceaoaa
open Go.RowKit Go.Sort Go.ChangeShapes Go.WideShapes Go.Deep
set_option linter.unusedVariables false
set_option linter.unusedSimpArgs false
namespace Ev
abbrev RdV (w : World) (A : Option Addr) (l : List E) : Prop := KE.Rd w A l
abbrev BdV (l : List E) : Prop := Bd l
section
variable {H : Type} {enc : TypeId × Value → H} {w : World} {base : Nat} {spare : Nat → Bool} {held : Bool}
theorem cap_events {A : Option Addr} {n c : Nat} {d : DataW H} {p : List MemPlace} (h : DataW.Trod enc Try.prog w base spare held 22 (.slice A n c) d p) : n ≤ c ∧ c ≤ maxLen := by
  obtain ⟨fuel, hf⟩ := h
  rcases open_slice_fields Try.underlying22 Try.underlying57 (by kernel_rfl) cellsOf_ev hf with ⟨hcs, hx⟩ | ⟨a, len, cap, m, D, Pl, hcs, hb, hl, hm, hmm, hx, hi⟩
  · simp [Value.cells] at hcs
    obtain ⟨rfl, rfl, rfl⟩ := hcs
    exact ⟨Nat.le_refl _, Nat.zero_le _⟩
  · simp [Value.cells] at hcs
    obtain ⟨rfl, rfl, rfl⟩ := hcs
    exact ⟨hl, hm⟩
end
variable {α : Type}
theorem Kd.flat_setG (K : Kd α) (hsz : K.sz = 4) {a b c d : Value} (l : List α) (i : Nat) (y : α) (he : K.enc y = [a, b, c, d]) : ((((K.flat l).set (i * 4) a).set (i * 4 + 1) b).set (i * 4 + 2) c).set (i * 4 + 3) d = K.flat (l.set i y) := by
  have hl := K.flat_len l
  rw [hsz] at hl
  by_cases hi : i < l.length
  · apply List.ext_getElem?
    intro m
    have hm : m = m / 4 * 4 + m % 4 := by omega
    have hr : m % 4 < K.sz := by rw [hsz]; omega
    have hg : ∀ L : List α, (K.flat L)[m]? = (L[m / 4]?).bind fun x => (K.enc x)[m % 4]? := fun L => by
      have := K.flat_get L (m / 4) (m % 4) hr
      rw [hsz] at this
      rw [← hm] at this
      exact this
    rw [hg (l.set i y)]
    by_cases he' : m / 4 = i
    · rw [he', List.getElem?_set_self hi]
      show _ = (K.enc y)[m % 4]?
      rw [he]
      have hlt : i * 4 + 3 < (K.flat l).length := by rw [hl]; omega
      rcases (by omega : m = i * 4 ∨ m = i * 4 + 1 ∨ m = i * 4 + 2 ∨ m = i * 4 + 3) with e | e | e | e
      · rw [show m % 4 = 0 by omega, e, List.getElem?_set_ne (by omega), List.getElem?_set_ne (by omega), List.getElem?_set_ne (by omega), List.getElem?_set_self (by omega)]; rfl
      · rw [show m % 4 = 1 by omega, e, List.getElem?_set_ne (by omega), List.getElem?_set_ne (by omega), List.getElem?_set_self (by rw [List.length_set]; omega)]; rfl
      · rw [show m % 4 = 2 by omega, e, List.getElem?_set_ne (by omega), List.getElem?_set_self (by rw [List.length_set, List.length_set]; omega)]; rfl
      · rw [show m % 4 = 3 by omega, e, List.getElem?_set_self (by rw [List.length_set, List.length_set, List.length_set]; omega)]; rfl
    · rw [List.getElem?_set_ne (by omega), List.getElem?_set_ne (by omega), List.getElem?_set_ne (by omega), List.getElem?_set_ne (by omega), List.getElem?_set_ne (fun e => he' e.symm), hg l]
  · have e : ∀ (q : Nat) (u : Value) (L : List Value), L.length = l.length * 4 → i * 4 ≤ q → L.set q u = L := fun q u L h h2 => List.set_eq_of_length_le (by omega)
    rw [e _ _ (K.flat l) hl (by omega), e _ _ _ hl (by omega), e _ _ _ hl (by omega), e _ _ _ hl (by omega), List.set_eq_of_length_le (by omega)]
/-- four cells of a row are written over -/
def st4 (W : World) (g q : Nat) (a b c d : Value) : World := (((W.setCell ⟨g, q * 4, none⟩ a).setCell ⟨g, q * 4 + 1, none⟩ b).setCell ⟨g, q * 4 + 2, none⟩ c).setCell ⟨g, q * 4 + 3, none⟩ d
theorem st4_eq (W : World) (g q : Nat) (a b c d : Value) : (((W.setCell ⟨g, q * 4, none⟩ a).setCell ⟨g, q * 4 + 1, none⟩ b).setCell ⟨g, q * 4 + 2, none⟩ c).setCell ⟨g, q * 4 + 3, none⟩ d = st4 W g q a b c d := rfl
theorem st4_other {W : World} {g q k : Nat} {a b c d : Value} (h : k ≠ g) : (st4 W g q a b c d).heap[k]? = W.heap[k]? := by
  unfold st4
  exact other4 h
theorem st4_below {W w : World} {n g q : Nat} {a b c d : Value} (h : Below n w W) (hg : n ≤ g) : Below n w (st4 W g q a b c d) :=
  (((h.setCell (p := ⟨g, q * 4, none⟩) hg _).setCell (p := ⟨g, q * 4 + 1, none⟩) hg _).setCell (p := ⟨g, q * 4 + 2, none⟩) hg _).setCell (p := ⟨g, q * 4 + 3, none⟩) hg _
/-- a row of one's own, whatever it holds -/
def Zr (K : Kd α) (w : World) (base : Nat) (A : Option Addr) (n c : Nat) : Prop := ∃ l' : List α, l'.length = n ∧ w.ownsRow base K.E K.sz (.slice A n c) n (K.flat l')
theorem Zr.of {K : Kd α} {w : World} {base n c : Nat} {A : Option Addr} {l : List α} (h : w.ownsRow base K.E K.sz (.slice A n c) n (K.flat l)) : Zr K w base A n c := ⟨l, (K.row h).1, h⟩
theorem Zr.blk {K : Kd α} {w : World} {base n c : Nat} {A : Option Addr} (h : Zr K w base A n c) : ∀ g i, A = some ⟨g, i, none⟩ → base ≤ g ∧ g < w.heap.size := by
  rintro g i rfl
  obtain ⟨l, _, hr⟩ := h
  exact hr.lt g rfl
theorem Zr.keep {K : Kd α} {w w' : World} {base n c : Nat} {A : Option Addr} (h : Zr K w base A n c) (hb : ∀ g i, A = some ⟨g, i, none⟩ → w'.heap[g]? = w.heap[g]?) : Zr K w' base A n c := by
  obtain ⟨l, hl, hr⟩ := h
  refine ⟨l, hl, K.own_keep hr fun g hg => ?_⟩
  rcases hr.2 with ⟨e, _⟩ | ⟨g2, cap, cur, e, _⟩
  · injection e with e1 e2 e3
    subst e1
    cases hg
  · injection e with e1 e2 e3
    subst e1
    have : g2 = g := by simpa [Value.ownBlock] using hg
    subst this
    exact hb _ _ rfl
theorem Zr.below {K : Kd α} {w w' : World} {base n c : Nat} {A : Option Addr} (h : Zr K w base A n c) (hb : Below w.heap.size w w') : Zr K w' base A n c :=
  h.keep fun g i e => hb.block g (h.blk g i e).2
theorem Zr.base {K : Kd α} {w : World} {base base' n c : Nat} {A : Option Addr} (h : Zr K w base A n c) (hb : base' ≤ base) : Zr K w base' A n c := by
  obtain ⟨l, hl, hr⟩ := h
  exact ⟨l, hl, row_base hr hb⟩
theorem Zr.at_ {K : Kd α} {w : World} {base n c j : Nat} {A : Option Addr} (h : Zr K w base A n c) (hsz : K.sz = 4) (hj : j < n) {a b c' d : Value} (y : α) (he : K.enc y = [a, b, c', d]) :
    ∃ g, ∃ u0 u1 u2 u3 : Value, A = some ⟨g, 0, none⟩ ∧ base ≤ g ∧ g < w.heap.size ∧ w.cell? ⟨g, j * 4, none⟩ = some u0 ∧ w.cell? ⟨g, j * 4 + 1, none⟩ = some u1 ∧ w.cell? ⟨g, j * 4 + 2, none⟩ = some u2 ∧ w.cell? ⟨g, j * 4 + 3, none⟩ = some u3 ∧
      (w.frozen? ⟨g, j * 4, none⟩ = false ∧ w.frozen? ⟨g, j * 4 + 1, none⟩ = false ∧ w.frozen? ⟨g, j * 4 + 2, none⟩ = false ∧ w.frozen? ⟨g, j * 4 + 3, none⟩ = false) ∧ Zr K (st4 w g j a b c' d) base A n c := by
  obtain ⟨l, hl, hr⟩ := h
  have hr0 := hr
  rcases hr.2 with ⟨e, hn⟩ | ⟨g, cap, cur, e, hb, hg, hnc, hcm, hcs, htake⟩
  · omega
  · injection e with e1 e2 e3
    subst e1
    have hlt := (hr.lt g rfl).2
    have hfl := K.flat_len l
    rw [hsz, hl] at hfl
    have cell : ∀ k, k < n * 4 → ∃ u, w.cell? ⟨g, k, none⟩ = some u := fun k hk => by
      rw [hr0.cellAt k (by rw [hsz]; exact hk)]
      exact ⟨_, List.getElem?_eq_getElem (by omega)⟩
    obtain ⟨u0, h0⟩ := cell (j * 4) (by omega)
    obtain ⟨u1, h1⟩ := cell (j * 4 + 1) (by omega)
    obtain ⟨u2, h2⟩ := cell (j * 4 + 2) (by omega)
    obtain ⟨u3, h3⟩ := cell (j * 4 + 3) (by omega)
    refine ⟨g, u0, u1, u2, u3, rfl, hb, hlt, h0, h1, h2, h3, ⟨hr0.frozenAt _, hr0.frozenAt _, hr0.frozenAt _, hr0.frozenAt _⟩, l.set j y, by rw [List.length_set]; exact hl, ?_⟩
    rw [← K.flat_setG hsz l j y he]
    unfold st4
    exact ((((hr0.stored _ _).1.stored _ _).1.stored _ _).1.stored _ _).1
/-- the block of one row is not that of a later one -/
theorem Zr.ne {β : Type} {K : Kd α} {K' : Kd β} {w1 w2 : World} {b1 b2 n1 n2 c1 c2 : Nat} {A1 A2 : Option Addr} (h1 : Zr K w1 b1 A1 n1 c1) (h2 : Zr K' w2 b2 A2 n2 c2) (hb : w1.heap.size ≤ b2) :
    ∀ g i g' i', A1 = some ⟨g, i, none⟩ → A2 = some ⟨g', i', none⟩ → g ≠ g' := by
  intro g i g' i' e1 e2
  have a := (h1.blk g i e1).2
  have b := (h2.blk g' i' e2).1
  omega
/-- what a call hands out as a row: the slice, what it reads as, and that it may be written over -/
theorem rw_use {K : Kd α} {er : Int} {xs : List α} {w : World} {e : Ending} {w' : World} (h : RwPost K er xs w e w') :
    ∃ A c, e = .returned (.tuple #[.slice A xs.length c, .int .i64 er]) ∧ K.Rd w' A xs ∧ Zr K w' w.heap.size A xs.length c ∧ Below w.heap.size w w' := by
  obtain ⟨v, h1, h2, h3⟩ := h
  obtain ⟨_, A, c, rfl, _, hr, _⟩ := K.row h2
  exact ⟨A, c, h1, hr, Zr.of h2, h3⟩
theorem ro_use {K : Kd α} {xs : List α} {w : World} {e : Ending} {w' : World} (h : RoPost K xs w e w') :
    ∃ A c, e = .returned (.slice A xs.length c) ∧ K.Rd w' A xs ∧ Zr K w' w.heap.size A xs.length c ∧ Below w.heap.size w w' := by
  obtain ⟨v, h1, h2, h3⟩ := h
  obtain ⟨_, A, c, rfl, _, hr, _⟩ := K.row h2
  exact ⟨A, c, h1, hr, Zr.of h2, h3⟩
end Ev
end Go.Proofs.Ytbnchajkfceaoaa
