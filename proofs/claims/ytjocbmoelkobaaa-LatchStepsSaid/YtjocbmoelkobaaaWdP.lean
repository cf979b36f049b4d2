/- Replay of package words and of the reference: contracts of the translated code. Conditions: the bounds of each number's kind; at most 65,536 words are copied. -/
import Derived.Test.YtjocbmoelkobaaaWdL
namespace Go.Proofs.Ytjocbmoelkobaaa
open Go.RowKit Go.Sort
set_option linter.unusedVariables false
set_option linter.unusedSimpArgs false
namespace Wd
open Dm (addr_lit info_parts spot_none RdK flatU infoU bel_alloc bel_trans own_keep below_drewN)
/-- what Replay hands out -/
def RpP (W : List Int) (L : List Ac) (w : World) (e : Ending) (w' : World) : Prop :=
  ((newE W.length ≠ 0 ∧ e = .returned (.tuple #[.slice none 0 0, .int .i64 0, .int .i64 (newE W.length)])) ∨
   (newE W.length = 0 ∧ ∃ i : Nat, scan W L 0 = (none, i) ∧ e = .returned (.tuple #[.slice none 0 0, .int .i64 (i : Nat), .int .i64 16])) ∨
   (newE W.length = 0 ∧ ∃ W' A c, scan W L 0 = (some W', L.length) ∧ e = .returned (.tuple #[.slice A W'.length c, .int .i64 (L.length : Nat), .int .i64 0]) ∧ RdK .u64 w' A W')) ∧ Below w.heap.size w w'
theorem ok_addr {W : List Int} {x : Ac} (h : ok W x) : ∃ i : Nat, x.a = (i : Int) ∧ i < W.length := by
  obtain ⟨i, hi⟩ := Int.eq_ofNat_of_zero_le h.2.1.1
  exact ⟨i, hi, by have := h.2.1.2; omega⟩
/-- the numbers of accesses -/
structure BdA1 (x : Ac) : Prop where
  t0 : -9223372036854775808 ≤ x.t
  t1 : x.t ≤ 9223372036854775807
  a0 : -9223372036854775808 ≤ x.a
  a1 : x.a ≤ 9223372036854775807
  k0 : 0 ≤ x.k
  k1 : x.k ≤ 255
  o0 : 0 ≤ x.o
  o1 : x.o ≤ 18446744073709551615
  n0 : 0 ≤ x.n
  n1 : x.n ≤ 18446744073709551615
def BdA (l : List Ac) : Prop := ∀ x, x ∈ l → BdA1 x
theorem ac_get {L : List Ac} {j : Nat} (h : j < L.length) : ∃ x, L[j]? = some x := ⟨_, List.getElem?_eq_getElem h⟩
theorem drop_ac {L : List Ac} {i : Nat} {x : Ac} (h : L[i]? = some x) : L.drop i = x :: L.drop (i + 1) := by
  obtain ⟨hi, e⟩ := List.getElem?_eq_some_iff.1 h
  rw [List.drop_eq_getElem_cons hi, e]
theorem rowU_rd {w : World} {base g n c : Nat} {l : List Int} {e : TypeId} (h : w.ownsRow base e 1 (.slice (some ⟨g, 0, none⟩) n c) n (flatU l)) : RdK .u64 w (some ⟨g, 0, none⟩) l := fun k hk => by
  have hl : l.length = n := by have := h.1; simpa [flatU] using this
  exact ⟨g, 0, rfl, by rw [Nat.zero_add]; exact own_cell h hl (by omega)⟩
theorem len_snoc (W : List Int) (i : Nat) (x : Int) : (W.set i x).length = W.length := by simp
end Wd
end Go.Proofs.Ytjocbmoelkobaaa
