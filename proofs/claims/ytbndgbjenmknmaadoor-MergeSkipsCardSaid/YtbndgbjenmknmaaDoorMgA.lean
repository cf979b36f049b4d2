/- Arguments that are a list of deeds of leapfroglaw07 (a kind, a list, a key, a value). No conditions beside those of each lemma. -/
import Derived.Test.YtbndgbjenmknmaaDoorMgR
namespace Go.Proofs.YtbndgbjenmknmaaDoor
open Go.RowKit Go.Sort Go.ChangeShapes Go.WideShapes Go.Deep
set_option linter.unusedVariables false
set_option linter.unusedSimpArgs false
namespace Mg
open Om (addr_lit open_slice_fields spot_none)
/-- a deed -/
structure Dd where
  d : Int
  l : Int
  k : Int
  v : Int
/-- from the address A on lie the deeds l -/
def RdD (w : World) (A : Option Addr) (l : List Dd) : Prop :=
  ∀ (i : Nat) (x : Dd), l[i]? = some x → ∃ b o, A = some ⟨b, o, none⟩ ∧ w.cell? ⟨b, o + i * 4, none⟩ = some (.int .u8 x.d) ∧ w.cell? ⟨b, o + i * 4 + 1, none⟩ = some (.int .i64 x.l) ∧ w.cell? ⟨b, o + i * 4 + 2, none⟩ = some (.int .u64 x.k) ∧ w.cell? ⟨b, o + i * 4 + 3, none⟩ = some (.int .u64 x.v)
structure BdD1 (x : Dd) : Prop where
  d0 : 0 ≤ x.d
  d1 : x.d ≤ 255
  l0 : (-9223372036854775808) ≤ x.l
  l1 : x.l ≤ 9223372036854775807
  k0 : 0 ≤ x.k
  k1 : x.k ≤ 18446744073709551615
  v0 : 0 ≤ x.v
  v1 : x.v ≤ 18446744073709551615
def BdD (l : List Dd) : Prop := ∀ x, x ∈ l → BdD1 x
theorem RdD.below {w w' : World} {A : Option Addr} {l : List Dd} (h : RdD w A l) (hb : Below w.heap.size w w') : RdD w' A l := by
  intro i x hi
  obtain ⟨b, o, e, c0, c1, c2, c3⟩ := h i x hi
  have hlt : b < w.heap.size := World.block_lt_of_cell? w _ c0
  have keep : ∀ j, w'.cell? ⟨b, j, none⟩ = w.cell? ⟨b, j, none⟩ := fun j => hb.cell (p := ⟨b, j, none⟩) hlt
  exact ⟨b, o, e, (keep _).trans c0, (keep _).trans c1, (keep _).trans c2, (keep _).trans c3⟩
theorem cellsOf_deed : Tryd.prog.cellsOf 31 = 4 := by kernel_rfl
section
variable {H : Type} {enc : TypeId × Value → H} {w : World} {base b0 : Nat} {spare : Nat → Bool} {held : Bool} {r : Reach}
set_option maxRecDepth 100000 in
theorem open_deeds {v : Value} {d : DataW H} {p : List MemPlace} (hv : Value.okWide Tryd.prog w r b0 23 v) (h : DataW.Trod enc Tryd.prog w base spare held 23 v d p) :
    ∃ (A : Option Addr) (n c : Nat) (l : List Dd), v = .slice A n c ∧ l.length = n ∧ n ≤ maxLen ∧ RdD w A l ∧ BdD l ∧ (A = none → c = 0) := by
  obtain ⟨A, n, c, rfl⟩ := okWide_slice Tryd.underlying23 hv
  obtain ⟨fuel, hf⟩ := h
  rcases open_slice_fields Tryd.underlying23 Tryd.underlying31 (by kernel_rfl) cellsOf_deed hf with ⟨hcs, hx⟩ | ⟨a, len, cap, m, D, Pl, hcs, hb, hl, hm, hmm, hx, hi⟩
  · simp [Value.cells] at hcs
    obtain ⟨rfl, rfl, rfl⟩ := hcs
    exact ⟨none, 0, 0, [], rfl, rfl, Nat.zero_le _, fun k x hk => by simp at hk, fun x hx => (by cases hx), fun _ => rfl⟩
  · simp [Value.cells] at hcs
    obtain ⟨rfl, rfl, rfl⟩ := hcs
    have hlm : n ≤ m := by rw [hmm]; split <;> omega
    have each : ∀ i, i < n → ∃ x : Dd, BdD1 x ∧ w.cell? (a.add (i * 4)) = some (.int .u8 x.d) ∧ w.cell? (a.add (i * 4 + 1)) = some (.int .i64 x.l) ∧ w.cell? (a.add (i * 4 + 2)) = some (.int .u64 x.k) ∧ w.cell? (a.add (i * 4 + 3)) = some (.int .u64 x.v) := by
      intro i hin
      obtain ⟨ys, q, _, _, _, hfl⟩ := hi i (by omega)
      obtain ⟨v0, y0, c0, _, t0⟩ := hfl 0 _ rfl
      obtain ⟨v1, y1, c1, _, t1⟩ := hfl 1 _ rfl
      obtain ⟨v2, y2, c2, _, t2⟩ := hfl 2 _ rfl
      obtain ⟨v3, y3, c3, _, t3⟩ := hfl 3 _ rfl
      obtain ⟨x0, e0, _, w0⟩ := DataW.trod_int Tryd.underlying5 t0
      obtain ⟨x1, e1, _, w1⟩ := DataW.trod_int Tryd.underlying3 t1
      obtain ⟨x2, e2, _, w2⟩ := DataW.trod_int Tryd.underlying22 t2
      obtain ⟨x3, e3, _, w3⟩ := DataW.trod_int Tryd.underlying22 t3
      simp at e0 e1 e2 e3
      subst e0 e1 e2 e3
      exact ⟨⟨x0, x1, x2, x3⟩, ⟨(bounds_u8 w0).1, (bounds_u8 w0).2, (bounds_i64 w1).1, (bounds_i64 w1).2, (bounds_u64 w2).1, (bounds_u64 w2).2, (bounds_u64 w3).1, (bounds_u64 w3).2⟩, c0, c1, c2, c3⟩
    have each' : ∃ g : Nat → Dd, ∀ i, i < n → BdD1 (g i) ∧ w.cell? (a.add (i * 4)) = some (.int .u8 (g i).d) ∧ w.cell? (a.add (i * 4 + 1)) = some (.int .i64 (g i).l) ∧ w.cell? (a.add (i * 4 + 2)) = some (.int .u64 (g i).k) ∧ w.cell? (a.add (i * 4 + 3)) = some (.int .u64 (g i).v) := by
      refine ⟨fun i => if hi : i < n then Classical.choose (each i hi) else ⟨0, 0, 0, 0⟩, fun i hi => ?_⟩
      simp only [dif_pos hi]
      exact Classical.choose_spec (each i hi)
    obtain ⟨g, hg⟩ := each'
    refine ⟨some a, n, c, (List.range n).map g, rfl, by simp, by omega, ?_, ?_, fun h => (by cases h)⟩
    · intro k x hk
      have hkn : k < n := by have := (List.getElem?_eq_some_iff.1 hk).1; simpa using this
      rw [List.getElem?_map, List.getElem?_range hkn] at hk
      simp only [Option.map_some, Option.some.injEq] at hk
      subst hk
      obtain ⟨b, o, s⟩ := a
      obtain ⟨_, z0, _⟩ := hg 0 (by omega)
      have hs : s = none := spot_none (a := ⟨b, o, s⟩) (by simpa [Addr.add] using z0)
      subst hs
      obtain ⟨_, c0, c1, c2, c3⟩ := hg k hkn
      rw [addr_lit] at c0 c1 c2 c3
      exact ⟨b, o, rfl, c0, c1, c2, c3⟩
    · intro x hx
      simp only [List.mem_map, List.mem_range] at hx
      obtain ⟨i, hin, rfl⟩ := hx
      exact (hg i hin).1
end
end Mg
end Go.Proofs.YtbndgbjenmknmaaDoor
