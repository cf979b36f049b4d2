/- A struct of five one-cell fields by value, opened; arguments that are a list of deeds (a kind and four numbers). No conditions beside those of each lemma. -/
import Derived.Test.YthinaablldnikaaOmP
namespace Go.Proofs.Ythinaablldnikaa
open Go.RowKit Go.Sort Go.ChangeShapes Go.WideShapes Go.Deep
set_option linter.unusedVariables false
set_option linter.unusedSimpArgs false
namespace Om
theorem array5 {α : Type} {cs : Array α} (h : cs.size = 5) : ∃ c0 c1 c2 c3 c4, cs = #[c0, c1, c2, c3, c4] := by
  obtain ⟨l⟩ := cs
  match l, h with
  | [c0, c1, c2, c3, c4], _ => exact ⟨c0, c1, c2, c3, c4, rfl⟩
theorem list5 {α : Type} {l : List α} (h : l.length = 5) : ∃ c0 c1 c2 c3 c4, l = [c0, c1, c2, c3, c4] := by
  match l, h with
  | [c0, c1, c2, c3, c4], _ => exact ⟨c0, c1, c2, c3, c4, rfl⟩
section
variable {H : Type} {enc : TypeId × Value → H} {P : Program} {w : World} {base : Nat} {spare : Nat → Bool} {held : Bool}
theorem open_agg5 {r : Reach} {b0 : Nat} {t : TypeId} {f0 f1 f2 f3 f4 : Field} {v : Value} {d : DataW H} {p : List MemPlace} (hs : P.underlying t = some (.struct #[f0, f1, f2, f3, f4])) (hone : oneCellFields P #[f0, f1, f2, f3, f4] = true) (hC : P.cellsOf t = 5)
    (hv : Value.okWide P w r b0 t v) (h : DataW.Trod enc P w base spare held t v d p) :
    ∃ (v0 v1 v2 v3 v4 : Value) (y0 y1 y2 y3 y4 : DataW H × List MemPlace) (n : Nat), v = .agg #[v0, v1, v2, v3, v4] ∧ d = .agg [y0.1, y1.1, y2.1, y3.1, y4.1] ∧ p = y0.2 ++ (y1.2 ++ (y2.2 ++ (y3.2 ++ y4.2))) ∧
      DataW.trod enc P w base spare held n f0.type [v0] = some y0 ∧ DataW.trod enc P w base spare held n f1.type [v1] = some y1 ∧ DataW.trod enc P w base spare held n f2.type [v2] = some y2 ∧ DataW.trod enc P w base spare held n f3.type [v3] = some y3 ∧ DataW.trod enc P w base spare held n f4.type [v4] = some y4 := by
  obtain ⟨cs, rfl, hsz⟩ := okWide_struct hs hv
  obtain ⟨u0, u1, u2, u3, u4, rfl⟩ := array5 (hsz.trans hC)
  obtain ⟨fuel, hf⟩ := h
  obtain ⟨xs, n, _, hx, _, hlen, hat⟩ := DataW.trod_struct hs hf
  obtain ⟨z0, z1, z2, z3, z4, rfl⟩ := list5 hlen
  have at0 := hat 0 f0 rfl
  have at1 := hat 1 f1 rfl
  have at2 := hat 2 f2 rfl
  have at3 := hat 3 f3 rfl
  have at4 := hat 4 f4 rfl
  obtain ⟨o0, k0⟩ := hone_of hone 0 f0 rfl
  obtain ⟨o1, k1⟩ := hone_of hone 1 f1 rfl
  obtain ⟨o2, k2⟩ := hone_of hone 2 f2 rfl
  obtain ⟨o3, k3⟩ := hone_of hone 3 f3 rfl
  obtain ⟨o4, k4⟩ := hone_of hone 4 f4 rfl
  rw [o0, k0] at at0
  rw [o1, k1] at at1
  rw [o2, k2] at at2
  rw [o3, k3] at at3
  rw [o4, k4] at at4
  obtain ⟨hd, hp⟩ := Prod.mk.inj hx
  exact ⟨u0, u1, u2, u3, u4, z0, z1, z2, z3, z4, n, rfl, by simpa using hd, by simpa using hp, by simpa [Value.cells] using at0, by simpa [Value.cells] using at1, by simpa [Value.cells] using at2, by simpa [Value.cells] using at3, by simpa [Value.cells] using at4⟩
end
/-- a deed -/
structure Dd where
  d : Int
  k : Int
  h : Int
  v : Int
  b : Int
/-- from the address A on lie the deeds l -/
def RdD (w : World) (A : Option Addr) (l : List Dd) : Prop :=
  ∀ (i : Nat) (x : Dd), l[i]? = some x → ∃ b o, A = some ⟨b, o, none⟩ ∧ w.cell? ⟨b, o + i * 5, none⟩ = some (.int .u8 x.d) ∧ w.cell? ⟨b, o + i * 5 + 1, none⟩ = some (.int .u64 x.k) ∧ w.cell? ⟨b, o + i * 5 + 2, none⟩ = some (.int .u64 x.h) ∧ w.cell? ⟨b, o + i * 5 + 3, none⟩ = some (.int .u64 x.v) ∧ w.cell? ⟨b, o + i * 5 + 4, none⟩ = some (.int .u64 x.b)
structure BdD1 (x : Dd) : Prop where
  d0 : 0 ≤ x.d
  d1 : x.d ≤ 255
  k0 : 0 ≤ x.k
  k1 : x.k ≤ 18446744073709551615
  h0 : 0 ≤ x.h
  h1 : x.h ≤ 18446744073709551615
  v0 : 0 ≤ x.v
  v1 : x.v ≤ 18446744073709551615
  b0 : 0 ≤ x.b
  b1 : x.b ≤ 18446744073709551615
def BdD (l : List Dd) : Prop := ∀ x, x ∈ l → BdD1 x
theorem RdD.below {w w' : World} {A : Option Addr} {l : List Dd} (h : RdD w A l) (hb : Below w.heap.size w w') : RdD w' A l := by
  intro i x hi
  obtain ⟨b, o, e, c0, c1, c2, c3, c4⟩ := h i x hi
  have hlt : b < w.heap.size := World.block_lt_of_cell? w _ c0
  have keep : ∀ j, w'.cell? ⟨b, j, none⟩ = w.cell? ⟨b, j, none⟩ := fun j => hb.cell (p := ⟨b, j, none⟩) hlt
  exact ⟨b, o, e, (keep _).trans c0, (keep _).trans c1, (keep _).trans c2, (keep _).trans c3, (keep _).trans c4⟩
theorem cellsOf_deed : Try.prog.cellsOf 35 = 5 := by kernel_rfl
section
variable {H : Type} {enc : TypeId × Value → H} {w : World} {base b0 : Nat} {spare : Nat → Bool} {held : Bool} {r : Reach}
set_option maxRecDepth 100000 in
theorem open_deeds {v : Value} {d : DataW H} {p : List MemPlace} (hv : Value.okWide Try.prog w r b0 23 v) (h : DataW.Trod enc Try.prog w base spare held 23 v d p) :
    ∃ (A : Option Addr) (n c : Nat) (l : List Dd), v = .slice A n c ∧ l.length = n ∧ n ≤ maxLen ∧ RdD w A l ∧ BdD l ∧ (A = none → c = 0) := by
  obtain ⟨A, n, c, rfl⟩ := okWide_slice Try.underlying23 hv
  obtain ⟨fuel, hf⟩ := h
  rcases open_slice_fields Try.underlying23 Try.underlying35 (by kernel_rfl) cellsOf_deed hf with ⟨hcs, hx⟩ | ⟨a, len, cap, m, D, Pl, hcs, hb, hl, hm, hmm, hx, hi⟩
  · simp [Value.cells] at hcs
    obtain ⟨rfl, rfl, rfl⟩ := hcs
    exact ⟨none, 0, 0, [], rfl, rfl, Nat.zero_le _, fun k x hk => by simp at hk, fun x hx => (by cases hx), fun _ => rfl⟩
  · simp [Value.cells] at hcs
    obtain ⟨rfl, rfl, rfl⟩ := hcs
    have hlm : n ≤ m := by rw [hmm]; split <;> omega
    have each : ∀ i, i < n → ∃ x : Dd, BdD1 x ∧ w.cell? (a.add (i * 5)) = some (.int .u8 x.d) ∧ w.cell? (a.add (i * 5 + 1)) = some (.int .u64 x.k) ∧ w.cell? (a.add (i * 5 + 2)) = some (.int .u64 x.h) ∧ w.cell? (a.add (i * 5 + 3)) = some (.int .u64 x.v) ∧ w.cell? (a.add (i * 5 + 4)) = some (.int .u64 x.b) := by
      intro i hin
      obtain ⟨ys, q, _, _, _, hfl⟩ := hi i (by omega)
      obtain ⟨v0, y0, c0, _, t0⟩ := hfl 0 _ rfl
      obtain ⟨v1, y1, c1, _, t1⟩ := hfl 1 _ rfl
      obtain ⟨v2, y2, c2, _, t2⟩ := hfl 2 _ rfl
      obtain ⟨v3, y3, c3, _, t3⟩ := hfl 3 _ rfl
      obtain ⟨v4, y4, c4, _, t4⟩ := hfl 4 _ rfl
      obtain ⟨x0, e0, _, w0⟩ := DataW.trod_int Try.underlying5 t0
      obtain ⟨x1, e1, _, w1⟩ := DataW.trod_int Try.underlying33 t1
      obtain ⟨x2, e2, _, w2⟩ := DataW.trod_int Try.underlying33 t2
      obtain ⟨x3, e3, _, w3⟩ := DataW.trod_int Try.underlying33 t3
      obtain ⟨x4, e4, _, w4⟩ := DataW.trod_int Try.underlying33 t4
      simp at e0 e1 e2 e3 e4
      subst e0 e1 e2 e3 e4
      exact ⟨⟨x0, x1, x2, x3, x4⟩, ⟨(bounds_u8 w0).1, (bounds_u8 w0).2, (bounds_u64 w1).1, (bounds_u64 w1).2, (bounds_u64 w2).1, (bounds_u64 w2).2, (bounds_u64 w3).1, (bounds_u64 w3).2, (bounds_u64 w4).1, (bounds_u64 w4).2⟩, c0, c1, c2, c3, c4⟩
    have each' : ∃ g : Nat → Dd, ∀ i, i < n → BdD1 (g i) ∧ w.cell? (a.add (i * 5)) = some (.int .u8 (g i).d) ∧ w.cell? (a.add (i * 5 + 1)) = some (.int .u64 (g i).k) ∧ w.cell? (a.add (i * 5 + 2)) = some (.int .u64 (g i).h) ∧ w.cell? (a.add (i * 5 + 3)) = some (.int .u64 (g i).v) ∧ w.cell? (a.add (i * 5 + 4)) = some (.int .u64 (g i).b) := by
      refine ⟨fun i => if hi : i < n then Classical.choose (each i hi) else ⟨0, 0, 0, 0, 0⟩, fun i hi => ?_⟩
      simp only [dif_pos hi]
      exact Classical.choose_spec (each i hi)
    obtain ⟨g, hg⟩ := each'
    refine ⟨some a, n, c, (List.range n).map g, rfl, by simp, by omega, ?_, ?_, fun h => (by cases h)⟩
    · intro k x hk
      have hkn : k < n := by have := (List.getElem?_eq_some_iff.1 hk).1; simpa using this
      rw [List.getElem?_map, List.getElem?_range hkn] at hk
      simp only [Option.map_some, Option.some.injEq] at hk
      subst hk
      obtain ⟨b, o, s⟩ := a
      obtain ⟨_, z0, _⟩ := hg 0 (by omega)
      have hs : s = none := spot_none (a := ⟨b, o, s⟩) (by simpa [Addr.add] using z0)
      subst hs
      obtain ⟨_, c0, c1, c2, c3, c4⟩ := hg k hkn
      rw [addr_lit] at c0 c1 c2 c3 c4
      exact ⟨b, o, rfl, c0, c1, c2, c3, c4⟩
    · intro x hx
      simp only [List.mem_map, List.mem_range] at hx
      obtain ⟨i, hin, rfl⟩ := hx
      exact (hg i hin).1
end
end Om
end Go.Proofs.Ythinaablldnikaa
