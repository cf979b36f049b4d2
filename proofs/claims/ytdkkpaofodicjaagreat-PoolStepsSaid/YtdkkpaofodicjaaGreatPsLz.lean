/- Arguments of the law PoolSteps: six ints by value; a list of events. No conditions beside those of each lemma. -/
import Derived.Test.YtdkkpaofodicjaaGreatPsW
import Derived.OpenShut
import Derived.Deep.Slices
import Derived.Deep.Fields
import Derived.ChangeSame
namespace Go.Proofs.YtdkkpaofodicjaaGreat
open Go.RowKit Go.Sort Go.ChangeShapes Go.WideShapes Go.Deep
set_option linter.unusedVariables false
set_option linter.unusedSimpArgs false
namespace Po
open Dm (addr_lit spot_none)
section
variable {H : Type} {enc : TypeId × Value → H} {P : Program} {w : World} {base : Nat} {spare : Nat → Bool} {held : Bool}
theorem open_slice_fields {t e : TypeId} {fs : Array Field} {fuel : Nat} {cs : List Value} {x : DataW H × List MemPlace} (ht : P.underlying t = some (.slice e)) (he : P.underlying e = some (.struct fs))
    (hone : oneCellFields P fs = true) (hC : P.cellsOf e = fs.size) (h : DataW.trod enc P w base spare held fuel t cs = some x) :
    (cs = [.slice none 0 0] ∧ x = (.nil, [])) ∨
    ∃ (a : Addr) (len cap m : Nat) (D : Nat → DataW H) (Pl : Nat → List MemPlace), cs = [.slice (some a) len cap] ∧ base ≤ a.block ∧ len ≤ cap ∧ cap ≤ maxLen ∧ m = (if spare a.block then cap else len) ∧
      x = (.slice ((List.range len).map D) ((List.range (m - len)).map fun j => D (len + j)), MemPlace.row a (m * fs.size) ++ (List.range m).flatMap Pl) ∧
      ∀ i, i < m → ∃ (ys : List (DataW H × List MemPlace)) (n : Nat), D i = .agg (ys.map (·.1)) ∧ Pl i = ys.flatMap (·.2) ∧ ys.length = fs.size ∧
        ∀ (j : Nat) (f : Field), fs[j]? = some f → ∃ (v : Value) (y : DataW H × List MemPlace), w.cell? (a.add (i * fs.size + j)) = some v ∧ ys[j]? = some y ∧ DataW.trod enc P w base spare held n f.type [v] = some y := by
  rcases open_slice ht h with h0 | ⟨a, len, cap, m, n, D, Pl, hcs, hb, hl, hm, hmm, hx, hi⟩
  · exact .inl h0
  · refine .inr ⟨a, len, cap, m, D, Pl, hcs, hb, hl, hm, hmm, by rw [hC] at hx; exact hx, fun i him => ?_⟩
    obtain ⟨cs', hc, ht'⟩ := hi i him
    rw [hC] at hc
    obtain ⟨ys, n', hn', hy, hlen, hyl, hf⟩ := DataW.trod_struct he ht'
    obtain ⟨_, hcl, hat⟩ := World.cells?_some hc
    simp only [Prod.mk.injEq] at hy
    refine ⟨ys, n', hy.1, hy.2, hyl, fun j f hj => ?_⟩
    obtain ⟨ho, hk⟩ := hone_of hone j f hj
    have hjl : j < fs.size := (Array.getElem?_eq_some_iff.1 hj).1
    have hcell := hat j hjl
    have hv : cs'[j]? = some (cs'[j]'(by omega)) := List.getElem?_eq_getElem (by omega)
    have h1 := hf j f hj
    rw [ho, hk] at h1
    have hone' : (cs'.drop j).take 1 = [cs'[j]'(by omega)] := by
      rw [List.drop_eq_getElem_cons (by omega)]
      rfl
    rw [hone'] at h1
    have hys : ys[j]? = some (ys[j]'(by omega)) := List.getElem?_eq_getElem (by omega)
    refine ⟨_, _, ?_, hys, h1.trans hys⟩
    rw [← Go.Deep.add_add, hcell, hv]
end
theorem cellsOf_six : Tryz.prog.cellsOf 22 = 6 := by kernel_rfl
theorem cellsOf_i : Tryz.prog.cellsOf 3 = 1 := by kernel_rfl
section
variable {H : Type} {enc : TypeId × Value → H} {w : World} {base b0 : Nat} {spare : Nat → Bool} {held : Bool} {r : Reach}
set_option maxRecDepth 100000 in
theorem open_six {v : Value} {d : DataW H} {p : List MemPlace} (hv : Value.okWide Tryz.prog w r b0 22 v) (h : DataW.Trod enc Tryz.prog w base spare held 22 v d p) : ∃ t : Nat → Int, v = .agg (six t) := by
  obtain ⟨cs, rfl, hsz⟩ : ∃ cs, v = .agg cs ∧ cs.size = 6 := by
    simp only [Value.okWide, Tryz.underlying22] at hv
    obtain ⟨cs, h1, h2, _⟩ := hv
    exact ⟨cs, h1, by rw [h2]; exact cellsOf_six⟩
  obtain ⟨fuel, hf⟩ := h
  obtain ⟨us, m, _, _, _, hl2, hat⟩ := DataW.trod_array Tryz.underlying22 hf
  rw [cellsOf_i] at hat
  have each : ∀ i, i < 6 → ∃ x : Int, cs[i]? = some (.int .i64 x) := fun i hi => by
    have h1 := hat i hi
    have hne : us[i]? = some us[i] := List.getElem?_eq_getElem (by omega)
    rw [hne] at h1
    obtain ⟨x, e, _⟩ := DataW.trod_int Tryz.underlying3 h1
    refine ⟨x, ?_⟩
    have e2 : (cs.toList.drop (i * 1)).take 1 = [.int .i64 x] := by simpa [Value.cells] using e
    have e3 : ((cs.toList.drop (i * 1)).take 1)[0]? = some (.int .i64 x) := by rw [e2]; rfl
    rw [List.getElem?_take, if_pos (by omega), List.getElem?_drop, Nat.mul_one, Nat.add_zero, Array.getElem?_toList] at e3
    exact e3
  obtain ⟨x0, e0⟩ := each 0 (by omega)
  obtain ⟨x1, e1⟩ := each 1 (by omega)
  obtain ⟨x2, e2⟩ := each 2 (by omega)
  obtain ⟨x3, e3⟩ := each 3 (by omega)
  obtain ⟨x4, e4⟩ := each 4 (by omega)
  obtain ⟨x5, e5⟩ := each 5 (by omega)
  refine ⟨fun i => [x0, x1, x2, x3, x4, x5].getD i 0, ?_⟩
  congr 1
  apply Array.ext_getElem?
  intro i
  unfold six
  by_cases h : i < 6
  · match i, h with
    | 0, _ => rw [e0]; rfl
    | 1, _ => rw [e1]; rfl
    | 2, _ => rw [e2]; rfl
    | 3, _ => rw [e3]; rfl
    | 4, _ => rw [e4]; rfl
    | 5, _ => rw [e5]; rfl
  · rw [Array.getElem?_eq_none (by omega), Array.getElem?_eq_none (by simp; omega)]
end
/-- an event: what to do, thread, height, tries, tower, which operation -/
structure Ev6 where
  d : Int
  t : Int
  h : Int
  r : Int
  u : Int
  n : Int
/-- the cells of an event at ⟨b, o⟩ -/
structure E6 (w : World) (b o : Nat) (x : Ev6) : Prop where
  c0 : w.cell? ⟨b, o, none⟩ = some (.int .u8 x.d)
  c1 : w.cell? ⟨b, o + 1, none⟩ = some (.int .i64 x.t)
  c2 : w.cell? ⟨b, o + 2, none⟩ = some (.int .i64 x.h)
  c3 : w.cell? ⟨b, o + 3, none⟩ = some (.int .i64 x.r)
  c4 : w.cell? ⟨b, o + 4, none⟩ = some (.int .i64 x.u)
  c5 : w.cell? ⟨b, o + 5, none⟩ = some (.int .i64 x.n)
theorem E6.keep {w w' : World} {b o : Nat} {x : Ev6} (h : E6 w b o x) (hb : w'.heap[b]? = w.heap[b]?) : E6 w' b o x := by
  have k : ∀ j, w'.cell? ⟨b, j, none⟩ = w.cell? ⟨b, j, none⟩ := fun j => World.cell?_of_block (a := ⟨b, j, none⟩) hb
  exact ⟨(k _).trans h.c0, (k _).trans h.c1, (k _).trans h.c2, (k _).trans h.c3, (k _).trans h.c4, (k _).trans h.c5⟩
theorem E6.lt {w : World} {b o : Nat} {x : Ev6} (h : E6 w b o x) : b < w.heap.size := World.block_lt_of_cell? w _ h.c0
/-- from the address A on lie the events l -/
def RdY (w : World) (A : Option Addr) (l : List Ev6) : Prop := ∀ (i : Nat) (x : Ev6), l[i]? = some x → ∃ b o, A = some ⟨b, o, none⟩ ∧ E6 w b (o + i * 6) x
structure BdY1 (x : Ev6) : Prop where
  d : 0 ≤ x.d ∧ x.d ≤ 255
  t : -9223372036854775808 ≤ x.t ∧ x.t ≤ 9223372036854775807
  h : -9223372036854775808 ≤ x.h ∧ x.h ≤ 9223372036854775807
  r : -9223372036854775808 ≤ x.r ∧ x.r ≤ 9223372036854775807
  u : -9223372036854775808 ≤ x.u ∧ x.u ≤ 9223372036854775807
  n : -9223372036854775808 ≤ x.n ∧ x.n ≤ 9223372036854775807
def BdY (l : List Ev6) : Prop := ∀ x, x ∈ l → BdY1 x
theorem cellsOf_pev : Tryz.prog.cellsOf 53 = 6 := by kernel_rfl
section
variable {H : Type} {enc : TypeId × Value → H} {w : World} {base b0 : Nat} {spare : Nat → Bool} {held : Bool} {r : Reach}
set_option maxRecDepth 100000 in
theorem open_pevs {v : Value} {d : DataW H} {p : List MemPlace} (hv : Value.okWide Tryz.prog w r b0 23 v) (h : DataW.Trod enc Tryz.prog w base spare held 23 v d p) :
    ∃ (A : Option Addr) (n c : Nat) (l : List Ev6), v = .slice A n c ∧ l.length = n ∧ n ≤ maxLen ∧ RdY w A l ∧ BdY l ∧ (A = none → c = 0) := by
  obtain ⟨A, n, c, rfl⟩ := okWide_slice Tryz.underlying23 hv
  obtain ⟨fuel, hf⟩ := h
  rcases open_slice_fields Tryz.underlying23 Tryz.underlying53 (by kernel_rfl) cellsOf_pev hf with ⟨hcs, hx⟩ | ⟨a, len, cap, m, D, Pl, hcs, hb, hl, hm, hmm, hx, hi⟩
  · simp [Value.cells] at hcs
    obtain ⟨rfl, rfl, rfl⟩ := hcs
    exact ⟨none, 0, 0, [], rfl, rfl, Nat.zero_le _, fun k x hk => by simp at hk, fun x hx => (by cases hx), fun _ => rfl⟩
  · simp [Value.cells] at hcs
    obtain ⟨rfl, rfl, rfl⟩ := hcs
    have hlm : n ≤ m := by rw [hmm]; split <;> omega
    have each : ∀ i, i < n → ∃ x : Ev6, BdY1 x ∧ w.cell? (a.add (i * 6)) = some (.int .u8 x.d) ∧ w.cell? (a.add (i * 6 + 1)) = some (.int .i64 x.t) ∧ w.cell? (a.add (i * 6 + 2)) = some (.int .i64 x.h) ∧ w.cell? (a.add (i * 6 + 3)) = some (.int .i64 x.r) ∧ w.cell? (a.add (i * 6 + 4)) = some (.int .i64 x.u) ∧ w.cell? (a.add (i * 6 + 5)) = some (.int .i64 x.n) := by
      intro i hin
      obtain ⟨ys, q, _, _, _, hfl⟩ := hi i (by omega)
      obtain ⟨v0, y0, c0, _, t0⟩ := hfl 0 _ rfl
      obtain ⟨v1, y1, c1, _, t1⟩ := hfl 1 _ rfl
      obtain ⟨v2, y2, c2, _, t2⟩ := hfl 2 _ rfl
      obtain ⟨v3, y3, c3, _, t3⟩ := hfl 3 _ rfl
      obtain ⟨v4, y4, c4, _, t4⟩ := hfl 4 _ rfl
      obtain ⟨v5, y5, c5, _, t5⟩ := hfl 5 _ rfl
      obtain ⟨x0, e0, _, w0⟩ := DataW.trod_int Tryz.underlying5 t0
      obtain ⟨x1, e1, _, w1⟩ := DataW.trod_int Tryz.underlying3 t1
      obtain ⟨x2, e2, _, w2⟩ := DataW.trod_int Tryz.underlying3 t2
      obtain ⟨x3, e3, _, w3⟩ := DataW.trod_int Tryz.underlying3 t3
      obtain ⟨x4, e4, _, w4⟩ := DataW.trod_int Tryz.underlying3 t4
      obtain ⟨x5, e5, _, w5⟩ := DataW.trod_int Tryz.underlying3 t5
      simp at e0 e1 e2 e3 e4 e5
      subst e0 e1 e2 e3 e4 e5
      exact ⟨⟨x0, x1, x2, x3, x4, x5⟩, ⟨bounds_u8 w0, bounds_i64 w1, bounds_i64 w2, bounds_i64 w3, bounds_i64 w4, bounds_i64 w5⟩, c0, c1, c2, c3, c4, c5⟩
    have each' : ∃ g : Nat → Ev6, ∀ i, i < n → BdY1 (g i) ∧ w.cell? (a.add (i * 6)) = some (.int .u8 (g i).d) ∧ w.cell? (a.add (i * 6 + 1)) = some (.int .i64 (g i).t) ∧ w.cell? (a.add (i * 6 + 2)) = some (.int .i64 (g i).h) ∧ w.cell? (a.add (i * 6 + 3)) = some (.int .i64 (g i).r) ∧ w.cell? (a.add (i * 6 + 4)) = some (.int .i64 (g i).u) ∧ w.cell? (a.add (i * 6 + 5)) = some (.int .i64 (g i).n) := by
      refine ⟨fun i => if hi : i < n then Classical.choose (each i hi) else ⟨0, 0, 0, 0, 0, 0⟩, fun i hi => ?_⟩
      simp only [dif_pos hi]
      exact Classical.choose_spec (each i hi)
    obtain ⟨g, hg⟩ := each'
    refine ⟨some a, n, c, (List.range n).map g, rfl, by simp, by omega, ?_, ?_, fun h => (by cases h)⟩
    · intro k x hk
      have hkn : k < n := by have := (List.getElem?_eq_some_iff.1 hk).1; simpa using this
      rw [List.getElem?_map, List.getElem?_range hkn] at hk
      simp only [Option.map_some, Option.some.injEq] at hk
      subst hk
      obtain ⟨b, o, s⟩ := a
      obtain ⟨_, z0, _⟩ := hg 0 (by omega)
      have hs : s = none := spot_none (a := ⟨b, o, s⟩) (by simpa [Addr.add] using z0)
      subst hs
      obtain ⟨_, k0, k1, k2, k3, k4, k5⟩ := hg k hkn
      refine ⟨b, o, rfl, ?_⟩
      rw [addr_lit] at k0 k1 k2 k3 k4 k5
      exact ⟨k0, k1, k2, k3, k4, k5⟩
    · intro x hx
      rw [List.mem_map] at hx
      obtain ⟨i, hi, rfl⟩ := hx
      exact (hg i (List.mem_range.1 hi)).1
end
end Po
end Go.Proofs.YtdkkpaofodicjaaGreat
