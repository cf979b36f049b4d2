/- Arguments of the laws of layer 13: a list of ints; a list of events. No conditions beside those of each lemma. -/
import Derived.Test.YtjocbmoelkobaaaLtS
import Derived.OpenShut
import Derived.Deep.Slices
import Derived.Deep.Fields
import Derived.ChangeSame
namespace Go.Proofs.Ytjocbmoelkobaaa
open Go.RowKit Go.Sort Go.ChangeShapes Go.WideShapes Go.Deep
set_option linter.unusedVariables false
set_option linter.unusedSimpArgs false
namespace Dm
section
variable {H : Type} {enc : TypeId × Value → H} {w : World} {base b0 : Nat} {spare : Nat → Bool} {held : Bool} {r : Reach}
def BdI (l : List Int) : Prop := ∀ k, k < l.length → -9223372036854775808 ≤ l.getD k 0 ∧ l.getD k 0 ≤ 9223372036854775807
set_option maxRecDepth 100000 in
theorem open_ints {v : Value} {d : DataW H} {p : List MemPlace} (hv : Value.okWide Try.prog w r b0 57 v) (h : DataW.Trod enc Try.prog w base spare held 57 v d p) :
    ∃ (A : Option Addr) (n c : Nat) (l : List Int), v = .slice A n c ∧ l.length = n ∧ n ≤ maxLen ∧ RdK .i64 w A l ∧ BdI l ∧ (A = none → c = 0) := by
  obtain ⟨A, n, c, rfl⟩ := okWide_slice Try.underlying57 hv
  obtain ⟨fuel, hf⟩ := h
  obtain ⟨A', n', c', l, e, h1, h2, h3, h4, h5⟩ := open_nums Try.underlying57 Try.underlying3 (by kernel_rfl) (by simpa [Value.cells] using hf)
  exact ⟨A', n', c', l, e, h1, h2, h3, fun k hk => bounds_i64 (h4 k hk), h5⟩
end
end Dm
namespace Lt
open Dm (addr_lit spot_none)
open Wd (open_slice_fields)
def I64 (x : Int) : Prop := -9223372036854775808 ≤ x ∧ x ≤ 9223372036854775807
/-- an event: what is done, the operation, thread, address, tries -/
structure Ev where
  d : Int
  k : Int
  t : Int
  a : Int
  m : Int
/-- the cells of an event at ⟨b, o⟩ -/
structure E5 (w : World) (b o : Nat) (x : Ev) : Prop where
  c0 : w.cell? ⟨b, o, none⟩ = some (.int .u8 x.d)
  c1 : w.cell? ⟨b, o + 1, none⟩ = some (.int .i64 x.k)
  c2 : w.cell? ⟨b, o + 2, none⟩ = some (.int .i64 x.t)
  c3 : w.cell? ⟨b, o + 3, none⟩ = some (.int .i64 x.a)
  c4 : w.cell? ⟨b, o + 4, none⟩ = some (.int .i64 x.m)
theorem E5.keep {w w' : World} {b o : Nat} {x : Ev} (h : E5 w b o x) (hb : w'.heap[b]? = w.heap[b]?) : E5 w' b o x := by
  have k : ∀ j, w'.cell? ⟨b, j, none⟩ = w.cell? ⟨b, j, none⟩ := fun j => World.cell?_of_block (a := ⟨b, j, none⟩) hb
  exact ⟨(k _).trans h.c0, (k _).trans h.c1, (k _).trans h.c2, (k _).trans h.c3, (k _).trans h.c4⟩
theorem E5.lt {w : World} {b o : Nat} {x : Ev} (h : E5 w b o x) : b < w.heap.size := World.block_lt_of_cell? w _ h.c0
/-- from the address A on lie the events l -/
def RdE (w : World) (A : Option Addr) (l : List Ev) : Prop := ∀ (i : Nat) (x : Ev), l[i]? = some x → ∃ b o, A = some ⟨b, o, none⟩ ∧ E5 w b (o + i * 5) x
structure BdE1 (x : Ev) : Prop where
  d0 : 0 ≤ x.d
  d1 : x.d ≤ 255
  k : I64 x.k
  t : I64 x.t
  a : I64 x.a
  m : I64 x.m
def BdE (l : List Ev) : Prop := ∀ x, x ∈ l → BdE1 x
theorem cellsOf_ev : Try.prog.cellsOf 34 = 5 := by kernel_rfl
section
variable {H : Type} {enc : TypeId × Value → H} {w : World} {base b0 : Nat} {spare : Nat → Bool} {held : Bool} {r : Reach}
set_option maxRecDepth 100000 in
theorem open_evs {v : Value} {d : DataW H} {p : List MemPlace} (hv : Value.okWide Try.prog w r b0 23 v) (h : DataW.Trod enc Try.prog w base spare held 23 v d p) :
    ∃ (A : Option Addr) (n c : Nat) (l : List Ev), v = .slice A n c ∧ l.length = n ∧ n ≤ maxLen ∧ RdE w A l ∧ BdE l ∧ (A = none → c = 0) := by
  obtain ⟨A, n, c, rfl⟩ := okWide_slice Try.underlying23 hv
  obtain ⟨fuel, hf⟩ := h
  rcases open_slice_fields Try.underlying23 Try.underlying34 (by kernel_rfl) cellsOf_ev hf with ⟨hcs, hx⟩ | ⟨a, len, cap, m, D, Pl, hcs, hb, hl, hm, hmm, hx, hi⟩
  · simp [Value.cells] at hcs
    obtain ⟨rfl, rfl, rfl⟩ := hcs
    exact ⟨none, 0, 0, [], rfl, rfl, Nat.zero_le _, fun k x hk => by simp at hk, fun x hx => (by cases hx), fun _ => rfl⟩
  · simp [Value.cells] at hcs
    obtain ⟨rfl, rfl, rfl⟩ := hcs
    have hlm : n ≤ m := by rw [hmm]; split <;> omega
    have each : ∀ i, i < n → ∃ x : Ev, BdE1 x ∧ w.cell? (a.add (i * 5)) = some (.int .u8 x.d) ∧ w.cell? (a.add (i * 5 + 1)) = some (.int .i64 x.k) ∧ w.cell? (a.add (i * 5 + 2)) = some (.int .i64 x.t) ∧ w.cell? (a.add (i * 5 + 3)) = some (.int .i64 x.a) ∧ w.cell? (a.add (i * 5 + 4)) = some (.int .i64 x.m) := by
      intro i hin
      obtain ⟨ys, q, _, _, _, hfl⟩ := hi i (by omega)
      obtain ⟨v0, y0, c0, _, t0⟩ := hfl 0 _ rfl
      obtain ⟨v1, y1, c1, _, t1⟩ := hfl 1 _ rfl
      obtain ⟨v2, y2, c2, _, t2⟩ := hfl 2 _ rfl
      obtain ⟨v3, y3, c3, _, t3⟩ := hfl 3 _ rfl
      obtain ⟨v4, y4, c4, _, t4⟩ := hfl 4 _ rfl
      obtain ⟨x0, e0, _, w0⟩ := DataW.trod_int Try.underlying5 t0
      obtain ⟨x1, e1, _, w1⟩ := DataW.trod_int Try.underlying3 t1
      obtain ⟨x2, e2, _, w2⟩ := DataW.trod_int Try.underlying3 t2
      obtain ⟨x3, e3, _, w3⟩ := DataW.trod_int Try.underlying3 t3
      obtain ⟨x4, e4, _, w4⟩ := DataW.trod_int Try.underlying3 t4
      simp at e0 e1 e2 e3 e4
      subst e0 e1 e2 e3 e4
      exact ⟨⟨x0, x1, x2, x3, x4⟩, ⟨(bounds_u8 w0).1, (bounds_u8 w0).2, bounds_i64 w1, bounds_i64 w2, bounds_i64 w3, bounds_i64 w4⟩, c0, c1, c2, c3, c4⟩
    have each' : ∃ g : Nat → Ev, ∀ i, i < n → BdE1 (g i) ∧ w.cell? (a.add (i * 5)) = some (.int .u8 (g i).d) ∧ w.cell? (a.add (i * 5 + 1)) = some (.int .i64 (g i).k) ∧ w.cell? (a.add (i * 5 + 2)) = some (.int .i64 (g i).t) ∧ w.cell? (a.add (i * 5 + 3)) = some (.int .i64 (g i).a) ∧ w.cell? (a.add (i * 5 + 4)) = some (.int .i64 (g i).m) := by
      refine ⟨fun i => if hi : i < n then Classical.choose (each i hi) else ⟨0, 0, 0, 0, 0⟩, fun i hi => ?_⟩
      simp only [dif_pos hi]
      exact Classical.choose_spec (each i hi)
    obtain ⟨g, hg⟩ := each'
    refine ⟨some a, n, c, (List.range n).map g, rfl, by simp, by omega, ?_, ?_, fun h => (by cases h)⟩
    · intro k x hk
      have hkn : k < n := by have := (List.getElem?_eq_some_iff.1 hk).1; simpa using this
      rw [List.getElem?_map, List.getElem?_range hkn] at hk
      simp only [Option.map_some, Option.some.injEq] at hk
      subst hk
      obtain ⟨b, o, s⟩ := a
      obtain ⟨_, z0, _⟩ := hg 0 (by omega)
      have hs : s = none := spot_none (a := ⟨b, o, s⟩) (by simpa [Addr.add] using z0)
      subst hs
      obtain ⟨_, k0, k1, k2, k3, k4⟩ := hg k hkn
      refine ⟨b, o, rfl, ?_⟩
      rw [addr_lit] at k0 k1 k2 k3 k4
      exact ⟨k0, k1, k2, k3, k4⟩
    · intro x hx
      rw [List.mem_map] at hx
      obtain ⟨i, hi, rfl⟩ := hx
      exact (hg i (List.mem_range.1 hi)).1
end
end Lt
end Go.Proofs.Ytjocbmoelkobaaa
