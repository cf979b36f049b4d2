/- Arguments of the laws of layer 15: arrays of six and of two small values, lists of stores, lists of cells. No conditions beside those of each lemma. (Written by tools/mk15o.py.) -/
import Derived.Test.YtjcbjbhlclajnaaTwG
import Derived.Test.YtjcbjbhlclajnaaTwH
import Derived.OpenShut
import Derived.Deep.Slices
import Derived.Deep.Fields
import Derived.ChangeSame
namespace Go.Proofs.Ytjcbjbhlclajnaa
open Go.RowKit Go.Sort Go.ChangeShapes Go.WideShapes Go.Deep
set_option linter.unusedVariables false
set_option linter.unusedSimpArgs false
namespace Tw
open Dm (addr_lit spot_none)
open Ly (I64 Kd)
section
variable {H : Type} {enc : TypeId × Value → H} {P : Program} {w : World} {base : Nat} {spare : Nat → Bool} {held : Bool}
theorem open_slice_fields {t e : TypeId} {fs : Array Field} {fuel : Nat} {cs : List Value} {x : DataW H × List MemPlace} (ht : P.underlying t = some (.slice e)) (he : P.underlying e = some (.struct fs))
    (hone : oneCellFields P fs = true) (hC : P.cellsOf e = fs.size) (h : DataW.trod enc P w base spare held fuel t cs = some x) :
    (cs = [.slice none 0 0] ∧ x = (.nil, [])) ∨
    ∃ (a : Addr) (len cap m : Nat) (D : Nat → DataW H) (Pl : Nat → List MemPlace), cs = [.slice (some a) len cap] ∧ base ≤ a.block ∧ len ≤ cap ∧ cap ≤ maxLen ∧ m = (if spare a.block then cap else len) ∧
      x = (.slice ((List.range len).map D) ((List.range (m - len)).map fun j => D (len + j)), MemPlace.row a (m * fs.size) ++ (List.range m).flatMap Pl) ∧
      ∀ i, i < m → ∃ (ys : List (DataW H × List MemPlace)) (n : Nat), D i = .agg (ys.map (·.1)) ∧ Pl i = ys.flatMap (·.2) ∧ ys.length = fs.size ∧
        ∀ (j : Nat) (f : Field), fs[j]? = some f → ∃ (v : Value) (y : DataW H × List MemPlace), w.cell? (a.add (i * fs.size + j)) = some v ∧ ys[j]? = some y ∧ DataW.trod enc P w base spare held n f.type [v] = some y := by
  rcases open_slice ht h with h0 | ⟨a, len, cap, m, n, D, Pl, hcs, hb, hl, hm, hmm, hx, hi⟩
  · exact .inl h0
  · refine .inr ⟨a, len, cap, m, D, Pl, hcs, hb, hl, hm, hmm, by rw [hC] at hx; exact hx, fun i him => ?_⟩
    obtain ⟨cs', hc, ht'⟩ := hi i him
    rw [hC] at hc
    obtain ⟨ys, n', hn', hy, hlen, hyl, hf⟩ := DataW.trod_struct he ht'
    obtain ⟨_, hcl, hat⟩ := World.cells?_some hc
    simp only [Prod.mk.injEq] at hy
    refine ⟨ys, n', hy.1, hy.2, hyl, fun j f hj => ?_⟩
    obtain ⟨ho, hk⟩ := hone_of hone j f hj
    have hjl : j < fs.size := (Array.getElem?_eq_some_iff.1 hj).1
    have hcell := hat j hjl
    have hv : cs'[j]? = some (cs'[j]'(by omega)) := List.getElem?_eq_getElem (by omega)
    have h1 := hf j f hj
    rw [ho, hk] at h1
    have hone' : (cs'.drop j).take 1 = [cs'[j]'(by omega)] := by
      rw [List.drop_eq_getElem_cons (by omega)]
      rfl
    rw [hone'] at h1
    have hys : ys[j]? = some (ys[j]'(by omega)) := List.getElem?_eq_getElem (by omega)
    refine ⟨_, _, ?_, hys, h1.trans hys⟩
    rw [← Go.Deep.add_add, hcell, hv]
end
theorem u8_bd {x : Int} (h : (Lit.int .u8 x).wf = true) : 0 ≤ x ∧ x ≤ 255 := by
  have h1 : IntKind.u8.min = 0 := by decide
  have h2 : IntKind.u8.max = 255 := by decide
  simp [Lit.wf, h1, h2] at h
  exact h
theorem i64_bd {x : Int} (h : (Lit.int .i64 x).wf = true) : I64 x := by
  have h1 : IntKind.i64.min = -9223372036854775808 := by decide
  have h2 : IntKind.i64.max = 9223372036854775807 := by decide
  simp [Lit.wf, h1, h2] at h
  exact h
theorem u64_bd {x : Int} (h : (Lit.int .u64 x).wf = true) : 0 ≤ x ∧ x ≤ 18446744073709551615 := by
  have h1 : IntKind.u64.min = 0 := by decide
  have h2 : IntKind.u64.max = 18446744073709551615 := by decide
  simp [Lit.wf, h1, h2] at h
  exact h
def two8 (t : Nat → Int) : Array Value := #[.int .u8 (t 0), .int .u8 (t 1)]
def twoB (t : Nat → Bool) : Array Value := #[.bool (t 0), .bool (t 1)]
theorem cellsOf_six8 : Try.prog.cellsOf 82 = 6 := by kernel_rfl
theorem cellsOf_six8e : Try.prog.cellsOf 5 = 1 := by kernel_rfl
section
variable {H : Type} {enc : TypeId × Value → H} {w : World} {base b0 : Nat} {spare : Nat → Bool} {held : Bool} {r : Reach}
set_option maxRecDepth 100000 in
theorem open_six8 {v : Value} {d : DataW H} {p : List MemPlace} (hv : Value.okWide Try.prog w r b0 82 v) (h : DataW.Trod enc Try.prog w base spare held 82 v d p) : ∃ t : Nat → Int, v = .agg (six8 t) ∧ ∀ i, i < 6 → 0 ≤ t i ∧ t i ≤ 255 := by
  obtain ⟨cs, rfl, hsz⟩ : ∃ cs, v = .agg cs ∧ cs.size = 6 := by
    simp only [Value.okWide, Try.underlying82] at hv
    obtain ⟨cs, h1, h2, _⟩ := hv
    exact ⟨cs, h1, by rw [h2]; exact cellsOf_six8⟩
  obtain ⟨fuel, hf⟩ := h
  obtain ⟨us, m, _, _, _, hl2, hat⟩ := DataW.trod_array Try.underlying82 hf
  rw [cellsOf_six8e] at hat
  have each : ∀ i, i < 6 → ∃ x : Int, cs[i]? = some (.int .u8 x) ∧ 0 ≤ x ∧ x ≤ 255 := fun i hi => by
    have h1 := hat i hi
    have hne : us[i]? = some us[i] := List.getElem?_eq_getElem (by omega)
    rw [hne] at h1
    obtain ⟨x, e, _, wf⟩ := DataW.trod_int Try.underlying5 h1
    refine ⟨x, ?_, u8_bd wf⟩
    have e2 : (cs.toList.drop (i * 1)).take 1 = [.int .u8 x] := by simpa [Value.cells] using e
    have e3 : ((cs.toList.drop (i * 1)).take 1)[0]? = some (.int .u8 x) := by rw [e2]; rfl
    rw [List.getElem?_take, if_pos (by omega), List.getElem?_drop, Nat.mul_one, Nat.add_zero, Array.getElem?_toList] at e3
    exact e3
  obtain ⟨x0, e0, b0⟩ := each 0 (by omega)
  obtain ⟨x1, e1, b1⟩ := each 1 (by omega)
  obtain ⟨x2, e2, b2⟩ := each 2 (by omega)
  obtain ⟨x3, e3, b3⟩ := each 3 (by omega)
  obtain ⟨x4, e4, b4⟩ := each 4 (by omega)
  obtain ⟨x5, e5, b5⟩ := each 5 (by omega)
  refine ⟨fun i => [x0, x1, x2, x3, x4, x5].getD i 0, ?_, fun i hi => ?_⟩
  · congr 1
    apply Array.ext_getElem?
    intro i
    unfold six8
    by_cases h : i < 6
    · match i, h with
      | 0, _ => rw [e0]; rfl
      | 1, _ => rw [e1]; rfl
      | 2, _ => rw [e2]; rfl
      | 3, _ => rw [e3]; rfl
      | 4, _ => rw [e4]; rfl
      | 5, _ => rw [e5]; rfl
    · rw [Array.getElem?_eq_none (by omega), Array.getElem?_eq_none (by simp; omega)]
  · match i, hi with
    | 0, _ => exact b0
    | 1, _ => exact b1
    | 2, _ => exact b2
    | 3, _ => exact b3
    | 4, _ => exact b4
    | 5, _ => exact b5
end
theorem cellsOf_two8 : Try.prog.cellsOf 56 = 2 := by kernel_rfl
theorem cellsOf_two8e : Try.prog.cellsOf 5 = 1 := by kernel_rfl
section
variable {H : Type} {enc : TypeId × Value → H} {w : World} {base b0 : Nat} {spare : Nat → Bool} {held : Bool} {r : Reach}
set_option maxRecDepth 100000 in
theorem open_two8 {v : Value} {d : DataW H} {p : List MemPlace} (hv : Value.okWide Try.prog w r b0 56 v) (h : DataW.Trod enc Try.prog w base spare held 56 v d p) : ∃ t : Nat → Int, v = .agg (two8 t) ∧ ∀ i, i < 2 → 0 ≤ t i ∧ t i ≤ 255 := by
  obtain ⟨cs, rfl, hsz⟩ : ∃ cs, v = .agg cs ∧ cs.size = 2 := by
    simp only [Value.okWide, Try.underlying56] at hv
    obtain ⟨cs, h1, h2, _⟩ := hv
    exact ⟨cs, h1, by rw [h2]; exact cellsOf_two8⟩
  obtain ⟨fuel, hf⟩ := h
  obtain ⟨us, m, _, _, _, hl2, hat⟩ := DataW.trod_array Try.underlying56 hf
  rw [cellsOf_two8e] at hat
  have each : ∀ i, i < 2 → ∃ x : Int, cs[i]? = some (.int .u8 x) ∧ 0 ≤ x ∧ x ≤ 255 := fun i hi => by
    have h1 := hat i hi
    have hne : us[i]? = some us[i] := List.getElem?_eq_getElem (by omega)
    rw [hne] at h1
    obtain ⟨x, e, _, wf⟩ := DataW.trod_int Try.underlying5 h1
    refine ⟨x, ?_, u8_bd wf⟩
    have e2 : (cs.toList.drop (i * 1)).take 1 = [.int .u8 x] := by simpa [Value.cells] using e
    have e3 : ((cs.toList.drop (i * 1)).take 1)[0]? = some (.int .u8 x) := by rw [e2]; rfl
    rw [List.getElem?_take, if_pos (by omega), List.getElem?_drop, Nat.mul_one, Nat.add_zero, Array.getElem?_toList] at e3
    exact e3
  obtain ⟨x0, e0, b0⟩ := each 0 (by omega)
  obtain ⟨x1, e1, b1⟩ := each 1 (by omega)
  refine ⟨fun i => [x0, x1].getD i 0, ?_, fun i hi => ?_⟩
  · congr 1
    apply Array.ext_getElem?
    intro i
    unfold two8
    by_cases h : i < 2
    · match i, h with
      | 0, _ => rw [e0]; rfl
      | 1, _ => rw [e1]; rfl
    · rw [Array.getElem?_eq_none (by omega), Array.getElem?_eq_none (by simp; omega)]
  · match i, hi with
    | 0, _ => exact b0
    | 1, _ => exact b1
end
theorem cellsOf_twoB : Try.prog.cellsOf 57 = 2 := by kernel_rfl
theorem cellsOf_twoBe : Try.prog.cellsOf 4 = 1 := by kernel_rfl
section
variable {H : Type} {enc : TypeId × Value → H} {w : World} {base b0 : Nat} {spare : Nat → Bool} {held : Bool} {r : Reach}
set_option maxRecDepth 100000 in
theorem open_twoB {v : Value} {d : DataW H} {p : List MemPlace} (hv : Value.okWide Try.prog w r b0 57 v) (h : DataW.Trod enc Try.prog w base spare held 57 v d p) : ∃ t : Nat → Bool, v = .agg (twoB t) := by
  obtain ⟨cs, rfl, hsz⟩ : ∃ cs, v = .agg cs ∧ cs.size = 2 := by
    simp only [Value.okWide, Try.underlying57] at hv
    obtain ⟨cs, h1, h2, _⟩ := hv
    exact ⟨cs, h1, by rw [h2]; exact cellsOf_twoB⟩
  obtain ⟨fuel, hf⟩ := h
  obtain ⟨us, m, _, _, _, hl2, hat⟩ := DataW.trod_array Try.underlying57 hf
  rw [cellsOf_twoBe] at hat
  have each : ∀ i, i < 2 → ∃ x : Bool, cs[i]? = some (.bool x) := fun i hi => by
    have h1 := hat i hi
    have hne : us[i]? = some us[i] := List.getElem?_eq_getElem (by omega)
    rw [hne] at h1
    obtain ⟨x, e, _⟩ := DataW.trod_bool Try.underlying4 h1
    refine ⟨x, ?_⟩
    have e2 : (cs.toList.drop (i * 1)).take 1 = [.bool x] := by simpa [Value.cells] using e
    have e3 : ((cs.toList.drop (i * 1)).take 1)[0]? = some (.bool x) := by rw [e2]; rfl
    rw [List.getElem?_take, if_pos (by omega), List.getElem?_drop, Nat.mul_one, Nat.add_zero, Array.getElem?_toList] at e3
    exact e3
  obtain ⟨x0, e0⟩ := each 0 (by omega)
  obtain ⟨x1, e1⟩ := each 1 (by omega)
  refine ⟨fun i => [x0, x1].getD i false, ?_⟩
  · congr 1
    apply Array.ext_getElem?
    intro i
    unfold twoB
    by_cases h : i < 2
    · match i, h with
      | 0, _ => rw [e0]; rfl
      | 1, _ => rw [e1]; rfl
    · rw [Array.getElem?_eq_none (by omega), Array.getElem?_eq_none (by simp; omega)]
end
def RdT (w : World) (A : Option Addr) (l : List Pt) : Prop := KT.Rd w A l
theorem cellsOf_puts : Try.prog.cellsOf 166 = 2 := by kernel_rfl
section
variable {H : Type} {enc : TypeId × Value → H} {w : World} {base b0 : Nat} {spare : Nat → Bool} {held : Bool} {r : Reach}
set_option maxRecDepth 100000 in
theorem open_puts {v : Value} {d : DataW H} {p : List MemPlace} (hv : Value.okWide Try.prog w r b0 91 v) (h : DataW.Trod enc Try.prog w base spare held 91 v d p) :
    ∃ (A : Option Addr) (n c : Nat) (l : List Pt), v = .slice A n c ∧ l.length = n ∧ n ≤ maxLen ∧ RdT w A l ∧ BdT l ∧ (A = none → c = 0) := by
  obtain ⟨A, n, c, rfl⟩ := okWide_slice Try.underlying91 hv
  obtain ⟨fuel, hf⟩ := h
  rcases open_slice_fields Try.underlying91 Try.underlying166 (by kernel_rfl) cellsOf_puts hf with ⟨hcs, hx⟩ | ⟨a, len, cap, m, D, Pl, hcs, hb, hl, hm, hmm, hx, hi⟩
  · simp [Value.cells] at hcs
    obtain ⟨rfl, rfl, rfl⟩ := hcs
    exact ⟨none, 0, 0, [], rfl, rfl, Nat.zero_le _, fun k x hk => (by simp at hk), fun x hx => (by cases hx), fun _ => rfl⟩
  · simp [Value.cells] at hcs
    obtain ⟨rfl, rfl, rfl⟩ := hcs
    have hlm : n ≤ m := by rw [hmm]; split <;> omega
    have each : ∀ i, i < n → ∃ x : Pt, (I64 x.1 ∧ 0 ≤ x.2 ∧ x.2 ≤ 18446744073709551615) ∧ w.cell? (a.add (i * 2)) = some (.int .i64 x.1) ∧ w.cell? (a.add (i * 2 + 1)) = some (.int .u64 x.2) := by
      intro i hin
      obtain ⟨ys, q, _, _, _, hfl⟩ := hi i (by omega)
      obtain ⟨v0, y0, c0, _, t0⟩ := hfl 0 _ rfl
      obtain ⟨v1, y1, c1, _, t1⟩ := hfl 1 _ rfl
      obtain ⟨x0, e0, _, w0⟩ := DataW.trod_int Try.underlying3 t0
      obtain ⟨x1, e1, _, w1⟩ := DataW.trod_int Try.underlying27 t1
      simp at e0 e1
      subst e0 e1
      exact ⟨(x0, x1), ⟨i64_bd w0, u64_bd w1⟩, c0, c1⟩
    have each' : ∃ g : Nat → Pt, ∀ i, i < n → (I64 (g i).1 ∧ 0 ≤ (g i).2 ∧ (g i).2 ≤ 18446744073709551615) ∧ w.cell? (a.add (i * 2)) = some (.int .i64 (g i).1) ∧ w.cell? (a.add (i * 2 + 1)) = some (.int .u64 (g i).2) := by
      refine ⟨fun i => if hi : i < n then Classical.choose (each i hi) else (0, 0), fun i hi => ?_⟩
      simp only [dif_pos hi]
      exact Classical.choose_spec (each i hi)
    obtain ⟨g, hg⟩ := each'
    refine ⟨some a, n, c, (List.range n).map g, rfl, by simp, by omega, ?_, ?_, fun h => (by cases h)⟩
    · intro k x hk
      have hkn : k < n := by have := (List.getElem?_eq_some_iff.1 hk).1; simpa using this
      rw [List.getElem?_map, List.getElem?_range hkn] at hk
      simp only [Option.map_some, Option.some.injEq] at hk
      subst hk
      obtain ⟨b, o, s⟩ := a
      obtain ⟨_, z0, _⟩ := hg 0 (by omega)
      have hs : s = none := spot_none (a := ⟨b, o, s⟩) (by simpa [Addr.add] using z0)
      subst hs
      obtain ⟨_, k0, k1⟩ := hg k hkn
      refine ⟨b, o, rfl, fun j u hj => ?_⟩
      rw [addr_lit] at k0 k1
      match j, hj with
      | 0, hj => cases hj; exact k0
      | 1, hj => cases hj; exact k1
      | j + 2, hj => simp [KT] at hj
    · intro x hx
      rw [List.mem_map] at hx
      obtain ⟨i, hi, rfl⟩ := hx
      exact (hg i (List.mem_range.1 hi)).1
end
/-- a cell: value, alternative value, kind, entry, generation -/
structure Cl where
  v : Int
  a : Int
  k : Int
  e : Int
  g : Int
structure BdC1 (x : Cl) : Prop where
  v : 0 ≤ x.v ∧ x.v ≤ 18446744073709551615
  a : 0 ≤ x.a ∧ x.a ≤ 18446744073709551615
  k : 0 ≤ x.k ∧ x.k ≤ 255
  e : 0 ≤ x.e ∧ x.e ≤ 255
  g : 0 ≤ x.g ∧ x.g ≤ 255
def BdC (l : List Cl) : Prop := ∀ x, x ∈ l → BdC1 x
def KL : Kd Cl where
  E := 75
  S := 55
  sz := 5
  bt := 24
  enc := fun x => [.int .u64 x.v, .int .u64 x.a, .int .u8 x.k, .int .u8 x.e, .int .u8 x.g]
  len := fun _ => rfl
  pos := by decide
  bpos := by decide
  one := fun x u hu => by simp at hu; rcases hu with rfl | rfl | rfl | rfl | rfl <;> rfl
  und := Try.underlying55
  info := Ly.info_parts (z := .agg #[.int .u64 0, .int .u64 0, .int .u8 0, .int .u8 0, .int .u8 0]) (by kernel_rfl) rfl
def RdC (w : World) (A : Option Addr) (l : List Cl) : Prop := KL.Rd w A l
theorem cellsOf_cells : Try.prog.cellsOf 75 = 5 := by kernel_rfl
section
variable {H : Type} {enc : TypeId × Value → H} {w : World} {base b0 : Nat} {spare : Nat → Bool} {held : Bool} {r : Reach}
set_option maxRecDepth 100000 in
theorem open_cells {v : Value} {d : DataW H} {p : List MemPlace} (hv : Value.okWide Try.prog w r b0 55 v) (h : DataW.Trod enc Try.prog w base spare held 55 v d p) :
    ∃ (A : Option Addr) (n c : Nat) (l : List Cl), v = .slice A n c ∧ l.length = n ∧ n ≤ maxLen ∧ RdC w A l ∧ BdC l ∧ (A = none → c = 0) := by
  obtain ⟨A, n, c, rfl⟩ := okWide_slice Try.underlying55 hv
  obtain ⟨fuel, hf⟩ := h
  rcases open_slice_fields Try.underlying55 Try.underlying75 (by kernel_rfl) cellsOf_cells hf with ⟨hcs, hx⟩ | ⟨a, len, cap, m, D, Pl, hcs, hb, hl, hm, hmm, hx, hi⟩
  · simp [Value.cells] at hcs
    obtain ⟨rfl, rfl, rfl⟩ := hcs
    exact ⟨none, 0, 0, [], rfl, rfl, Nat.zero_le _, fun k x hk => (by simp at hk), fun x hx => (by cases hx), fun _ => rfl⟩
  · simp [Value.cells] at hcs
    obtain ⟨rfl, rfl, rfl⟩ := hcs
    have hlm : n ≤ m := by rw [hmm]; split <;> omega
    have each : ∀ i, i < n → ∃ x : Cl, BdC1 x ∧ w.cell? (a.add (i * 5)) = some (.int .u64 x.v) ∧ w.cell? (a.add (i * 5 + 1)) = some (.int .u64 x.a) ∧ w.cell? (a.add (i * 5 + 2)) = some (.int .u8 x.k) ∧ w.cell? (a.add (i * 5 + 3)) = some (.int .u8 x.e) ∧ w.cell? (a.add (i * 5 + 4)) = some (.int .u8 x.g) := by
      intro i hin
      obtain ⟨ys, q, _, _, _, hfl⟩ := hi i (by omega)
      obtain ⟨v0, y0, c0, _, t0⟩ := hfl 0 _ rfl
      obtain ⟨v1, y1, c1, _, t1⟩ := hfl 1 _ rfl
      obtain ⟨v2, y2, c2, _, t2⟩ := hfl 2 _ rfl
      obtain ⟨v3, y3, c3, _, t3⟩ := hfl 3 _ rfl
      obtain ⟨v4, y4, c4, _, t4⟩ := hfl 4 _ rfl
      obtain ⟨x0, e0, _, w0⟩ := DataW.trod_int Try.underlying27 t0
      obtain ⟨x1, e1, _, w1⟩ := DataW.trod_int Try.underlying27 t1
      obtain ⟨x2, e2, _, w2⟩ := DataW.trod_int Try.underlying5 t2
      obtain ⟨x3, e3, _, w3⟩ := DataW.trod_int Try.underlying5 t3
      obtain ⟨x4, e4, _, w4⟩ := DataW.trod_int Try.underlying5 t4
      simp at e0 e1 e2 e3 e4
      subst e0 e1 e2 e3 e4
      exact ⟨⟨x0, x1, x2, x3, x4⟩, ⟨u64_bd w0, u64_bd w1, u8_bd w2, u8_bd w3, u8_bd w4⟩, c0, c1, c2, c3, c4⟩
    have each' : ∃ g : Nat → Cl, ∀ i, i < n → BdC1 (g i) ∧ w.cell? (a.add (i * 5)) = some (.int .u64 (g i).v) ∧ w.cell? (a.add (i * 5 + 1)) = some (.int .u64 (g i).a) ∧ w.cell? (a.add (i * 5 + 2)) = some (.int .u8 (g i).k) ∧ w.cell? (a.add (i * 5 + 3)) = some (.int .u8 (g i).e) ∧ w.cell? (a.add (i * 5 + 4)) = some (.int .u8 (g i).g) := by
      refine ⟨fun i => if hi : i < n then Classical.choose (each i hi) else ⟨0, 0, 0, 0, 0⟩, fun i hi => ?_⟩
      simp only [dif_pos hi]
      exact Classical.choose_spec (each i hi)
    obtain ⟨g, hg⟩ := each'
    refine ⟨some a, n, c, (List.range n).map g, rfl, by simp, by omega, ?_, ?_, fun h => (by cases h)⟩
    · intro k x hk
      have hkn : k < n := by have := (List.getElem?_eq_some_iff.1 hk).1; simpa using this
      rw [List.getElem?_map, List.getElem?_range hkn] at hk
      simp only [Option.map_some, Option.some.injEq] at hk
      subst hk
      obtain ⟨b, o, s⟩ := a
      obtain ⟨_, z0, _⟩ := hg 0 (by omega)
      have hs : s = none := spot_none (a := ⟨b, o, s⟩) (by simpa [Addr.add] using z0)
      subst hs
      obtain ⟨_, k0, k1, k2, k3, k4⟩ := hg k hkn
      refine ⟨b, o, rfl, fun j u hj => ?_⟩
      rw [addr_lit] at k0 k1 k2 k3 k4
      match j, hj with
      | 0, hj => cases hj; exact k0
      | 1, hj => cases hj; exact k1
      | 2, hj => cases hj; exact k2
      | 3, hj => cases hj; exact k3
      | 4, hj => cases hj; exact k4
      | j + 5, hj => simp [KL] at hj
    · intro x hx
      rw [List.mem_map] at hx
      obtain ⟨i, hi, rfl⟩ := hx
      exact (hg i (List.mem_range.1 hi)).1
end
end Tw
end Go.Proofs.Ytjcbjbhlclajnaa
