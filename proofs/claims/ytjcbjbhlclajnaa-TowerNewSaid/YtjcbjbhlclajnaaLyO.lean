/- Configurations: as mathematics, in memory, and as arguments. No conditions beside those of each lemma. -/
import Derived.Test.YtjcbjbhlclajnaaDomQ
import Derived.Test.YtjcbjbhlclajnaaLyG
namespace Go.Proofs.Ytjcbjbhlclajnaa
open Go.RowKit Go.Sort Go.ChangeShapes Go.WideShapes Go.Deep Go.Joins
set_option linter.unusedVariables false
set_option linter.unusedSimpArgs false
set_option maxRecDepth 100000
namespace Ly
open Dm (RdK BdU)
def I64 (x : Int) : Prop := -9223372036854775808 ≤ x ∧ x ≤ 9223372036854775807
/-- a configuration as a value: A, m, c are its slice of cuts -/
structure Cf where
  th : Int
  sl : Int
  en : Int
  bu : Int
  k : Int
  n : Int
  A : Option Addr
  m : Nat
  c : Nat
  t : Nat → Int
  lo : Int
  tr : Int
  ba : Int
structure Cf.Bd (f : Cf) (l : List Int) : Prop where
  th : I64 f.th
  sl : I64 f.sl
  en : 0 ≤ f.en ∧ f.en ≤ 255
  bu : I64 f.bu
  k : 0 ≤ f.k ∧ f.k ≤ 255
  n : I64 f.n
  t : ∀ i, i < 6 → I64 (f.t i)
  lo : I64 f.lo
  tr : I64 f.tr
  ba : I64 f.ba
  e : l.length = f.m
  mx : f.m ≤ maxLen
  b : BdU l
  z : f.A = none → f.c = 0
theorem array16 {α : Type} {cs : Array α} (h : cs.size = 16) : ∃ c0 c1 c2 c3 c4 c5 c6 c7 c8 c9 d0 d1 d2 d3 d4 d5, cs = #[c0, c1, c2, c3, c4, c5, c6, c7, c8, c9, d0, d1, d2, d3, d4, d5] := by
  obtain ⟨l⟩ := cs
  match l, h with
  | [c0, c1, c2, c3, c4, c5, c6, c7, c8, c9, d0, d1, d2, d3, d4, d5], _ => exact ⟨c0, c1, c2, c3, c4, c5, c6, c7, c8, c9, d0, d1, d2, d3, d4, d5, rfl⟩
section
variable {H : Type} {enc : TypeId × Value → H} {w : World} {base fuel : Nat} {spare : Nat → Bool} {held : Bool}
theorem one_int {κ : IntKind} {u : TypeId} {v : Value} {cs : List Value} {o : Nat} {y : Option (DataW H × List MemPlace)} (hu : Try.prog.underlying u = some (.int κ)) (hc : Try.prog.cellsOf u = 1) {s' : List Value} (hd : cs.drop o = v :: s') (hy : y ≠ none)
    (h : DataW.trod enc Try.prog w base spare held fuel u ((cs.drop o).take (Try.prog.cellsOf u)) = y) : ∃ x : Int, v = .int κ x ∧ (Lit.int κ x).wf = true := by
  cases y with
  | none => exact absurd rfl hy
  | some y =>
    rw [hc, hd] at h
    obtain ⟨x, e, _, wf⟩ := DataW.trod_int hu (cs := [v]) (by simpa using h)
    simp at e
    exact ⟨x, e, wf⟩
theorem at_take {u : TypeId} {cs : List Value} {o c : Nat} {y : Option (DataW H × List MemPlace)} (hc : Try.prog.cellsOf u = c)
    (h : DataW.trod enc Try.prog w base spare held fuel u ((cs.drop o).take (Try.prog.cellsOf u)) = y) : DataW.trod enc Try.prog w base spare held fuel u ((cs.drop o).take c) = y := by rw [hc] at h; exact h
theorem cells_cfg : Try.prog.cellsOf 87 = 16 := by kernel_rfl
theorem cells_tow : Try.prog.cellsOf 85 = 6 := by kernel_rfl
theorem cells_int : Try.prog.cellsOf 3 = 1 := by kernel_rfl
theorem cells_u8 : Try.prog.cellsOf 5 = 1 := by kernel_rfl
theorem cells_u64s : Try.prog.cellsOf 43 = 1 := by kernel_rfl
theorem get_some {α : Type} {xs : List α} {n i : Nat} (h : xs.length = n) (hi : i < n) : xs[i]? ≠ none := by
  rw [List.getElem?_eq_getElem (by omega)]; simp
/-- an argument that is a configuration -/
theorem open_cfg {b0 : Nat} {r : Reach} {v : Value} {d : DataW H} {p : List MemPlace} (hv : Value.okWide Try.prog w r b0 87 v) (h : DataW.Trod enc Try.prog w base spare held 87 v d p) :
    ∃ (f : Cf) (l : List Int), v = .agg #[.int .i64 f.th, .int .i64 f.sl, .int .u8 f.en, .int .i64 f.bu, .int .u8 f.k, .int .i64 f.n, .slice f.A f.m f.c, .int .i64 (f.t 0), .int .i64 (f.t 1), .int .i64 (f.t 2), .int .i64 (f.t 3), .int .i64 (f.t 4), .int .i64 (f.t 5), .int .i64 f.lo, .int .i64 f.tr, .int .i64 f.ba] ∧ f.Bd l ∧ RdK .u64 w f.A l := by
  obtain ⟨cs, rfl, hsz⟩ := okWide_struct Try.underlying87 hv
  obtain ⟨c0, c1, c2, c3, c4, c5, c6, c7, c8, c9, d0, d1, d2, d3, d4, d5, rfl⟩ := array16 (hsz.trans cells_cfg)
  obtain ⟨fuel, hf⟩ := h
  obtain ⟨xs, n, _, _, _, hlen, hat⟩ := DataW.trod_struct Try.underlying87 hf
  have hlen : xs.length = 9 := hlen
  obtain ⟨th, rfl, w0⟩ := one_int (v := c0) Try.underlying3 cells_int rfl (get_some hlen (by decide)) (hat 0 _ rfl)
  obtain ⟨sl, rfl, w1⟩ := one_int (v := c1) Try.underlying3 cells_int rfl (get_some hlen (by decide)) (hat 1 _ rfl)
  obtain ⟨en, rfl, w2⟩ := one_int (v := c2) Try.underlying5 cells_u8 rfl (get_some hlen (by decide)) (hat 2 _ rfl)
  obtain ⟨bu, rfl, w3⟩ := one_int (v := c3) Try.underlying3 cells_int rfl (get_some hlen (by decide)) (hat 3 _ rfl)
  obtain ⟨lo, rfl, w6⟩ := one_int (v := d3) Try.underlying3 cells_int rfl (get_some hlen (by decide)) (hat 6 _ rfl)
  obtain ⟨tr, rfl, w7⟩ := one_int (v := d4) Try.underlying3 cells_int rfl (get_some hlen (by decide)) (hat 7 _ rfl)
  obtain ⟨ba, rfl, w8⟩ := one_int (v := d5) Try.underlying3 cells_int rfl (get_some hlen (by decide)) (hat 8 _ rfl)
  have h4 := at_take (o := 4) Dm.cellsOf_dom (hat 4 _ rfl)
  have h5 := at_take (o := 7) cells_tow (hat 5 _ rfl)
  obtain ⟨z4, e4⟩ : ∃ z, xs[4]? = some z := ⟨_, List.getElem?_eq_getElem (by omega)⟩
  obtain ⟨z5, e5⟩ : ∃ z, xs[5]? = some z := ⟨_, List.getElem?_eq_getElem (by omega)⟩
  rw [e4] at h4
  rw [e5] at h5
  obtain ⟨ys, n1, _, _, _, hl1, hat1⟩ := DataW.trod_struct Try.underlying84 h4
  have hl1 : ys.length = 3 := hl1
  obtain ⟨k, rfl, v0⟩ := one_int (v := c4) Try.underlying5 cells_u8 rfl (get_some hl1 (by decide)) (hat1 0 _ rfl)
  obtain ⟨n, rfl, v1⟩ := one_int (v := c5) Try.underlying3 cells_int rfl (get_some hl1 (by decide)) (hat1 1 _ rfl)
  have h6 := at_take (o := 2) cells_u64s (hat1 2 _ rfl)
  obtain ⟨z6, e6⟩ : ∃ z, ys[2]? = some z := ⟨_, List.getElem?_eq_getElem (by omega)⟩
  rw [e6] at h6
  obtain ⟨A, m, c, l, e, q1, q2, q3, q4, q5⟩ := Dm.open_nums (v := c6) (κ := .u64) Try.underlying43 Try.underlying27 (by kernel_rfl) h6
  subst e
  obtain ⟨us, n2, _, _, _, hl2, hat2⟩ := DataW.trod_array Try.underlying85 h5
  rw [cells_int] at hat2
  obtain ⟨t0, rfl, x0⟩ := one_int (v := c7) (o := 0) Try.underlying3 cells_int rfl (get_some (i := 0) hl2 (by decide)) (by rw [cells_int]; exact hat2 0 (by decide))
  obtain ⟨t1, rfl, x1⟩ := one_int (v := c8) (o := 1) Try.underlying3 cells_int rfl (get_some (i := 1) hl2 (by decide)) (by rw [cells_int]; exact hat2 1 (by decide))
  obtain ⟨t2, rfl, x2⟩ := one_int (v := c9) (o := 2) Try.underlying3 cells_int rfl (get_some (i := 2) hl2 (by decide)) (by rw [cells_int]; exact hat2 2 (by decide))
  obtain ⟨t3, rfl, x3⟩ := one_int (v := d0) (o := 3) Try.underlying3 cells_int rfl (get_some (i := 3) hl2 (by decide)) (by rw [cells_int]; exact hat2 3 (by decide))
  obtain ⟨t4, rfl, x4⟩ := one_int (v := d1) (o := 4) Try.underlying3 cells_int rfl (get_some (i := 4) hl2 (by decide)) (by rw [cells_int]; exact hat2 4 (by decide))
  obtain ⟨t5, rfl, x5⟩ := one_int (v := d2) (o := 5) Try.underlying3 cells_int rfl (get_some (i := 5) hl2 (by decide)) (by rw [cells_int]; exact hat2 5 (by decide))
  refine ⟨⟨th, sl, en, bu, k, n, A, m, c, fun i => [t0, t1, t2, t3, t4, t5].getD i 0, lo, tr, ba⟩, l, rfl, ⟨bounds_i64 w0, bounds_i64 w1, bounds_u8 w2, bounds_i64 w3, bounds_u8 v0, bounds_i64 v1, fun i hi => ?_, bounds_i64 w6, bounds_i64 w7, bounds_i64 w8, q1, q2, fun j hj => bounds_u64 (q4 j hj), q5⟩, q3⟩
  match i, hi with
  | 0, _ => exact bounds_i64 x0
  | 1, _ => exact bounds_i64 x1
  | 2, _ => exact bounds_i64 x2
  | 3, _ => exact bounds_i64 x3
  | 4, _ => exact bounds_i64 x4
  | 5, _ => exact bounds_i64 x5
end
end Ly
end Go.Proofs.Ytjcbjbhlclajnaa
