/- The argument of three moves: read, and in a box; what three moves one after another give. -/
import Derived.Test.YtbdllakbkienoaaPlLw
import Derived.Test.YtbdllakbkienoaaPlX
namespace Go.Proofs.Ytbdllakbkienoaa
open Go.RowKit Go.Sort Go.ChangeShapes Go.WideShapes Go.Deep Go.ChangeAt Go.Joins
set_option linter.unusedVariables false
set_option linter.unusedSimpArgs false
namespace Pl
open Om (addr_lit bel_alloc bel_trans below_drewN ret_eq Asc)
structure M9 (W : World) (b : Nat) (m0 m1 m2 m3 m4 m5 m6 m7 m8 : Int) : Prop where
  c0 : W.cell? ⟨b, 0, none⟩ = some (.int .u64 m0)
  c1 : W.cell? ⟨b, 1, none⟩ = some (.int .u64 m1)
  c2 : W.cell? ⟨b, 2, none⟩ = some (.int .u64 m2)
  c3 : W.cell? ⟨b, 3, none⟩ = some (.int .u64 m3)
  c4 : W.cell? ⟨b, 4, none⟩ = some (.int .u64 m4)
  c5 : W.cell? ⟨b, 5, none⟩ = some (.int .u64 m5)
  c6 : W.cell? ⟨b, 6, none⟩ = some (.int .u64 m6)
  c7 : W.cell? ⟨b, 7, none⟩ = some (.int .u64 m7)
  c8 : W.cell? ⟨b, 8, none⟩ = some (.int .u64 m8)
theorem M9.below {W W' : World} {b : Nat} {m0 m1 m2 m3 m4 m5 m6 m7 m8 : Int} (h : M9 W b m0 m1 m2 m3 m4 m5 m6 m7 m8) (bl : Below W.heap.size W W') : M9 W' b m0 m1 m2 m3 m4 m5 m6 m7 m8 := by
  have lt := World.block_lt_of_cell? W ⟨b, 0, none⟩ h.c0
  have k : ∀ j, W'.cell? ⟨b, j, none⟩ = W.cell? ⟨b, j, none⟩ := fun j => bl.cell (p := ⟨b, j, none⟩) lt
  exact ⟨(k _).trans h.c0, (k _).trans h.c1, (k _).trans h.c2, (k _).trans h.c3, (k _).trans h.c4, (k _).trans h.c5, (k _).trans h.c6, (k _).trans h.c7, (k _).trans h.c8⟩
theorem M9.made (w : World) (m0 m1 m2 m3 m4 m5 m6 m7 m8 : Int) : M9 (w.alloc (.cells #[.int .u64 m0, .int .u64 m1, .int .u64 m2, .int .u64 m3, .int .u64 m4, .int .u64 m5, .int .u64 m6, .int .u64 m7, .int .u64 m8] 64)) w.heap.size m0 m1 m2 m3 m4 m5 m6 m7 m8 :=
  ⟨by simp, by simp, by simp, by simp, by simp, by simp, by simp, by simp, by simp⟩
/-- what three plans, one computed after the other, give -/
structure Jn (p : List Om.Pr) (A B C AB BC L : List Rc) (P1 P2 P3 : List Om.Pr) : Prop where
  la : A.length ≤ 2 * p.length
  lb : B.length ≤ 2 * p.length
  lc : C.length ≤ 2 * p.length
  l1 : P1.length ≤ p.length
  l2 : P2.length ≤ p.length
  b1 : Om.Bd P1
  b2 : Om.Bd P2
  s0 : apE p [] = 0 ∧ apR p [] = p
  u1 : apE p A = 0 ∧ apR p A = P1
  u2 : apE P1 B = 0 ∧ apR P1 B = P2
  u3 : apE P2 C = 0 ∧ apR P2 C = P3
  t1 : thE A B = 0 ∧ thR A B = AB
  t2 : thE B C = 0 ∧ thR B C = BC
  t3 : thE AB C = 0 ∧ thR AB C = L
  t4 : thE A BC = 0 ∧ thR A BC = L
  v1 : apE p AB = 0 ∧ apR p AB = P2
  v2 : apE p L = 0 ∧ apR p L = P3
theorem joins {p : List Om.Pr} (ha : Asc p) (hb : Om.Bd p) {m0 m1 m2 m3 m4 m5 m6 m7 m8 : Int} (h6 : 0 ≤ m6) (h7 : 0 ≤ m7) (h8 : 0 ≤ m8) :
    ∃ A B C AB BC L P1 P2 P3, Jn p A B C AB BC L P1 P2 P3 ∧ oneR p m0 m1 m6 = A ∧ oneR P1 m2 m3 m7 = B ∧ oneR P2 m4 m5 m8 = C := by
  obtain ⟨La, ea, pa, la, ba, ka⟩ := one_plan (lo := m0) (hi := m1) ha hb h6
  have ha1 := appL_asc La ha
  obtain ⟨Lb, eb, pb, lb, bb, kb⟩ := one_plan (lo := m2) (hi := m3) ha1 ba h7
  have ha2 := appL_asc Lb ha1
  obtain ⟨Lc, ec, pc, lc, bc, kc⟩ := one_plan (lo := m4) (hi := m5) ha2 bb h8
  have tab := pa.th ha pb
  have tbc := pb.th ha1 pc
  have tl := tab.1.th ha (show Pn (appL p (thL La Lb)) Lc by rw [tab.2.2.2]; exact pc)
  have tr := pa.th ha tbc.1
  have hAs := pa.assoc ha pb pc
  have s0 := (Pn.nil p).ap ha
  refine ⟨La.map rawC, Lb.map rawC, Lc.map rawC, (thL La Lb).map rawC, (thL Lb Lc).map rawC, (thL (thL La Lb) Lc).map rawC, appL p La, appL (appL p La) Lb, appL (appL (appL p La) Lb) Lc, ?_, ea, eb, ec⟩
  refine ⟨by rw [List.length_map]; exact ka, by rw [List.length_map]; omega, by rw [List.length_map]; omega, la, by omega, ba, bb, s0, pa.ap ha, pb.ap ha1, pc.ap ha2, ⟨tab.2.1, tab.2.2.1⟩, ⟨tbc.2.1, tbc.2.2.1⟩, ⟨tl.2.1, tl.2.2.1⟩, ⟨tr.2.1, by rw [tr.2.2.1, hAs]⟩, ?_, ?_⟩
  · have := tab.1.ap ha
    exact ⟨this.1, by rw [this.2, tab.2.2.2]⟩
  · have := tl.1.ap ha
    exact ⟨this.1, by rw [this.2, tl.2.2.2, tab.2.2.2]⟩
section
variable {H : Type} {enc : TypeId × Value → H} {w : World} {base b0 : Nat} {spare : Nat → Bool} {held : Bool} {r : Reach}
theorem array9 {xs : Array Value} (h : xs.size = 9) : ∃ a b c d e f g i j, xs = #[a, b, c, d, e, f, g, i, j] := by
  obtain ⟨l⟩ := xs
  match l, h with
  | [a, b, c, d, e, f, g, i, j], _ => exact ⟨a, b, c, d, e, f, g, i, j, rfl⟩
def U64 (m : Int) : Prop := 0 ≤ m ∧ m ≤ 18446744073709551615
theorem open_span2 {n : Nat} {v0 v1 : Value} {y : DataW H × List MemPlace} (h : DataW.trod enc Try.prog w base spare held n 25 [v0, v1] = some y) : ∃ a b : Int, v0 = .int .u64 a ∧ v1 = .int .u64 b ∧ U64 a ∧ U64 b := by
  obtain ⟨y0, y1, k, hx, _, h0, h1⟩ := trod_struct2 Try.underlying25 h
  have z : Try.prog.cellsOf 23 = 1 := by kernel_rfl
  simp only [z, List.drop_zero, List.take_succ_cons, List.take_zero, List.drop_succ_cons] at h0 h1
  obtain ⟨a, e0, _, w0⟩ := DataW.trod_int Try.underlying23 h0
  obtain ⟨b, e1, _, w1⟩ := DataW.trod_int Try.underlying23 h1
  simp at e0 e1
  exact ⟨a, b, e0, e1, ⟨(bounds_u64 w0).1, (bounds_u64 w0).2⟩, ⟨(bounds_u64 w1).1, (bounds_u64 w1).2⟩⟩
set_option maxRecDepth 100000 in
theorem open_moves {v : Value} {d : DataW H} {p : List MemPlace} (hv : Value.okWide Try.prog w r b0 64 v) (h : DataW.Trod enc Try.prog w base spare held 64 v d p) :
    ∃ m0 m1 m2 m3 m4 m5 m6 m7 m8 : Int, v = .agg #[.int .u64 m0, .int .u64 m1, .int .u64 m2, .int .u64 m3, .int .u64 m4, .int .u64 m5, .int .u64 m6, .int .u64 m7, .int .u64 m8] ∧ U64 m0 ∧ U64 m1 ∧ U64 m2 ∧ U64 m3 ∧ U64 m4 ∧ U64 m5 ∧ U64 m6 ∧ U64 m7 ∧ U64 m8 := by
  have hC : Try.prog.cellsOf 64 = 9 := by kernel_rfl
  obtain ⟨cs, rfl, hsz⟩ := okWide_struct Try.underlying64 hv
  obtain ⟨a, b, c, d', e, f, g, i, j, rfl⟩ := array9 (hsz.trans hC)
  obtain ⟨fuel, hf⟩ := h
  obtain ⟨y0, y1, y2, y3, n, hx, _, h0, h1, h2, h3⟩ := trod_struct4 Try.underlying64 hf
  have z2 : Try.prog.cellsOf 25 = 2 := by kernel_rfl
  have z3 : Try.prog.cellsOf 62 = 3 := by kernel_rfl
  have z : Try.prog.cellsOf 23 = 1 := by kernel_rfl
  have k0 : DataW.trod enc Try.prog w base spare held n 25 [a, b] = some y0 := by simpa [Value.cells, z2] using h0
  have k1 : DataW.trod enc Try.prog w base spare held n 25 [c, d'] = some y1 := by simpa [Value.cells, z2] using h1
  have k2 : DataW.trod enc Try.prog w base spare held n 25 [e, f] = some y2 := by simpa [Value.cells, z2] using h2
  have k3 : DataW.trod enc Try.prog w base spare held n 62 [g, i, j] = some y3 := by simpa [Value.cells, z3] using h3
  obtain ⟨m0, m1, rfl, rfl, u0, u1⟩ := open_span2 k0
  obtain ⟨m2, m3, rfl, rfl, u2, u3⟩ := open_span2 k1
  obtain ⟨m4, m5, rfl, rfl, u4, u5⟩ := open_span2 k2
  obtain ⟨x0, x1, x2, n', _, q0, q1, q2⟩ := Go.ChangeShapes.trod_array3 Try.underlying62 z k3
  obtain ⟨m6, e6, _, w6⟩ := DataW.trod_int Try.underlying23 q0
  obtain ⟨m7, e7, _, w7⟩ := DataW.trod_int Try.underlying23 q1
  obtain ⟨m8, e8, _, w8⟩ := DataW.trod_int Try.underlying23 q2
  simp at e6 e7 e8
  subst e6 e7 e8
  exact ⟨m0, m1, m2, m3, m4, m5, m6, m7, m8, rfl, u0, u1, u2, u3, u4, u5, ⟨(bounds_u64 w6).1, (bounds_u64 w6).2⟩, ⟨(bounds_u64 w7).1, (bounds_u64 w7).2⟩, ⟨(bounds_u64 w8).1, (bounds_u64 w8).2⟩⟩
end
end Pl
end Go.Proofs.Ytbdllakbkienoaa
