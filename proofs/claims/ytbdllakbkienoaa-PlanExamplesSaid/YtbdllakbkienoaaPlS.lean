/- span.Check, Has and Shift as package plan calls them: contracts of the translated code. Conditions: the bounds of each number's kind. -/
import Derived.Test.YtbdllakbkienoaaPlA
namespace Go.Proofs.Ytbdllakbkienoaa
open Go.RowKit Go.Sort
set_option linter.unusedVariables false
set_option linter.unusedSimpArgs false
namespace Pl
open Om (addr_lit bel_alloc bel_trans below_drewN ret_eq rgE)
theorem checkS_any (a b : Int) (w : World) :
    Calls Try.prog 46 #[.agg #[.int .u64 a, .int .u64 b]] w fun e w' => e = .returned (.int .i64 (rgE a b)) ∧ Below w.heap.size w w' := by
  by_cases h : a ≤ b
  · have HE := Lib.hid (show rgE a b = 0 from if_pos h)
    have t0 : decide (b < a) = false := decide_eq_false (by omega)
    go_enter Try.func46, Try.ntmps46
    go_wp2
    go_ret
    exact ⟨by rw [HE.out]; rfl, (bel_alloc (Below.refl _ _) _)⟩
  · have HE := Lib.hid (show rgE a b = 13 from if_neg h)
    have t0 : decide (b < a) = true := decide_eq_true (by omega)
    go_enter Try.func46, Try.ntmps46
    go_wp2
    go_ret
    exact ⟨by rw [HE.out]; rfl, (bel_alloc (Below.refl _ _) _)⟩
theorem hasS_any (a b k : Int) (al : 0 ≤ a) (ah : a ≤ 18446744073709551615) (bl : 0 ≤ b) (bh : b ≤ 18446744073709551615) (kl : 0 ≤ k) (kh : k ≤ 18446744073709551615) (w : World) :
    Calls Try.prog 66 #[.agg #[.int .u64 a, .int .u64 b], .int .u64 k] w fun e w' => e = .returned (.bool (decide (a ≤ k ∧ k ≤ b))) ∧ Below w.heap.size w w' := by
  go_enter Try.func66, Try.ntmps66
  go_wp2
  all_goals (go_ret; refine ⟨ret_eq ?_, (bel_alloc (Below.refl _ _) _)⟩; simp; try omega)
def shT (a b e : Int) : Value := .tuple #[.agg #[.int .u64 a, .int .u64 b], .int .i64 e]
def shE (lo hi d : Int) : Int := if lo ≤ hi then if hi + d ≤ 18446744073709551615 then 0 else 12 else 13
theorem res_cells (w w1 : World) (bw : Below w.heap.size w w1) (e0 : w1.cell? ⟨w.heap.size + 1, 0, none⟩ = some (.int .u64 0)) (e1 : w1.cell? ⟨w.heap.size + 1, 1, none⟩ = some (.int .u64 0)) (y z : Int) :
    ((w1.setCell ⟨w.heap.size + 1, 0, none⟩ (.int .u64 y)).setCell ⟨w.heap.size + 1, 1, none⟩ (.int .u64 z)).cell? ⟨w.heap.size + 1, 0, none⟩ = some (.int .u64 y) ∧ ((w1.setCell ⟨w.heap.size + 1, 0, none⟩ (.int .u64 y)).setCell ⟨w.heap.size + 1, 1, none⟩ (.int .u64 z)).cell? ⟨w.heap.size + 1, 1, none⟩ = some (.int .u64 z) ∧
    Below w.heap.size w ((w1.setCell ⟨w.heap.size + 1, 0, none⟩ (.int .u64 y)).setCell ⟨w.heap.size + 1, 1, none⟩ (.int .u64 z)) :=
  ⟨by rw [World.cell?_setCell_other _ _ _ _ (by simp)]; exact World.cell?_setCell_same _ _ _ e0, World.cell?_setCell_same _ _ _ (by rw [World.cell?_setCell_other _ _ _ _ (by simp)]; exact e1),
    (bw.setCell (p := ⟨w.heap.size + 1, 0, none⟩) (Nat.le_succ _) _).setCell (p := ⟨w.heap.size + 1, 1, none⟩) (Nat.le_succ _) _⟩
theorem shift_bad (lo hi d : Int) (w : World) (ll : 0 ≤ lo) (lh : lo ≤ 18446744073709551615) (hl : 0 ≤ hi) (hh : hi ≤ 18446744073709551615) (dl : 0 ≤ d) (dh : d ≤ 18446744073709551615) (h : hi < lo) :
    Calls Try.prog 39 #[.agg #[.int .u64 lo, .int .u64 hi], .int .u64 d] w fun e w' => e = .returned (shT 0 0 13) ∧ Below w.heap.size w w' := by
  have b0 : Below w.heap.size w ((w.alloc (.cells #[.int .u64 lo, .int .u64 hi] 25)).alloc (.cells #[.int .u64 0, .int .u64 0] 25)) := bel_alloc (bel_alloc (Below.refl _ _) _) _
  have CK := fun W => Lib.hid (checkS_any lo hi W)
  rw [show rgE lo hi = 13 from if_neg (by omega)] at CK
  go_enter Try.func39, Try.ntmps39
  go_wp2_with fail
  refine (CK _).out.mono ?_
  rintro r w2 ⟨rfl, b2⟩
  have bw2 := bel_trans b0 b2
  have hz1 := b2.size
  simp at hz1
  have e0 : w2.cell? ⟨w.heap.size, 0, none⟩ = some (.int .u64 lo) := by rw [b2.cell (p := ⟨w.heap.size, 0, none⟩) (by simp <;> omega)]; simp
  have e1 : w2.cell? ⟨w.heap.size, 1, none⟩ = some (.int .u64 hi) := by rw [b2.cell (p := ⟨w.heap.size, 1, none⟩) (by simp <;> omega)]; simp
  have c0 : w2.cell? ⟨w.heap.size + 1, 0, none⟩ = some (.int .u64 0) := by rw [b2.cell (p := ⟨w.heap.size + 1, 0, none⟩) (by simp)]; simp
  have c1 : w2.cell? ⟨w.heap.size + 1, 1, none⟩ = some (.int .u64 0) := by rw [b2.cell (p := ⟨w.heap.size + 1, 1, none⟩) (by simp)]; simp
  have f0 : w2.frozen? ⟨w.heap.size + 1, 0, none⟩ = false := by rw [b2.frozen (p := ⟨w.heap.size + 1, 0, none⟩) (by simp)]; simp
  have f1 : w2.frozen? ⟨w.heap.size + 1, 1, none⟩ = false := by rw [b2.frozen (p := ⟨w.heap.size + 1, 1, none⟩) (by simp)]; simp
  have H2 := Lib.hid (res_cells w w2 bw2 c0 c1)
  go_wp2
  obtain ⟨g0, g1, b3⟩ := H2.out 0 0
  generalize (w2.setCell ⟨w.heap.size + 1, 0, none⟩ (.int .u64 0)).setCell ⟨w.heap.size + 1, 1, none⟩ (.int .u64 0) = w3 at *
  exact bodyPost_ret (v := shT 0 0 13) (by simp [results, Try.results39, go_sem, g0, g1, shT]) rfl ⟨rfl, b3⟩
theorem shift_over (lo hi d : Int) (w : World) (ll : 0 ≤ lo) (lh : lo ≤ 18446744073709551615) (hl : 0 ≤ hi) (hh : hi ≤ 18446744073709551615) (dl : 0 ≤ d) (dh : d ≤ 18446744073709551615) (h : lo ≤ hi) (h2 : 18446744073709551615 < hi + d) :
    Calls Try.prog 39 #[.agg #[.int .u64 lo, .int .u64 hi], .int .u64 d] w fun e w' => e = .returned (shT 0 0 12) ∧ Below w.heap.size w w' := by
  have b0 : Below w.heap.size w ((w.alloc (.cells #[.int .u64 lo, .int .u64 hi] 25)).alloc (.cells #[.int .u64 0, .int .u64 0] 25)) := bel_alloc (bel_alloc (Below.refl _ _) _) _
  have CK := fun W => Lib.hid (checkS_any lo hi W)
  rw [show rgE lo hi = 0 from if_pos h] at CK
  have t2 : decide (18446744073709551615 - hi < d) = true := decide_eq_true (by omega)
  go_enter Try.func39, Try.ntmps39
  go_wp2_with fail
  refine (CK _).out.mono ?_
  rintro r w2 ⟨rfl, b2⟩
  have bw2 := bel_trans b0 b2
  have hz1 := b2.size
  simp at hz1
  have e0 : w2.cell? ⟨w.heap.size, 0, none⟩ = some (.int .u64 lo) := by rw [b2.cell (p := ⟨w.heap.size, 0, none⟩) (by simp <;> omega)]; simp
  have e1 : w2.cell? ⟨w.heap.size, 1, none⟩ = some (.int .u64 hi) := by rw [b2.cell (p := ⟨w.heap.size, 1, none⟩) (by simp <;> omega)]; simp
  have c0 : w2.cell? ⟨w.heap.size + 1, 0, none⟩ = some (.int .u64 0) := by rw [b2.cell (p := ⟨w.heap.size + 1, 0, none⟩) (by simp)]; simp
  have c1 : w2.cell? ⟨w.heap.size + 1, 1, none⟩ = some (.int .u64 0) := by rw [b2.cell (p := ⟨w.heap.size + 1, 1, none⟩) (by simp)]; simp
  have f0 : w2.frozen? ⟨w.heap.size + 1, 0, none⟩ = false := by rw [b2.frozen (p := ⟨w.heap.size + 1, 0, none⟩) (by simp)]; simp
  have f1 : w2.frozen? ⟨w.heap.size + 1, 1, none⟩ = false := by rw [b2.frozen (p := ⟨w.heap.size + 1, 1, none⟩) (by simp)]; simp
  have H2 := Lib.hid (res_cells w w2 bw2 c0 c1)
  go_wp2
  obtain ⟨g0, g1, b3⟩ := H2.out 0 0
  generalize (w2.setCell ⟨w.heap.size + 1, 0, none⟩ (.int .u64 0)).setCell ⟨w.heap.size + 1, 1, none⟩ (.int .u64 0) = w3 at *
  exact bodyPost_ret (v := shT 0 0 12) (by simp [results, Try.results39, go_sem, g0, g1, shT]) rfl ⟨rfl, b3⟩
theorem shift_ok (lo hi d : Int) (w : World) (ll : 0 ≤ lo) (lh : lo ≤ 18446744073709551615) (hl : 0 ≤ hi) (hh : hi ≤ 18446744073709551615) (dl : 0 ≤ d) (dh : d ≤ 18446744073709551615) (h : lo ≤ hi) (h2 : hi + d ≤ 18446744073709551615) :
    Calls Try.prog 39 #[.agg #[.int .u64 lo, .int .u64 hi], .int .u64 d] w fun e w' => e = .returned (shT (lo + d) (hi + d) 0) ∧ Below w.heap.size w w' := by
  have b0 : Below w.heap.size w ((w.alloc (.cells #[.int .u64 lo, .int .u64 hi] 25)).alloc (.cells #[.int .u64 0, .int .u64 0] 25)) := bel_alloc (bel_alloc (Below.refl _ _) _) _
  have CK := fun W => Lib.hid (checkS_any lo hi W)
  rw [show rgE lo hi = 0 from if_pos h] at CK
  have t2 : decide (18446744073709551615 - hi < d) = false := decide_eq_false (by omega)
  have hs1 : lo + d ≤ 18446744073709551615 := by omega
  go_enter Try.func39, Try.ntmps39
  go_wp2_with fail
  refine (CK _).out.mono ?_
  rintro r w2 ⟨rfl, b2⟩
  have bw2 := bel_trans b0 b2
  have hz1 := b2.size
  simp at hz1
  have e0 : w2.cell? ⟨w.heap.size, 0, none⟩ = some (.int .u64 lo) := by rw [b2.cell (p := ⟨w.heap.size, 0, none⟩) (by simp <;> omega)]; simp
  have e1 : w2.cell? ⟨w.heap.size, 1, none⟩ = some (.int .u64 hi) := by rw [b2.cell (p := ⟨w.heap.size, 1, none⟩) (by simp <;> omega)]; simp
  have c0 : w2.cell? ⟨w.heap.size + 1, 0, none⟩ = some (.int .u64 0) := by rw [b2.cell (p := ⟨w.heap.size + 1, 0, none⟩) (by simp)]; simp
  have c1 : w2.cell? ⟨w.heap.size + 1, 1, none⟩ = some (.int .u64 0) := by rw [b2.cell (p := ⟨w.heap.size + 1, 1, none⟩) (by simp)]; simp
  have f0 : w2.frozen? ⟨w.heap.size + 1, 0, none⟩ = false := by rw [b2.frozen (p := ⟨w.heap.size + 1, 0, none⟩) (by simp)]; simp
  have f1 : w2.frozen? ⟨w.heap.size + 1, 1, none⟩ = false := by rw [b2.frozen (p := ⟨w.heap.size + 1, 1, none⟩) (by simp)]; simp
  have H2 := Lib.hid (res_cells w w2 bw2 c0 c1)
  go_wp2
  obtain ⟨g0, g1, b3⟩ := H2.out (lo + d) (hi + d)
  generalize (w2.setCell ⟨w.heap.size + 1, 0, none⟩ (.int .u64 (lo + d))).setCell ⟨w.heap.size + 1, 1, none⟩ (.int .u64 (hi + d)) = w3 at *
  exact bodyPost_ret (v := shT (lo + d) (hi + d) 0) (by simp [results, Try.results39, go_sem, g0, g1, shT]) rfl ⟨rfl, b3⟩
theorem shift_any (lo hi d : Int) (w : World) (ll : 0 ≤ lo) (lh : lo ≤ 18446744073709551615) (hl : 0 ≤ hi) (hh : hi ≤ 18446744073709551615) (dl : 0 ≤ d) (dh : d ≤ 18446744073709551615) :
    Calls Try.prog 39 #[.agg #[.int .u64 lo, .int .u64 hi], .int .u64 d] w fun e w' => (∃ a b, e = .returned (shT a b (shE lo hi d))) ∧ Below w.heap.size w w' := by
  unfold shE
  by_cases h1 : lo ≤ hi
  · rw [if_pos h1]
    by_cases h2 : hi + d ≤ 18446744073709551615
    · rw [if_pos h2]
      exact (shift_ok lo hi d w ll lh hl hh dl dh h1 h2).mono fun e w' ⟨h, b⟩ => ⟨⟨_, _, h⟩, b⟩
    · rw [if_neg h2]
      exact (shift_over lo hi d w ll lh hl hh dl dh h1 (by omega)).mono fun e w' ⟨h, b⟩ => ⟨⟨_, _, h⟩, b⟩
  · rw [if_neg h1]
    exact (shift_bad lo hi d w ll lh hl hh dl dh (by omega)).mono fun e w' ⟨h, b⟩ => ⟨⟨_, _, h⟩, b⟩
end Pl
end Go.Proofs.Ytbdllakbkienoaa
