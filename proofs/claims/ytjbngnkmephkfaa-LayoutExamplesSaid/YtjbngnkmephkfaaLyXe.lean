/- Facts of LayoutExamples: what each call returns. Conditions: none. -/
import Derived.Test.YtjbngnkmephkfaaLyX
namespace Go.Proofs.Ytjbngnkmephkfaa
open Go.RowKit Go.Sort
set_option linter.unusedVariables false
set_option linter.unusedSimpArgs false
namespace Ly
open Dm (RdK BdU bel_alloc bel_trans cell_lt)
theorem eqPL1 (w : World) : (Op.equalIn 10000 41 (.agg #[.int .i64 0, .int .i64 2, .int .i64 6, .int .i64 7, .int .i64 10, .int .i64 11, .int .i64 17, .int .i64 20, .int .i64 34, .int .i64 53]) (.agg #[.int .i64 0, .int .i64 2, .int .i64 6, .int .i64 7, .int .i64 10, .int .i64 11, .int .i64 17, .int .i64 20, .int .i64 34, .int .i64 53])).run Try.prog w = .ok true w := by kernel_rfl
theorem eqPL0 (w : World) : (Op.equalIn 10000 41 (.agg #[.int .i64 0, .int .i64 0, .int .i64 0, .int .i64 0, .int .i64 0, .int .i64 0, .int .i64 0, .int .i64 0, .int .i64 0, .int .i64 0]) (.agg #[.int .i64 0, .int .i64 0, .int .i64 0, .int .i64 0, .int .i64 0, .int .i64 0, .int .i64 0, .int .i64 0, .int .i64 0, .int .i64 0])).run Try.prog w = .ok true w := by kernel_rfl
theorem eqP0 (w : World) : (Op.equalIn 10000 59 (.agg #[.int .u8 9, .int .i64 3, .int .i64 6]) (.agg #[.int .u8 9, .int .i64 3, .int .i64 6])).run Try.prog w = .ok true w := by kernel_rfl
theorem eqP1 (w : World) : (Op.equalIn 10000 59 (.agg #[.int .u8 8, .int .i64 1, .int .i64 0]) (.agg #[.int .u8 8, .int .i64 1, .int .i64 0])).run Try.prog w = .ok true w := by kernel_rfl
theorem eqP2 (w : World) : (Op.equalIn 10000 59 (.agg #[.int .u8 7, .int .i64 1, .int .i64 0]) (.agg #[.int .u8 7, .int .i64 1, .int .i64 0])).run Try.prog w = .ok true w := by kernel_rfl
theorem eqP3 (w : World) : (Op.equalIn 10000 59 (.agg #[.int .u8 0, .int .i64 0, .int .i64 0]) (.agg #[.int .u8 0, .int .i64 0, .int .i64 0])).run Try.prog w = .ok true w := by kernel_rfl
abbrev xg : Ge := geo exF []
theorem xn1 : resp (nxO xg 3 1) = .tuple #[.int .i64 52, .int .i64 0] := by rw [show nxO xg 3 1 = some 52 by decide +kernel]; rfl
theorem xn2 : resp (nxO xg (-2) 5) = .tuple #[.int .i64 33, .int .i64 0] := by rw [show nxO xg (-2) 5 = some 33 by decide +kernel]; rfl
theorem xl1 : resp (ltO xg (-1)) = .tuple #[.int .i64 20, .int .i64 0] := by rw [show ltO xg (-1) = some 20 by decide +kernel]; rfl
theorem xh1 : hgE xg 4 = .tuple #[.int .i64 0, .int .i64 3] := by rw [hgE, if_neg (by decide +kernel)]
theorem xn3 : resp (nxO xg 2 1) = .tuple #[.int .i64 0, .int .i64 3] := by rw [show nxO xg 2 1 = none by decide +kernel]; rfl
theorem xl2 : resp (ltO xg (-3)) = .tuple #[.int .i64 0, .int .i64 3] := by rw [show ltO xg (-3) = none by decide +kernel]; rfl
theorem xw2 : resp (wdO xg 1 5) = .tuple #[.int .i64 0, .int .i64 3] := by rw [show wdO xg 1 5 = none by decide +kernel]; rfl
theorem xo1 : plcV (ofZ xg 27) = .agg #[.int .u8 8, .int .i64 1, .int .i64 0] := by rw [show ofZ xg 27 = (8, 1, 0) by decide +kernel]; rfl
theorem xo2 : plcV (ofZ xg 17) = .agg #[.int .u8 7, .int .i64 1, .int .i64 0] := by rw [show ofZ xg 17 = (7, 1, 0) by decide +kernel]; rfl
theorem xo3 : plcV (ofZ xg 53) = .agg #[.int .u8 0, .int .i64 0, .int .i64 0] := by rw [show ofZ xg 53 = (0, 0, 0) by decide +kernel]; rfl
theorem xo4 : plcV (ofZ xg (-1)) = .agg #[.int .u8 0, .int .i64 0, .int .i64 0] := by rw [show ofZ xg (-1) = (0, 0, 0) by decide +kernel]; rfl
theorem xpw : pW xg = 53 := by decide +kernel
def want (j : Nat) : Int := if j = 11 then 1 else if j = 12 then 3 else if j = 17 then 2 else 0
theorem xini : ini xg = (List.range 53).map want := by decide +kernel
theorem ini_ex {w : World} {b A' c' } (h : LyAt w b (exF.cut A' c') [] xg) : Calls Try.prog 29 #[.pointer (some ⟨b, 0, none⟩)] w fun e w' => ∃ B, e = .returned (.slice (some ⟨B, 0, none⟩) 53 53) ∧ (∀ j, j < 53 → w'.cell? ⟨B, j, none⟩ = some (.int .u64 (want j))) ∧ Below w.heap.size w w' :=
  (initial_any h ex_gok).mono fun e w' ⟨h1, h2, h3⟩ => by
    rw [xpw] at h1 h2
    refine ⟨_, h1, fun j hj => ?_, h3⟩
    rw [h2.cellAt _ (by omega), xini]
    simp [hj]
def f1 (t5 : Int) : Cf := ⟨1, 2, 2, 0, 2, 2, none, 0, 0, fun i => [2, 1, 0, 0, 0, t5].getD i 0, 1, 1, 0⟩
def f3 : Cf := ⟨1, 2, 2, 1, 2, 2, none, 0, 0, exT, 1, 1, 0⟩
def f4 : Cf := ⟨0, 0, 0, 0, 0, 0, none, 0, 0, fun _ => 0, 0, 0, 0⟩
theorem f1_bd (t5 : Int) (h : I64 t5) : (f1 t5).Bd [] := ⟨by simp [f1, I64], by simp [f1, I64], by simp [f1], by simp [f1, I64], by simp [f1], by simp [f1, I64], fun i hi => by
  rcases (show i = 0 ∨ i = 1 ∨ i = 2 ∨ i = 3 ∨ i = 4 ∨ i = 5 by omega) with rfl | rfl | rfl | rfl | rfl | rfl <;> first | exact h | simp [f1, I64], by simp [f1, I64], by simp [f1, I64], by simp [f1, I64], rfl, by simp [f1], fun k hk => by simp at hk, fun _ => rfl⟩
theorem f3_bd : f3.Bd [] := ⟨by simp [f3, I64], by simp [f3, I64], by simp [f3], by simp [f3, I64], by simp [f3], by simp [f3, I64], ex_bd.t, by simp [f3, I64], by simp [f3, I64], by simp [f3, I64], rfl, by simp [f3], fun k hk => by simp at hk, fun _ => rfl⟩
theorem f4_bd : f4.Bd [] := ⟨by simp [f4, I64], by simp [f4, I64], by simp [f4], by simp [f4, I64], by simp [f4], by simp [f4, I64], fun i hi => by simp [f4, I64], by simp [f4, I64], by simp [f4, I64], by simp [f4, I64], rfl, by simp [f4], fun k hk => by simp at hk, fun _ => rfl⟩
theorem chk1 (w : World) : Calls Try.prog 13 #[.agg #[.int .i64 1, .int .i64 2, .int .u8 2, .int .i64 0, .int .u8 2, .int .i64 2, .slice none 0 0, .int .i64 2, .int .i64 1, .int .i64 0, .int .i64 0, .int .i64 0, .int .i64 1022, .int .i64 1, .int .i64 1, .int .i64 0]] w fun e w' => e = .returned (.int .i64 2) ∧ Below w.heap.size w w' := by
  have := check_any (f1 1022) [] w (f1_bd 1022 (by simp [I64])) (fun k hk => by simp at hk)
  rw [show ckE (f1 1022) [] = 2 by decide +kernel] at this
  exact this
theorem chk2 (w : World) : Calls Try.prog 13 #[.agg #[.int .i64 1, .int .i64 2, .int .u8 2, .int .i64 0, .int .u8 2, .int .i64 2, .slice none 0 0, .int .i64 2, .int .i64 1, .int .i64 0, .int .i64 0, .int .i64 0, .int .i64 1021, .int .i64 1, .int .i64 1, .int .i64 0]] w fun e w' => e = .returned (.int .i64 0) ∧ Below w.heap.size w w' := by
  have := check_any (f1 1021) [] w (f1_bd 1021 (by simp [I64])) (fun k hk => by simp at hk)
  rw [show ckE (f1 1021) [] = 0 by decide +kernel] at this
  exact this
theorem chk3 (w : World) : Calls Try.prog 13 #[.agg #[.int .i64 1, .int .i64 2, .int .u8 2, .int .i64 1, .int .u8 2, .int .i64 2, .slice none 0 0, .int .i64 2, .int .i64 1, .int .i64 0, .int .i64 0, .int .i64 0, .int .i64 0, .int .i64 1, .int .i64 1, .int .i64 0]] w fun e w' => e = .returned (.int .i64 2) ∧ Below w.heap.size w w' := by
  have := check_any f3 [] w f3_bd (fun k hk => by simp at hk)
  rw [show ckE f3 [] = 2 by decide +kernel] at this
  exact this
theorem chk4 (w : World) : Calls Try.prog 13 #[.agg #[.int .i64 0, .int .i64 0, .int .u8 0, .int .i64 0, .int .u8 0, .int .i64 0, .slice none 0 0, .int .i64 0, .int .i64 0, .int .i64 0, .int .i64 0, .int .i64 0, .int .i64 0, .int .i64 0, .int .i64 0, .int .i64 0]] w fun e w' => e = .returned (.int .i64 2) ∧ Below w.heap.size w w' := by
  have := check_any f4 [] w f4_bd (fun k hk => by simp at hk)
  rw [show ckE f4 [] = 2 by decide +kernel] at this
  exact this
end Ly
end Go.Proofs.Ytjbngnkmephkfaa
