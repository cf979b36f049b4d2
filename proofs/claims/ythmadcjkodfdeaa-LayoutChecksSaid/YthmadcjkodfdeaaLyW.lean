/- The example of package layout, and works: contracts of the translated code. No conditions. -/
import Derived.Test.YthmadcjkodfdeaaLyQ
namespace Go.Proofs.Ythmadcjkodfdeaa
open Go.RowKit Go.Sort
set_option linter.unusedVariables false
set_option linter.unusedSimpArgs false
namespace Ly
open Dm (RdK BdU dmB dmE dmN bel_alloc bel_trans cell_lt)
def exT : Nat → Int := fun i => [2, 1, 0, 0, 0, 0].getD i 0
def exF : Cf := ⟨1, 2, 2, 0, 2, 2, none, 0, 0, exT, 1, 1, 0⟩
def exV : Value := .agg #[.int .i64 1, .int .i64 2, .int .u8 2, .int .i64 0, .int .u8 2, .int .i64 2, .slice none 0 0, .int .i64 2, .int .i64 1, .int .i64 0, .int .i64 0, .int .i64 0, .int .i64 0, .int .i64 1, .int .i64 1, .int .i64 0]
theorem example_any (w : World) : Calls Try.prog 32 #[] w fun e w' => e = .returned exV ∧ Below w.heap.size w w' := by
  go_enter Try.func32, Try.ntmps32
  go_wp2
  refine bodyPost_ret (v := exV) ?_ rfl ⟨rfl, bel_alloc (Below.refl _ _) _⟩
  simp [results, Try.results32, go_sem, exV]
theorem ex_bd : exF.Bd [] := ⟨by simp [exF, I64], by simp [exF, I64], by simp [exF], by simp [exF, I64], by simp [exF], by simp [exF, I64], fun i hi => by
  rcases (show i = 0 ∨ i = 1 ∨ i = 2 ∨ i = 3 ∨ i = 4 ∨ i = 5 by omega) with rfl | rfl | rfl | rfl | rfl | rfl <;> simp [exF, exT, I64], by simp [exF, I64], by simp [exF, I64], by simp [exF, I64], rfl, by simp [exF], fun k hk => by simp at hk, fun _ => rfl⟩
theorem ex_ok : okB exF [] = true := by decide +kernel
theorem ex_new (w : World) : Calls Try.prog 11 #[exV] w fun e w' => ∃ b A c, e = .returned (.tuple #[.pointer (some ⟨b, 0, none⟩), .int .i64 0]) ∧ w.heap.size ≤ b ∧ LyAt w' b (exF.cut A c) [] (geo exF []) ∧ Below w.heap.size w w' := by
  refine (new_any exF [] w ex_bd (fun k hk => by simp at hk)).mono fun e w' h => ?_
  unfold NewPost at h
  rw [if_pos ex_ok] at h
  obtain ⟨b, A, c, h1, h2, h3, _, _, h4⟩ := h
  exact ⟨b, A, c, h1, h2, h3, h4⟩
theorem ex_gok : (geo exF []).ok := (nums ex_ok).ok
theorem ex_word : resp (wdO (geo exF []) 2 4) = .tuple #[.int .i64 44, .int .i64 0] := by
  rw [show wdO (geo exF []) 2 4 = some 44 by decide +kernel]; rfl
theorem ex_of : plcV (ofZ (geo exF []) 52) = .agg #[.int .u8 9, .int .i64 3, .int .i64 6] := by
  rw [show ofZ (geo exF []) 52 = (9, 3, 6) by decide +kernel]; rfl
theorem ex_tot : tot (geo exF []).t 6 = 3 := by decide +kernel
theorem works_any (w : World) : Calls Try.prog 33 #[] w fun e w' => e = .returned (.bool true) ∧ Below w.heap.size w w' := by
  go_enter Try.func33, Try.ntmps33
  go_wp2_with fail
  refine (example_any _).mono ?_
  rintro r w1 ⟨rfl, b1⟩
  unfold exV
  go_wp2_with fail
  refine (ex_new _).mono ?_
  rintro r w2 ⟨b, A, c, rfl, hb, ly, b2⟩
  have LY := Lib.hid ly
  have B2 := Lib.hid (bel_trans b1 b2)
  clear ly b1 b2
  go_wp2_with fail
  refine (word_any LY.out ex_gok 2 4).mono ?_
  rw [ex_word]
  rintro r w3 ⟨rfl, b3⟩
  have B3 := Lib.hid (bel_trans B2.out b3)
  have LY3 := Lib.hid (LY.out.below b3)
  clear b3 LY B2
  go_wp2_with fail
  refine (ofc_any LY3.out ex_gok 52).mono ?_
  rw [ex_of]
  rintro r w4 ⟨rfl, b4⟩
  have B4 := Lib.hid (bel_trans B3.out b4)
  have LY4 := Lib.hid (LY3.out.below b4)
  clear b4 LY3 B3
  go_wp2_with fail
  refine (towers_any LY4.out).mono ?_
  rw [ex_tot]
  rintro r w5 ⟨rfl, rfl⟩
  go_wp2
  go_ret
  exact ⟨rfl, B4.out⟩
end Ly
end Go.Proofs.Ythmadcjkodfdeaa
