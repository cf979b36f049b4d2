/- span.Hull, and what a sort by Lo compares: contracts of the translated code. Conditions: the bounds of each argument's kind. -/
import Derived.Test.YtmnoljnjnmcgpaaSpanL
namespace Go.Proofs.Ytmnoljnjnmcgpaa
open Go.RowKit Go.Sort
set_option linter.unusedVariables false
set_option linter.unusedSimpArgs false
namespace Sp
theorem rd_two {w : World} {g : Nat} {a b c d : Int} (h0 : w.cell? ⟨g, 0, none⟩ = some (.int .u64 a)) (h1 : w.cell? ⟨g, 1, none⟩ = some (.int .u64 b)) (h2 : w.cell? ⟨g, 2, none⟩ = some (.int .u64 c)) (h3 : w.cell? ⟨g, 3, none⟩ = some (.int .u64 d)) :
    Rd w (some ⟨g, 0, none⟩) [(a, b), (c, d)] := by
  intro k x hk
  match k, hk with
  | 0, hk => simp at hk; subst hk; exact ⟨g, 0, rfl, h0, h1⟩
  | 1, hk => simp at hk; subst hk; exact ⟨g, 0, rfl, h2, h3⟩
  | k + 2, hk => simp at hk
theorem bd_two {a b c d : Int} (h0 : 0 ≤ a) (h1 : a ≤ 18446744073709551615) (h2 : 0 ≤ b) (h3 : b ≤ 18446744073709551615) (h4 : 0 ≤ c) (h5 : c ≤ 18446744073709551615) (h6 : 0 ≤ d) (h7 : d ≤ 18446744073709551615) : Bd [(a, b), (c, d)] := by
  intro x hx
  simp at hx
  rcases hx with rfl | rfl
  · exact ⟨h0, h1, h2, h3⟩
  · exact ⟨h4, h5, h6, h7⟩
theorem caE_two (a b c d : Int) : caE [(a, b), (c, d)] = huE a b c d := by
  simp only [caE, huE, huB, okB]
  by_cases h1 : a ≤ b <;> by_cases h2 : c ≤ d <;> simp [h1, h2]
theorem hull_any (a b c d : Int) (al : 0 ≤ a) (ah : a ≤ 18446744073709551615) (bl : 0 ≤ b) (bh : b ≤ 18446744073709551615) (cl : 0 ≤ c) (ch : c ≤ 18446744073709551615) (dl : 0 ≤ d) (dh : d ≤ 18446744073709551615) (w : World) :
    Calls Try.prog 20 #[.agg #[.int .u64 a, .int .u64 b], .agg #[.int .u64 c, .int .u64 d]] w fun e w' => e = .returned (.tuple #[.agg #[.int .u64 (huL a b c d), .int .u64 (huH a b c d)], .int .i64 (huE a b c d)]) ∧ Below w.heap.size w w' := by
  by_cases h : a ≤ b ∧ c ≤ d
  · have HE := Lib.hid (show caE [(a, b), (c, d)] = 0 by rw [caE_two, huE, huB, if_pos (decide_eq_true h)])
    have HB := Lib.hid (show huB a b c d = true from decide_eq_true h)
    clear h
    go_enter Try.func20, Try.ntmps20
    go_wp2_with (go_at_call 35; go_loud (refine (checkAll_any _ 2 2 [(a, b), (c, d)] _ rfl (by simp [maxLen]) ?_ (bd_two al ah bl bh cl ch dl dh)).mono ?_; (exact rd_two (by simp [go_sem]) (by simp [go_sem]) (by simp [go_sem]) (by simp [go_sem])); rw [HE.out]; rintro r w1 ⟨rfl, b1⟩; obtain ⟨kc, kf⟩ := bcell b1; have hz := b1.size; (try simp at hz)))
    all_goals (refine bodyPost_ret ?_ rfl ⟨rfl, ?_⟩)
    all_goals (first | exact (bel_set (bel_set (bel_trans (bel_alloc (bel_alloc (bel_alloc (bel_alloc (Below.refl _ _) _) _) _) _) b1) (by simp <;> omega) _) (by simp <;> omega) _) | (simp [results, Try.results20, go_sem, kc, hz]; done) | (simp [results, Try.results20, go_sem, kc, hz] <;> (try and_intros) <;> (try simp only [huL, huH, huE, HB.out]) <;> (try simp) <;> (try omega)))
  · have hb : huB a b c d = false := decide_eq_false h
    have HE := Lib.hid (show caE [(a, b), (c, d)] = 13 by rw [caE_two, huE, hb]; rfl)
    have HB := Lib.hid hb
    clear h hb
    go_enter Try.func20, Try.ntmps20
    go_wp2_with (go_at_call 35; go_loud (refine (checkAll_any _ 2 2 [(a, b), (c, d)] _ rfl (by simp [maxLen]) ?_ (bd_two al ah bl bh cl ch dl dh)).mono ?_; (exact rd_two (by simp [go_sem]) (by simp [go_sem]) (by simp [go_sem]) (by simp [go_sem])); rw [HE.out]; rintro r w1 ⟨rfl, b1⟩; obtain ⟨kc, kf⟩ := bcell b1; have hz := b1.size; (try simp at hz)))
    all_goals (refine bodyPost_ret ?_ rfl ⟨rfl, ?_⟩)
    all_goals (first | exact (bel_set (bel_set (bel_trans (bel_alloc (bel_alloc (bel_alloc (bel_alloc (Below.refl _ _) _) _) _) _) b1) (by simp <;> omega) _) (by simp <;> omega) _) | (simp [results, Try.results20, go_sem, kc, hz]; done) | (simp [results, Try.results20, go_sem, kc, hz] <;> (try and_intros) <;> (try simp only [huL, huH, huE, HB.out]) <;> (try simp) <;> (try omega)))
end Sp
end Go.Proofs.Ytmnoljnjnmcgpaa
