/- Package picks and leapfrogref10: the small functions (fits, fitsThread, choice, valid, chosen, check, size, mod): contracts of the translated code. Conditions: the bounds of each argument's kind. -/
import Derived.Test.YtnoggggbghkgkaaPkM
import Derived.Test.YtnoggggbghkgkaaPkN
import Derived.Test.YtnoggggbghkgkaaHelp
namespace Go.Proofs.Ytnoggggbghkgkaa
open Go.RowKit Go.Sort
set_option linter.unusedVariables false
set_option linter.unusedSimpArgs false
namespace Pk
def I64 (x : Int) : Prop := -9223372036854775808 ≤ x ∧ x ≤ 9223372036854775807
theorem fits_any (t n : Int) (w : World) : Calls Try.prog 32 #[.int .i64 t, .int .i64 n] w fun e w' => e = .returned (.int .i64 (fitE t n)) ∧ w = w' := by
  obtain ⟨r, hr⟩ : ∃ r, fitE t n = r := ⟨_, rfl⟩
  rw [hr]
  have HR := Lib.hid hr
  clear hr
  by_cases h1 : t < 1
  · have d1 := decide_eq_true h1
    have HV := Lib.hid (show r = 2 by rw [← HR.out, fitE, if_pos (.inl h1)])
    clear HR
    go_enter Try.func32, Try.ntmps32
    go_wp2
    go_ret
    exact ⟨by rw [HV.out]; first | done | rfl, rfl⟩
  have d1 := decide_eq_false h1
  by_cases h2 : 64 < t
  · have d2 := decide_eq_true h2
    have HV := Lib.hid (show r = 2 by rw [← HR.out, fitE, if_pos (.inr (.inl h2))])
    clear HR
    go_enter Try.func32, Try.ntmps32
    go_wp2
    go_ret
    exact ⟨by rw [HV.out]; first | done | rfl, rfl⟩
  have d2 := decide_eq_false h2
  by_cases h3 : n < 0
  · have d3 := decide_eq_true h3
    have HV := Lib.hid (show r = 2 by rw [← HR.out, fitE, if_pos (.inr (.inr h3))])
    clear HR
    go_enter Try.func32, Try.ntmps32
    go_wp2
    go_ret
    exact ⟨by rw [HV.out]; first | done | rfl, rfl⟩
  have d3 := decide_eq_false h3
  by_cases h4 : 65536 < n
  · have d4 := decide_eq_true h4
    have HV := Lib.hid (show r = 5 by rw [← HR.out, fitE, if_neg (by omega), if_pos h4])
    clear HR
    go_enter Try.func32, Try.ntmps32
    go_wp2
    go_ret
    exact ⟨by rw [HV.out]; first | done | rfl, rfl⟩
  · have d4 := decide_eq_false h4
    have HV := Lib.hid (show r = 0 by rw [← HR.out, fitE, if_neg (by omega), if_neg h4])
    clear HR
    go_enter Try.func32, Try.ntmps32
    go_wp2
    go_ret
    exact ⟨by rw [HV.out]; first | done | rfl, rfl⟩
theorem fitsThread_any (t h n : Int) (w : World) : Calls Try.prog 38 #[.int .i64 t, .int .i64 h, .int .i64 n] w fun e w' => e = .returned (.int .i64 (fitT t h n)) ∧ w = w' := by
  obtain ⟨r, hr⟩ : ∃ r, fitT t h n = r := ⟨_, rfl⟩
  rw [hr]
  have HR := Lib.hid hr
  clear hr
  have CF := fun W => Lib.hid (fits_any t n W)
  by_cases h1 : h < 0
  · have d1 := decide_eq_true h1
    have HV := Lib.hid (show r = 2 by rw [← HR.out, fitT, if_pos (.inl h1)])
    clear HR
    go_enter Try.func38, Try.ntmps38
    go_wp2
    go_ret
    exact ⟨by rw [HV.out]; first | done | rfl, rfl⟩
  have d1 := decide_eq_false h1
  by_cases h2 : t ≤ h
  · have d2 := decide_eq_true h2
    have HV := Lib.hid (show r = 2 by rw [← HR.out, fitT, if_pos (.inr h2)])
    clear HR
    go_enter Try.func38, Try.ntmps38
    go_wp2
    go_ret
    exact ⟨by rw [HV.out]; first | done | rfl, rfl⟩
  · have d2 := decide_eq_false h2
    have HV := Lib.hid (show r = fitE t n by rw [← HR.out, fitT, if_neg (by omega)])
    clear HR
    go_enter Try.func38, Try.ntmps38
    go_wp2_with fail
    refine (CF _).out.mono ?_
    rintro e w' ⟨rfl, rfl⟩
    go_wp2
    go_ret
    exact ⟨by rw [HV.out]; first | done | rfl, rfl⟩
theorem choice_any (t : Nat) (p : Int) (h1 : 1 ≤ t) (h2 : t ≤ 64) (w : World) : Calls Try.prog 39 #[.int .i64 (t : Int), .int .i64 p] w fun e w' => e = .returned (.int .i64 (p % (t : Int))) ∧ w = w' := by
  obtain ⟨T, hT⟩ : ∃ T : Int, T = (t : Int) := ⟨_, rfl⟩
  rw [← hT]
  have t1 : 1 ≤ T := by omega
  have t2 : T ≤ 64 := by omega
  have z0 : (T == 0) = false := by simp; omega
  have b1 : -T < p.tmod T := Int.lt_tmod_of_pos p (by omega)
  have b2 : p.tmod T < T := Int.tmod_lt_of_pos p (by omega)
  have hn : ¬ T = 0 := by omega
  clear h1 h2 hT
  by_cases h : p.tmod T < 0
  · have HV := Lib.hid (tmod_neg (by omega) h)
    have d1 := decide_eq_true h
    have e1 : wrap64 (p.tmod T) = p.tmod T := by unfold wrap64; omega
    go_enter Try.func39, Try.ntmps39
    go_wp2
    go_ret
    exact ⟨by rw [← HV.out]; first | done | rfl, rfl⟩
  · have HV := Lib.hid (tmod_pos (show 0 < T by omega) (show 0 ≤ p.tmod T by omega))
    have d1 := decide_eq_false h
    have e1 : wrap64 (p.tmod T) = p.tmod T := by unfold wrap64; omega
    go_enter Try.func39, Try.ntmps39
    go_wp2
    go_ret
    exact ⟨by rw [← HV.out]; first | done | rfl, rfl⟩
end Pk
end Go.Proofs.Ytnoggggbghkgkaa
