/- The walk of the law FieldParts, from the contracts of XField. Conditions: the bounds of each argument's kind. -/
import Derived.Test.YtbkppmdiobehoaaWkField
namespace Go.Proofs.Ytbkppmdiobehoaa
open Go.RowKit
set_option linter.unusedVariables false
set_option linter.unusedSimpArgs false
namespace Wk
theorem tagT {a b : Int} (a0 : 0 ≤ a) (h : Fl.topOk a b = true) (w : World) : Calls Try.prog 13 #[.int .u64 (Fl.topV a b)] w fun r w' => r = .returned (.int .u64 a) ∧ w = w' := by
  have hp := topV_parts h a0
  have := Fl.tag_any (Fl.topV a b) (by omega) (by omega) w
  refine this.mono fun r w' ⟨he, hw⟩ => ⟨?_, hw⟩
  rw [he]
  simp [hp]
theorem towT {a b : Int} (a0 : 0 ≤ a) (h : Fl.topOk a b = true) (w : World) : Calls Try.prog 15 #[.int .u64 (Fl.topV a b)] w fun r w' => r = .returned (.int .i64 b) ∧ w = w' := by
  have hp := topV_parts h a0
  have := Fl.tower_any (Fl.topV a b) (by omega) (by omega) w
  refine this.mono fun r w' ⟨he, hw⟩ => ⟨?_, hw⟩
  rw [he]
  simp [hp]
theorem kindS {k e g : Int} (g0 : 0 ≤ g) (h : Fl.stOk k e g = true) (w : World) : Calls Try.prog 21 #[.int .u64 (Fl.stV k e g)] w fun r w' => r = .returned (.int .u8 k) ∧ w = w' := by
  have hp := stV_parts h g0
  have := Fl.kind_any (Fl.stV k e g) (by omega) (by omega) w
  refine this.mono fun r w' ⟨he, hw⟩ => ⟨?_, hw⟩
  rw [he]
  simp [hp]
theorem entryS {k e g : Int} (g0 : 0 ≤ g) (h : Fl.stOk k e g = true) (w : World) : Calls Try.prog 23 #[.int .u64 (Fl.stV k e g)] w fun r w' => r = .returned (.int .i64 e) ∧ w = w' := by
  have hp := stV_parts h g0
  have := Fl.entry_any (Fl.stV k e g) (by omega) (by omega) w
  refine this.mono fun r w' ⟨he, hw⟩ => ⟨?_, hw⟩
  rw [he]
  simp [hp]
theorem genS {k e g : Int} (g0 : 0 ≤ g) (h : Fl.stOk k e g = true) (w : World) : Calls Try.prog 25 #[.int .u64 (Fl.stV k e g)] w fun r w' => r = .returned (.int .u64 g) ∧ w = w' := by
  have hp := stV_parts h g0
  have := Fl.gen_any (Fl.stV k e g) (by omega) (by omega) w
  refine this.mono fun r w' ⟨he, hw⟩ => ⟨?_, hw⟩
  rw [he]
  simp [hp]
theorem checkS {k e g : Int} (g0 : 0 ≤ g) (h : Fl.stOk k e g = true) (w : World) : Calls Try.prog 19 #[.int .u64 (Fl.stV k e g)] w fun r w' => r = .returned (.int .i64 0) ∧ w = w' := by
  have hp := stV_parts h g0
  have := Fl.check_any (Fl.stV k e g) (by omega) (by omega) w
  refine this.mono fun r w' ⟨he, hw⟩ => ⟨?_, hw⟩
  rw [he, ckE_stV h g0]
theorem genD {g : Int} (c : Bool) (g0 : 0 ≤ g) (h : Fl.dsOk g = true) (w : World) : Calls Try.prog 29 #[.int .u64 (Fl.dsV g c)] w fun r w' => r = .returned (.int .u64 g) ∧ w = w' := by
  have hp := dsV_parts c h g0
  have := Fl.descGen_any (Fl.dsV g c) (by omega) (by omega) w
  refine this.mono fun r w' ⟨he, hw⟩ => ⟨?_, hw⟩
  rw [he]
  simp [hp]
theorem comD {g : Int} (c : Bool) (g0 : 0 ≤ g) (h : Fl.dsOk g = true) (w : World) : Calls Try.prog 31 #[.int .u64 (Fl.dsV g c)] w fun r w' => r = .returned (.bool c) ∧ w = w' := by
  have hp := dsV_parts c h g0
  have := Fl.com_any (Fl.dsV g c) (by omega) (by omega) w
  refine this.mono fun r w' ⟨he, hw⟩ => ⟨?_, hw⟩
  rw [he]
  simp [hp]
set_option maxRecDepth 100000 in
set_option maxHeartbeats 4000000 in
theorem walk_fieldParts (a0 : Int) (a1 : Int) (a2Tag : Int) (a2Tower : Int) (a2Gen : Int) (a2Committed : Bool) (w : World) (a0l : 0 ≤ a0) (a0h : a0 ≤ 255) (a1l : (-9223372036854775808) ≤ a1) (a1h : a1 ≤ 9223372036854775807) (a2Tagl : 0 ≤ a2Tag) (a2Tagh : a2Tag ≤ 18446744073709551615) (a2Towerl : (-9223372036854775808) ≤ a2Tower) (a2Towerh : a2Tower ≤ 9223372036854775807) (a2Genl : 0 ≤ a2Gen) (a2Genh : a2Gen ≤ 18446744073709551615) :
    Calls Try.prog 8 #[.int .u8 a0, .int .i64 a1, .agg #[.int .u64 a2Tag, .int .i64 a2Tower, .int .u64 a2Gen, .bool a2Committed]] w fun e w' => e = .returned (.bool true) ∧ Below w.heap.size w w' := by
  have hT : Fl.topE a2Tag a2Tower = if Fl.topOk a2Tag a2Tower = true then 0 else 2 := rfl
  have hS : Fl.stE a0 a1 a2Gen = if Fl.stOk a0 a1 a2Gen = true then 0 else 2 := rfl
  have hX : Fl.dsE a2Gen = if Fl.dsOk a2Gen = true then 0 else 2 := rfl
  cases h1 : Fl.topOk a2Tag a2Tower <;> cases h2 : Fl.stOk a0 a1 a2Gen <;> cases h3 : Fl.dsOk a2Gen <;> simp only [h1, h2, h3, if_pos, if_neg, Bool.false_eq_true, if_false, if_true] at hT hS hX
  all_goals
    have HT := Lib.hid hT; have HS := Lib.hid hS; have HX := Lib.hid hX; have HTO := Lib.hid h1; have HSO := Lib.hid h2; have HDO := Lib.hid h3
    clear hT hS hX h1 h2 h3
    go_enter Try.func8, Try.ntmps8
    go_wp2_with (first | (go_at_call 11; refine (Fl.top_any _ _ (by omega) (by omega) _).mono ?_; rw [HT.out]; rintro r w' ⟨rfl, rfl⟩) | (go_at_call 17; refine (Fl.state_any _ _ _ (by omega) (by omega) (by omega) (by omega) (by omega) (by omega) _).mono ?_; rw [HS.out]; rintro r w' ⟨rfl, rfl⟩) | (go_at_call 27; refine (Fl.desc_any _ _ (by omega) (by omega) _).mono ?_; rw [HX.out]; rintro r w' ⟨rfl, rfl⟩) | (go_at_call 36; refine (known_any _).mono ?_; rintro r w' ⟨rfl, rfl⟩))
    go_quiet ((first | (go_at_call 13; exact Hp.quiet_left (tagT (by omega) HTO.out _)) | (go_at_call 13; exact Hp.quiet_add_left (tagT (by omega) HTO.out _)) | (go_at_call 15; exact Hp.quiet_left (towT (by omega) HTO.out _)) | (go_at_call 15; exact Hp.quiet_add_left (towT (by omega) HTO.out _))))
    go_wp2_with (first | (go_at_call 11; refine (Fl.top_any _ _ (by omega) (by omega) _).mono ?_; rw [HT.out]; rintro r w' ⟨rfl, rfl⟩) | (go_at_call 17; refine (Fl.state_any _ _ _ (by omega) (by omega) (by omega) (by omega) (by omega) (by omega) _).mono ?_; rw [HS.out]; rintro r w' ⟨rfl, rfl⟩) | (go_at_call 27; refine (Fl.desc_any _ _ (by omega) (by omega) _).mono ?_; rw [HX.out]; rintro r w' ⟨rfl, rfl⟩) | (go_at_call 36; refine (known_any _).mono ?_; rintro r w' ⟨rfl, rfl⟩))
    go_quiet ((first | (go_at_call 21; exact Hp.quiet_left (kindS (by omega) HSO.out _)) | (go_at_call 21; exact Hp.quiet_add_left (kindS (by omega) HSO.out _)) | (go_at_call 23; exact Hp.quiet_left (entryS (by omega) HSO.out _)) | (go_at_call 23; exact Hp.quiet_add_left (entryS (by omega) HSO.out _)) | (go_at_call 25; exact Hp.quiet_left (genS (by omega) HSO.out _)) | (go_at_call 25; exact Hp.quiet_add_left (genS (by omega) HSO.out _)) | (go_at_call 19; exact Hp.quiet_left (checkS (by omega) HSO.out _)) | (go_at_call 19; exact Hp.quiet_add_left (checkS (by omega) HSO.out _))))
    go_wp2_with (first | (go_at_call 11; refine (Fl.top_any _ _ (by omega) (by omega) _).mono ?_; rw [HT.out]; rintro r w' ⟨rfl, rfl⟩) | (go_at_call 17; refine (Fl.state_any _ _ _ (by omega) (by omega) (by omega) (by omega) (by omega) (by omega) _).mono ?_; rw [HS.out]; rintro r w' ⟨rfl, rfl⟩) | (go_at_call 27; refine (Fl.desc_any _ _ (by omega) (by omega) _).mono ?_; rw [HX.out]; rintro r w' ⟨rfl, rfl⟩) | (go_at_call 36; refine (known_any _).mono ?_; rintro r w' ⟨rfl, rfl⟩))
    go_quiet ((first | (go_at_call 29; exact Hp.quiet_left (genD _ (by omega) HDO.out _)) | (go_at_call 29; exact Hp.quiet_add_left (genD _ (by omega) HDO.out _)) | (go_at_call 31; exact Hp.quiet_left (comD _ (by omega) HDO.out _)) | (go_at_call 31; exact Hp.quiet_add_left (comD _ (by omega) HDO.out _))))
    go_wp2_with (first | (go_at_call 11; refine (Fl.top_any _ _ (by omega) (by omega) _).mono ?_; rw [HT.out]; rintro r w' ⟨rfl, rfl⟩) | (go_at_call 17; refine (Fl.state_any _ _ _ (by omega) (by omega) (by omega) (by omega) (by omega) (by omega) _).mono ?_; rw [HS.out]; rintro r w' ⟨rfl, rfl⟩) | (go_at_call 27; refine (Fl.desc_any _ _ (by omega) (by omega) _).mono ?_; rw [HX.out]; rintro r w' ⟨rfl, rfl⟩) | (go_at_call 36; refine (known_any _).mono ?_; rintro r w' ⟨rfl, rfl⟩))
    go_ret
    exact ⟨rfl, by repeat (first | exact Below.refl _ _ | refine Hp.below_drewN ?_ _ | exact (Below.refl _ _).alloc (Nat.le_refl _) _)⟩
end Wk
end Go.Proofs.Ytbkppmdiobehoaa
