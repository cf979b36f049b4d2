/- The walks of the laws of stage 1 (package leapfroglaw01), from the contracts of XField. Conditions: the bounds of each argument's kind. -/
import Derived.Test.YtbkppmdiobehoaaField
import Derived.Below
import Derived.Test.YtbkppmdiobehoaaHelp
namespace Go.Proofs.Ytbkppmdiobehoaa
open Go.RowKit
set_option linter.unusedVariables false
set_option linter.unusedSimpArgs false
namespace Wk
theorem walk_fieldTops (a0 : Int) (a1 : Int) (a2 : Int) (w : World) (a0l : 0 ≤ a0) (a0h : a0 ≤ 18446744073709551615) (a1l : (-9223372036854775808) ≤ a1) (a1h : a1 ≤ 9223372036854775807) (a2l : 0 ≤ a2) (a2h : a2 ≤ 18446744073709551615) :
    Calls Try.prog 3 #[.int .u64 a0, .int .i64 a1, .int .u64 a2] w fun e w' => e = .returned (.bool true) ∧ Below w.heap.size w w' := by
  go_enter Try.func3, Try.ntmps3
  go_wp2_with (first | (go_at_call 11; refine (Fl.top_any _ _ (by omega) (by omega) _).mono ?_; rintro r w' ⟨rfl, rfl⟩) | (go_at_call 12; refine (Fl.topR_any _ _ (by omega) (by omega) _).mono ?_; rintro r w' ⟨rfl, rfl⟩) | (go_at_call 13; refine (Fl.tag_any _ (by omega) (by omega) _).mono ?_; rintro r w' ⟨rfl, rfl⟩) | (go_at_call 14; refine (Fl.tagR_any _ (by omega) (by omega) _).mono ?_; rintro r w' ⟨rfl, rfl⟩) | (go_at_call 15; refine (Fl.tower_any _ (by omega) (by omega) _).mono ?_; rintro r w' ⟨rfl, rfl⟩) | (go_at_call 16; refine (Fl.towerR_any _ (by omega) (by omega) _).mono ?_; rintro r w' ⟨rfl, rfl⟩))
  go_ret
  exact ⟨Hp.ret_bool (by simp), Below.refl _ _⟩
theorem walk_fieldStates (a0 : Int) (a1 : Int) (a2Gen : Int) (a2Word : Int) (w : World) (a0l : 0 ≤ a0) (a0h : a0 ≤ 255) (a1l : (-9223372036854775808) ≤ a1) (a1h : a1 ≤ 9223372036854775807) (a2Genl : 0 ≤ a2Gen) (a2Genh : a2Gen ≤ 18446744073709551615) (a2Wordl : 0 ≤ a2Word) (a2Wordh : a2Word ≤ 18446744073709551615) :
    Calls Try.prog 4 #[.int .u8 a0, .int .i64 a1, .agg #[.int .u64 a2Gen, .int .u64 a2Word]] w fun e w' => e = .returned (.bool true) ∧ Below w.heap.size w w' := by
  go_enter Try.func4, Try.ntmps4
  go_wp2_with (first | (go_at_call 17; refine (Fl.state_any _ _ _ (by omega) (by omega) (by omega) (by omega) (by omega) (by omega) _).mono ?_; rintro r w' ⟨rfl, rfl⟩) | (go_at_call 18; refine (Fl.stateR_any _ _ _ (by omega) (by omega) (by omega) (by omega) (by omega) (by omega) _).mono ?_; rintro r w' ⟨rfl, rfl⟩))
  go_quiet ((first | (go_at_call 19; exact Hp.quiet_left (Fl.check_any _ (by omega) (by omega) _)) | (go_at_call 20; exact Hp.quiet_left (Fl.checkR_any _ (by omega) (by omega) _))))
  go_wp2_with fail
  go_quiet ((first | (go_at_call 21; exact Hp.quiet_add_left (Fl.kind_any _ (by omega) (by omega) _)) | (go_at_call 22; exact Hp.quiet_add_left (Fl.kindR_any _ (by omega) (by omega) _)) | (go_at_call 23; exact Hp.quiet_add_left (Fl.entry_any _ (by omega) (by omega) _)) | (go_at_call 24; exact Hp.quiet_add_left (Fl.entryR_any _ (by omega) (by omega) _)) | (go_at_call 25; exact Hp.quiet_add_left (Fl.gen_any _ (by omega) (by omega) _)) | (go_at_call 26; exact Hp.quiet_add_left (Fl.genR_any _ (by omega) (by omega) _))))
  go_wp2_with fail
  go_ret
  exact ⟨Hp.ret_bool (by simp), Hp.below_drewN (Hp.below_drewN ((Below.refl _ _).alloc (Nat.le_refl _) _) _) _⟩
theorem walk_fieldDescs (a0 : Int) (a1 : Bool) (a2 : Int) (w : World) (a0l : 0 ≤ a0) (a0h : a0 ≤ 18446744073709551615) (a2l : 0 ≤ a2) (a2h : a2 ≤ 18446744073709551615) :
    Calls Try.prog 5 #[.int .u64 a0, .bool a1, .int .u64 a2] w fun e w' => e = .returned (.bool true) ∧ Below w.heap.size w w' := by
  go_enter Try.func5, Try.ntmps5
  go_wp2_with (first | (go_at_call 27; refine (Fl.desc_any _ _ (by omega) (by omega) _).mono ?_; rintro r w' ⟨rfl, rfl⟩) | (go_at_call 28; refine (Fl.descR_any _ _ (by omega) (by omega) _).mono ?_; rintro r w' ⟨rfl, rfl⟩) | (go_at_call 29; refine (Fl.descGen_any _ (by omega) (by omega) _).mono ?_; rintro r w' ⟨rfl, rfl⟩) | (go_at_call 30; refine (Fl.descGenR_any _ (by omega) (by omega) _).mono ?_; rintro r w' ⟨rfl, rfl⟩) | (go_at_call 31; refine (Fl.com_any _ (by omega) (by omega) _).mono ?_; rintro r w' ⟨rfl, rfl⟩) | (go_at_call 32; refine (Fl.comR_any _ (by omega) (by omega) _).mono ?_; rintro r w' ⟨rfl, rfl⟩))
  go_ret
  exact ⟨Hp.ret_bool (by simp), Below.refl _ _⟩
theorem walk_fieldDecides (a0 : Int) (a1 : Int) (w : World) (a0l : 0 ≤ a0) (a0h : a0 ≤ 18446744073709551615) (a1l : 0 ≤ a1) (a1h : a1 ≤ 18446744073709551615) :
    Calls Try.prog 6 #[.int .u64 a0, .int .u64 a1] w fun e w' => e = .returned (.bool true) ∧ Below w.heap.size w w' := by
  go_enter Try.func6, Try.ntmps6
  go_wp2_with (first | (go_at_call 33; refine (Fl.decide_any _ _ (by omega) (by omega) (by omega) (by omega) _).mono ?_; rintro r w' ⟨rfl, rfl⟩) | (go_at_call 34; refine (Fl.decideR_any _ _ (by omega) (by omega) (by omega) (by omega) _).mono ?_; rintro r w' ⟨rfl, rfl⟩))
  go_ret
  exact ⟨Hp.ret_bool (by simp), Below.refl _ _⟩
theorem ev0 : Fl.topV 3 2 = 196610 := by decide +kernel
theorem ev1 : Fl.topE 3 2 = 0 := by decide +kernel
theorem ev2 : Fl.stV 3 1 2 = 131083 := by decide +kernel
theorem ev3 : Fl.stE 3 1 2 = 0 := by decide +kernel
theorem ev4 : Fl.dsV 5 true = 11 := by decide +kernel
theorem ev5 : Fl.dsE 5 = 0 := by decide +kernel
theorem ev6 : Fl.com 11 = true := by decide +kernel
theorem ev7 : Fl.topV 1099511627776 0 = 0 := by decide +kernel
theorem ev8 : Fl.topE 1099511627776 0 = 2 := by decide +kernel
theorem ev9 : Fl.topV 0 1025 = 0 := by decide +kernel
theorem ev10 : Fl.topE 0 1025 = 2 := by decide +kernel
theorem ev11 : Fl.dsV 1099511627776 false = 0 := by decide +kernel
theorem ev12 : Fl.dsE 1099511627776 = 2 := by decide +kernel
theorem ev13 : Fl.stV 1 1 0 = 0 := by decide +kernel
theorem ev14 : Fl.stE 1 1 0 = 2 := by decide +kernel
theorem ev15 : Fl.stV 4 16 0 = 0 := by decide +kernel
theorem ev16 : Fl.stE 4 16 0 = 2 := by decide +kernel
theorem ev17 : Fl.stV 6 0 0 = 0 := by decide +kernel
theorem ev18 : Fl.stE 6 0 0 = 2 := by decide +kernel
theorem ev19 : Fl.ckE 1 = 0 := by decide +kernel
theorem ev20 : Fl.ckE 9 = 4 := by decide +kernel
theorem ev21 : Fl.ckE 131 = 4 := by decide +kernel
theorem ev22 : Fl.ckE 6 = 4 := by decide +kernel
theorem ev23 : Fl.stV 5 2 1 = 65557 := by decide +kernel
theorem ev24 : Fl.stE 5 2 1 = 0 := by decide +kernel
theorem ev25 : Fl.topV 1 1 = 65537 := by decide +kernel
theorem ev26 : Fl.topE 1 1 = 0 := by decide +kernel
theorem ev27 : Fl.dcP 131083 4 = false := by decide +kernel
theorem ev28 : Fl.dcA 131083 4 = false := by decide +kernel
theorem ev29 : Fl.dcE 131083 4 = 0 := by decide +kernel
theorem ev30 : Fl.dcP 131083 5 = true := by decide +kernel
theorem ev31 : Fl.dcA 131083 5 = false := by decide +kernel
theorem ev32 : Fl.dcE 131083 5 = 0 := by decide +kernel
theorem ev33 : Fl.dcP 131083 6 = true := by decide +kernel
theorem ev34 : Fl.dcA 131083 6 = false := by decide +kernel
theorem ev35 : Fl.dcE 131083 6 = 0 := by decide +kernel
theorem ev36 : Fl.dcP 131076 4 = true := by decide +kernel
theorem ev37 : Fl.dcA 131076 4 = false := by decide +kernel
theorem ev38 : Fl.dcE 131076 4 = 0 := by decide +kernel
theorem ev39 : Fl.dcP 131076 5 = false := by decide +kernel
theorem ev40 : Fl.dcA 131076 5 = false := by decide +kernel
theorem ev41 : Fl.dcE 131076 5 = 0 := by decide +kernel
theorem ev42 : Fl.dcP 131077 4 = true := by decide +kernel
theorem ev43 : Fl.dcA 131077 4 = false := by decide +kernel
theorem ev44 : Fl.dcE 131077 4 = 0 := by decide +kernel
theorem ev45 : Fl.dcP 131077 5 = true := by decide +kernel
theorem ev46 : Fl.dcA 131077 5 = true := by decide +kernel
theorem ev47 : Fl.dcE 131077 5 = 0 := by decide +kernel
theorem ev48 : Fl.dcP 1 0 = true := by decide +kernel
theorem ev49 : Fl.dcA 1 0 = false := by decide +kernel
theorem ev50 : Fl.dcE 1 0 = 0 := by decide +kernel
theorem ev51 : Fl.dcP 0 0 = false := by decide +kernel
theorem ev52 : Fl.dcA 0 0 = false := by decide +kernel
theorem ev53 : Fl.dcE 0 0 = 0 := by decide +kernel
theorem ev54 : Fl.dcP 2 1 = false := by decide +kernel
theorem ev55 : Fl.dcA 2 1 = false := by decide +kernel
theorem ev56 : Fl.dcE 2 1 = 0 := by decide +kernel
theorem ev57 : Fl.dcP 65557 3 = true := by decide +kernel
theorem ev58 : Fl.dcA 65557 3 = true := by decide +kernel
theorem ev59 : Fl.dcE 65557 3 = 0 := by decide +kernel
theorem known_any (w : World) : Calls Try.prog 36 #[] w fun e w' => e = .returned (.bool true) ∧ w = w' := by
  go_enter Try.func36, Try.ntmps36
  go_wp2_with (first | (go_at_call 11; refine (Fl.top_any _ _ (by omega) (by omega) _).mono ?_; (try simp only [ev0, ev1, ev2, ev3, ev4, ev5, ev6, ev7, ev8, ev9, ev10, ev11, ev12, ev13, ev14, ev15, ev16, ev17, ev18, ev19, ev20, ev21, ev22, ev23, ev24, ev25, ev26, ev27, ev28, ev29, ev30, ev31, ev32, ev33, ev34, ev35, ev36, ev37, ev38, ev39, ev40, ev41, ev42, ev43, ev44, ev45, ev46, ev47, ev48, ev49, ev50, ev51, ev52, ev53, ev54, ev55, ev56, ev57, ev58, ev59]); rintro r w' ⟨rfl, rfl⟩) | (go_at_call 13; refine (Fl.tag_any _ (by omega) (by omega) _).mono ?_; (try simp only [ev0, ev1, ev2, ev3, ev4, ev5, ev6, ev7, ev8, ev9, ev10, ev11, ev12, ev13, ev14, ev15, ev16, ev17, ev18, ev19, ev20, ev21, ev22, ev23, ev24, ev25, ev26, ev27, ev28, ev29, ev30, ev31, ev32, ev33, ev34, ev35, ev36, ev37, ev38, ev39, ev40, ev41, ev42, ev43, ev44, ev45, ev46, ev47, ev48, ev49, ev50, ev51, ev52, ev53, ev54, ev55, ev56, ev57, ev58, ev59]); rintro r w' ⟨rfl, rfl⟩) | (go_at_call 15; refine (Fl.tower_any _ (by omega) (by omega) _).mono ?_; (try simp only [ev0, ev1, ev2, ev3, ev4, ev5, ev6, ev7, ev8, ev9, ev10, ev11, ev12, ev13, ev14, ev15, ev16, ev17, ev18, ev19, ev20, ev21, ev22, ev23, ev24, ev25, ev26, ev27, ev28, ev29, ev30, ev31, ev32, ev33, ev34, ev35, ev36, ev37, ev38, ev39, ev40, ev41, ev42, ev43, ev44, ev45, ev46, ev47, ev48, ev49, ev50, ev51, ev52, ev53, ev54, ev55, ev56, ev57, ev58, ev59]); rintro r w' ⟨rfl, rfl⟩) | (go_at_call 17; refine (Fl.state_any _ _ _ (by omega) (by omega) (by omega) (by omega) (by omega) (by omega) _).mono ?_; (try simp only [ev0, ev1, ev2, ev3, ev4, ev5, ev6, ev7, ev8, ev9, ev10, ev11, ev12, ev13, ev14, ev15, ev16, ev17, ev18, ev19, ev20, ev21, ev22, ev23, ev24, ev25, ev26, ev27, ev28, ev29, ev30, ev31, ev32, ev33, ev34, ev35, ev36, ev37, ev38, ev39, ev40, ev41, ev42, ev43, ev44, ev45, ev46, ev47, ev48, ev49, ev50, ev51, ev52, ev53, ev54, ev55, ev56, ev57, ev58, ev59]); rintro r w' ⟨rfl, rfl⟩) | (go_at_call 19; refine (Fl.check_any _ (by omega) (by omega) _).mono ?_; (try simp only [ev0, ev1, ev2, ev3, ev4, ev5, ev6, ev7, ev8, ev9, ev10, ev11, ev12, ev13, ev14, ev15, ev16, ev17, ev18, ev19, ev20, ev21, ev22, ev23, ev24, ev25, ev26, ev27, ev28, ev29, ev30, ev31, ev32, ev33, ev34, ev35, ev36, ev37, ev38, ev39, ev40, ev41, ev42, ev43, ev44, ev45, ev46, ev47, ev48, ev49, ev50, ev51, ev52, ev53, ev54, ev55, ev56, ev57, ev58, ev59]); rintro r w' ⟨rfl, rfl⟩) | (go_at_call 21; refine (Fl.kind_any _ (by omega) (by omega) _).mono ?_; (try simp only [ev0, ev1, ev2, ev3, ev4, ev5, ev6, ev7, ev8, ev9, ev10, ev11, ev12, ev13, ev14, ev15, ev16, ev17, ev18, ev19, ev20, ev21, ev22, ev23, ev24, ev25, ev26, ev27, ev28, ev29, ev30, ev31, ev32, ev33, ev34, ev35, ev36, ev37, ev38, ev39, ev40, ev41, ev42, ev43, ev44, ev45, ev46, ev47, ev48, ev49, ev50, ev51, ev52, ev53, ev54, ev55, ev56, ev57, ev58, ev59]); rintro r w' ⟨rfl, rfl⟩) | (go_at_call 23; refine (Fl.entry_any _ (by omega) (by omega) _).mono ?_; (try simp only [ev0, ev1, ev2, ev3, ev4, ev5, ev6, ev7, ev8, ev9, ev10, ev11, ev12, ev13, ev14, ev15, ev16, ev17, ev18, ev19, ev20, ev21, ev22, ev23, ev24, ev25, ev26, ev27, ev28, ev29, ev30, ev31, ev32, ev33, ev34, ev35, ev36, ev37, ev38, ev39, ev40, ev41, ev42, ev43, ev44, ev45, ev46, ev47, ev48, ev49, ev50, ev51, ev52, ev53, ev54, ev55, ev56, ev57, ev58, ev59]); rintro r w' ⟨rfl, rfl⟩) | (go_at_call 25; refine (Fl.gen_any _ (by omega) (by omega) _).mono ?_; (try simp only [ev0, ev1, ev2, ev3, ev4, ev5, ev6, ev7, ev8, ev9, ev10, ev11, ev12, ev13, ev14, ev15, ev16, ev17, ev18, ev19, ev20, ev21, ev22, ev23, ev24, ev25, ev26, ev27, ev28, ev29, ev30, ev31, ev32, ev33, ev34, ev35, ev36, ev37, ev38, ev39, ev40, ev41, ev42, ev43, ev44, ev45, ev46, ev47, ev48, ev49, ev50, ev51, ev52, ev53, ev54, ev55, ev56, ev57, ev58, ev59]); rintro r w' ⟨rfl, rfl⟩) | (go_at_call 27; refine (Fl.desc_any _ _ (by omega) (by omega) _).mono ?_; (try simp only [ev0, ev1, ev2, ev3, ev4, ev5, ev6, ev7, ev8, ev9, ev10, ev11, ev12, ev13, ev14, ev15, ev16, ev17, ev18, ev19, ev20, ev21, ev22, ev23, ev24, ev25, ev26, ev27, ev28, ev29, ev30, ev31, ev32, ev33, ev34, ev35, ev36, ev37, ev38, ev39, ev40, ev41, ev42, ev43, ev44, ev45, ev46, ev47, ev48, ev49, ev50, ev51, ev52, ev53, ev54, ev55, ev56, ev57, ev58, ev59]); rintro r w' ⟨rfl, rfl⟩) | (go_at_call 29; refine (Fl.descGen_any _ (by omega) (by omega) _).mono ?_; (try simp only [ev0, ev1, ev2, ev3, ev4, ev5, ev6, ev7, ev8, ev9, ev10, ev11, ev12, ev13, ev14, ev15, ev16, ev17, ev18, ev19, ev20, ev21, ev22, ev23, ev24, ev25, ev26, ev27, ev28, ev29, ev30, ev31, ev32, ev33, ev34, ev35, ev36, ev37, ev38, ev39, ev40, ev41, ev42, ev43, ev44, ev45, ev46, ev47, ev48, ev49, ev50, ev51, ev52, ev53, ev54, ev55, ev56, ev57, ev58, ev59]); rintro r w' ⟨rfl, rfl⟩) | (go_at_call 31; refine (Fl.com_any _ (by omega) (by omega) _).mono ?_; (try simp only [ev0, ev1, ev2, ev3, ev4, ev5, ev6, ev7, ev8, ev9, ev10, ev11, ev12, ev13, ev14, ev15, ev16, ev17, ev18, ev19, ev20, ev21, ev22, ev23, ev24, ev25, ev26, ev27, ev28, ev29, ev30, ev31, ev32, ev33, ev34, ev35, ev36, ev37, ev38, ev39, ev40, ev41, ev42, ev43, ev44, ev45, ev46, ev47, ev48, ev49, ev50, ev51, ev52, ev53, ev54, ev55, ev56, ev57, ev58, ev59]); rintro r w' ⟨rfl, rfl⟩) | (go_at_call 33; refine (Fl.decide_any _ _ (by omega) (by omega) (by omega) (by omega) _).mono ?_; (try simp only [ev0, ev1, ev2, ev3, ev4, ev5, ev6, ev7, ev8, ev9, ev10, ev11, ev12, ev13, ev14, ev15, ev16, ev17, ev18, ev19, ev20, ev21, ev22, ev23, ev24, ev25, ev26, ev27, ev28, ev29, ev30, ev31, ev32, ev33, ev34, ev35, ev36, ev37, ev38, ev39, ev40, ev41, ev42, ev43, ev44, ev45, ev46, ev47, ev48, ev49, ev50, ev51, ev52, ev53, ev54, ev55, ev56, ev57, ev58, ev59]); rintro r w' ⟨rfl, rfl⟩))
  go_ret
  exact ⟨rfl, rfl⟩
theorem says_any (s d : Int) (p a : Bool) (s0 : 0 ≤ s) (s1 : s ≤ 18446744073709551615) (d0 : 0 ≤ d) (d1 : d ≤ 18446744073709551615) (hp : Fl.dcP s d = p) (ha : Fl.dcA s d = a) (he : Fl.dcE s d = 0) (w : World) :
    Calls Try.prog 35 #[.int .u64 s, .int .u64 d, .bool p, .bool a] w fun e w' => e = .returned (.bool true) ∧ w = w' := by
  have HP := Lib.hid hp; have HA := Lib.hid ha; have HE := Lib.hid he
  clear hp ha he
  go_enter Try.func35, Try.ntmps35
  go_wp2_with (go_at_call 33; refine (Fl.decide_any s d s0 s1 d0 d1 _).mono ?_; rw [HP.out, HA.out, HE.out]; rintro r w' ⟨rfl, rfl⟩)
  go_ret
  exact ⟨rfl, rfl⟩
set_option maxRecDepth 100000 in
theorem walk_fieldExamples  (w : World) :
    Calls Try.prog 7 #[] w fun e w' => e = .returned (.bool true) ∧ Below w.heap.size w w' := by
  go_enter Try.func7, Try.ntmps7
  go_wp2_with (first | (go_at_call 11; refine (Fl.top_any _ _ (by omega) (by omega) _).mono ?_; (try simp only [ev0, ev1, ev2, ev3, ev4, ev5, ev6, ev7, ev8, ev9, ev10, ev11, ev12, ev13, ev14, ev15, ev16, ev17, ev18, ev19, ev20, ev21, ev22, ev23, ev24, ev25, ev26, ev27, ev28, ev29, ev30, ev31, ev32, ev33, ev34, ev35, ev36, ev37, ev38, ev39, ev40, ev41, ev42, ev43, ev44, ev45, ev46, ev47, ev48, ev49, ev50, ev51, ev52, ev53, ev54, ev55, ev56, ev57, ev58, ev59]); rintro r w' ⟨rfl, rfl⟩) | (go_at_call 13; refine (Fl.tag_any _ (by omega) (by omega) _).mono ?_; (try simp only [ev0, ev1, ev2, ev3, ev4, ev5, ev6, ev7, ev8, ev9, ev10, ev11, ev12, ev13, ev14, ev15, ev16, ev17, ev18, ev19, ev20, ev21, ev22, ev23, ev24, ev25, ev26, ev27, ev28, ev29, ev30, ev31, ev32, ev33, ev34, ev35, ev36, ev37, ev38, ev39, ev40, ev41, ev42, ev43, ev44, ev45, ev46, ev47, ev48, ev49, ev50, ev51, ev52, ev53, ev54, ev55, ev56, ev57, ev58, ev59]); rintro r w' ⟨rfl, rfl⟩) | (go_at_call 15; refine (Fl.tower_any _ (by omega) (by omega) _).mono ?_; (try simp only [ev0, ev1, ev2, ev3, ev4, ev5, ev6, ev7, ev8, ev9, ev10, ev11, ev12, ev13, ev14, ev15, ev16, ev17, ev18, ev19, ev20, ev21, ev22, ev23, ev24, ev25, ev26, ev27, ev28, ev29, ev30, ev31, ev32, ev33, ev34, ev35, ev36, ev37, ev38, ev39, ev40, ev41, ev42, ev43, ev44, ev45, ev46, ev47, ev48, ev49, ev50, ev51, ev52, ev53, ev54, ev55, ev56, ev57, ev58, ev59]); rintro r w' ⟨rfl, rfl⟩) | (go_at_call 17; refine (Fl.state_any _ _ _ (by omega) (by omega) (by omega) (by omega) (by omega) (by omega) _).mono ?_; (try simp only [ev0, ev1, ev2, ev3, ev4, ev5, ev6, ev7, ev8, ev9, ev10, ev11, ev12, ev13, ev14, ev15, ev16, ev17, ev18, ev19, ev20, ev21, ev22, ev23, ev24, ev25, ev26, ev27, ev28, ev29, ev30, ev31, ev32, ev33, ev34, ev35, ev36, ev37, ev38, ev39, ev40, ev41, ev42, ev43, ev44, ev45, ev46, ev47, ev48, ev49, ev50, ev51, ev52, ev53, ev54, ev55, ev56, ev57, ev58, ev59]); rintro r w' ⟨rfl, rfl⟩) | (go_at_call 19; refine (Fl.check_any _ (by omega) (by omega) _).mono ?_; (try simp only [ev0, ev1, ev2, ev3, ev4, ev5, ev6, ev7, ev8, ev9, ev10, ev11, ev12, ev13, ev14, ev15, ev16, ev17, ev18, ev19, ev20, ev21, ev22, ev23, ev24, ev25, ev26, ev27, ev28, ev29, ev30, ev31, ev32, ev33, ev34, ev35, ev36, ev37, ev38, ev39, ev40, ev41, ev42, ev43, ev44, ev45, ev46, ev47, ev48, ev49, ev50, ev51, ev52, ev53, ev54, ev55, ev56, ev57, ev58, ev59]); rintro r w' ⟨rfl, rfl⟩) | (go_at_call 21; refine (Fl.kind_any _ (by omega) (by omega) _).mono ?_; (try simp only [ev0, ev1, ev2, ev3, ev4, ev5, ev6, ev7, ev8, ev9, ev10, ev11, ev12, ev13, ev14, ev15, ev16, ev17, ev18, ev19, ev20, ev21, ev22, ev23, ev24, ev25, ev26, ev27, ev28, ev29, ev30, ev31, ev32, ev33, ev34, ev35, ev36, ev37, ev38, ev39, ev40, ev41, ev42, ev43, ev44, ev45, ev46, ev47, ev48, ev49, ev50, ev51, ev52, ev53, ev54, ev55, ev56, ev57, ev58, ev59]); rintro r w' ⟨rfl, rfl⟩) | (go_at_call 23; refine (Fl.entry_any _ (by omega) (by omega) _).mono ?_; (try simp only [ev0, ev1, ev2, ev3, ev4, ev5, ev6, ev7, ev8, ev9, ev10, ev11, ev12, ev13, ev14, ev15, ev16, ev17, ev18, ev19, ev20, ev21, ev22, ev23, ev24, ev25, ev26, ev27, ev28, ev29, ev30, ev31, ev32, ev33, ev34, ev35, ev36, ev37, ev38, ev39, ev40, ev41, ev42, ev43, ev44, ev45, ev46, ev47, ev48, ev49, ev50, ev51, ev52, ev53, ev54, ev55, ev56, ev57, ev58, ev59]); rintro r w' ⟨rfl, rfl⟩) | (go_at_call 25; refine (Fl.gen_any _ (by omega) (by omega) _).mono ?_; (try simp only [ev0, ev1, ev2, ev3, ev4, ev5, ev6, ev7, ev8, ev9, ev10, ev11, ev12, ev13, ev14, ev15, ev16, ev17, ev18, ev19, ev20, ev21, ev22, ev23, ev24, ev25, ev26, ev27, ev28, ev29, ev30, ev31, ev32, ev33, ev34, ev35, ev36, ev37, ev38, ev39, ev40, ev41, ev42, ev43, ev44, ev45, ev46, ev47, ev48, ev49, ev50, ev51, ev52, ev53, ev54, ev55, ev56, ev57, ev58, ev59]); rintro r w' ⟨rfl, rfl⟩) | (go_at_call 27; refine (Fl.desc_any _ _ (by omega) (by omega) _).mono ?_; (try simp only [ev0, ev1, ev2, ev3, ev4, ev5, ev6, ev7, ev8, ev9, ev10, ev11, ev12, ev13, ev14, ev15, ev16, ev17, ev18, ev19, ev20, ev21, ev22, ev23, ev24, ev25, ev26, ev27, ev28, ev29, ev30, ev31, ev32, ev33, ev34, ev35, ev36, ev37, ev38, ev39, ev40, ev41, ev42, ev43, ev44, ev45, ev46, ev47, ev48, ev49, ev50, ev51, ev52, ev53, ev54, ev55, ev56, ev57, ev58, ev59]); rintro r w' ⟨rfl, rfl⟩) | (go_at_call 29; refine (Fl.descGen_any _ (by omega) (by omega) _).mono ?_; (try simp only [ev0, ev1, ev2, ev3, ev4, ev5, ev6, ev7, ev8, ev9, ev10, ev11, ev12, ev13, ev14, ev15, ev16, ev17, ev18, ev19, ev20, ev21, ev22, ev23, ev24, ev25, ev26, ev27, ev28, ev29, ev30, ev31, ev32, ev33, ev34, ev35, ev36, ev37, ev38, ev39, ev40, ev41, ev42, ev43, ev44, ev45, ev46, ev47, ev48, ev49, ev50, ev51, ev52, ev53, ev54, ev55, ev56, ev57, ev58, ev59]); rintro r w' ⟨rfl, rfl⟩) | (go_at_call 31; refine (Fl.com_any _ (by omega) (by omega) _).mono ?_; (try simp only [ev0, ev1, ev2, ev3, ev4, ev5, ev6, ev7, ev8, ev9, ev10, ev11, ev12, ev13, ev14, ev15, ev16, ev17, ev18, ev19, ev20, ev21, ev22, ev23, ev24, ev25, ev26, ev27, ev28, ev29, ev30, ev31, ev32, ev33, ev34, ev35, ev36, ev37, ev38, ev39, ev40, ev41, ev42, ev43, ev44, ev45, ev46, ev47, ev48, ev49, ev50, ev51, ev52, ev53, ev54, ev55, ev56, ev57, ev58, ev59]); rintro r w' ⟨rfl, rfl⟩) | (go_at_call 33; refine (Fl.decide_any _ _ (by omega) (by omega) (by omega) (by omega) _).mono ?_; (try simp only [ev0, ev1, ev2, ev3, ev4, ev5, ev6, ev7, ev8, ev9, ev10, ev11, ev12, ev13, ev14, ev15, ev16, ev17, ev18, ev19, ev20, ev21, ev22, ev23, ev24, ev25, ev26, ev27, ev28, ev29, ev30, ev31, ev32, ev33, ev34, ev35, ev36, ev37, ev38, ev39, ev40, ev41, ev42, ev43, ev44, ev45, ev46, ev47, ev48, ev49, ev50, ev51, ev52, ev53, ev54, ev55, ev56, ev57, ev58, ev59]); rintro r w' ⟨rfl, rfl⟩) | (go_at_call 36; refine (known_any _).mono ?_; rintro r w' ⟨rfl, rfl⟩) | (go_at_call 35; refine (says_any _ _ _ _ (by omega) (by omega) (by omega) (by omega) (by decide +kernel) (by decide +kernel) (by decide +kernel) _).mono ?_; rintro r w' ⟨rfl, rfl⟩))
  go_ret
  exact ⟨rfl, Below.refl _ _⟩

/-! ### what the parts of a word are -/
theorem stV_parts {k e g : Int} (h : Fl.stOk k e g = true) (g0 : 0 ≤ g) : Fl.stV k e g % 8 = k ∧ Fl.stV k e g % 65536 / 8 = e ∧ Fl.stV k e g / 65536 = g ∧ 0 ≤ Fl.stV k e g ∧ Fl.stV k e g ≤ 18446744073709551615 := by
  have hb := Fl.stOk_bd k e g h g0
  have hv : Fl.stV k e g = k + 8 * e + 65536 * g := by rw [Fl.stV, if_pos h]
  rw [hv]; omega
theorem ckE_stV {k e g : Int} (h : Fl.stOk k e g = true) (g0 : 0 ≤ g) : Fl.ckE (Fl.stV k e g) = 0 := by
  obtain ⟨h1, h2, h3, _⟩ := stV_parts h g0
  rw [Fl.ckE, h1, h2, h3, if_pos h]
theorem stV_bd (k e g : Int) (g0 : 0 ≤ g) : 0 ≤ Fl.stV k e g ∧ Fl.stV k e g ≤ 18446744073709551615 := by
  cases h : Fl.stOk k e g
  · rw [Fl.stV, if_neg (by simp [h])]; omega
  · exact (stV_parts h g0).2.2.2
theorem topV_parts {a b : Int} (h : Fl.topOk a b = true) (a0 : 0 ≤ a) : Fl.topV a b / 65536 = a ∧ Fl.topV a b % 65536 = b ∧ 0 ≤ Fl.topV a b ∧ Fl.topV a b ≤ 18446744073709551615 := by
  have hv : Fl.topV a b = b + 65536 * a := by rw [Fl.topV, if_pos h]
  unfold Fl.topOk at h
  simp only [decide_eq_true_eq] at h
  rw [hv]; omega
theorem topV_bd (a b : Int) (a0 : 0 ≤ a) : 0 ≤ Fl.topV a b ∧ Fl.topV a b ≤ 18446744073709551615 := by
  cases h : Fl.topOk a b
  · rw [Fl.topV, if_neg (by simp [h])]; omega
  · exact (topV_parts h a0).2.2
theorem dsV_parts {g : Int} (c : Bool) (h : Fl.dsOk g = true) (g0 : 0 ≤ g) : Fl.dsV g c / 2 = g ∧ Fl.com (Fl.dsV g c) = c ∧ 0 ≤ Fl.dsV g c ∧ Fl.dsV g c ≤ 18446744073709551615 := by
  have hv : Fl.dsV g c = 2 * g + (if c = true then 1 else 0) := by rw [Fl.dsV, if_pos h]
  unfold Fl.dsOk at h
  simp only [decide_eq_true_eq] at h
  unfold Fl.com
  rw [hv]
  cases c <;> simp <;> omega
theorem dsV_bd (g : Int) (c : Bool) (g0 : 0 ≤ g) : 0 ≤ Fl.dsV g c ∧ Fl.dsV g c ≤ 18446744073709551615 := by
  cases h : Fl.dsOk g
  · rw [Fl.dsV, if_neg (by simp [h])]; omega
  · exact (dsV_parts c h g0).2.2
/-- What a state word says under a descriptor, by its parts. -/
theorem dc_at {k e g d : Int} (c : Bool) (h : Fl.stOk k e g = true) (g0 : 0 ≤ g) (hd : Fl.dsOk d = true) (d0 : 0 ≤ d) (D : Bool) (hD : (decide (d ≠ g) || c) = D) :
    Fl.dcP (Fl.stV k e g) (Fl.dsV d c) = (decide (k = 1) || decide (k = 3) && D || decide (k = 4) && !D || decide (k = 5)) ∧ Fl.dcA (Fl.stV k e g) (Fl.dsV d c) = (decide (k = 5) && D) ∧ Fl.dcE (Fl.stV k e g) (Fl.dsV d c) = 0 := by
  obtain ⟨h1, h2, h3, _⟩ := stV_parts h g0
  obtain ⟨h4, h5, _⟩ := dsV_parts c hd d0
  have hk : Fl.dcOk (Fl.stV k e g) (Fl.dsV d c) = true := by simp [Fl.dcOk, h1, h2, h3, h4, h, hd]
  have hb : Fl.ddB (Fl.stV k e g) (Fl.dsV d c) = D := by rw [Fl.ddB, h3, h4, h5, hD]
  simp [Fl.dcP, Fl.dcA, Fl.dcE, hk, hb, h1]
theorem walk_fieldWords (a0 : Int) (w : World) (a0l : 0 ≤ a0) (a0h : a0 ≤ 18446744073709551615) :
    Calls Try.prog 9 #[.int .u64 a0] w fun e w' => e = .returned (.bool true) ∧ Below w.heap.size w w' := by
  have hs : (Fl.stV (a0 % 8) (a0 % 65536 / 8) (a0 / 65536) = a0 ∧ Fl.stE (a0 % 8) (a0 % 65536 / 8) (a0 / 65536) = 0 ∧ Fl.ckE a0 = 0) ∨ (Fl.stV (a0 % 8) (a0 % 65536 / 8) (a0 / 65536) = 0 ∧ Fl.stE (a0 % 8) (a0 % 65536 / 8) (a0 / 65536) = 2 ∧ Fl.ckE a0 = 4) := by
    cases h : Fl.stOk (a0 % 8) (a0 % 65536 / 8) (a0 / 65536)
    · refine .inr ⟨?_, ?_, ?_⟩
      · rw [Fl.stV, if_neg (by simp [h])]
      · rw [Fl.stE, if_neg (by simp [h])]
      · rw [Fl.ckE, if_neg (by simp [h])]
    · refine .inl ⟨?_, ?_, ?_⟩
      · rw [Fl.stV, if_pos h]; omega
      · rw [Fl.stE, if_pos h]
      · rw [Fl.ckE, if_pos h]
  have hd : (a0 ≤ 2199023255551 ∧ Fl.dsV (a0 / 2) (Fl.com a0) = a0 ∧ Fl.dsE (a0 / 2) = 0) ∨ (¬ a0 ≤ 2199023255551 ∧ Fl.dsV (a0 / 2) (Fl.com a0) = 0 ∧ Fl.dsE (a0 / 2) = 2) := by
    by_cases h : a0 / 2 ≤ 1099511627775
    · have ho : Fl.dsOk (a0 / 2) = true := decide_eq_true h
      refine .inl ⟨by omega, ?_, ?_⟩
      · rw [Fl.dsV, if_pos ho]
        unfold Fl.com
        by_cases h2 : a0 % 2 = 1 <;> simp [h2] <;> omega
      · rw [Fl.dsE, if_pos ho]
    · have ho : ¬ Fl.dsOk (a0 / 2) = true := by simpa [Fl.dsOk] using h
      exact .inr ⟨by omega, by rw [Fl.dsV, if_neg ho], by rw [Fl.dsE, if_neg ho]⟩
  rcases hs with ⟨h1, h2, h3⟩ | ⟨h1, h2, h3⟩ <;> rcases hd with ⟨h4, h5, h6⟩ | ⟨h4, h5, h6⟩
  all_goals
    have HV := Lib.hid h1; have HE := Lib.hid h2; have HC := Lib.hid h3; have HX := Lib.hid h5; have HY := Lib.hid h6
    clear h1 h2 h3 h5 h6
    go_enter Try.func9, Try.ntmps9
    go_wp2_with (first | (go_at_call 17; refine (Fl.state_any _ _ _ (by omega) (by omega) (by omega) (by omega) (by omega) (by omega) _).mono ?_; rw [HV.out, HE.out]; rintro r w' ⟨rfl, rfl⟩) | (go_at_call 21; refine (Fl.kind_any _ (by omega) (by omega) _).mono ?_; rintro r w' ⟨rfl, rfl⟩) | (go_at_call 23; refine (Fl.entry_any _ (by omega) (by omega) _).mono ?_; rintro r w' ⟨rfl, rfl⟩) | (go_at_call 25; refine (Fl.gen_any _ (by omega) (by omega) _).mono ?_; rintro r w' ⟨rfl, rfl⟩) | (go_at_call 19; refine (Fl.check_any _ (by omega) (by omega) _).mono ?_; rw [HC.out]; rintro r w' ⟨rfl, rfl⟩) | (go_at_call 27; refine (Fl.desc_any _ _ (by omega) (by omega) _).mono ?_; rw [HX.out, HY.out]; rintro r w' ⟨rfl, rfl⟩) | (go_at_call 29; refine (Fl.descGen_any _ (by omega) (by omega) _).mono ?_; rintro r w' ⟨rfl, rfl⟩) | (go_at_call 31; refine (Fl.com_any _ (by omega) (by omega) _).mono ?_; rintro r w' ⟨rfl, rfl⟩) | (go_at_call 36; refine (known_any _).mono ?_; rintro r w' ⟨rfl, rfl⟩))
    go_ret
    exact ⟨rfl, Below.refl _ _⟩
end Wk
end Go.Proofs.Ytbkppmdiobehoaa
