/- The walk of the law FieldCommits, from the contracts of XField. Conditions: the bounds of each argument's kind. -/
import Derived.Test.YtbkppmdiobehoaaWkField
namespace Go.Proofs.Ytbkppmdiobehoaa
open Go.RowKit
set_option linter.unusedVariables false
set_option linter.unusedSimpArgs false
namespace Wk
set_option maxRecDepth 100000 in
set_option maxHeartbeats 1000000 in
theorem commits_no (k e o g l : Int) (c : Bool) (w : World) (k0 : 0 ≤ k) (k1 : k ≤ 255) (e0 : (-9223372036854775808) ≤ e) (e1 : e ≤ 9223372036854775807) (o0 : 0 ≤ o) (o1 : o ≤ 18446744073709551615) (g0 : 0 ≤ g) (g1 : g ≤ 18446744073709551615) (l0 : 0 ≤ l) (l1 : l ≤ 18446744073709551615)
    (hn : Fl.stE k e o = 2 ∧ Fl.dsE g = Fl.dsE g ∧ Fl.dsE l = Fl.dsE l ∨ Fl.stE k e o = 0 ∧ Fl.dsE g = 2 ∧ Fl.dsE l = Fl.dsE l ∨ Fl.stE k e o = 0 ∧ Fl.dsE g = 0 ∧ Fl.dsE l = 2) :
    Calls Try.prog 10 #[.int .u8 k, .int .i64 e, .agg #[.int .u64 o, .int .u64 g, .int .u64 l, .bool c]] w fun e w' => e = .returned (.bool true) ∧ Below w.heap.size w w' := by
  rcases hn with ⟨hx, hy, hz⟩ | ⟨hx, hy, hz⟩ | ⟨hx, hy, hz⟩
  all_goals
    have HE := Lib.hid hx; have HG := Lib.hid hy; have HL := Lib.hid hz
    clear hx hy hz
    go_enter Try.func10, Try.ntmps10
    go_wp2_with (first | (go_at_call 17; refine (Fl.state_any _ _ _ (by omega) (by omega) (by omega) (by omega) (by omega) (by omega) _).mono ?_; rw [HE.out]; rintro r w' ⟨rfl, rfl⟩) | (go_at_call 27; refine (Fl.desc_any _ _ (by omega) (by omega) _).mono ?_; (first | rw [HG.out] | rw [HL.out] | skip); rintro r w' ⟨rfl, rfl⟩) | (go_at_call 33; refine (Fl.decide_any _ _ (by omega) (by omega) (by omega) (by omega) _).mono ?_; (first | rw [HP1.out, HA1.out, HE1.out] | rw [HP2.out, HA2.out, HE2.out] | rw [HP3.out, HA3.out, HE3.out]); rintro r w' ⟨rfl, rfl⟩) | (go_at_call 36; refine (known_any _).mono ?_; rintro r w' ⟨rfl, rfl⟩))
    all_goals
      go_ret
      exact ⟨rfl, by repeat (first | exact Below.refl _ _ | refine Hp.below_drewN ?_ _ | exact (Below.refl _ _).alloc (Nat.le_refl _) _)⟩
set_option maxRecDepth 100000 in
set_option maxHeartbeats 4000000 in
theorem commits_yes (k e o g l : Int) (c : Bool) (w : World) (k0 : 0 ≤ k) (k1 : k ≤ 255) (e0 : (-9223372036854775808) ≤ e) (e1 : e ≤ 9223372036854775807) (o0 : 0 ≤ o) (o1 : o ≤ 18446744073709551615) (g0 : 0 ≤ g) (g1 : g ≤ 18446744073709551615) (l0 : 0 ≤ l) (l1 : l ≤ 18446744073709551615)
    (h1 : Fl.stOk k e o = true) (h2 : Fl.dsOk g = true) (h3 : Fl.dsOk l = true) (D1 D3 : Bool) (hD1 : (decide (g ≠ o) || false) = D1) (hD3 : (decide (l ≠ o) || c) = D3) (hg : (o == g) = !D1) (hl : (o == l) = true ∨ (o == l) = false ∧ D3 = true) :
    Calls Try.prog 10 #[.int .u8 k, .int .i64 e, .agg #[.int .u64 o, .int .u64 g, .int .u64 l, .bool c]] w fun e w' => e = .returned (.bool true) ∧ Below w.heap.size w w' := by
  have HE := Lib.hid (show Fl.stE k e o = 0 by rw [Fl.stE, if_pos h1])
  have HG := Lib.hid (show Fl.dsE g = 0 by rw [Fl.dsE, if_pos h2])
  have HL := Lib.hid (show Fl.dsE l = 0 by rw [Fl.dsE, if_pos h3])
  obtain ⟨p1, p2, p3⟩ := dc_at false h1 o0 h2 g0 D1 hD1
  obtain ⟨q1, q2, q3⟩ := dc_at true h1 o0 h2 g0 true (by simp)
  obtain ⟨r1, r2, r3⟩ := dc_at c h1 o0 h3 l0 D3 hD3
  have hb := Fl.stOk_bd k e o h1 o0
  obtain ⟨b1, b2⟩ := stV_bd k e o o0
  obtain ⟨b3, b4⟩ := dsV_bd g false g0
  obtain ⟨b5, b6⟩ := dsV_bd g true g0
  obtain ⟨b7, b8⟩ := dsV_bd l c l0
  have HE1 := Lib.hid p3; have HE2 := Lib.hid q3; have HE3 := Lib.hid r3
  clear p3 q3 r3 h1 h2 h3 hD1 hD3 e0 e1
  have hk : k = 0 ∨ k = 1 ∨ k = 2 ∨ k = 3 ∨ k = 4 ∨ k = 5 := by omega
  have hg2 : (o != g) = D1 := by rw [bne, hg]; simp
  have hgE : (o == g) = !D1 := hg
  have hg3 : (o != g) = D1 := hg2
  clear hg hg2
  have hlE : (o != l) = !(o == l) := rfl
  rcases hl with hl | ⟨hl, hD⟩
  · rw [hl] at hlE
    simp only [Bool.not_true] at hlE
    rcases hk with rfl | rfl | rfl | rfl | rfl | rfl <;> cases D1 <;> simp only [Bool.not_true, Bool.not_false] at hgE <;> simp at p1 p2 q1 q2 r1 r2
    all_goals
      have HP1 := Lib.hid p1; have HA1 := Lib.hid p2; have HP2 := Lib.hid q1; have HA2 := Lib.hid q2; have HP3 := Lib.hid r1; have HA3 := Lib.hid r2
      clear p1 p2 q1 q2 r1 r2
      go_enter Try.func10, Try.ntmps10
      go_wp2_with (first | (go_at_call 17; refine (Fl.state_any _ _ _ (by omega) (by omega) (by omega) (by omega) (by omega) (by omega) _).mono ?_; rw [HE.out]; rintro r w' ⟨rfl, rfl⟩) | (go_at_call 27; refine (Fl.desc_any _ _ (by omega) (by omega) _).mono ?_; (first | rw [HG.out] | rw [HL.out] | skip); rintro r w' ⟨rfl, rfl⟩) | (go_at_call 33; refine (Fl.decide_any _ _ (by omega) (by omega) (by omega) (by omega) _).mono ?_; (first | rw [HP1.out, HA1.out, HE1.out] | rw [HP2.out, HA2.out, HE2.out] | rw [HP3.out, HA3.out, HE3.out]); rintro r w' ⟨rfl, rfl⟩) | (go_at_call 36; refine (known_any _).mono ?_; rintro r w' ⟨rfl, rfl⟩))
      all_goals
        go_ret
        exact ⟨rfl, by repeat (first | exact Below.refl _ _ | refine Hp.below_drewN ?_ _ | exact (Below.refl _ _).alloc (Nat.le_refl _) _)⟩
  · rw [hl] at hlE
    subst hD
    simp only [Bool.not_false] at hlE
    rcases hk with rfl | rfl | rfl | rfl | rfl | rfl <;> cases D1 <;> simp only [Bool.not_true, Bool.not_false] at hgE <;> simp at p1 p2 q1 q2 r1 r2
    all_goals
      have HP1 := Lib.hid p1; have HA1 := Lib.hid p2; have HP2 := Lib.hid q1; have HA2 := Lib.hid q2; have HP3 := Lib.hid r1; have HA3 := Lib.hid r2
      clear p1 p2 q1 q2 r1 r2
      go_enter Try.func10, Try.ntmps10
      go_wp2_with (first | (go_at_call 17; refine (Fl.state_any _ _ _ (by omega) (by omega) (by omega) (by omega) (by omega) (by omega) _).mono ?_; rw [HE.out]; rintro r w' ⟨rfl, rfl⟩) | (go_at_call 27; refine (Fl.desc_any _ _ (by omega) (by omega) _).mono ?_; (first | rw [HG.out] | rw [HL.out] | skip); rintro r w' ⟨rfl, rfl⟩) | (go_at_call 33; refine (Fl.decide_any _ _ (by omega) (by omega) (by omega) (by omega) _).mono ?_; (first | rw [HP1.out, HA1.out, HE1.out] | rw [HP2.out, HA2.out, HE2.out] | rw [HP3.out, HA3.out, HE3.out]); rintro r w' ⟨rfl, rfl⟩) | (go_at_call 36; refine (known_any _).mono ?_; rintro r w' ⟨rfl, rfl⟩))
      all_goals
        go_ret
        exact ⟨rfl, by repeat (first | exact Below.refl _ _ | refine Hp.below_drewN ?_ _ | exact (Below.refl _ _).alloc (Nat.le_refl _) _)⟩
theorem walk_fieldCommits (a0 : Int) (a1 : Int) (a2Of : Int) (a2Gen : Int) (a2Later : Int) (a2Committed : Bool) (w : World) (a0l : 0 ≤ a0) (a0h : a0 ≤ 255) (a1l : (-9223372036854775808) ≤ a1) (a1h : a1 ≤ 9223372036854775807) (a2Ofl : 0 ≤ a2Of) (a2Ofh : a2Of ≤ 18446744073709551615) (a2Genl : 0 ≤ a2Gen) (a2Genh : a2Gen ≤ 18446744073709551615) (a2Laterl : 0 ≤ a2Later) (a2Laterh : a2Later ≤ 18446744073709551615) :
    Calls Try.prog 10 #[.int .u8 a0, .int .i64 a1, .agg #[.int .u64 a2Of, .int .u64 a2Gen, .int .u64 a2Later, .bool a2Committed]] w fun e w' => e = .returned (.bool true) ∧ Below w.heap.size w w' := by
  cases h1 : Fl.stOk a0 a1 a2Of with
  | false => exact commits_no a0 a1 a2Of a2Gen a2Later a2Committed w a0l a0h a1l a1h a2Ofl a2Ofh a2Genl a2Genh a2Laterl a2Laterh (.inl ⟨by rw [Fl.stE, if_neg (by simp [h1])], rfl, rfl⟩)
  | true =>
    have e1 : Fl.stE a0 a1 a2Of = 0 := by rw [Fl.stE, if_pos h1]
    cases h2 : Fl.dsOk a2Gen with
    | false => exact commits_no a0 a1 a2Of a2Gen a2Later a2Committed w a0l a0h a1l a1h a2Ofl a2Ofh a2Genl a2Genh a2Laterl a2Laterh (.inr (.inl ⟨e1, by rw [Fl.dsE, if_neg (by simp [h2])], rfl⟩))
    | true =>
      have e2 : Fl.dsE a2Gen = 0 := by rw [Fl.dsE, if_pos h2]
      cases h3 : Fl.dsOk a2Later with
      | false => exact commits_no a0 a1 a2Of a2Gen a2Later a2Committed w a0l a0h a1l a1h a2Ofl a2Ofh a2Genl a2Genh a2Laterl a2Laterh (.inr (.inr ⟨e1, e2, by rw [Fl.dsE, if_neg (by simp [h3])]⟩))
      | true =>
        refine commits_yes a0 a1 a2Of a2Gen a2Later a2Committed w a0l a0h a1l a1h a2Ofl a2Ofh a2Genl a2Genh a2Laterl a2Laterh h1 h2 h3 (decide (a2Gen ≠ a2Of)) (decide (a2Later ≠ a2Of) || a2Committed) (by simp) rfl ?_ ?_
        · by_cases h : a2Of = a2Gen
          · simp [h]
          · simp [h, Ne.symm h]
        · by_cases h : a2Of = a2Later
          · simp [h]
          · simp [h, Ne.symm h]
end Wk
end Go.Proofs.Ytbkppmdiobehoaa
