/- The walk of the law DrawSeeds, from the contracts of XDrw, XDrwH and XDrwT. Conditions: those of the contracts. -/
import Derived.Test.YtfogcapgadfbfaaDoorWkDr1
import Derived.Test.YtfogcapgadfbfaaDoorHelp
namespace Go.Proofs.YtfogcapgadfbfaaDoor
open Go.RowKit Go.Sort
set_option linter.unusedVariables false
set_option linter.unusedSimpArgs false
namespace Dr
open Dm
/-- what the seed of the draw number 0 is, as the walk spells it -/
theorem seed_val (s j : Nat) (hj : j < M64) : IntKind.u64.wrap ((s : Int) + IntKind.u64.wrap ((j : Int) * 11400714819323198485)) = (((s + j * stp) % M64 : Nat) : Int) := by
  rw [show (11400714819323198485 : Int) = ((stp : Nat) : Int) from rfl, mulN, ← Int.natCast_add, wrapN, Nat.add_mod_mod]
theorem seed_val' (s j : Nat) (hj : j < M64) : IntKind.u64.wrap ((s : Int) + IntKind.u64.wrap (IntKind.u64.wrap (j : Int) * 11400714819323198485)) = (((s + j * stp) % M64 : Nat) : Int) := by
  rw [wrapN, Nat.mod_eq_of_lt hj, seed_val s j hj]
end Dr
namespace Wk
open Dm Dr
set_option maxRecDepth 100000 in
set_option maxHeartbeats 4000000 in
theorem walk_drawSeeds (a0 : Int) (a1 : Int) (a2 : Int) (w : World) (a0l : 0 ≤ a0) (a0h : a0 ≤ 18446744073709551615) (a1l : 0 ≤ a1) (a1h : a1 ≤ 18446744073709551615) (a2l : (-9223372036854775808) ≤ a2) (a2h : a2 ≤ 9223372036854775807) (hT : Dm.Tz w) :
    Calls Tryd.prog 8 #[.int .u64 a0, .int .u64 a1, .int .i64 a2] w fun e w' => e = .returned (.bool true) ∧ Below w.heap.size w w' := by
  obtain ⟨s, rfl⟩ := Int.eq_ofNat_of_zero_le a0l
  obtain ⟨o, rfl⟩ := Int.eq_ofNat_of_zero_le a1l
  have HT := Lib.hid hT; clear hT
  by_cases hn : a2 < 0
  · have t0 : decide (a2 < 0) = true := decide_eq_true hn
    go_enter Tryd.func8, Tryd.ntmps8
    go_wp2_with fail
    refine (known_any _ HT.out).mono ?_
    rintro r w1 ⟨rfl, b1⟩
    go_wp2
    go_ret
    exact ⟨rfl, b1⟩
  by_cases hn2 : 300 < a2
  · have t0 : decide (a2 < 0) = false := decide_eq_false hn
    have t1 : decide (300 < a2) = true := decide_eq_true hn2
    go_enter Tryd.func8, Tryd.ntmps8
    go_wp2_with fail
    refine (known_any _ HT.out).mono ?_
    rintro r w1 ⟨rfl, b1⟩
    go_wp2
    go_ret
    exact ⟨rfl, b1⟩
  obtain ⟨N, rfl⟩ := Int.eq_ofNat_of_zero_le (show 0 ≤ a2 by omega)
  have hN : N ≤ 300 := by omega
  have hs : s < M64 := by show s < 18446744073709551616; omega
  have ho : o < M64 := by show o < 18446744073709551616; omega
  have t0 : decide ((N : Int) < 0) = false := decide_eq_false hn
  have t1 : decide (300 < (N : Int)) = false := decide_eq_false hn2
  have e1 : hL s (N : Int) = hgL s N := if_neg (by omega)
  have e2 : hE (N : Int) = 0 := by unfold hE; rw [if_neg (by omega), if_neg (by omega)]
  have C1 := Lib.hid (heights_g s N hs (by omega) (by omega) w HT.out)
  unfold HG at C1
  rw [e1, e2, hgL_len] at C1
  clear e1 e2 hn hn2
  go_enter Tryd.func8, Tryd.ntmps8
  go_wp2_with fail
  refine C1.out.mono ?_
  rintro r w1 ⟨A, c, rfl, r1, f1, hc1, b1⟩
  have R1 := Lib.hid r1; clear r1 f1
  go_wp2
  go_loopw [9] (fun i wr => ∃ j : Nat, j ≤ N ∧ i = .int .i64 j ∧ Below w1.heap.size w1 wr) (fun i _ => (N - intOf i).toNat)
  case atStart => exact ⟨0, Nat.zero_le _, rfl, Below.refl _ _⟩
  case round =>
    obtain ⟨j, hj, rfl, bel⟩ := hrel
    by_cases hlt : j < N
    · have u0 : decide ((j : Int) < N) = true := decide_eq_true (by omega)
      have CM := Lib.hid (mix_any s j hs (by omega) (by omega) wr)
      rw [ix_nat (show j < M64 by show j < 18446744073709551616; omega)] at CM
      have CO := fun W => Lib.hid (mix_any o j ho (by omega) (by omega) W)
      rw [ix_nat (show j < M64 by show j < 18446744073709551616; omega)] at CO
      have C0 : ∀ (X : Int) W, X = (((s + j * stp) % M64 : Nat) : Int) → Hid (Calls Tryd.prog 12 #[.int .u64 X, .int .i64 0] W fun e w' => e = .returned (.int .u64 (mixN s j : Nat)) ∧ W = w') := fun X W hX => Lib.hid (by
        have h := mix_any ((s + j * stp) % M64) 0 (Nat.mod_lt _ m64_pos) (by omega) (by omega) W
        rw [show ix 0 = 0 by rfl, mixN_seed s j (show j + 1 < 18446744073709551616 by omega)] at h
        rw [hX]; exact h)
      have HE1 := Lib.hid (seed_val s j (show j < 18446744073709551616 by omega))
      have HE2 := Lib.hid (seed_val' s j (show j < 18446744073709551616 by omega))
      have CH := fun W h => Lib.hid (height_any (mixN s j) (mixN_lt s j) W h)
      have bt := bel_trans b1 bel
      have HTr : ∀ n, Tz (wr.drewN n) := fun n => HT.out.below (below_drewN bt n)
      obtain ⟨b, of, e, g0⟩ := (R1.out.below bel) j (by rw [hgL_len]; exact hlt)
      subst e
      rw [hgL_at s hlt] at g0
      have hNi : (j : Int) < N := by omega
      have HJ := fun h : mixN o j = mixN s j => mixN_inj ho hs h
      have HSO : s = o → mixN s j = mixN o j := fun h => by rw [h]
      generalize (s + j * stp) % M64 = sd at C0 HE1 HE2
      generalize hz : mixN s j = z at *
      generalize mixN o j = zo at *
      generalize hgt z = q at *
      clear hz hs ho
      by_cases hso : s = o
      · have hzz : zo = z := (HSO hso).symm
        subst hzz
        subst hso
        clear HJ HSO
        go_wp2_with fail
        refine CM.out.mono ?_
        rintro r w2 ⟨rfl, rfl⟩
        go_wp2
        go_quiet ((first | (go_at_call 10; exact Hp.quiet_left (CH _ (HTr _)).out) | (go_at_call 12; apply Hp.quiet_left; first | (with_reducible exact (CO _).out) | (with_reducible exact (C0 _ _ HE1.out).out) | (with_reducible exact (C0 _ _ HE2.out).out))))
        go_wp2
        go_roundw
        case rel => exact ⟨j + 1, by omega, by go_num, below_drewN bel _⟩
        case measure => simp [intOf]; omega
      · have hzz : ((zo : Int) == z) = false := by
          simp only [beq_eq_false_iff_ne, ne_eq]
          intro h
          exact hso (HJ (by omega)).symm
        have hse : ((s : Int) == o) = false := by
          simp only [beq_eq_false_iff_ne, ne_eq]
          intro h
          exact hso (by omega)
        clear HJ HSO hso
        go_wp2_with fail
        refine CM.out.mono ?_
        rintro r w2 ⟨rfl, rfl⟩
        go_wp2
        go_quiet ((first | (go_at_call 10; exact Hp.quiet_left (CH _ (HTr _)).out) | (go_at_call 12; apply Hp.quiet_left; first | (with_reducible exact (CO _).out) | (with_reducible exact (C0 _ _ HE1.out).out) | (with_reducible exact (C0 _ _ HE2.out).out))))
        go_wp2
        go_roundw
        case rel => exact ⟨j + 1, by omega, by go_num, below_drewN bel _⟩
        case measure => simp [intOf]; omega
    · obtain rfl : j = N := by omega
      have u0 : decide ((j : Int) < j) = false := decide_eq_false (by omega)
      have bt := bel_trans b1 bel
      have e1 : hL s ((j : Int) / 2) = hgL s (j / 2) := by
        unfold hL
        rw [if_neg (by omega)]
        congr 1
      have e2 : hE ((j : Int) / 2) = 0 := by unfold hE; rw [if_neg (by omega), if_neg (by omega)]
      have C2 := Lib.hid (heights_g s ((j : Int) / 2) hs (by omega) (by omega) wr (HT.out.below bt))
      unfold HG at C2
      rw [e1, e2, hgL_len] at C2
      clear e1 e2
      have hlt2 : ((hgL s j).take (j / 2)).length = j / 2 := by rw [List.length_take, hgL_len]; omega
      have hEq : hgL s (j / 2) = (hgL s j).take (j / 2) := ext_getD (hgL_len s _) hlt2 fun t ht => by
        rw [hgL_take s (show j / 2 ≤ j by omega) t ht, List.getD_eq_getElem?_getD, List.getD_eq_getElem?_getD, List.getElem?_take_of_lt ht]
      have R2 := Lib.hid (show RdK .i64 wr A (hgL s (j / 2)) from fun k hk => by
        rw [hgL_len] at hk
        obtain ⟨b, o', e, g⟩ := (R1.out.below bel) k (by rw [hgL_len]; omega)
        exact ⟨b, o', e, by rw [hgL_take s (show j / 2 ≤ j by omega) k hk]; exact g⟩)
      clear hEq hlt2
      go_wp2_with fail
      refine C2.out.mono ?_
      rintro r w3 ⟨B, d, rfl, r3, f3, hd3, b3⟩
      have R3 := Lib.hid r3
      have R2' := Lib.hid (R2.out.below b3)
      have bw3 := bel_trans bt b3
      clear r3 f3 R2
      have CS := fun A B c d h1 h2 => Lib.hid (same_any A B (j / 2) c (j / 2) d (hgL s (j / 2)) (hgL s (j / 2)) w3 (hgL_len s _) (hgL_len s _) (by unfold maxLen; omega) (by unfold maxLen; omega) h1 h2)
      go_wp2_with fail
      refine (CS _ _ _ _ R3.out R2'.out).out.mono ?_
      rintro r w4 ⟨rfl, b4⟩
      rw [show decide True = true from rfl]
      have bw4 := bel_trans bw3 b4
      go_wp2_with fail
      refine (known_any _ (HT.out.below bw4)).mono ?_
      rintro r w5 ⟨rfl, b5⟩
      go_wp2
      go_ret
      exact ⟨rfl, bel_trans bw4 b5⟩
end Wk
end Go.Proofs.YtfogcapgadfbfaaDoor
