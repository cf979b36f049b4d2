/- SpanSizes: the cases together. Conditions: the bounds of each argument's kind. -/
import Derived.Test.YtmnoljnjnmcgpaaWkSp4
namespace Go.Proofs.Ytmnoljnjnmcgpaa
open Go.RowKit Go.Sort
set_option linter.unusedVariables false
set_option linter.unusedSimpArgs false
namespace Wk
open Sp
theorem size_is {a b : Int} (h0 : 0 ≤ a) (h1 : a ≤ 18446744073709551615) (h2 : 0 ≤ b) (h3 : b ≤ 18446744073709551615) (hab : a ≤ b) (hf : ¬ (a = 0 ∧ b = 18446744073709551615)) : ∀ W : World, Calls Try.prog 12 #[.agg #[.int .u64 a, .int .u64 b]] W fun e w' => e = .returned (.tuple #[.int .u64 (szN a b), .bool false, .int .i64 0]) ∧ Below W.heap.size W w' := fun W => by
  have h := size_any a b h0 h1 h2 h3 W
  rw [show szA a b = false from decide_eq_false hf, show ckE a b = 0 by rw [ckE, if_pos hab]] at h
  exact h
set_option maxRecDepth 100000 in
set_option maxHeartbeats 2000000 in
theorem sizes_bad_a (a0Lo a0Hi a1Lo a1Hi : Int) (w : World) (a0Lol : 0 ≤ a0Lo) (a0Loh : a0Lo ≤ 18446744073709551615) (a0Hil : 0 ≤ a0Hi) (a0Hih : a0Hi ≤ 18446744073709551615) (a1Lol : 0 ≤ a1Lo) (a1Loh : a1Lo ≤ 18446744073709551615) (a1Hil : 0 ≤ a1Hi) (a1Hih : a1Hi ≤ 18446744073709551615) (hv : a0Hi < a0Lo) :
    Calls Try.prog 10 #[.agg #[.int .u64 a0Lo, .int .u64 a0Hi], .agg #[.int .u64 a1Lo, .int .u64 a1Hi]] w fun e w' => e = .returned (.bool true) ∧ Below w.heap.size w w' := by
  have b0 : Below w.heap.size w ((w.alloc (.cells #[.int .u64 a0Lo, .int .u64 a0Hi] 24)).alloc (.cells #[.int .u64 a1Lo, .int .u64 a1Hi] 24)) := bel_alloc (bel_alloc (Below.refl _ _) _) _
  go_enter Try.func10, Try.ntmps10
  go_wp2_with fail
  refine (known_any _).mono ?_
  rintro r w1 ⟨rfl, b1⟩
  go_wp2
  go_ret
  exact ⟨rfl, bel_trans b0 b1⟩
set_option maxRecDepth 100000 in
set_option maxHeartbeats 2000000 in
theorem sizes_bad_b (a0Lo a0Hi a1Lo a1Hi : Int) (w : World) (a0Lol : 0 ≤ a0Lo) (a0Loh : a0Lo ≤ 18446744073709551615) (a0Hil : 0 ≤ a0Hi) (a0Hih : a0Hi ≤ 18446744073709551615) (a1Lol : 0 ≤ a1Lo) (a1Loh : a1Lo ≤ 18446744073709551615) (a1Hil : 0 ≤ a1Hi) (a1Hih : a1Hi ≤ 18446744073709551615) (hab : a0Lo ≤ a0Hi) (hv : a1Hi < a1Lo) :
    Calls Try.prog 10 #[.agg #[.int .u64 a0Lo, .int .u64 a0Hi], .agg #[.int .u64 a1Lo, .int .u64 a1Hi]] w fun e w' => e = .returned (.bool true) ∧ Below w.heap.size w w' := by
  have b0 : Below w.heap.size w ((w.alloc (.cells #[.int .u64 a0Lo, .int .u64 a0Hi] 24)).alloc (.cells #[.int .u64 a1Lo, .int .u64 a1Hi] 24)) := bel_alloc (bel_alloc (Below.refl _ _) _) _
  go_enter Try.func10, Try.ntmps10
  go_wp2_with fail
  refine (known_any _).mono ?_
  rintro r w1 ⟨rfl, b1⟩
  go_wp2
  go_ret
  exact ⟨rfl, bel_trans b0 b1⟩
theorem walk_spanSizes (a0Lo : Int) (a0Hi : Int) (a1Lo : Int) (a1Hi : Int) (w : World) (a0Lol : 0 ≤ a0Lo) (a0Loh : a0Lo ≤ 18446744073709551615) (a0Hil : 0 ≤ a0Hi) (a0Hih : a0Hi ≤ 18446744073709551615) (a1Lol : 0 ≤ a1Lo) (a1Loh : a1Lo ≤ 18446744073709551615) (a1Hil : 0 ≤ a1Hi) (a1Hih : a1Hi ≤ 18446744073709551615) :
    Calls Try.prog 10 #[.agg #[.int .u64 a0Lo, .int .u64 a0Hi], .agg #[.int .u64 a1Lo, .int .u64 a1Hi]] w fun e w' => e = .returned (.bool true) ∧ Below w.heap.size w w' := by
  by_cases hab : a0Lo ≤ a0Hi
  · by_cases hcd : a1Lo ≤ a1Hi
    · obtain ⟨eL, eH, eE⟩ := hu_val hab hcd
      have HU := Lib.hid (fun W : World => (show Calls Try.prog 20 _ W (fun e w' => e = .returned (.tuple #[.agg #[.int .u64 (huL a0Lo a0Hi a1Lo a1Hi), .int .u64 (huH a0Lo a0Hi a1Lo a1Hi)], .int .i64 0]) ∧ Below W.heap.size W w') by have h := hull_any a0Lo a0Hi a1Lo a1Hi a0Lol a0Loh a0Hil a0Hih a1Lol a1Loh a1Hil a1Hih W; rw [eE] at h; exact h))
      have SA := fun (hf : ¬ (a0Lo = 0 ∧ a0Hi = 18446744073709551615)) => Lib.hid (size_is a0Lol a0Loh a0Hil a0Hih hab hf)
      have SB := fun (hf : ¬ (a1Lo = 0 ∧ a1Hi = 18446744073709551615)) => Lib.hid (size_is a1Lol a1Loh a1Hil a1Hih hcd hf)
      have SH := fun (hf : ¬ (huL a0Lo a0Hi a1Lo a1Hi = 0 ∧ huH a0Lo a0Hi a1Lo a1Hi = 18446744073709551615)) => Lib.hid (size_is (a := huL a0Lo a0Hi a1Lo a1Hi) (b := huH a0Lo a0Hi a1Lo a1Hi) (by omega) (by omega) (by omega) (by omega) (by omega) hf)
      have hsum := size_sum hab hcd a0Lol a1Lol a0Hih a1Hih
      rw [← eL, ← eH] at hsum
      have hmk : ∀ r : Bool, mtB a0Lo a0Hi a1Lo a1Hi = r → Hid (∀ W : World, Calls Try.prog 18 #[.agg #[.int .u64 a0Lo, .int .u64 a0Hi], .agg #[.int .u64 a1Lo, .int .u64 a1Hi]] W fun e w' => e = .returned (.tuple #[.agg #[.int .u64 (mtL a0Lo a0Hi a1Lo a1Hi), .int .u64 (mtH a0Lo a0Hi a1Lo a1Hi)], .bool r]) ∧ Below W.heap.size W w') := fun r hr => Lib.hid fun W => by
        have h := meet_any a0Lo a0Hi a1Lo a1Hi a0Lol a0Loh a0Hil a0Hih a1Lol a1Loh a1Hil a1Hih W; rw [hr] at h; exact h
      have hok : ∀ r : Bool, mtB a0Lo a0Hi a1Lo a1Hi = r → Hid (∀ W : World, Calls Try.prog 24 #[.agg #[.int .u64 a0Lo, .int .u64 a0Hi], .agg #[.int .u64 a1Lo, .int .u64 a1Hi]] W fun e w' => e = .returned (.bool r) ∧ Below W.heap.size W w') := fun r hr => Lib.hid fun W => by
        have h := overlap_any a0Lo a0Hi a1Lo a1Hi a0Lol a0Loh a0Hil a0Hih a1Lol a1Loh a1Hil a1Hih W; rw [hr] at h; exact h
      by_cases is : a0Lo ≤ a1Hi ∧ a1Lo ≤ a0Hi
      · obtain ⟨i1, i2⟩ := is
        have mt : mtB a0Lo a0Hi a1Lo a1Hi = true := decide_eq_true ⟨hab, hcd, i1, i2⟩
        have HM := hmk true mt
        have HO := hok true mt
        have mL : mtL a0Lo a0Hi a1Lo a1Hi = max a0Lo a1Lo := by rw [mtL, if_pos mt]
        have mH : mtH a0Lo a0Hi a1Lo a1Hi = min a0Hi a1Hi := by rw [mtH, if_pos mt]
        by_cases hf : huL a0Lo a0Hi a1Lo a1Hi = 0 ∧ huH a0Lo a0Hi a1Lo a1Hi = 18446744073709551615
        · exact sizes_full_is a0Lo a0Hi a1Lo a1Hi _ _ _ _ w a0Lol a0Loh a0Hil a0Hih a1Lol a1Loh a1Hil a1Hih hab hcd i1 i2 (beq_iff_eq.2 hf.1) (beq_iff_eq.2 hf.2) HU HM HO
        · have SM := Lib.hid (size_is (a := mtL a0Lo a0Hi a1Lo a1Hi) (b := mtH a0Lo a0Hi a1Lo a1Hi) (by omega) (by omega) (by omega) (by omega) (by omega) (by omega))
          have hs := hsum hf (szN (mtL a0Lo a0Hi a1Lo a1Hi) (mtH a0Lo a0Hi a1Lo a1Hi)) (.inl ⟨i1, i2, by rw [mL, mH]⟩)
          by_cases hz : huL a0Lo a0Hi a1Lo a1Hi = 0
          · exact sizes_is_b a0Lo a0Hi a1Lo a1Hi _ _ _ _ w a0Lol a0Loh a0Hil a0Hih a1Lol a1Loh a1Hil a1Hih hab hcd _ _ _ _ i1 i2 (beq_iff_eq.2 hz) (beq_eq_false_iff_ne.2 fun h => hf ⟨hz, h⟩) HU HM HO (SA (by omega)) (SB (by omega)) (SH hf) SM hs
          · exact sizes_is_a a0Lo a0Hi a1Lo a1Hi _ _ _ _ w a0Lol a0Loh a0Hil a0Hih a1Lol a1Loh a1Hil a1Hih hab hcd _ _ _ _ i1 i2 (beq_eq_false_iff_ne.2 hz) HU HM HO (SA (by omega)) (SB (by omega)) (SH hf) SM hs
      · have mt : mtB a0Lo a0Hi a1Lo a1Hi = false := decide_eq_false (by omega)
        have HM := hmk false mt
        have HO := hok false mt
        by_cases lo : a1Hi < a0Lo
        · by_cases hf : huL a0Lo a0Hi a1Lo a1Hi = 0 ∧ huH a0Lo a0Hi a1Lo a1Hi = 18446744073709551615
          · exact sizes_full_lo a0Lo a0Hi a1Lo a1Hi _ _ _ _ w a0Lol a0Loh a0Hil a0Hih a1Lol a1Loh a1Hil a1Hih hab hcd lo (beq_iff_eq.2 hf.1) (beq_iff_eq.2 hf.2) HU HM HO
          · have hs := fun h => hsum hf 0 (.inr ⟨h, rfl⟩)
            by_cases hz : huL a0Lo a0Hi a1Lo a1Hi = 0
            · have f2 := beq_eq_false_iff_ne.2 (fun h => hf ⟨hz, h⟩)
              by_cases ht : a1Hi + 1 = a0Lo
              · exact sizes_lo_tb a0Lo a0Hi a1Lo a1Hi _ _ _ _ w a0Lol a0Loh a0Hil a0Hih a1Lol a1Loh a1Hil a1Hih hab hcd _ _ _ lo (beq_iff_eq.2 hz) f2 (by omega) (by omega) (bne_iff_ne.2 (by omega)) (bne_eq_false_iff_eq.2 ht) HU HM HO (SA (by omega)) (SB (by omega)) (SH hf) (by simpa using hs (.inr ht))
              · exact sizes_lo_kb a0Lo a0Hi a1Lo a1Hi _ _ _ _ w a0Lol a0Loh a0Hil a0Hih a1Lol a1Loh a1Hil a1Hih hab hcd lo (beq_iff_eq.2 hz) f2 (by omega) (by omega) (bne_iff_ne.2 (by omega)) (bne_iff_ne.2 ht) HU HM HO
            · have f1 := beq_eq_false_iff_ne.2 hz
              by_cases e0 : a0Hi = 18446744073709551615
              · by_cases ht : a1Hi + 1 = a0Lo
                · exact sizes_lo_tm a0Lo a0Hi a1Lo a1Hi _ _ _ _ w a0Lol a0Loh a0Hil a0Hih a1Lol a1Loh a1Hil a1Hih hab hcd _ _ _ lo f1 (by omega) e0 (bne_iff_ne.2 (by omega)) (bne_eq_false_iff_eq.2 ht) wrap_top HU HM HO (SA (by omega)) (SB (by omega)) (SH hf) (by simpa using hs (.inr ht))
                · exact sizes_lo_km a0Lo a0Hi a1Lo a1Hi _ _ _ _ w a0Lol a0Loh a0Hil a0Hih a1Lol a1Loh a1Hil a1Hih hab hcd lo f1 (by omega) e0 (bne_iff_ne.2 (by omega)) (bne_iff_ne.2 ht) wrap_top HU HM HO
              · by_cases ht : a1Hi + 1 = a0Lo
                · exact sizes_lo_ta a0Lo a0Hi a1Lo a1Hi _ _ _ _ w a0Lol a0Loh a0Hil a0Hih a1Lol a1Loh a1Hil a1Hih hab hcd _ _ _ lo f1 (by omega) (by omega) (bne_iff_ne.2 (by omega)) (bne_eq_false_iff_eq.2 ht) HU HM HO (SA (by omega)) (SB (by omega)) (SH hf) (by simpa using hs (.inr ht))
                · exact sizes_lo_ka a0Lo a0Hi a1Lo a1Hi _ _ _ _ w a0Lol a0Loh a0Hil a0Hih a1Lol a1Loh a1Hil a1Hih hab hcd lo f1 (by omega) (by omega) (bne_iff_ne.2 (by omega)) (bne_iff_ne.2 ht) HU HM HO
        · have i0 : a0Lo ≤ a1Hi := by omega
          have hi : a0Hi < a1Lo := by omega
          by_cases hf : huL a0Lo a0Hi a1Lo a1Hi = 0 ∧ huH a0Lo a0Hi a1Lo a1Hi = 18446744073709551615
          · exact sizes_full_hi a0Lo a0Hi a1Lo a1Hi _ _ _ _ w a0Lol a0Loh a0Hil a0Hih a1Lol a1Loh a1Hil a1Hih hab hcd i0 hi (beq_iff_eq.2 hf.1) (beq_iff_eq.2 hf.2) HU HM HO
          · have hs := fun h => hsum hf 0 (.inr ⟨h, rfl⟩)
            by_cases ht : a0Hi + 1 = a1Lo
            · by_cases hz : huL a0Lo a0Hi a1Lo a1Hi = 0
              · have f2 := beq_eq_false_iff_ne.2 (fun h => hf ⟨hz, h⟩)
                exact sizes_hi_tb a0Lo a0Hi a1Lo a1Hi _ _ _ _ w a0Lol a0Loh a0Hil a0Hih a1Lol a1Loh a1Hil a1Hih hab hcd _ _ _ i0 hi (beq_iff_eq.2 hz) f2 (by omega) (bne_eq_false_iff_eq.2 ht) HU HM HO (SA (by omega)) (SB (by omega)) (SH hf) (by simpa using hs (.inl ht))
              · exact sizes_hi_ta a0Lo a0Hi a1Lo a1Hi _ _ _ _ w a0Lol a0Loh a0Hil a0Hih a1Lol a1Loh a1Hil a1Hih hab hcd _ _ _ i0 hi (beq_eq_false_iff_ne.2 hz) (by omega) (bne_eq_false_iff_eq.2 ht) HU HM HO (SA (by omega)) (SB (by omega)) (SH hf) (by simpa using hs (.inl ht))
            · by_cases hz : huL a0Lo a0Hi a1Lo a1Hi = 0
              · have f2 := beq_eq_false_iff_ne.2 (fun h => hf ⟨hz, h⟩)
                exact sizes_hi_kb a0Lo a0Hi a1Lo a1Hi _ _ _ _ w a0Lol a0Loh a0Hil a0Hih a1Lol a1Loh a1Hil a1Hih hab hcd i0 hi (beq_iff_eq.2 hz) f2 (by omega) (by omega) (bne_iff_ne.2 ht) (bne_iff_ne.2 (by omega)) HU HM HO
              · have f1 := beq_eq_false_iff_ne.2 hz
                by_cases e0 : a1Hi = 18446744073709551615
                · exact sizes_hi_km a0Lo a0Hi a1Lo a1Hi _ _ _ _ w a0Lol a0Loh a0Hil a0Hih a1Lol a1Loh a1Hil a1Hih hab hcd i0 hi f1 (by omega) e0 (bne_iff_ne.2 ht) (bne_iff_ne.2 (by omega)) wrap_top HU HM HO
                · exact sizes_hi_ka a0Lo a0Hi a1Lo a1Hi _ _ _ _ w a0Lol a0Loh a0Hil a0Hih a1Lol a1Loh a1Hil a1Hih hab hcd i0 hi f1 (by omega) (by omega) (bne_iff_ne.2 ht) (bne_iff_ne.2 (by omega)) HU HM HO
    · exact sizes_bad_b a0Lo a0Hi a1Lo a1Hi w a0Lol a0Loh a0Hil a0Hih a1Lol a1Loh a1Hil a1Hih hab (by omega)
  · exact sizes_bad_a a0Lo a0Hi a1Lo a1Hi w a0Lol a0Loh a0Hil a0Hih a1Lol a1Loh a1Hil a1Hih (by omega)
end Wk
end Go.Proofs.Ytmnoljnjnmcgpaa
