/- leapfrogref10: valid, chosen, Thread, Chosen, check, Without, size, Round, Mixed: contracts of the translated code. Conditions: those of each lemma. -/
import Derived.Test.YtnoggggbghkgkaaPkAw
namespace Go.Proofs.Ytnoggggbghkgkaa
open Go.RowKit Go.Shelf Go.Sort
set_option linter.unusedVariables false
set_option linter.unusedSimpArgs false
namespace Pk
open Dm (RdK BdI bel_alloc bel_trans cell_lt flatI info info_parts row_rd app1 appAll addr_lit ret_eq)
def vlB (t : Int) : Bool := decide (1 ≤ t) && decide (t ≤ 64)
theorem vlB_yes {t : Int} (h1 : 1 ≤ t) (h2 : t ≤ 64) : vlB t = true := by unfold vlB; rw [decide_eq_true h1, decide_eq_true h2]; rfl
theorem vlB_no {t : Int} (h : ¬ (1 ≤ t ∧ t ≤ 64)) : vlB t = false := by
  unfold vlB
  rw [Bool.and_eq_false_iff, decide_eq_false_iff_not, decide_eq_false_iff_not]
  omega
theorem valid_any (t : Int) (w : World) : Calls Try.prog 35 #[.int .i64 t] w fun e w' => e = .returned (.bool (vlB t)) ∧ w = w' := by
  obtain ⟨r, hr⟩ : ∃ r, vlB t = r := ⟨_, rfl⟩
  rw [hr]
  by_cases h1 : 1 ≤ t
  · by_cases h2 : t ≤ 64
    · have d1 := decide_eq_true h1
      have d2 := decide_eq_true h2
      rw [vlB_yes h1 h2] at hr
      subst hr
      go_enter Try.func35, Try.ntmps35
      go_wp2
      go_ret
      exact ⟨rfl, rfl⟩
    · have d1 := decide_eq_true h1
      have d2 := decide_eq_false h2
      rw [vlB_no (by omega)] at hr
      subst hr
      go_enter Try.func35, Try.ntmps35
      go_wp2
      go_ret
      exact ⟨rfl, rfl⟩
  · have d1 := decide_eq_false h1
    rw [vlB_no (by omega)] at hr
    subst hr
    go_enter Try.func35, Try.ntmps35
    go_wp2
    go_ret
    exact ⟨rfl, rfl⟩
theorem chosenR_any (m : Nat) (n : Int) (h1 : 1 ≤ m) (h2 : m ≤ 1000) (w : World) : Calls Try.prog 36 #[.int .i64 (m : Int), .int .i64 n] w fun e w' => e = .returned (.int .i64 (n % (m : Int))) ∧ w = w' := by
  have b1 : -(m : Int) < n.tmod m := Int.lt_tmod_of_pos n (by omega)
  have b2 : n.tmod m < m := Int.tmod_lt_of_pos n (by omega)
  have HV := Lib.hid (tmod_two (p := n) (show (0 : Int) < m by omega))
  have e1 : wrap64 (n.tmod m) = n.tmod m := by unfold wrap64; omega
  have z0 : ((m : Int) == 0) = false := by simp; omega
  have z1 : ¬ (m : Int) = 0 := by omega
  have c1 := Int.emod_nonneg n (show (m : Int) ≠ 0 by omega)
  have c2 := Int.emod_lt_of_pos n (show (0 : Int) < m by omega)
  have e3 : (n.tmod m + m) % (m : Int) = n % (m : Int) := by
    have := HV.out
    rw [Int.tmod_eq_emod_of_nonneg (by omega)] at this
    exact this
  have E3 := Lib.hid e3
  have b3 : 0 ≤ n.tmod m + m := by omega
  have b4 : n.tmod m + m ≤ 3000 := by omega
  have m1 : (1 : Int) ≤ m := by omega
  have m2 : (m : Int) ≤ 1000 := by omega
  clear e3
  go_enter Try.func36, Try.ntmps36
  go_wp2
  go_ret
  refine ⟨?_, rfl⟩
  rw [← E3.out]
  rfl
theorem fitE_no {t n : Int} (h : ¬ (1 ≤ t ∧ t ≤ 64)) : fitE t n = 2 := by unfold fitE; rw [if_pos (by omega)]
theorem fitE_neg {t n : Int} (h : n < 0) : fitE t n = 2 := by unfold fitE; rw [if_pos (by omega)]
theorem fitE_long {t n : Int} (h1 : 1 ≤ t) (h2 : t ≤ 64) (h : 65536 < n) : fitE t n = 5 := by unfold fitE; rw [if_neg (by omega), if_pos h]
theorem fitE_zero {t n : Int} (h1 : 1 ≤ t) (h2 : t ≤ 64) (h0 : 0 ≤ n) (h : n ≤ 65536) : fitE t n = 0 := by unfold fitE; rw [if_neg (by omega), if_neg (by omega)]
theorem threadR_any (t p : Int) (w : World) : Calls Try.prog 22 #[.int .i64 t, .int .i64 p] w fun e w' => e = .returned (thV t p) ∧ w = w' := by
  have CF := fun W => Lib.hid (valid_any t W)
  by_cases h0 : 1 ≤ t ∧ t ≤ 64
  · have HV := Lib.hid (show thV t p = .tuple #[.int .i64 (p % t), .int .i64 0] by unfold thV; rw [if_pos (fitE_zero h0.1 h0.2 (by omega) (by omega))])
    rw [vlB_yes h0.1 h0.2] at CF
    obtain ⟨T, rfl⟩ := Int.eq_ofNat_of_zero_le (show 0 ≤ t by omega)
    have CC := fun W => Lib.hid (chosenR_any T p (by omega) (by omega) W)
    clear h0
    go_enter Try.func22, Try.ntmps22
    go_wp2_with fail
    refine (CF _).out.mono ?_
    rintro e w' ⟨rfl, rfl⟩
    go_wp2_with fail
    refine (CC _).out.mono ?_
    rintro e w' ⟨rfl, rfl⟩
    go_wp2
    go_ret2
    exact ⟨by rw [HV.out]; rfl, rfl⟩
  · have HV := Lib.hid (show thV t p = .tuple #[.int .i64 0, .int .i64 2] by unfold thV; rw [fitE_no h0, if_neg (by decide)])
    rw [vlB_no h0] at CF
    clear h0
    go_enter Try.func22, Try.ntmps22
    go_wp2_with fail
    refine (CF _).out.mono ?_
    rintro e w' ⟨rfl, rfl⟩
    go_wp2
    go_ret2
    exact ⟨by rw [HV.out]; rfl, rfl⟩
theorem chI_snoc (t : Nat) (l : List Int) (p : Int) : chI t (l ++ [p]) = chI t l ++ [p % (t : Int)] := by simp [chI]
set_option maxRecDepth 100000 in
set_option maxHeartbeats 1000000 in
theorem choR_any (t : Int) (A : Option Addr) (m c : Nat) (xs : List Int) (hl : xs.length = m) (hx : m ≤ maxLen) (w : World) (hrd : RdK .i64 w A xs) :
    Calls Try.prog 13 #[.int .i64 t, .slice A m c] w (ChoPost t xs w) := by
  unfold maxLen at hx
  have CF := fun W => Lib.hid (valid_any t W)
  by_cases h0 : 1 ≤ t ∧ t ≤ 64
  · obtain ⟨a1, a2⟩ := h0
    rw [vlB_yes a1 a2] at CF
    by_cases hlen : m ≤ 65536
    · have HP := Lib.hid (show ∀ e w', ChoPost t xs w e w' ↔ (∃ v, e = .returned (.tuple #[v, .int .i64 0]) ∧ w'.ownsRow w.heap.size 3 1 v xs.length (flatI (chI t.toNat xs))) ∧ Below w.heap.size w w' from fun e w' => by unfold ChoPost; rw [if_pos (fitE_zero a1 a2 (by omega) (by omega))])
      obtain ⟨T, rfl⟩ := Int.eq_ofNat_of_zero_le (show 0 ≤ t by omega)
      have CC := fun p (W : World) => Lib.hid (chosenR_any T p (by omega) (by omega) W)
      have d1 : decide ((65536 : Int) < m) = false := decide_eq_false (by omega)
      have HL := Lib.hid hl
      have HR := Lib.hid hrd
      rw [Int.toNat_natCast] at HP
      clear hl hrd
      go_enter Try.func13, Try.ntmps13
      go_wp2_with fail
      refine (CF _).out.mono ?_
      rintro r w2 ⟨rfl, rfl⟩
      go_wp2
      go_loopw [6, 7] (fun q i wr => ∃ (j : Nat), j ≤ m ∧ i = .int .i64 j ∧ wr.ownsRow w.heap.size 3 1 q j (flatI (chI T (xs.take j))) ∧ Below w.heap.size w wr) (fun q i _ => (m - intOf i).toNat)
      case atStart => exact ⟨0, Nat.zero_le _, rfl, World.ownsRow_nil _ _ _ _, Below.refl _ _⟩
      case round =>
        obtain ⟨j, hj, rfl, ow, bel⟩ := hrel
        by_cases hlt : j < m
        · have OW := Lib.hid ow; clear ow
          have hsz := bel.size
          have hkl : j < xs.length := by have := HL.out; omega
          obtain ⟨b, o, rfl, g0⟩ := (HR.out.below bel) j hkl
          have HT := Lib.hid (take_get hkl)
          have HS := Lib.hid (chI_snoc T (xs.take j) (xs.getD j 0))
          obtain ⟨p, hp⟩ : ∃ p, xs.getD j 0 = p := ⟨_, rfl⟩
          rw [hp] at g0 HT HS
          have CCj := CC p
          have HN := Lib.hid (show chI T (xs.take (j + 1)) = chI T (xs.take j) ++ [p % (T : Int)] by rw [HT.out, HS.out])
          generalize p % (T : Int) = y at *
          have t0 : decide ((j : Int) < m) = true := decide_eq_true (by omega)
          have j1 : (j : Int) < m := by omega
          clear hp hkl HT HS CC
          go_wp2_with fail
          refine (CCj _).out.mono ?_
          rintro r w2 ⟨rfl, rfl⟩
          go_wp2_with (at_builtin; refine app1 rfl (.tmp 20) (.tmp 27) rfl wr w.heap.size j _ (chI T (xs.take j)) y rfl rfl OW.out (by omega) hsz ?_; intro v1 w1 h1 b1)
          go_roundw
          case rel => exact ⟨j + 1, by omega, by go_num, by rw [HN.out]; exact h1, bel.trans b1⟩
          case measure => simp [intOf]; omega
        · obtain rfl : j = m := by omega
          have HN := Lib.hid (show xs.take j = xs from List.take_of_length_le (by have := HL.out; omega))
          have OW := Lib.hid ow
          clear ow CC
          have t0 : decide ((j : Int) < j) = false := decide_eq_false (by omega)
          go_wp2
          go_ret2
          refine (HP.out _ _).2 ⟨⟨_, rfl, ?_⟩, bel⟩
          have := OW.out
          rw [HN.out] at this
          rw [HL.out]
          exact this
    · have HP := Lib.hid (show ∀ e w', ChoPost t xs w e w' ↔ e = .returned (.tuple #[.slice none 0 0, .int .i64 5]) ∧ Below w.heap.size w w' from fun e w' => by unfold ChoPost; rw [fitE_long a1 a2 (by omega), if_neg (by decide)])
      have d1 : decide ((65536 : Int) < m) = true := decide_eq_true (by omega)
      clear hl hrd
      go_enter Try.func13, Try.ntmps13
      go_wp2_with fail
      refine (CF _).out.mono ?_
      rintro r w2 ⟨rfl, rfl⟩
      go_wp2
      go_ret2
      exact (HP.out _ _).2 ⟨rfl, Below.refl _ _⟩
  · have HP := Lib.hid (show ∀ e w', ChoPost t xs w e w' ↔ e = .returned (.tuple #[.slice none 0 0, .int .i64 2]) ∧ Below w.heap.size w w' from fun e w' => by unfold ChoPost; rw [fitE_no h0, if_neg (by decide)])
    rw [vlB_no h0] at CF
    clear hl hrd h0
    go_enter Try.func13, Try.ntmps13
    go_wp2_with fail
    refine (CF _).out.mono ?_
    rintro r w2 ⟨rfl, rfl⟩
    go_wp2
    go_ret2
    exact (HP.out _ _).2 ⟨rfl, Below.refl _ _⟩
theorem fitT_no {t h n : Int} (H : ¬ (1 ≤ t ∧ t ≤ 64)) : fitT t h n = 2 := by unfold fitT; split; rfl; exact fitE_no H
theorem fitT_out {t h n : Int} (H : h < 0 ∨ t ≤ h) : fitT t h n = 2 := by unfold fitT; rw [if_pos H]
theorem fitT_in {t h n : Int} (H1 : 0 ≤ h) (H2 : h < t) : fitT t h n = fitE t n := by unfold fitT; rw [if_neg (by omega)]
theorem check_any (t h : Int) (A : Option Addr) (m c : Nat) (w : World) : Calls Try.prog 40 #[.int .i64 t, .int .i64 h, .slice A m c] w fun e w' => e = .returned (.int .i64 (fitT t h m)) ∧ w = w' := by
  have CF := fun W => Lib.hid (valid_any t W)
  by_cases h0 : 1 ≤ t ∧ t ≤ 64
  · obtain ⟨a1, a2⟩ := h0
    rw [vlB_yes a1 a2] at CF
    by_cases h1 : h < 0
    · have d1 := decide_eq_true h1
      rw [fitT_out (.inl h1)]
      go_enter Try.func40, Try.ntmps40
      go_wp2_with fail
      refine (CF _).out.mono ?_
      rintro r w2 ⟨rfl, rfl⟩
      go_wp2
      go_ret
      exact ⟨rfl, rfl⟩
    have d1 := decide_eq_false h1
    by_cases h2 : t ≤ h
    · have d2 := decide_eq_true h2
      rw [fitT_out (.inr h2)]
      go_enter Try.func40, Try.ntmps40
      go_wp2_with fail
      refine (CF _).out.mono ?_
      rintro r w2 ⟨rfl, rfl⟩
      go_wp2
      go_ret
      exact ⟨rfl, rfl⟩
    have d2 := decide_eq_false h2
    rw [fitT_in (by omega) (by omega)]
    by_cases h3 : (65536 : Int) < m
    · have d3 := decide_eq_true h3
      rw [fitE_long a1 a2 h3]
      go_enter Try.func40, Try.ntmps40
      go_wp2_with fail
      refine (CF _).out.mono ?_
      rintro r w2 ⟨rfl, rfl⟩
      go_wp2
      go_ret
      exact ⟨rfl, rfl⟩
    · have d3 := decide_eq_false h3
      rw [fitE_zero a1 a2 (by omega) (by omega)]
      go_enter Try.func40, Try.ntmps40
      go_wp2_with fail
      refine (CF _).out.mono ?_
      rintro r w2 ⟨rfl, rfl⟩
      go_wp2
      go_ret
      exact ⟨rfl, rfl⟩
  · rw [vlB_no h0] at CF
    rw [fitT_no h0]
    clear h0
    go_enter Try.func40, Try.ntmps40
    go_wp2_with fail
    refine (CF _).out.mono ?_
    rintro r w2 ⟨rfl, rfl⟩
    go_wp2
    go_ret
    exact ⟨rfl, rfl⟩
set_option maxRecDepth 100000 in
set_option maxHeartbeats 1000000 in
theorem woR_any (t h : Int) (A : Option Addr) (m c : Nat) (xs : List Int) (hl : xs.length = m) (hx : m ≤ maxLen) (w : World) (hrd : RdK .i64 w A xs) :
    Calls Try.prog 17 #[.int .i64 t, .int .i64 h, .slice A m c] w (WoPost t h xs w) := by
  unfold maxLen at hx
  have CF := fun (W : World) => Lib.hid (check_any t h A m c W)
  by_cases h0 : fitT t h xs.length = 0
  · obtain ⟨a1, a2, a3, a4, a5, a6⟩ := fitT_ok h0
    have HP := Lib.hid (show ∀ e w', WoPost t h xs w e w' ↔ (∃ v, e = .returned (.tuple #[v, .int .i64 0]) ∧ w'.ownsRow w.heap.size 3 1 v (woL t h xs).length (flatI (woL t h xs))) ∧ Below w.heap.size w w' from fun e w' => by unfold WoPost; rw [if_pos h0])
    rw [hl] at h0 a4
    rw [h0] at CF
    obtain ⟨T, rfl⟩ := Int.eq_ofNat_of_zero_le (show 0 ≤ t by omega)
    have CC := fun p (W : World) => Lib.hid (chosenR_any T p (by omega) (by omega) W)
    have HL := Lib.hid hl
    have HR := Lib.hid hrd
    clear h0 hl hrd
    go_enter Try.func17, Try.ntmps17
    go_wp2_with fail
    refine (CF _).out.mono ?_
    rintro r w2 ⟨rfl, rfl⟩
    go_wp2
    go_loopw [9, 10] (fun q i wr => ∃ (j : Nat), j ≤ m ∧ i = .int .i64 j ∧ wr.ownsRow w.heap.size 3 1 q (woL T h (xs.take j)).length (flatI (woL T h (xs.take j))) ∧ Below w.heap.size w wr) (fun q i _ => (m - intOf i).toNat)
    case atStart => exact ⟨0, Nat.zero_le _, rfl, World.ownsRow_nil _ _ _ _, Below.refl _ _⟩
    case round =>
      obtain ⟨j, hj, rfl, ow, bel⟩ := hrel
      by_cases hlt : j < m
      · have OW := Lib.hid ow; clear ow
        have hsz := bel.size
        have hkl : j < xs.length := by have := HL.out; omega
        obtain ⟨b, o, rfl, g0⟩ := (HR.out.below bel) j hkl
        have hlen : (woL T h (xs.take j)).length ≤ 100000 := by have := woL_len T h (xs.take j); have := List.length_take_le j xs; omega
        have HS := Lib.hid (woL_snoc T h (xs.take j) (xs.getD j 0))
        have HT := Lib.hid (take_get hkl)
        obtain ⟨p, hp⟩ : ∃ p, xs.getD j 0 = p := ⟨_, rfl⟩
        rw [hp] at g0 HS HT
        have CCj := CC p
        have t0 : decide ((j : Int) < m) = true := decide_eq_true (by omega)
        have j1 : (j : Int) < m := by omega
        clear hp hkl
        by_cases hpt : p % (T : Int) = h
        · have HN := Lib.hid (show woL T h (xs.take (j + 1)) = woL T h (xs.take j) by rw [HT.out, HS.out, if_pos hpt])
          rw [hpt] at CCj
          have z0 : (h != h) = false := by simp
          clear hpt HS HT CC
          go_wp2_with fail
          refine (CCj _).out.mono ?_
          rintro r w2 ⟨rfl, rfl⟩
          go_wp2
          go_roundw
          case rel => exact ⟨j + 1, by omega, by go_num, by rw [HN.out]; exact OW.out, bel⟩
          case measure => simp [intOf]; omega
        · have HN := Lib.hid (show woL T h (xs.take (j + 1)) = woL T h (xs.take j) ++ [p] by rw [HT.out, HS.out, if_neg hpt])
          generalize p % (T : Int) = y at *
          have z0 : (y != h) = true := by simp [hpt]
          clear hpt HS HT CC
          generalize woL T h (xs.take j) = L at *
          go_wp2_with fail
          refine (CCj _).out.mono ?_
          rintro r w2 ⟨rfl, rfl⟩
          go_wp2_with (at_builtin; refine app1 rfl (.tmp 32) (.tmp 37) rfl wr w.heap.size L.length _ L p rfl rfl OW.out (by omega) hsz ?_; intro v1 w1 h1 b1)
          go_roundw
          case rel => exact ⟨j + 1, by omega, by go_num, by rw [HN.out, List.length_append]; exact h1, bel.trans b1⟩
          case measure => simp [intOf]; omega
      · obtain rfl : j = m := by omega
        have HN := Lib.hid (show xs.take j = xs from List.take_of_length_le (by have := HL.out; omega))
        have OW := Lib.hid ow
        clear ow CC
        have t0 : decide ((j : Int) < j) = false := decide_eq_false (by omega)
        go_wp2
        go_ret2
        refine (HP.out _ _).2 ⟨⟨_, rfl, ?_⟩, bel⟩
        have := OW.out
        rw [HN.out] at this
        exact this
  · have HP := Lib.hid (show ∀ e w', WoPost t h xs w e w' ↔ e = .returned (.tuple #[.slice none 0 0, .int .i64 (fitT t h xs.length)]) ∧ Below w.heap.size w w' from fun e w' => by unfold WoPost; rw [if_neg h0])
    have HL := Lib.hid hl
    rw [hl] at h0
    obtain ⟨r, hr⟩ : ∃ r, fitT t h m = r := ⟨_, rfl⟩
    rw [hr] at CF h0
    have HRR := Lib.hid hr
    have z0 : (r == 0) = false := by simp; exact h0
    have z1 : (r != 0) = true := by simp; exact h0
    clear hr h0 hl hrd
    go_enter Try.func17, Try.ntmps17
    go_wp2_with fail
    refine (CF _).out.mono ?_
    rintro r' w2 ⟨rfl, rfl⟩
    go_wp2
    go_ret2
    rw [HP.out, HL.out, HRR.out]
    exact ⟨rfl, Below.refl _ _⟩
theorem size_any (t n : Int) (w : World) : Calls Try.prog 43 #[.int .i64 t, .int .i64 n] w fun e w' => e = .returned (.int .i64 (fitE t n)) ∧ w = w' := by
  have CF := fun W => Lib.hid (valid_any t W)
  by_cases h0 : 1 ≤ t ∧ t ≤ 64
  · obtain ⟨a1, a2⟩ := h0
    rw [vlB_yes a1 a2] at CF
    by_cases h1 : n < 0
    · have d1 := decide_eq_true h1
      rw [fitE_neg h1]
      go_enter Try.func43, Try.ntmps43
      go_wp2_with fail
      refine (CF _).out.mono ?_
      rintro r w2 ⟨rfl, rfl⟩
      go_wp2
      go_ret
      exact ⟨rfl, rfl⟩
    have d1 := decide_eq_false h1
    by_cases h3 : (65536 : Int) < n
    · have d3 := decide_eq_true h3
      rw [fitE_long a1 a2 h3]
      go_enter Try.func43, Try.ntmps43
      go_wp2_with fail
      refine (CF _).out.mono ?_
      rintro r w2 ⟨rfl, rfl⟩
      go_wp2
      go_ret
      exact ⟨rfl, rfl⟩
    · have d3 := decide_eq_false h3
      rw [fitE_zero a1 a2 (by omega) (by omega)]
      go_enter Try.func43, Try.ntmps43
      go_wp2_with fail
      refine (CF _).out.mono ?_
      rintro r w2 ⟨rfl, rfl⟩
      go_wp2
      go_ret
      exact ⟨rfl, rfl⟩
  · rw [vlB_no h0] at CF
    rw [fitE_no h0]
    clear h0
    go_enter Try.func43, Try.ntmps43
    go_wp2_with fail
    refine (CF _).out.mono ?_
    rintro r w2 ⟨rfl, rfl⟩
    go_wp2
    go_ret
    exact ⟨rfl, rfl⟩
theorem rdL_succ (t : Int) (n : Nat) : rdL t (n + 1) = rdL t n ++ [((n : Nat) : Int) % t] := by simp [rdL, List.range_succ]
theorem mxL_succ (s : Nat) (t : Int) (n : Nat) : mxL s t (n + 1) = mxL s t n ++ [mxP t.toNat (mxN s n)] := by simp [mxL, List.range_succ]
set_option maxRecDepth 100000 in
set_option maxHeartbeats 1000000 in
theorem roundR_any (t n : Int) (w : World) : Calls Try.prog 25 #[.int .i64 t, .int .i64 n] w (MkPost t n (rdL t n.toNat) w) := by
  have CF := fun (W : World) => Lib.hid (size_any t n W)
  by_cases h0 : fitE t n = 0
  · obtain ⟨a1, a2, a3, a4⟩ := fitE_ok h0
    have HP := Lib.hid (show ∀ e w', MkPost t n (rdL t n.toNat) w e w' ↔ (∃ v, e = .returned (.tuple #[v, .int .i64 0]) ∧ w'.ownsRow w.heap.size 3 1 v n.toNat (flatI (rdL t n.toNat))) ∧ Below w.heap.size w w' from fun e w' => by unfold MkPost; rw [if_pos h0])
    rw [h0] at CF
    obtain ⟨N, rfl⟩ := Int.eq_ofNat_of_zero_le a3
    rw [Int.toNat_natCast] at HP
    have z0 : (t == 0) = false := by simp; omega
    have z1 : ¬ t = 0 := by omega
    clear h0
    go_enter Try.func25, Try.ntmps25
    go_wp2_with fail
    refine (CF _).out.mono ?_
    rintro r w2 ⟨rfl, rfl⟩
    go_wp2
    go_loopw [7, 8] (fun q i wr => ∃ (j : Nat), j ≤ N ∧ i = .int .i64 j ∧ wr.ownsRow w.heap.size 3 1 q j (flatI (rdL t j)) ∧ Below w.heap.size w wr) (fun q i _ => (N - intOf i).toNat)
    case atStart => exact ⟨0, Nat.zero_le _, rfl, World.ownsRow_nil _ _ _ _, Below.refl _ _⟩
    case round =>
      obtain ⟨j, hj, rfl, ow, bel⟩ := hrel
      by_cases hlt : j < N
      · have OW := Lib.hid ow; clear ow
        have hsz := bel.size
        have HN := Lib.hid (rdL_succ t j)
        have y0 := Int.emod_nonneg (j : Int) (show t ≠ 0 by omega)
        have y1 := Int.emod_lt_of_pos (j : Int) (show 0 < t by omega)
        have t0 : decide ((j : Int) < N) = true := decide_eq_true (by omega)
        go_wp2_with (at_builtin; refine app1 rfl (.tmp 20) (.tmp 24) rfl wr w.heap.size j _ (rdL t j) ((j : Int) % t) rfl rfl OW.out (by omega) hsz ?_; intro v1 w1 h1 b1)
        go_roundw
        case rel => exact ⟨j + 1, by omega, by go_num, by rw [HN.out]; exact h1, bel.trans b1⟩
        case measure => simp [intOf]; omega
      · obtain rfl : j = N := by omega
        have OW := Lib.hid ow
        clear ow
        have t0 : decide ((j : Int) < j) = false := decide_eq_false (by omega)
        go_wp2
        go_ret2
        exact (HP.out _ _).2 ⟨⟨_, rfl, OW.out⟩, bel⟩
  · have HP := Lib.hid (show ∀ e w', MkPost t n (rdL t n.toNat) w e w' ↔ e = .returned (.tuple #[.slice none 0 0, .int .i64 (fitE t n)]) ∧ Below w.heap.size w w' from fun e w' => by unfold MkPost; rw [if_neg h0])
    obtain ⟨r, hr⟩ : ∃ r, fitE t n = r := ⟨_, rfl⟩
    rw [hr] at CF h0
    have HRR := Lib.hid hr
    have z0 : (r == 0) = false := by simp; exact h0
    have z1 : (r != 0) = true := by simp; exact h0
    clear hr h0
    go_enter Try.func25, Try.ntmps25
    go_wp2_with fail
    refine (CF _).out.mono ?_
    rintro r' w2 ⟨rfl, rfl⟩
    go_wp2
    go_ret2
    rw [HP.out, HRR.out]
    exact ⟨rfl, Below.refl _ _⟩
theorem mxP_int {t : Int} (x : Nat) (h : 1 ≤ t) : mxP t.toNat x = ((mx x / 8589934592 : Nat) : Int) % t := by
  unfold mxP
  rw [Int.natCast_emod, show ((t.toNat : Nat) : Int) = t by omega]
set_option maxRecDepth 100000 in
set_option maxHeartbeats 1000000 in
theorem mixedR_any (s : Nat) (hs : s < 18446744073709551616) (t n : Int) (w : World) : Calls Try.prog 27 #[.int .u64 s, .int .i64 t, .int .i64 n] w (MkPost t n (mxL s t n.toNat) w) := by
  have CF := fun (W : World) => Lib.hid (size_any t n W)
  by_cases h0 : fitE t n = 0
  · obtain ⟨a1, a2, a3, a4⟩ := fitE_ok h0
    have HP := Lib.hid (show ∀ e w', MkPost t n (mxL s t n.toNat) w e w' ↔ (∃ v, e = .returned (.tuple #[v, .int .i64 0]) ∧ w'.ownsRow w.heap.size 3 1 v n.toNat (flatI (mxL s t n.toNat))) ∧ Below w.heap.size w w' from fun e w' => by unfold MkPost; rw [if_pos h0])
    rw [h0] at CF
    obtain ⟨N, rfl⟩ := Int.eq_ofNat_of_zero_le a3
    rw [Int.toNat_natCast] at HP
    have z0 : (t == 0) = false := by simp; omega
    have z1 : ¬ t = 0 := by omega
    clear h0
    go_enter Try.func27, Try.ntmps27
    go_wp2_with fail
    refine (CF _).out.mono ?_
    rintro r w2 ⟨rfl, rfl⟩
    go_wp2
    go_loopw [9, 10, 11] (fun q x i wr => ∃ (j : Nat), j ≤ N ∧ i = .int .i64 j ∧ x = .int .u64 (mxN s j : Nat) ∧ wr.ownsRow w.heap.size 3 1 q j (flatI (mxL s t j)) ∧ Below w.heap.size w wr) (fun q x i _ => (N - intOf i).toNat)
    case atStart => exact ⟨0, Nat.zero_le _, rfl, rfl, World.ownsRow_nil _ _ _ _, Below.refl _ _⟩
    case round =>
      obtain ⟨j, hj, rfl, rfl, ow, bel⟩ := hrel
      by_cases hlt : j < N
      · have OW := Lib.hid ow; clear ow
        have hsz := bel.size
        have HN := Lib.hid (mxL_succ s t j)
        have HM := Lib.hid (show mxN s (j + 1) = mx (mxN s j) from rfl)
        obtain ⟨x, hx⟩ : ∃ x, mxN s j = x := ⟨_, rfl⟩
        rw [hx] at HN HM ⊢
        clear hx
        have hw := mx_wrap x
        have hm : mx x < 18446744073709551616 := Nat.mod_lt _ (by decide)
        have hp : ((mx x : Nat) : Int) / 8589934592 = ((mx x / 8589934592 : Nat) : Int) := by omega
        obtain ⟨z, hz⟩ : ∃ z, mx x / 8589934592 = z := ⟨_, rfl⟩
        have hzb : z ≤ 2147483648 := by omega
        rw [hz] at hp
        have HV := Lib.hid (show mxP t.toNat x = (z : Int) % t by rw [mxP_int x a1, hz])
        have z3 : (z : Int) ≤ 2147483648 := by omega
        have z4 : (0 : Int) ≤ z := by omega
        obtain ⟨mv, hmv⟩ : ∃ mv, mx x = mv := ⟨_, rfl⟩
        rw [hmv] at hw hp HM
        have y0 := Int.emod_nonneg (z : Int) (show t ≠ 0 by omega)
        have y1 := Int.emod_lt_of_pos (z : Int) (show 0 < t by omega)
        have t0 : decide ((j : Int) < N) = true := decide_eq_true (by omega)
        clear hz hmv hm
        go_wp2_with (at_builtin; refine app1 rfl (.tmp 27) (.tmp 33) rfl wr w.heap.size j _ (mxL s t j) ((z : Int) % t) rfl rfl OW.out (by omega) hsz ?_; intro v1 w1 h1 b1)
        go_roundw
        case rel => exact ⟨j + 1, by omega, by go_num, by rw [HM.out], by rw [HN.out, HV.out]; exact h1, bel.trans b1⟩
        case measure => simp [intOf]; omega
      · obtain rfl : j = N := by omega
        have OW := Lib.hid ow
        clear ow
        have t0 : decide ((j : Int) < j) = false := decide_eq_false (by omega)
        go_wp2
        go_ret2
        exact (HP.out _ _).2 ⟨⟨_, rfl, OW.out⟩, bel⟩
  · have HP := Lib.hid (show ∀ e w', MkPost t n (mxL s t n.toNat) w e w' ↔ e = .returned (.tuple #[.slice none 0 0, .int .i64 (fitE t n)]) ∧ Below w.heap.size w w' from fun e w' => by unfold MkPost; rw [if_neg h0])
    obtain ⟨r, hr⟩ : ∃ r, fitE t n = r := ⟨_, rfl⟩
    rw [hr] at CF h0
    have HRR := Lib.hid hr
    have z0 : (r == 0) = false := by simp; exact h0
    have z1 : (r != 0) = true := by simp; exact h0
    clear hr h0
    go_enter Try.func27, Try.ntmps27
    go_wp2_with fail
    refine (CF _).out.mono ?_
    rintro r' w2 ⟨rfl, rfl⟩
    go_wp2
    go_ret2
    rw [HP.out, HRR.out]
    exact ⟨rfl, Below.refl _ _⟩
end Pk
end Go.Proofs.Ytnoggggbghkgkaa
