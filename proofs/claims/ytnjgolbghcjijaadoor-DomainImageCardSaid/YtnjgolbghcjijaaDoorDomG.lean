/- The functions of package domain on least keys, images and sets (isValue, areBuckets, Bucket, Set, All, least, Least, Image): contracts of the translated code. Conditions: those of XDom. -/
import Derived.Test.YtnjgolbghcjijaaDoorDomQ
import Derived.Test.YtnjgolbghcjijaaDoorDomS
import Derived.Test.YtnjgolbghcjijaaDoorSp0
namespace Go.Proofs.YtnjgolbghcjijaaDoor
open Go.RowKit Go.Sort
set_option linter.unusedVariables false
set_option linter.unusedSimpArgs false
namespace Dm
theorem isValue_any (v : Int) (w : World) (vl : -9223372036854775808 ≤ v) (vh : v ≤ 9223372036854775807) :
    Calls Tryd.prog 43 #[.int .i64 v] w fun e w' => e = .returned (.bool (decide (0 ≤ v ∧ v < 64))) ∧ w = w' := by
  by_cases h0 : 0 ≤ v
  · by_cases h1 : v < 64
    · have HO := Lib.hid (show decide (0 ≤ v ∧ v < 64) = true from decide_eq_true ⟨h0, h1⟩)
      have t0 : decide (0 ≤ v) = true := decide_eq_true h0
      have t1 : decide (v < 64) = true := decide_eq_true h1
      go_enter Tryd.func43, Tryd.ntmps43
      go_wp2
      go_ret
      exact ⟨by first | rfl | (rw [HO.out] <;> rfl), rfl⟩
    · have HO := Lib.hid (show decide (0 ≤ v ∧ v < 64) = false from decide_eq_false fun h => h1 h.2)
      have t0 : decide (0 ≤ v) = true := decide_eq_true h0
      have t1 : decide (v < 64) = false := decide_eq_false h1
      go_enter Tryd.func43, Tryd.ntmps43
      go_wp2
      go_ret
      exact ⟨by first | rfl | (rw [HO.out] <;> rfl), rfl⟩
  · have HO := Lib.hid (show decide (0 ≤ v ∧ v < 64) = false from decide_eq_false fun h => h0 h.1)
    have t0 : decide (0 ≤ v) = false := decide_eq_false h0
    go_enter Tryd.func43, Tryd.ntmps43
    go_wp2
    go_ret
    exact ⟨by first | rfl | (rw [HO.out] <;> rfl), rfl⟩
theorem areBuckets_any (v : Int) (w : World) (vl : -9223372036854775808 ≤ v) (vh : v ≤ 9223372036854775807) :
    Calls Tryd.prog 44 #[.int .i64 v] w fun e w' => e = .returned (.bool (decide (1 ≤ v ∧ v ≤ 16))) ∧ w = w' := by
  by_cases h0 : 1 ≤ v
  · by_cases h1 : v ≤ 16
    · have HO := Lib.hid (show decide (1 ≤ v ∧ v ≤ 16) = true from decide_eq_true ⟨h0, h1⟩)
      have t0 : decide (1 ≤ v) = true := decide_eq_true h0
      have t1 : decide (v ≤ 16) = true := decide_eq_true h1
      go_enter Tryd.func44, Tryd.ntmps44
      go_wp2
      go_ret
      exact ⟨by first | rfl | (rw [HO.out] <;> rfl), rfl⟩
    · have HO := Lib.hid (show decide (1 ≤ v ∧ v ≤ 16) = false from decide_eq_false fun h => h1 h.2)
      have t0 : decide (1 ≤ v) = true := decide_eq_true h0
      have t1 : decide (v ≤ 16) = false := decide_eq_false h1
      go_enter Tryd.func44, Tryd.ntmps44
      go_wp2
      go_ret
      exact ⟨by first | rfl | (rw [HO.out] <;> rfl), rfl⟩
  · have HO := Lib.hid (show decide (1 ≤ v ∧ v ≤ 16) = false from decide_eq_false fun h => h0 h.1)
    have t0 : decide (1 ≤ v) = false := decide_eq_false h0
    go_enter Tryd.func44, Tryd.ntmps44
    go_wp2
    go_ret
    exact ⟨by first | rfl | (rw [HO.out] <;> rfl), rfl⟩
theorem bucket_any (v b : Int) (w : World) (vl : -9223372036854775808 ≤ v) (vh : v ≤ 9223372036854775807) (bl : -9223372036854775808 ≤ b) (bh : b ≤ 9223372036854775807) :
    Calls Tryd.prog 28 #[.int .i64 v, .int .i64 b] w fun e w' => e = .returned (bkT v b) ∧ w = w' := by
  have CA := Lib.hid (areBuckets_any b w bl bh)
  have CV := Lib.hid (isValue_any v w vl vh)
  by_cases h1 : 1 ≤ b ∧ b ≤ 16
  · rw [decide_eq_true h1] at CA
    by_cases h2 : 0 ≤ v ∧ v < 64
    · rw [decide_eq_true h2] at CV
      have HO := Lib.hid (show bkT v b = .tuple #[.int .i64 (v % b), .int .i64 0] by rw [bkT, bkV, bkE, if_pos (by omega), if_pos (by omega), if_pos (by omega), if_pos (by omega)])
      obtain ⟨b1, b2⟩ := h1
      obtain ⟨v1, v2⟩ := h2
      have hr0 : 0 ≤ v % b := Int.emod_nonneg _ (by omega)
      have hr1 : v % b < b := Int.emod_lt_of_pos _ (by omega)
      go_enter Tryd.func28, Tryd.ntmps28
      go_wp2_with fail
      refine CA.out.mono ?_
      rintro r w1 ⟨rfl, rfl⟩
      go_wp2_with fail
      refine CV.out.mono ?_
      rintro r w1 ⟨rfl, rfl⟩
      go_wp2
      go_ret2
      exact ⟨(congrArg Ending.returned HO.out).symm, rfl⟩
    · rw [decide_eq_false h2] at CV
      have HO := Lib.hid (show bkT v b = .tuple #[.int .i64 0, .int .i64 3] by rw [bkT, bkV, bkE, if_pos (by omega), if_neg (by omega), if_pos (by omega), if_neg (by omega)])
      clear h1 h2
      go_enter Tryd.func28, Tryd.ntmps28
      go_wp2_with fail
      refine CA.out.mono ?_
      rintro r w1 ⟨rfl, rfl⟩
      go_wp2_with fail
      refine CV.out.mono ?_
      rintro r w1 ⟨rfl, rfl⟩
      go_wp2
      go_ret2
      exact ⟨(congrArg Ending.returned HO.out).symm, rfl⟩
  · rw [decide_eq_false h1] at CA
    have HO := Lib.hid (show bkT v b = .tuple #[.int .i64 0, .int .i64 2] by rw [bkT, bkV, bkE, if_neg (by omega), if_neg (by omega)])
    clear h1
    go_enter Tryd.func28, Tryd.ntmps28
    go_wp2_with fail
    refine CA.out.mono ?_
    rintro r w1 ⟨rfl, rfl⟩
    go_wp2
    go_ret2
    exact ⟨(congrArg Ending.returned HO.out).symm, rfl⟩
theorem set_any (A : Option Addr) (m c : Nat) (l : List Int) (w : World) (hm : l.length = m) (hx : m ≤ maxLen) (hr : RdK .i64 w A l) (hd : ∀ k, k < l.length → -9223372036854775808 ≤ l.getD k 0 ∧ l.getD k 0 ≤ 9223372036854775807) :
    Calls Tryd.prog 26 #[.slice A m c] w fun e w' => e = .returned (stT l) ∧ w = w' := by
  unfold maxLen at hx
  have HR := Lib.hid hr; clear hr
  have HD := Lib.hid hd; clear hd
  have HM := Lib.hid hm; clear hm
  go_enter Tryd.func26, Tryd.ntmps26
  go_wp2
  go_loop [4, 6, 9] (fun q u i => ∃ j : Nat, j ≤ m ∧ q = .int .u64 (stN l j : Nat) ∧ i = .int .i64 j ∧ stB l j = true) (fun q u i => (m - intOf i).toNat)
  case atStart => exact ⟨0, Nat.zero_le _, rfl, rfl, rfl⟩
  case round =>
    obtain ⟨j, hj, rfl, rfl, hB⟩ := hrel
    have HB := Lib.hid hB; clear hB
    by_cases hlt : j < m
    · obtain ⟨x0, x1⟩ := HD.out j (by have := HM.out; omega)
      obtain ⟨b, o, rfl, g0⟩ := HR.out j (by have := HM.out; omega)
      have t0 : decide ((j : Int) < m) = true := by simp; omega
      have CV := Lib.hid (isValue_any (l.getD j 0) w x0 x1)
      by_cases hin : 0 ≤ l.getD j 0 ∧ l.getD j 0 < 64
      · have HB1 := Lib.hid (show stB l (j + 1) = true by rw [stB, HB.out, decide_eq_true hin]; rfl)
        rw [decide_eq_true hin] at CV
        obtain ⟨p, hp⟩ := Int.eq_ofNat_of_zero_le hin.1
        have hp64 : p < 64 := by omega
        have hS := stN_lt HB.out
        have HI := Lib.hid ((congrArg (bits .or .u64 (stN l j : Nat)) (wrap_pow hp64)).trans <| (or_nat hS (p64 hp64)).trans (congrArg Int.ofNat (show stN l j ||| 2 ^ p = stN l (j + 1) by rw [stN, hp]; rfl)))
        rw [hp] at g0 CV
        clear hin x0 x1 hp
        have hpi : (p : Int) < 64 := by omega
        go_wp2_with fail
        refine CV.out.mono ?_
        rintro r w1 ⟨rfl, rfl⟩
        go_wp2
        go_round
        case rel => exact ⟨j + 1, by omega, congrArg (Value.int .u64) HI.out, by go_num, HB1.out⟩
        case measure => simp [intOf]; omega
      · have HO := Lib.hid (show stT l = .tuple #[.int .u64 0, .int .i64 3] by rw [stT, stB_no (by have := HM.out; omega) hin]; rfl)
        rw [decide_eq_false hin] at CV
        generalize l.getD j 0 = u at x0 x1 g0 hin CV
        clear hin
        go_wp2_with fail
        refine CV.out.mono ?_
        rintro r w1 ⟨rfl, rfl⟩
        go_wp2
        go_ret2
        exact ⟨(congrArg Ending.returned HO.out).symm, rfl⟩
    · obtain rfl : j = m := by omega
      have t0 : decide ((j : Int) < j) = false := by simp
      have HO := Lib.hid (show stT l = .tuple #[.int .u64 (stN l j : Nat), .int .i64 0] by rw [stT, HM.out, if_pos HB.out])
      go_wp2
      go_ret2
      exact ⟨(congrArg Ending.returned HO.out).symm, rfl⟩
theorem all_bits {M : Nat} (h : M ≤ 64) (h1 : 1 ≤ M) : IntKind.u64.wrap (IntKind.u64.wrap ((2 : Int) ^ M) - 1) = ((img (fun _ => true) M : Nat) : Int) := by
  rw [img_all]
  by_cases hM : M = 64
  · subst hM; decide +kernel
  · have hp := p64 (n := M) (by omega)
    rw [wrap_pow (by omega)]
    have hpos : 0 < 2 ^ M := Nat.two_pow_pos M
    generalize 2 ^ M = x at hp hpos
    simp [IntKind.wrap, IntKind.bits, IntKind.signed]
    omega
theorem all_any (k n : Int) (A : Option Addr) (m c : Nat) (l : List Int) (w : World) (kl : 0 ≤ k) (kh : k ≤ 255) (nl : -9223372036854775808 ≤ n) (nh : n ≤ 9223372036854775807) (hm : l.length = m) (hx : m ≤ maxLen) (hr : RdK .u64 w A l) (hd : BdU l) :
    Calls Tryd.prog 18 #[.agg #[.int .u8 k, .int .i64 n, .slice A m c]] w fun e w' => e = .returned (.tuple #[.int .u64 (alV k n l : Nat), .int .i64 (dmE k n l)]) ∧ Below w.heap.size w w' := by
  have HR := Lib.hid hr; clear hr
  have HD := Lib.hid hd; clear hd
  have HM := Lib.hid hm; clear hm
  have b0 : Below w.heap.size w (w.alloc (Obj.cells #[.int .u8 k, .int .i64 n, .slice A m c] 24)) := bel_alloc (Below.refl _ _) _
  have C := fun W h => Lib.hid (values_any k n A m c l W kl kh nl nh HM.out hx h HD.out)
  cases hb : dmB k n l with
  | false =>
    have HE := Lib.hid (dmE_no hb)
    have HN := Lib.hid (dmN_no hb)
    have HO := Lib.hid (show alV k n l = 0 by rw [alV, hb]; rfl)
    clear hb
    go_enter Tryd.func18, Tryd.ntmps18
    go_wp2_with fail
    refine (C _ (HR.out.below b0)).out.mono ?_
    rw [HE.out, HN.out]
    rintro r w1 ⟨rfl, b1⟩
    go_wp2
    go_ret2
    exact ⟨by rw [HO.out, HE.out]; rfl, bel_trans b0 b1⟩
  | true =>
    have HE := Lib.hid (dmE_yes hb)
    obtain ⟨N0, N1⟩ := dmN_64 (k := k) (n := n) (l := l)
    have N2 := dmN_pos hb
    have HO := Lib.hid (show alV k n l = img (fun _ => true) (dmN k n l).toNat by rw [alV, if_pos hb])
    clear hb
    generalize dmN k n l = N at *
    obtain ⟨M, rfl⟩ := Int.eq_ofNat_of_zero_le N0
    rw [Int.toNat_natCast] at HO
    clear N0
    have HI := Lib.hid (all_bits (M := M) (by omega) (by omega))
    have hMi : (M : Int) ≤ 64 := by omega
    go_enter Tryd.func18, Tryd.ntmps18
    go_wp2_with fail
    refine (C _ (HR.out.below b0)).out.mono ?_
    rw [HE.out]
    rintro r w1 ⟨rfl, b1⟩
    go_wp2
    go_ret2
    exact ⟨by rw [HO.out, HE.out, ← HI.out] <;> rfl, bel_trans b0 b1⟩
end Dm
end Go.Proofs.YtnjgolbghcjijaaDoor
