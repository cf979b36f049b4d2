/- Bucket, Set and Same of leapfrogref03: contracts of the translated code. Conditions: the lists are no longer than the model lets a slice be; the bounds of each argument's kind. -/
import Derived.Test.YtnjgolbghcjijaaDoorDomI
namespace Go.Proofs.YtnjgolbghcjijaaDoor
open Go.RowKit Go.Sort
set_option linter.unusedVariables false
set_option linter.unusedSimpArgs false
namespace Dm
def bkE (v b : Int) : Int := if 1 ≤ b ∧ b ≤ 16 then if 0 ≤ v ∧ v < 64 then 0 else 3 else 2
def bkV (v b : Int) : Int := if 1 ≤ b ∧ b ≤ 16 then if 0 ≤ v ∧ v < 64 then v % b else 0 else 0
def bkT (v b : Int) : Value := .tuple #[.int .i64 (bkV v b), .int .i64 (bkE v b)]
theorem bucketR_any (v b : Int) (w : World) (vl : -9223372036854775808 ≤ v) (vh : v ≤ 9223372036854775807) (bl : -9223372036854775808 ≤ b) (bh : b ≤ 9223372036854775807) :
    Calls Tryd.prog 29 #[.int .i64 v, .int .i64 b] w fun e w' => e = .returned (bkT v b) ∧ w = w' := by
  by_cases h1 : b < 1
  · have HO := Lib.hid (show bkT v b = .tuple #[.int .i64 0, .int .i64 2] by rw [bkT, bkV, bkE, if_neg (by omega), if_neg (by omega)])
    have t1 : decide (b < 1) = true := decide_eq_true h1
    go_enter Tryd.func29, Tryd.ntmps29
    go_wp2
    go_ret2
    exact ⟨(congrArg Ending.returned HO.out).symm, rfl⟩
  have t1 : decide (b < 1) = false := decide_eq_false h1
  by_cases h2 : 16 < b
  · have HO := Lib.hid (show bkT v b = .tuple #[.int .i64 0, .int .i64 2] by rw [bkT, bkV, bkE, if_neg (by omega), if_neg (by omega)])
    have t2 : decide (16 < b) = true := decide_eq_true h2
    go_enter Tryd.func29, Tryd.ntmps29
    go_wp2
    go_ret2
    exact ⟨(congrArg Ending.returned HO.out).symm, rfl⟩
  have t2 : decide (16 < b) = false := decide_eq_false h2
  by_cases h3 : v < 0
  · have HO := Lib.hid (show bkT v b = .tuple #[.int .i64 0, .int .i64 3] by rw [bkT, bkV, bkE, if_pos (by omega), if_neg (by omega), if_pos (by omega), if_neg (by omega)])
    have t3 : decide (v < 0) = true := decide_eq_true h3
    go_enter Tryd.func29, Tryd.ntmps29
    go_wp2
    go_ret2
    exact ⟨(congrArg Ending.returned HO.out).symm, rfl⟩
  have t3 : decide (v < 0) = false := decide_eq_false h3
  by_cases h4 : 64 ≤ v
  · have HO := Lib.hid (show bkT v b = .tuple #[.int .i64 0, .int .i64 3] by rw [bkT, bkV, bkE, if_pos (by omega), if_neg (by omega), if_pos (by omega), if_neg (by omega)])
    have t4 : decide (64 ≤ v) = true := decide_eq_true h4
    go_enter Tryd.func29, Tryd.ntmps29
    go_wp2
    go_ret2
    exact ⟨(congrArg Ending.returned HO.out).symm, rfl⟩
  have t4 : decide (64 ≤ v) = false := decide_eq_false h4
  have HO := Lib.hid (show bkT v b = .tuple #[.int .i64 (v % b), .int .i64 0] by rw [bkT, bkV, bkE, if_pos (by omega), if_pos (by omega), if_pos (by omega), if_pos (by omega)])
  have hr0 : 0 ≤ v % b := Int.emod_nonneg _ (by omega)
  have hr1 : v % b < b := Int.emod_lt_of_pos _ (by omega)
  have v0 : 0 ≤ v := by omega
  have b0 : 1 ≤ b := by omega
  go_enter Tryd.func29, Tryd.ntmps29
  go_wp2
  go_ret2
  exact ⟨(congrArg Ending.returned HO.out).symm, rfl⟩
def stN (l : List Int) : Nat → Nat
  | 0 => 0
  | i + 1 => stN l i ||| 2 ^ (l.getD i 0).toNat
def stB (l : List Int) : Nat → Bool
  | 0 => true
  | i + 1 => stB l i && decide (0 ≤ l.getD i 0 ∧ l.getD i 0 < 64)
def stT (l : List Int) : Value := if stB l l.length = true then .tuple #[.int .u64 (stN l l.length : Nat), .int .i64 0] else .tuple #[.int .u64 0, .int .i64 3]
theorem stB_mono {l : List Int} : ∀ {j i : Nat}, i ≤ j → stB l j = true → stB l i = true
  | 0, i, h, hb => by rw [show i = 0 by omega]; rfl
  | j + 1, i, h, hb => by
    by_cases hi : i = j + 1
    · rw [hi]; exact hb
    · rw [stB, Bool.and_eq_true] at hb
      exact stB_mono (by omega) hb.1
theorem stB_no {l : List Int} {i : Nat} (hi : i < l.length) (h : ¬ (0 ≤ l.getD i 0 ∧ l.getD i 0 < 64)) : stB l l.length = false := by
  cases hb : stB l l.length with
  | false => rfl
  | true =>
    have := stB_mono (i := i + 1) (by omega) hb
    rw [stB, Bool.and_eq_true, decide_eq_true_eq] at this
    exact absurd this.2 h
theorem stN_lt {l : List Int} : ∀ {i : Nat}, stB l i = true → stN l i < 18446744073709551616
  | 0, _ => by unfold stN; omega
  | i + 1, h => by
    rw [stB, Bool.and_eq_true, decide_eq_true_eq] at h
    have a := stN_lt h.1
    have b := p64 (n := (l.getD i 0).toNat) (by omega)
    rw [stN]
    exact Nat.or_lt_two_pow (n := 64) a b
theorem setR_any (A : Option Addr) (m c : Nat) (l : List Int) (w : World) (hm : l.length = m) (hx : m ≤ maxLen) (hr : RdK .i64 w A l) (hd : ∀ k, k < l.length → -9223372036854775808 ≤ l.getD k 0 ∧ l.getD k 0 ≤ 9223372036854775807) :
    Calls Tryd.prog 27 #[.slice A m c] w fun e w' => e = .returned (stT l) ∧ Below w.heap.size w w' := by
  unfold maxLen at hx
  have HR := Lib.hid hr; clear hr
  have HD := Lib.hid hd; clear hd
  have HM := Lib.hid hm; clear hm
  go_enter Tryd.func27, Tryd.ntmps27
  go_wp2
  go_loopw [4, 5] (fun q i wr => ∃ j : Nat, j ≤ m ∧ q = .int .u64 (stN l j : Nat) ∧ i = .int .i64 j ∧ stB l j = true ∧ Below w.heap.size w wr) (fun q i _ => (m - intOf i).toNat)
  case atStart => exact ⟨0, Nat.zero_le _, rfl, rfl, rfl, Below.refl _ _⟩
  case round =>
    obtain ⟨j, hj, rfl, rfl, hB, bel⟩ := hrel
    have HB := Lib.hid hB; clear hB
    by_cases hlt : j < m
    · obtain ⟨x0, x1⟩ := HD.out j (by have := HM.out; omega)
      obtain ⟨b, o, rfl, g0⟩ := (HR.out.below bel) j (by have := HM.out; omega)
      have t0 : decide ((j : Int) < m) = true := by simp; omega
      by_cases hin : 0 ≤ l.getD j 0 ∧ l.getD j 0 < 64
      · have HB1 := Lib.hid (show stB l (j + 1) = true by rw [stB, HB.out, decide_eq_true hin]; rfl)
        obtain ⟨p, hp⟩ := Int.eq_ofNat_of_zero_le hin.1
        have hp64 : p < 64 := by omega
        have hS := stN_lt HB.out
        have HI := Lib.hid ((congrArg (bits .or .u64 (stN l j : Nat)) (wrap_pow hp64)).trans <| (or_nat hS (p64 hp64)).trans (congrArg Int.ofNat (show stN l j ||| 2 ^ p = stN l (j + 1) by rw [stN, hp]; rfl)))
        rw [hp] at g0
        clear hin x0 x1 hp
        have t1 : decide ((p : Int) < 0) = false := by simp
        have t2 : decide (64 ≤ (p : Int)) = false := by simp; omega
        go_wp2
        go_roundw
        case rel => exact ⟨j + 1, by omega, congrArg (Value.int .u64) HI.out, by go_num, HB1.out, bel⟩
        case measure => simp [intOf]; omega
      · have HO := Lib.hid (show stT l = .tuple #[.int .u64 0, .int .i64 3] by rw [stT, stB_no (by have := HM.out; omega) hin]; rfl)
        generalize l.getD j 0 = u at x0 x1 g0 hin
        by_cases hneg : u < 0
        · have t1 : decide (u < 0) = true := decide_eq_true hneg
          go_wp2
          go_ret2
          exact ⟨(congrArg Ending.returned HO.out).symm, bel⟩
        · have t1 : decide (u < 0) = false := decide_eq_false hneg
          have t2 : decide (64 ≤ u) = true := by simp; omega
          go_wp2
          go_ret2
          exact ⟨(congrArg Ending.returned HO.out).symm, bel⟩
    · obtain rfl : j = m := by omega
      have t0 : decide ((j : Int) < j) = false := by simp
      have HO := Lib.hid (show stT l = .tuple #[.int .u64 (stN l j : Nat), .int .i64 0] by rw [stT, HM.out, if_pos HB.out])
      go_wp2
      go_ret2
      exact ⟨(congrArg Ending.returned HO.out).symm, bel⟩
theorem ext_getD {l r : List Int} {n : Nat} (hl : l.length = n) (hr : r.length = n) (h : ∀ t, t < n → l.getD t 0 = r.getD t 0) : l = r := by
  refine List.ext_getElem (hl.trans hr.symm) fun t a b => ?_
  have := h t (by omega)
  rw [List.getD_eq_getElem?_getD, List.getD_eq_getElem?_getD, List.getElem?_eq_getElem a, List.getElem?_eq_getElem b] at this
  exact this
theorem sameR_any (A B : Option Addr) (m c q d : Nat) (l r : List Int) (w : World) (hm : l.length = m) (hq : r.length = q) (hx : m ≤ maxLen) (hy : q ≤ maxLen) (hl : RdK .i64 w A l) (hr : RdK .i64 w B r) :
    Calls Tryd.prog 32 #[.slice A m c, .slice B q d] w fun e w' => e = .returned (.bool (decide (l = r))) ∧ Below w.heap.size w w' := by
  unfold maxLen at hx hy
  have HL := Lib.hid hl; clear hl
  have HR := Lib.hid hr; clear hr
  have HM := Lib.hid hm; clear hm
  have HQ := Lib.hid hq; clear hq
  by_cases hmq : m = q
  · subst hmq
    have t0 : ((m : Int) == m) = true := by simp
    go_enter Tryd.func32, Tryd.ntmps32
    go_wp2
    go_loopw [5] (fun i wr => ∃ j : Nat, j ≤ m ∧ i = .int .i64 j ∧ (∀ t, t < j → l.getD t 0 = r.getD t 0) ∧ Below w.heap.size w wr) (fun i _ => (m - intOf i).toNat)
    case atStart => exact ⟨0, Nat.zero_le _, rfl, fun t h => absurd h (Nat.not_lt_zero _), Below.refl _ _⟩
    case round =>
      obtain ⟨j, hj, rfl, hE, bel⟩ := hrel
      have HE := Lib.hid hE; clear hE
      by_cases hlt : j < m
      · obtain ⟨b, o, rfl, g0⟩ := (HL.out.below bel) j (by have := HM.out; omega)
        obtain ⟨b', o', rfl, g1⟩ := (HR.out.below bel) j (by have := HQ.out; omega)
        have t1 : decide ((j : Int) < m) = true := by simp; omega
        by_cases hxy : l.getD j 0 = r.getD j 0
        · have HN := Lib.hid (show ∀ t, t < j + 1 → l.getD t 0 = r.getD t 0 from fun t ht => by
            by_cases h : t < j
            · exact HE.out t h
            · obtain rfl : t = j := by omega
              exact hxy)
          rw [← hxy] at g1
          clear hxy
          generalize l.getD j 0 = u at g0 g1
          go_wp2
          (try go_quiet (fail))
          (try go_wp2)
          go_roundw
          case rel => exact ⟨j + 1, by omega, by go_num, HN.out, below_drewN bel _⟩
          case measure => simp [intOf]; omega
        · have HN := Lib.hid (show ¬ l = r from fun h => hxy (by rw [h]))
          generalize l.getD j 0 = u at g0 hxy
          generalize r.getD j 0 = v at g1 hxy
          have t2 : (u == v) = false := by simp [hxy]
          go_wp2
          (try go_quiet (fail))
          (try go_wp2)
          go_ret
          exact ⟨ret_eq (congrArg Value.bool (decide_eq_false HN.out).symm), below_drewN bel _⟩
      · obtain rfl : j = m := by omega
        have t1 : decide ((j : Int) < j) = false := by simp
        have HN := Lib.hid (show l = r from ext_getD HM.out HQ.out HE.out)
        go_wp2
        go_ret
        exact ⟨ret_eq (congrArg Value.bool (decide_eq_true HN.out).symm), bel⟩
  · have HN := Lib.hid (show ¬ l = r from fun h => hmq (by rw [← HM.out, ← HQ.out, h]))
    have t0 : ((m : Int) == q) = false := by simp; omega
    go_enter Tryd.func32, Tryd.ntmps32
    go_wp2
    go_ret
    exact ⟨ret_eq (congrArg Value.bool (decide_eq_false HN.out).symm), Below.refl _ _⟩
end Dm
end Go.Proofs.YtnjgolbghcjijaaDoor
