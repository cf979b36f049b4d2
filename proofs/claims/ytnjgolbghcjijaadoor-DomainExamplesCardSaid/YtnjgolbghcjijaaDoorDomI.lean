/- Bit, In, All and Image of leapfrogref03: contracts of the translated code. Conditions: those of XDom; a value from 0 to 63. -/
import Derived.Test.YtnjgolbghcjijaaDoorDomK
import Derived.Laws.BitsAllLaws
namespace Go.Proofs.YtnjgolbghcjijaaDoor
open Go.RowKit Go.Sort
set_option linter.unusedVariables false
set_option linter.unusedSimpArgs false
namespace Dm
theorem wrap_pow {p : Nat} (hp : p < 64) : IntKind.u64.wrap ((2 : Int) ^ p) = ((2 ^ p : Nat) : Int) := by
  have h := p64 hp
  have e : ((2 : Int) ^ p) = ((2 ^ p : Nat) : Int) := by simp
  rw [e]
  generalize 2 ^ p = x at h
  simp [IntKind.wrap, IntKind.bits, IntKind.signed]
  omega
theorem bit_any (p : Nat) (hp : p < 64) (w : World) :
    Calls Tryd.prog 37 #[.int .i64 p] w fun e w' => e = .returned (.int .u64 ((2 ^ p : Nat) : Int)) ∧ w = w' := by
  have hi : (p : Int) < 64 := by omega
  have HW := Lib.hid (wrap_pow hp)
  go_enter Tryd.func37, Tryd.ntmps37
  go_wp2
  go_ret
  exact ⟨by rw [← HW.out]; rfl, rfl⟩
theorem or_nat {S T : Nat} (h1 : S < 18446744073709551616) (h2 : T < 18446744073709551616) : bits .or .u64 (S : Int) (T : Int) = ((S ||| T : Nat) : Int) := u64_or_nat S T (by omega) (by omega)
theorem and_nat {S T : Nat} (h1 : S < 18446744073709551616) (h2 : T < 18446744073709551616) : bits .and .u64 (S : Int) (T : Int) = ((S &&& T : Nat) : Int) := u64_and_nat S T (by omega) (by omega)
theorem in_val {S p : Nat} (hS : S < 18446744073709551616) (hp : p < 64) : (bits .and .u64 (S : Int) ((2 ^ p : Nat) : Int) != 0) = S.testBit p := by
  rw [and_nat hS (p64 hp), one_bit]
  cases S.testBit p with
  | false => rfl
  | true =>
    have : 2 ^ p ≠ 0 := Nat.ne_of_gt (Nat.pow_pos (by omega))
    rw [if_pos rfl]
    generalize 2 ^ p = x at this
    simp; omega
theorem in_any (S p : Nat) (hS : S < 18446744073709551616) (hp : p < 64) (w : World) :
    Calls Tryd.prog 46 #[.int .u64 S, .int .i64 p] w fun e w' => e = .returned (.bool (S.testBit p)) ∧ w = w' := by
  have HA := Lib.hid (in_val hS hp)
  go_enter Tryd.func46, Tryd.ntmps46
  go_wp2_with fail
  refine (bit_any p hp _).mono ?_
  rintro r w1 ⟨rfl, rfl⟩
  generalize 2 ^ p = x at *
  go_wp2
  go_ret
  exact ⟨by rw [← HA.out]; rfl, rfl⟩
theorem img_step {p : Nat → Bool} {n : Nat} (h : p n = true) : img p (n + 1) = img p n ||| 2 ^ n := by rw [img, if_pos h]
theorem img_skip {p : Nat → Bool} {n : Nat} (h : p n = false) : img p (n + 1) = img p n := by rw [img, h]; rfl
theorem allR_any (k n : Int) (A : Option Addr) (m c : Nat) (l : List Int) (w : World) (kl : 0 ≤ k) (kh : k ≤ 255) (nl : -9223372036854775808 ≤ n) (nh : n ≤ 9223372036854775807) (hm : l.length = m) (hx : m ≤ maxLen) (hr : RdK .u64 w A l) (hd : BdU l) :
    Calls Tryd.prog 19 #[.agg #[.int .u8 k, .int .i64 n, .slice A m c]] w fun e w' => e = .returned (.tuple #[.int .u64 (alV k n l : Nat), .int .i64 (dmE k n l)]) ∧ Below w.heap.size w w' := by
  have HR := Lib.hid hr; clear hr
  have HD := Lib.hid hd; clear hd
  have HM := Lib.hid hm; clear hm
  have b0 : Below w.heap.size w (w.alloc (Obj.cells #[.int .u8 k, .int .i64 n, .slice A m c] 24)) := bel_alloc (Below.refl _ _) _
  have C := fun W h => Lib.hid (valuesR_any k n A m c l W kl kh nl nh HM.out hx h HD.out)
  cases hb : dmB k n l with
  | false =>
    have HE := Lib.hid (dmE_no hb)
    have HN := Lib.hid (dmN_no hb)
    have HO := Lib.hid (show alV k n l = 0 by rw [alV, hb]; rfl)
    clear hb
    go_enter Tryd.func19, Tryd.ntmps19
    go_wp2_with fail
    refine (C _ (HR.out.below b0)).out.mono ?_
    rw [HE.out, HN.out]
    rintro r w1 ⟨rfl, b1⟩
    go_wp2
    go_ret2
    exact ⟨by rw [HO.out, HE.out]; rfl, bel_trans b0 b1⟩
  | true =>
    have HE := Lib.hid (dmE_yes hb)
    obtain ⟨N0, N1⟩ := dmN_64 (k := k) (n := n) (l := l)
    have HO := Lib.hid (show alV k n l = img (fun _ => true) (dmN k n l).toNat by rw [alV, if_pos hb])
    clear hb
    generalize dmN k n l = N at *
    obtain ⟨M, rfl⟩ := Int.eq_ofNat_of_zero_le N0
    rw [Int.toNat_natCast] at HO
    clear N0
    go_enter Tryd.func19, Tryd.ntmps19
    go_wp2_with fail
    refine (C _ (HR.out.below b0)).out.mono ?_
    rw [HE.out]
    rintro r w1 ⟨rfl, b1⟩
    have bw := bel_trans b0 b1
    go_wp2
    go_loopw [6, 7] (fun q i wr => ∃ j : Nat, j ≤ M ∧ q = .int .u64 (img (fun _ => true) j : Nat) ∧ i = .int .i64 j ∧ Below w1.heap.size w1 wr) (fun q i _ => (M - intOf i).toNat)
    case atStart => exact ⟨0, Nat.zero_le _, rfl, rfl, Below.refl _ _⟩
    case round =>
      obtain ⟨j, hj, rfl, rfl, bel⟩ := hrel
      by_cases hlt : j < M
      · have hj64 : j < 64 := by omega
        have HI := Lib.hid ((or_nat (img64 (fun _ => true) (Nat.le_of_lt hj64)) (p64 hj64)).trans (congrArg Int.ofNat (img_step (p := fun _ => true) (n := j) rfl).symm))
        have t4 : decide ((j : Int) < M) = true := by simp; omega
        go_wp2_with fail
        refine (bit_any j hj64 _).mono ?_
        rintro r w2 ⟨rfl, rfl⟩
        generalize 2 ^ j = x at *
        generalize img (fun _ => true) j = y at *
        go_wp2
        go_roundw
        case rel => exact ⟨j + 1, by omega, congrArg (Value.int .u64) HI.out, by go_num, bel⟩
        case measure => simp [intOf]; omega
      · obtain rfl : j = M := by omega
        have t4 : decide ((j : Int) < j) = false := by simp
        go_wp2
        go_ret2
        exact ⟨by rw [HO.out, HE.out]; rfl, bw.trans (bel.mono bw.size)⟩
set_option maxHeartbeats 1000000 in
theorem imgR_any (k n lo hi : Int) (A : Option Addr) (m c : Nat) (l : List Int) (w : World) (kl : 0 ≤ k) (kh : k ≤ 255) (nl : -9223372036854775808 ≤ n) (nh : n ≤ 9223372036854775807) (ll : 0 ≤ lo) (lh : lo ≤ 18446744073709551615) (hl : 0 ≤ hi) (hh : hi ≤ 18446744073709551615)
    (hm : l.length = m) (hx : m ≤ maxLen) (hr : RdK .u64 w A l) (hd : BdU l) :
    Calls Tryd.prog 23 #[.agg #[.int .u8 k, .int .i64 n, .slice A m c], .agg #[.int .u64 lo, .int .u64 hi]] w fun e w' => e = .returned (.tuple #[.int .u64 (imV k n l lo hi : Nat), .int .i64 (imE k n l lo hi)]) ∧ Below w.heap.size w w' := by
  have HR := Lib.hid hr; clear hr
  have HD := Lib.hid hd; clear hd
  have HM := Lib.hid hm; clear hm
  have b0 : Below w.heap.size w ((w.alloc (Obj.cells #[.int .u8 k, .int .i64 n, .slice A m c] 24)).alloc (Obj.cells #[.int .u64 lo, .int .u64 hi] 37)) := bel_alloc (bel_alloc (Below.refl _ _) _) _
  have C := fun W h => Lib.hid (valuesR_any k n A m c l W kl kh nl nh HM.out hx h HD.out)
  cases hb : dmB k n l with
  | false =>
    have HE := Lib.hid (dmE_no hb)
    have HN := Lib.hid (dmN_no hb)
    have HO := Lib.hid (show imV k n l lo hi = 0 ∧ imE k n l lo hi = 2 by simp [imV, imB, imE, hb])
    clear hb
    go_enter Tryd.func23, Tryd.ntmps23
    go_wp2_with fail
    refine (C _ (HR.out.below b0)).out.mono ?_
    rw [HE.out, HN.out]
    rintro r w1 ⟨rfl, b1⟩
    go_wp2
    go_ret2
    exact ⟨by rw [HO.out.1, HO.out.2]; rfl, bel_trans b0 b1⟩
  | true =>
    have HE := Lib.hid (dmE_yes hb)
    obtain ⟨N0, N1⟩ := dmN_64 (k := k) (n := n) (l := l)
    by_cases hle : lo ≤ hi
    · have HO := Lib.hid (show imV k n l lo hi = img (lsAt k n l lo hi) (dmN k n l).toNat ∧ imE k n l lo hi = 0 by simp [imV, imB, imE, hb, hle])
      have HL := fun v W vl vh h => Lib.hid (leastR_any k n v lo A m c l W kl kh nl nh vl vh ll lh HM.out hx h HD.out)
      have HA := fun j => Lib.hid (show lsAt k n l lo hi j = match dmL k n l (j : Nat) lo with | some x => decide (x ≤ hi) | none => false from rfl)
      clear hb
      generalize dmN k n l = N at *
      obtain ⟨M, rfl⟩ := Int.eq_ofNat_of_zero_le N0
      rw [Int.toNat_natCast] at HO
      generalize lsAt k n l lo hi = F at *
      clear N0
      have t0 : decide (hi < lo) = false := by simp; omega
      go_enter Tryd.func23, Tryd.ntmps23
      go_wp2_with fail
      refine (C _ (HR.out.below b0)).out.mono ?_
      rw [HE.out]
      rintro r w1 ⟨rfl, b1⟩
      have bw := bel_trans b0 b1
      obtain ⟨kc, kf⟩ := bcell b1
      have e0 : w1.cell? ⟨w.heap.size, 0, none⟩ = some (.int .u8 k) := by rw [kc _ _ (by simp; omega)]; simp
      have e1 : w1.cell? ⟨w.heap.size, 1, none⟩ = some (.int .i64 n) := by rw [kc _ _ (by simp; omega)]; simp
      have e2 : w1.cell? ⟨w.heap.size, 2, none⟩ = some (.slice A m c) := by rw [kc _ _ (by simp; omega)]; simp
      have s0 : w1.cell? ⟨w.heap.size + 1, 0, none⟩ = some (.int .u64 lo) := by rw [kc _ _ (by simp)]; simp
      have s1 : w1.cell? ⟨w.heap.size + 1, 1, none⟩ = some (.int .u64 hi) := by rw [kc _ _ (by simp)]; simp
      have hws : w.heap.size < w1.heap.size := by have := b1.size; simp at this; omega
      have hws1 : w.heap.size + 1 < w1.heap.size := by have := b1.size; simp at this; omega
      clear kc kf
      go_wp2
      go_loopw [8, 9] (fun q i wr => ∃ j : Nat, j ≤ M ∧ q = .int .u64 (img F j : Nat) ∧ i = .int .i64 j ∧ Below w1.heap.size w1 wr) (fun q i _ => (M - intOf i).toNat)
      case atStart => exact ⟨0, Nat.zero_le _, rfl, rfl, Below.refl _ _⟩
      case round =>
        obtain ⟨j, hj, rfl, rfl, bel⟩ := hrel
        have bt := bw.trans (bel.mono bw.size)
        by_cases hlt : j < M
        · have hj64 : j < 64 := by omega
          have t4 : decide ((j : Int) < M) = true := by simp; omega
          have g0 : wr.cell? ⟨w.heap.size, 0, none⟩ = some (.int .u8 k) := by rw [bel.cell (p := ⟨w.heap.size, 0, none⟩) hws]; exact e0
          have g1 : wr.cell? ⟨w.heap.size, 1, none⟩ = some (.int .i64 n) := by rw [bel.cell (p := ⟨w.heap.size, 1, none⟩) hws]; exact e1
          have g2 : wr.cell? ⟨w.heap.size, 2, none⟩ = some (.slice A m c) := by rw [bel.cell (p := ⟨w.heap.size, 2, none⟩) hws]; exact e2
          have g3 : wr.cell? ⟨w.heap.size + 1, 0, none⟩ = some (.int .u64 lo) := by rw [bel.cell (p := ⟨w.heap.size + 1, 0, none⟩) hws1]; exact s0
          have g4 : wr.cell? ⟨w.heap.size + 1, 1, none⟩ = some (.int .u64 hi) := by rw [bel.cell (p := ⟨w.heap.size + 1, 1, none⟩) hws1]; exact s1
          have hwr : w.heap.size + 1 < wr.heap.size := by have := bel.size; omega
          have HAj := HA j
          have HLj := HL (j : Int) wr (by omega) (by omega) (HR.out.below bt)
          generalize lsE k n l (j : Int) = E at HLj
          generalize dmL k n l (j : Int) lo = o at HLj HAj
          cases o with
          | none =>
            have HI := Lib.hid (img_skip (p := F) (n := j) HAj.out)
            go_wp2_with fail
            refine HLj.out.mono ?_
            rintro r w2 ⟨rfl, b2⟩
            unfold lsT
            go_wp2
            go_roundw
            case rel => exact ⟨j + 1, by omega, by rw [HI.out], by go_num, bel.trans (b2.mono bel.size)⟩
            case measure => simp [intOf]; omega
          | some x =>
            have HAj' : F j = decide (x ≤ hi) := HAj.out
            by_cases hxh : x ≤ hi
            · have HI := Lib.hid ((or_nat (img64 F (Nat.le_of_lt hj64)) (p64 hj64)).trans (congrArg Int.ofNat (img_step (p := F) (n := j) (HAj'.trans (decide_eq_true hxh))).symm))
              have t5 : decide (x ≤ hi) = true := decide_eq_true hxh
              clear HAj HAj'
              go_wp2_with fail
              refine HLj.out.mono ?_
              rintro r w2 ⟨rfl, b2⟩
              have h4 : w2.cell? ⟨w.heap.size + 1, 1, none⟩ = some (.int .u64 hi) := by rw [b2.cell (p := ⟨w.heap.size + 1, 1, none⟩) hwr]; exact g4
              unfold lsT
              go_wp2_with fail
              refine (bit_any j hj64 _).mono ?_
              rintro r w3 ⟨rfl, rfl⟩
              generalize 2 ^ j = z at *
              generalize img F j = y at *
              go_wp2
              go_roundw
              case rel => exact ⟨j + 1, by omega, congrArg (Value.int .u64) HI.out, by go_num, bel.trans (b2.mono bel.size)⟩
              case measure => simp [intOf]; omega
            · have HI := Lib.hid (img_skip (p := F) (n := j) (HAj'.trans (decide_eq_false hxh)))
              have t5 : decide (x ≤ hi) = false := decide_eq_false hxh
              clear HAj HAj'
              go_wp2_with fail
              refine HLj.out.mono ?_
              rintro r w2 ⟨rfl, b2⟩
              have h4 : w2.cell? ⟨w.heap.size + 1, 1, none⟩ = some (.int .u64 hi) := by rw [b2.cell (p := ⟨w.heap.size + 1, 1, none⟩) hwr]; exact g4
              unfold lsT
              go_wp2
              go_roundw
              case rel => exact ⟨j + 1, by omega, by rw [HI.out], by go_num, bel.trans (b2.mono bel.size)⟩
              case measure => simp [intOf]; omega
        · obtain rfl : j = M := by omega
          have t4 : decide ((j : Int) < j) = false := by simp
          go_wp2
          go_ret2
          exact ⟨by rw [HO.out.1, HO.out.2]; rfl, bt⟩
    · have HO := Lib.hid (show imV k n l lo hi = 0 ∧ imE k n l lo hi = 13 by simp [imV, imB, imE, hb, hle])
      clear hb
      have t0 : decide (hi < lo) = true := by simp; omega
      generalize dmN k n l = N at *
      go_enter Tryd.func23, Tryd.ntmps23
      go_wp2_with fail
      refine (C _ (HR.out.below b0)).out.mono ?_
      rw [HE.out]
      rintro r w1 ⟨rfl, b1⟩
      have bw := bel_trans b0 b1
      obtain ⟨kc, kf⟩ := bcell b1
      have s0 : w1.cell? ⟨w.heap.size + 1, 0, none⟩ = some (.int .u64 lo) := by rw [kc _ _ (by simp)]; simp
      have s1 : w1.cell? ⟨w.heap.size + 1, 1, none⟩ = some (.int .u64 hi) := by rw [kc _ _ (by simp)]; simp
      clear kc kf
      go_wp2
      go_ret2
      exact ⟨by rw [HO.out.1, HO.out.2]; rfl, bw⟩
end Dm
end Go.Proofs.YtnjgolbghcjijaaDoor
