/- The walk of the law DomainBuckets, from the contracts of XDomG, XDomY, XDomB. Conditions: those of the contracts. -/
import Derived.Test.YtnjgolbghcjijaaDoorWkDo5
namespace Go.Proofs.YtnjgolbghcjijaaDoor
open Go.RowKit Go.Sort
set_option linter.unusedVariables false
set_option linter.unusedSimpArgs false
namespace Dm
/-- a row of 16 bools in the block b -/
def Arr (w : World) (b : Nat) (f : Nat → Bool) : Prop := ∀ k, k < 16 → w.cell? ⟨b, k, none⟩ = some (.bool (f k)) ∧ w.frozen? ⟨b, k, none⟩ = false
theorem Arr.set {w : World} {b r : Nat} {f : Nat → Bool} (h : Arr w b f) (hr : r < 16) (v : Bool) : Arr (w.setCell ⟨b, r, none⟩ (.bool v)) b (fun k => if k = r then v else f k) := fun k hk => by
  refine ⟨?_, by rw [World.frozen?_setCell]; exact (h k hk).2⟩
  by_cases e : k = r
  · subst e
    rw [World.cell?_setCell_same _ _ _ (h k hk).1]
    simp
  · rw [World.cell?_setCell_other _ _ _ _ (fun e' => e (by cases e'; rfl)), (h k hk).1]
    simp [e]
theorem Arr.other {w : World} {b b' r : Nat} {f : Nat → Bool} (h : Arr w b f) (hb : b ≠ b') (v : Value) : Arr (w.setCell ⟨b', r, none⟩ v) b f := fun k hk =>
  ⟨by rw [World.cell?_setCell_other _ _ _ _ (fun e => hb (by cases e; rfl)), (h k hk).1], by rw [World.frozen?_setCell]; exact (h k hk).2⟩
theorem Arr.congr {w : World} {b : Nat} {f g : Nat → Bool} (h : Arr w b f) (e : ∀ k, k < 16 → f k = g k) : Arr w b g := fun k hk => by rw [← e k hk]; exact h k hk
/-- whether one of the first u values of the set has the bucket k -/
def bkU (S B k : Nat) : Nat → Bool
  | 0 => false
  | u + 1 => bkU S B k u || (decide (u % B = k) && S.testBit u)
theorem bkU_iff (S B k : Nat) : ∀ n, bkU S B k n = true ↔ ∃ u, u < n ∧ u % B = k ∧ S.testBit u = true
  | 0 => by
    constructor
    · intro h; cases h
    · rintro ⟨u, h, _⟩; omega
  | n + 1 => by
    rw [bkU, Bool.or_eq_true, bkU_iff S B k n, Bool.and_eq_true, decide_eq_true_eq]
    constructor
    · rintro (⟨u, a, b, c⟩ | ⟨b, c⟩)
      · exact ⟨u, by omega, b, c⟩
      · exact ⟨n, by omega, b, c⟩
    · rintro ⟨u, a, b, c⟩
      by_cases e : u = n
      · subst e; exact .inr ⟨b, c⟩
      · exact .inl ⟨u, by omega, b, c⟩
theorem bkU_H {S B k : Nat} (hS : S < 18446744073709551616) (hB : 1 ≤ B) (hk : k < B) : bkU S B k 64 = bkH S B k 64 := by
  rw [Bool.eq_iff_iff, bkU_iff, bkH_iff]
  constructor
  · rintro ⟨u, a, b, c⟩
    refine ⟨u / B, Nat.lt_of_le_of_lt (Nat.div_le_self _ _) a, ?_⟩
    rw [← b, Nat.mul_comm, Nat.mod_add_div]
    exact c
  · rintro ⟨t, ht, h⟩
    have hlt : k + t * B < 64 := by
      refine Nat.lt_of_not_le fun hle => ?_
      rw [Nat.testBit_lt_two_pow (Nat.lt_of_lt_of_le hS (Nat.pow_le_pow_right (n := 2) (by omega) hle : 2 ^ 64 ≤ 2 ^ (k + t * B)))] at h
      cases h
    exact ⟨k + t * B, hlt, by rw [Nat.add_mul_mod_self_right, Nat.mod_eq_of_lt hk], h⟩
theorem bkS_pre (S B : Nat) (k : Nat) : ∀ n, ∃ r, bkS S B (k + n) = bkS S B k ++ r
  | 0 => ⟨[], by simp⟩
  | n + 1 => by
    obtain ⟨r, h⟩ := bkS_pre S B k n
    rw [← Nat.add_assoc, bkS, h]
    split
    · exact ⟨r ++ [((k + n : Nat) : Int)], by simp⟩
    · exact ⟨r, rfl⟩
theorem bkS_at {S B k : Nat} (hk : k < B) (h : bkH S B k 64 = true) : (bkS S B k).length < (bkS S B B).length ∧ (bkS S B B).getD (bkS S B k).length 0 = k := by
  obtain ⟨r, hr⟩ := bkS_pre S B (k + 1) (B - (k + 1))
  rw [show k + 1 + (B - (k + 1)) = B by omega, bkS, if_pos h] at hr
  rw [hr]
  constructor
  · simp
  · rw [List.getD_eq_getElem?_getD, List.append_assoc, List.getElem?_append_right (Nat.le_refl _)]
    simp
theorem bkS_step {S B k : Nat} (h : bkH S B k 64 = true) : (bkS S B (k + 1)).length = (bkS S B k).length + 1 := by rw [bkS, if_pos h]; simp
theorem bkS_skip {S B k : Nat} (h : bkH S B k 64 = false) : (bkS S B (k + 1)).length = (bkS S B k).length := by rw [bkS, h]; rfl
/-- whether one of the first k buckets has values of both sets -/
def cmB (S T B : Nat) : Nat → Bool
  | 0 => false
  | k + 1 => cmB S T B k || (bkU S B k 64 && bkU T B k 64)
theorem cmB_of {S T B : Nat} {k : Nat} (h1 : bkU S B k 64 = true) (h2 : bkU T B k 64 = true) : ∀ {n}, k < n → cmB S T B n = true
  | 0, h => by omega
  | n + 1, h => by
    rw [cmB]
    by_cases e : k = n
    · subst e; rw [h1, h2]; simp
    · rw [cmB_of h1 h2 (by omega), Bool.true_or]
theorem cm_all {S T B : Nat} (hS : S < 18446744073709551616) (hB : 1 ≤ B) (h : S &&& T ≠ 0) : cmB S T B B = true := by
  obtain ⟨u, hu⟩ := Nat.exists_testBit_of_ne_zero h
  rw [Nat.testBit_and, Bool.and_eq_true] at hu
  have h64 : u < 64 := by
    refine Nat.lt_of_not_le fun hle => ?_
    have := hu.1
    rw [Nat.testBit_lt_two_pow (Nat.lt_of_lt_of_le hS (Nat.pow_le_pow_right (n := 2) (by omega) hle : 2 ^ 64 ≤ 2 ^ u))] at this
    cases this
  exact cmB_of ((bkU_iff S B (u % B) 64).2 ⟨u, h64, rfl, hu.1⟩) ((bkU_iff T B (u % B) 64).2 ⟨u, h64, rfl, hu.2⟩) (Nat.mod_lt _ hB)
theorem arr_new (w : World) (t : TypeId) : Arr (w.alloc (.cells #[.bool false, .bool false, .bool false, .bool false, .bool false, .bool false, .bool false, .bool false, .bool false, .bool false, .bool false, .bool false, .bool false, .bool false, .bool false, .bool false] t)) w.heap.size (fun _ => false) := fun k hk => by
  refine ⟨?_, World.frozen?_alloc_new _ _ _ _⟩
  rw [World.cell?_alloc_new]
  have : ∀ k, k < 16 → (#[Value.bool false, .bool false, .bool false, .bool false, .bool false, .bool false, .bool false, .bool false, .bool false, .bool false, .bool false, .bool false, .bool false, .bool false, .bool false, .bool false])[k]? = some (Value.bool false) := by
    intro k hk
    rcases k with _ | _ | _ | _ | _ | _ | _ | _ | _ | _ | _ | _ | _ | _ | _ | _ | k
    all_goals first | rfl | omega
  exact this k hk
end Dm
namespace Wk
open Dm
set_option maxHeartbeats 4000000 in
set_option maxRecDepth 100000 in
theorem walk_domainBuckets (a0 : Int) (a1 : Int) (a2 : Int) (w : World) (a0l : 0 ≤ a0) (a0h : a0 ≤ 18446744073709551615) (a1l : 0 ≤ a1) (a1h : a1 ≤ 18446744073709551615) (a2l : (-9223372036854775808) ≤ a2) (a2h : a2 ≤ 9223372036854775807) (hT : Dm.Tz w) :
    Calls Tryd.prog 11 #[.int .u64 a0, .int .u64 a1, .int .i64 a2] w fun e w' => e = .returned (.bool true) ∧ Below w.heap.size w w' := by
  obtain ⟨S, rfl⟩ := Int.eq_ofNat_of_zero_le a0l
  obtain ⟨T, rfl⟩ := Int.eq_ofNat_of_zero_le a1l
  have hS : S < 18446744073709551616 := by omega
  have hTT : T < 18446744073709551616 := by omega
  have HT := Lib.hid hT; clear hT
  by_cases hB : 1 ≤ a2 ∧ a2 ≤ 16
  · obtain ⟨B, rfl⟩ := Int.eq_ofNat_of_zero_le (show 0 ≤ a2 by omega)
    obtain ⟨B1, B2⟩ := hB
    have CA := Lib.hid (bucketsP_any S B hS (by omega) (by omega) w HT.out HT.out.pos)
    have CB := fun W (h : Tz W) => Lib.hid (bucketsP_any T B hTT (by omega) (by omega) W h h.pos)
    unfold BPost at CA CB
    have hlA := bkS_len S B B
    have t1 : decide ((B : Int) < 1) = false := decide_eq_false (by omega)
    have t2 : decide (16 < (B : Int)) = false := decide_eq_false (by omega)
    go_enter Tryd.func11, Tryd.ntmps11
    go_wp2_with fail
    refine CA.out.mono ?_
    rintro r w1 ⟨⟨A1, c1, rfl, rd1⟩, b1⟩
    have R1 := Lib.hid rd1; clear rd1
    go_wp2_with fail
    refine (CB _ (HT.out.below b1)).out.mono ?_
    rintro r w2 ⟨⟨A2, c2, rfl, rd2⟩, b2⟩
    have R2 := Lib.hid (R1.out.below b2); clear R1 rd2
    have bw2 := bel_trans b1 b2
    go_wp2
    have z0 := arr_new w2 58
    have z1 := arr_new (w2.alloc (.cells #[.bool false, .bool false, .bool false, .bool false, .bool false, .bool false, .bool false, .bool false, .bool false, .bool false, .bool false, .bool false, .bool false, .bool false, .bool false, .bool false] 58)) 58
    rw [World.size_alloc] at z1
    obtain ⟨w3, hw3⟩ : ∃ w3 : World, w3 = (w2.alloc (.cells #[.bool false, .bool false, .bool false, .bool false, .bool false, .bool false, .bool false, .bool false, .bool false, .bool false, .bool false, .bool false, .bool false, .bool false, .bool false, .bool false] 58)).alloc (.cells #[.bool false, .bool false, .bool false, .bool false, .bool false, .bool false, .bool false, .bool false, .bool false, .bool false, .bool false, .bool false, .bool false, .bool false, .bool false, .bool false] 58) := ⟨_, rfl⟩
    have b3 : Below w2.heap.size w2 w3 := by rw [hw3]; exact bel_alloc (bel_alloc (Below.refl _ _) _) _
    have z0 : Arr w3 w2.heap.size (fun k => bkU S B k 0) := fun k hk => by
      rw [hw3, World.cell?_alloc_lt _ _ _ (by simp), World.frozen?_alloc_old _ _ _ (by simp)]
      exact z0 k hk
    have z1 : Arr w3 (w2.heap.size + 1) (fun k => bkU T B k 0) := fun k hk => by rw [hw3]; exact z1 k hk
    rw [← hw3]
    clear hw3
    go_loopw [13] (fun i wr => ∃ v : Nat, v ≤ 64 ∧ i = .int .i64 v ∧ Arr wr w2.heap.size (fun k => bkU S B k v) ∧ Arr wr (w2.heap.size + 1) (fun k => bkU T B k v) ∧ Below w2.heap.size w2 wr) (fun i _ => (64 - intOf i).toNat)
    case atStart => exact ⟨0, Nat.zero_le _, rfl, z0, z1, b3⟩
    case round =>
      clear z0 z1
      obtain ⟨v, hv, rfl, y0, y1, bel⟩ := hrel
      by_cases hlt : v < 64
      · have u0 : decide ((v : Int) < 64) = true := decide_eq_true (by omega)
        have hmod := Nat.mod_lt v (show 0 < B by omega)
        have hr16 : v % B < 16 := by omega
        have q2 : 0 ≤ (v : Int) % (B : Int) := Int.emod_nonneg _ (by omega)
        have q3 : (v : Int) % (B : Int) < B := Int.emod_lt_of_pos _ (by omega)
        have q4 : (v : Int) % (B : Int) < 16 := by omega
        have vi : (v : Int) < 64 := by omega
        have CK := Lib.hid (bucket_any v B wr (by omega) (by omega) (by omega) (by omega))
        have HK : bkT (v : Int) (B : Int) = .tuple #[.int .i64 ((v : Int) % (B : Int)), .int .i64 0] := by rw [bkT, bkV, bkE, if_pos (by omega), if_pos (by omega), if_pos (by omega), if_pos (by omega)]
        rw [HK] at CK
        clear HK
        have tS := tst hS hlt
        have tT := tst hTT hlt
        have g0 : wr.cell? ⟨w2.heap.size, v % B, none⟩ = some (.bool (bkU S B (v % B) v)) := (y0 (v % B) hr16).1
        have g1 : wr.cell? ⟨w2.heap.size + 1, v % B, none⟩ = some (.bool (bkU T B (v % B) v)) := (y1 (v % B) hr16).1
        have f0 := (y0 (v % B) hr16).2
        have f1 := (y1 (v % B) hr16).2
        have N0 : ∀ x : Bool, x = (bkU S B (v % B) v || S.testBit v) → Arr (wr.setCell ⟨w2.heap.size, v % B, none⟩ (.bool x)) w2.heap.size (fun k => bkU S B k (v + 1)) := fun x hx => (y0.set hr16 x).congr fun k hk => by
          by_cases e : k = v % B
          · rw [if_pos e, hx, e, bkU, decide_eq_true rfl, Bool.true_and]
          · rw [if_neg e, bkU, decide_eq_false (fun h => e h.symm), Bool.false_and, Bool.or_false]
        have N1 : ∀ (W : World) (x : Bool), Arr W (w2.heap.size + 1) (fun k => bkU T B k v) → x = (bkU T B (v % B) v || T.testBit v) → Arr (W.setCell ⟨w2.heap.size + 1, v % B, none⟩ (.bool x)) (w2.heap.size + 1) (fun k => bkU T B k (v + 1)) := fun W x hW hx => (hW.set hr16 x).congr fun k hk => by
          by_cases e : k = v % B
          · rw [if_pos e, hx, e, bkU, decide_eq_true rfl, Bool.true_and]
          · rw [if_neg e, bkU, decide_eq_false (fun h => e h.symm), Bool.false_and, Bool.or_false]
        have N0 := Lib.hid N0
        have N1 := Lib.hid N1
        have Y1 := Lib.hid y1
        clear y0 y1
        generalize bkU S B (v % B) v = hS1 at *
        generalize bkU T B (v % B) v = hT1 at *
        generalize S.testBit v = sb at *
        generalize T.testBit v = tb at *
        cases hS1 <;> cases hT1
        all_goals
          go_wp2_with fail
          refine CK.out.mono ?_
          rintro r w4 ⟨rfl, rfl⟩
          go_wp2
          go_roundw
          case rel => exact ⟨v + 1, by omega, by go_num, (N0.out _ (by simp)).other (by omega) _, N1.out _ _ (Y1.out.other (by omega) _) (by simp), (bel.setCell (p := ⟨w2.heap.size, v % B, none⟩) (Nat.le_refl _) _).setCell (p := ⟨w2.heap.size + 1, v % B, none⟩) (Nat.le_succ _) _⟩
          case measure => simp [intOf]; omega
      · obtain rfl : v = 64 := by omega
        have bt := bel_trans bw2 bel
        have RA := Lib.hid (R2.out.below bel)
        have Y0 := Lib.hid y0
        have Y1 := Lib.hid y1
        clear y0 y1
        have BB1 : 1 ≤ B := by omega
        have BB2 : B ≤ 16 := by omega
        go_wp2
        go_loop [16, 17, 18] (fun q c i => ∃ k : Nat, k ≤ B ∧ q = .int .i64 (bkS S B k).length ∧ c = .bool (cmB S T B k) ∧ i = .int .i64 k) (fun q c i => (B - intOf i).toNat)
        case atStart => exact ⟨0, Nat.zero_le _, rfl, rfl, rfl⟩
        case round =>
          obtain ⟨k, hk, rfl, rfl, rfl⟩ := hrel
          by_cases hlt : k < B
          · have u0 : decide (k < B) = true := decide_eq_true hlt
            have k16 : (k : Int) < 16 := by omega
            have kB : (k : Int) < B := by omega
            have g0 : wr.cell? ⟨w2.heap.size, k, none⟩ = some (.bool (bkU S B k 64)) := (Y0.out k (by omega)).1
            have g1 : wr.cell? ⟨w2.heap.size + 1, k, none⟩ = some (.bool (bkU T B k 64)) := (Y1.out k (by omega)).1
            have HC := Lib.hid (show cmB S T B (k + 1) = (cmB S T B k || (bkU S B k 64 && bkU T B k 64)) from rfl)
            have HH := Lib.hid (bkU_H hS BB1 hlt)
            have hl1 := bkS_len S B k
            cases hw : bkU S B k 64 with
            | true =>
              rw [hw] at HC g0
              have hbk : bkH S B k 64 = true := by rw [← HH.out]; exact hw
              obtain ⟨n0, n1⟩ := bkS_at hlt hbk
              have HN := Lib.hid (bkS_step hbk)
              obtain ⟨b, o, e, g2⟩ := RA.out _ n0
              rw [n1] at g2
              clear n1 hbk hw
              subst e
              generalize (bkS S B k).length = n at *
              generalize hLL : (bkS S B B).length = L at *
              clear hLL
              have u1 : decide (L ≤ n) = false := decide_eq_false (by omega)
              have u2 : (n : Int) < L := by omega
              generalize bkU T B k 64 = h2 at *
              generalize cmB S T B k = cc at *
              cases cc
              all_goals
                go_wp2
                go_round
                case rel => exact ⟨k + 1, by omega, by rw [HN.out]; go_num, by rw [HC.out]; simp, by go_num⟩
                case measure => simp [intOf]; omega
            | false =>
              rw [hw] at HC g0
              have hbk : bkH S B k 64 = false := by rw [← HH.out]; exact hw
              have HN := Lib.hid (bkS_skip hbk)
              clear hbk hw
              generalize (bkS S B k).length = n at *
              generalize bkU T B k 64 = h2 at *
              generalize cmB S T B k = cc at *
              cases cc
              all_goals
                go_wp2
                go_round
                case rel => exact ⟨k + 1, by omega, by rw [HN.out], by rw [HC.out]; simp, by go_num⟩
                case measure => simp [intOf]; omega
          · obtain rfl : k = B := by omega
            have u0 : decide (k < k) = false := decide_eq_false (by omega)
            by_cases hst : S &&& T = 0
            · have u1 : (bits .and .u64 (S : Int) (T : Int) == 0) = true := by rw [and_nat hS hTT, hst]; rfl
              go_wp2
              go_ret
              exact ⟨ret_eq (by simp), bt⟩
            · have u1 : (bits .and .u64 (S : Int) (T : Int) == 0) = false := by rw [and_nat hS hTT]; simp; omega
              rw [cm_all hS BB1 hst]
              go_wp2
              go_ret
              exact ⟨ret_eq (by simp), bt⟩
  · have CA := Lib.hid (bucketsP_bad S a2 w hB a2l a2h)
    have CB := fun W => Lib.hid (bucketsP_bad T a2 W hB a2l a2h)
    have key : ∀ q : Bool, decide (a2 < 1) = q → (q = false → decide (16 < a2) = true) → Calls Tryd.prog 11 #[.int .u64 S, .int .u64 T, .int .i64 a2] w fun e w' => e = .returned (.bool true) ∧ Below w.heap.size w w' := by
      intro q hq hq2
      cases q with
      | true =>
        clear hB hq2
        go_enter Tryd.func11, Tryd.ntmps11
        go_wp2_with fail
        refine CA.out.mono ?_
        rintro r w1 ⟨rfl, b1⟩
        go_wp2_with fail
        refine (CB _).out.mono ?_
        rintro r w2 ⟨rfl, b2⟩
        go_wp2
        go_ret
        exact ⟨rfl, bel_trans b1 b2⟩
      | false =>
        have hq3 := hq2 rfl
        clear hB hq2
        go_enter Tryd.func11, Tryd.ntmps11
        go_wp2_with fail
        refine CA.out.mono ?_
        rintro r w1 ⟨rfl, b1⟩
        go_wp2_with fail
        refine (CB _).out.mono ?_
        rintro r w2 ⟨rfl, b2⟩
        go_wp2
        go_ret
        exact ⟨rfl, bel_trans b1 b2⟩
    exact key _ rfl (fun h => by have := of_decide_eq_false h; exact decide_eq_true (by omega))
end Wk
end Go.Proofs.YtnjgolbghcjijaaDoor
