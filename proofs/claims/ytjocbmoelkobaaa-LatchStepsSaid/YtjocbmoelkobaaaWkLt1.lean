/- The walk of the law LatchTries, from the contracts of package latch. Conditions: none. -/
import Derived.Test.YtjocbmoelkobaaaLtS
namespace Go.Proofs.Ytjocbmoelkobaaa
open Go.RowKit Go.Sort
set_option linter.unusedVariables false
set_option linter.unusedSimpArgs false
namespace Wk
open Wd Lt
open Dm (addr_lit info_parts spot_none RdK flatU infoU bel_alloc bel_trans own_keep below_drewN)
theorem lit_u (w : World) (l : List Int) (xs : Array Value) (h : xs = (flatU l).toArray) : RdK .u64 (w.alloc (.cells xs 55)) (some ⟨w.heap.size, 0, none⟩) l := fun k hk => by
  subst h
  refine ⟨_, _, rfl, ?_⟩
  rw [World.cell?_alloc_new]
  simp [flatU, hk]
set_option maxRecDepth 100000 in
set_option maxHeartbeats 2000000 in
theorem tries_bad (a0 : Int) (a1 : Int) (a2 : Int) (w : World) (a0l : 0 ≤ a0) (a0h : a0 ≤ 18446744073709551615) (h : ¬ ((0 ≤ a1 ∧ a1 < 64) ∧ 0 ≤ a2 ∧ a2 ≤ 255)) :
    Calls Try.prog 6 #[.int .u64 a0, .int .i64 a1, .int .i64 a2] w fun e w' => e = .returned (.bool true) ∧ Below w.heap.size w w' := by
  have HE := Lib.hid (show ∀ M : Wm, lkE M a1 0 a2 = 2 from fun M => if_neg h)
  have CN := Lib.hid (new_any (some ⟨w.heap.size, 0, none⟩) 1 1 [a0] _ rfl (by unfold maxLen; omega) (lit_u w [a0] #[.int .u64 a0] rfl) (fun x hx => by simp at hx; omega))
  have BB := Lib.hid (show Below w.heap.size w (w.alloc (.cells #[.int .u64 a0] 55)) from bel_alloc (Below.refl _ _) _)
  have key : a1 < 0 ∨ (¬ a1 < 0 ∧ 64 ≤ a1) ∨ (¬ a1 < 0 ∧ ¬ 64 ≤ a1 ∧ a2 < 0) ∨ (¬ a1 < 0 ∧ ¬ 64 ≤ a1 ∧ ¬ a2 < 0 ∧ 255 < a2) := by omega
  rcases key with g1 | ⟨g1, g2⟩ | ⟨g1, g2, g3⟩ | ⟨g1, g2, g3, g4⟩
  · have t1 : decide (a1 < 0) = true := decide_eq_true g1
    clear h g1
    go_enter Try.func6, Try.ntmps6
    go_wp2_with fail
    refine CN.out.mono ?_
    rintro r V1 (⟨he, _⟩ | ⟨_, b, p, rfl, ha, hbs, hps, b1⟩)
    · exact absurd (show newE 1 = 0 from rfl) he
    have HS := Lib.hid (mem_start (P := LAt) (k := 1) (c := fun _ => 0) ha (Nat.le_trans BB.out.size hbs) (Nat.le_trans BB.out.size hps))
    have BW := Lib.hid (BB.out.trans (b1.mono BB.out.size))
    clear ha hbs hps b1 BB CN
    go_wp2_with fail
    refine (newS HS.out (Int.le_refl _) a1 0 a2).mono ?_
    unfold NewPost
    rw [HE.out]
    rintro r V2 (⟨_, rfl, rfl⟩ | ⟨he, _⟩)
    · go_wp2
      go_ret
      exact ⟨rfl, BW.out⟩
    · cases he
  · have t1 : decide (a1 < 0) = false := decide_eq_false g1
    have t2 : decide (64 ≤ a1) = true := decide_eq_true g2
    clear h g1 g2
    go_enter Try.func6, Try.ntmps6
    go_wp2_with fail
    refine CN.out.mono ?_
    rintro r V1 (⟨he, _⟩ | ⟨_, b, p, rfl, ha, hbs, hps, b1⟩)
    · exact absurd (show newE 1 = 0 from rfl) he
    have HS := Lib.hid (mem_start (P := LAt) (k := 1) (c := fun _ => 0) ha (Nat.le_trans BB.out.size hbs) (Nat.le_trans BB.out.size hps))
    have BW := Lib.hid (BB.out.trans (b1.mono BB.out.size))
    clear ha hbs hps b1 BB CN
    go_wp2_with fail
    refine (newS HS.out (Int.le_refl _) a1 0 a2).mono ?_
    unfold NewPost
    rw [HE.out]
    rintro r V2 (⟨_, rfl, rfl⟩ | ⟨he, _⟩)
    · go_wp2
      go_ret
      exact ⟨rfl, BW.out⟩
    · cases he
  · have t1 : decide (a1 < 0) = false := decide_eq_false g1
    have t2 : decide (64 ≤ a1) = false := decide_eq_false g2
    have t3 : decide (a2 < 0) = true := decide_eq_true g3
    clear h g1 g2 g3
    go_enter Try.func6, Try.ntmps6
    go_wp2_with fail
    refine CN.out.mono ?_
    rintro r V1 (⟨he, _⟩ | ⟨_, b, p, rfl, ha, hbs, hps, b1⟩)
    · exact absurd (show newE 1 = 0 from rfl) he
    have HS := Lib.hid (mem_start (P := LAt) (k := 1) (c := fun _ => 0) ha (Nat.le_trans BB.out.size hbs) (Nat.le_trans BB.out.size hps))
    have BW := Lib.hid (BB.out.trans (b1.mono BB.out.size))
    clear ha hbs hps b1 BB CN
    go_wp2_with fail
    refine (newS HS.out (Int.le_refl _) a1 0 a2).mono ?_
    unfold NewPost
    rw [HE.out]
    rintro r V2 (⟨_, rfl, rfl⟩ | ⟨he, _⟩)
    · go_wp2
      go_ret
      exact ⟨rfl, BW.out⟩
    · cases he
  · have t1 : decide (a1 < 0) = false := decide_eq_false g1
    have t2 : decide (64 ≤ a1) = false := decide_eq_false g2
    have t3 : decide (a2 < 0) = false := decide_eq_false g3
    have t4 : decide (255 < a2) = true := decide_eq_true g4
    clear h g1 g2 g3 g4
    go_enter Try.func6, Try.ntmps6
    go_wp2_with fail
    refine CN.out.mono ?_
    rintro r V1 (⟨he, _⟩ | ⟨_, b, p, rfl, ha, hbs, hps, b1⟩)
    · exact absurd (show newE 1 = 0 from rfl) he
    have HS := Lib.hid (mem_start (P := LAt) (k := 1) (c := fun _ => 0) ha (Nat.le_trans BB.out.size hbs) (Nat.le_trans BB.out.size hps))
    have BW := Lib.hid (BB.out.trans (b1.mono BB.out.size))
    clear ha hbs hps b1 BB CN
    go_wp2_with fail
    refine (newS HS.out (Int.le_refl _) a1 0 a2).mono ?_
    unfold NewPost
    rw [HE.out]
    rintro r V2 (⟨_, rfl, rfl⟩ | ⟨he, _⟩)
    · go_wp2
      go_ret
      exact ⟨rfl, BW.out⟩
    · cases he
theorem cas_miss {M : Wm} {t a v : Int} (h : ¬ M.get a = 0) : (M.cas t a 0 v).W = M.W := by
  unfold Wm.cas
  rw [if_neg h]
  exact Wm.set_get M a
set_option maxRecDepth 100000 in
set_option maxHeartbeats 4000000 in
theorem walk_latchTries (a0 : Int) (a1 : Int) (a2 : Int) (w : World) (a0l : 0 ≤ a0) (a0h : a0 ≤ 18446744073709551615) (a1l : (-9223372036854775808) ≤ a1) (a1h : a1 ≤ 9223372036854775807) (a2l : (-9223372036854775808) ≤ a2) (a2h : a2 ≤ 9223372036854775807) :
    Calls Try.prog 6 #[.int .u64 a0, .int .i64 a1, .int .i64 a2] w fun e w' => e = .returned (.bool true) ∧ Below w.heap.size w w' := by
  by_cases h : ¬ ((0 ≤ a1 ∧ a1 < 64) ∧ 0 ≤ a2 ∧ a2 ≤ 255)
  · exact tries_bad a0 a1 a2 w a0l a0h h
  obtain ⟨⟨g1, g2⟩, g3, g4⟩ := Classical.not_not.1 h
  clear h
  have t1 : decide (a1 < 0) = false := decide_eq_false (by omega)
  have t2 : decide (64 ≤ a1) = false := decide_eq_false (by omega)
  have t3 : decide (a2 < 0) = false := decide_eq_false (by omega)
  have t4 : decide (255 < a2) = false := decide_eq_false (by omega)
  have CN := Lib.hid (new_any (some ⟨w.heap.size, 0, none⟩) 1 1 [a0] _ rfl (by unfold maxLen; omega) (lit_u w [a0] #[.int .u64 a0] rfl) (fun x hx => by simp at hx; omega))
  have BB := Lib.hid (show Below w.heap.size w (w.alloc (.cells #[.int .u64 a0] 55)) from bel_alloc (Below.refl _ _) _)
  go_enter Try.func6, Try.ntmps6
  go_wp2_with fail
  refine CN.out.mono ?_
  rintro r V1 (⟨he, _⟩ | ⟨_, b, p, rfl, ha, hbs, hps, b1⟩)
  · exact absurd (show newE 1 = 0 from rfl) he
  have HS := Lib.hid (mem_start (P := LAt) (k := 1) (c := fun _ => 0) ha (Nat.le_trans BB.out.size hbs) (Nat.le_trans BB.out.size hps))
  have BW := Lib.hid (BB.out.trans (b1.mono BB.out.size))
  clear ha hbs hps b1 BB CN
  go_wp2_with fail
  refine (newS HS.out (Int.le_refl _) a1 0 a2).mono ?_
  rintro r V2 (⟨he, _⟩ | ⟨_, rfl, hs, hb⟩)
  · exact absurd (show lkE ⟨[a0], []⟩ a1 0 a2 = 0 by unfold lkE; rw [if_pos ⟨⟨g1, g2⟩, g3, g4⟩]; rfl) he
  obtain ⟨x, hx⟩ : ∃ x, x = V1.heap.size := ⟨_, rfl⟩
  rw [← hx] at hs ⊢
  have HS2 := Lib.hid hs
  have BW2 := Lib.hid (BW.out.trans (hb.mono BW.out.size))
  have HL := Lib.hid (show ∀ i, i < w.heap.size → up (up (fun _ => 0) w.heap.size 1) V1.heap.size (1 + 2) i = 0 from fun i hi => by rw [up_lt (by have := BW.out.size; omega), up_lt hi])
  have HX0 := Lib.hid hx
  clear hs hb HS BW hx
  go_wp2
  go_loopw [10] (fun i wr => ∃ (J : Int) (j : Nat) (c : Nat → Nat) (M : Wm) (X : Nat → Option Lk), i = .int .i64 J ∧ J = (j : Int) + 1 ∧ j ≤ 260 ∧ SL 1 wr c b M X j ∧ X x = some ⟨a1, 0, a2, j, false, 0⟩ ∧ M.W = [a0] ∧ M.L.length = j ∧ (a2 = 0 ∨ (j : Int) < a2) ∧ (a0 = 0 → j = 0) ∧ (∀ i, i < w.heap.size → c i = 0) ∧ Below w.heap.size w wr) (fun i _ => (261 - intOf i).toNat)
  case atStart => exact ⟨1, 0, _, ⟨[a0], []⟩, _, rfl, rfl, by omega, HS2.out, upd_same .., rfl, rfl, by omega, fun _ => rfl, (by rw [HX0.out]; exact HL.out), BW2.out⟩
  case round =>
    clear HS2 BW2 HL
    obtain ⟨J, j, c, M, X, rfl, hJ, hj, hs, hX, hW, hlen, hlim, hz, hlow, bel⟩ := hrel
    have hg : M.get 0 = a0 := by unfold Wm.get; rw [hW]; rfl
    have HS := Lib.hid hs
    have HX := Lib.hid hX
    have HW := Lib.hid hW
    have HLW := Lib.hid hlow
    have HB := Lib.hid bel
    have HN := Lib.hid hlen
    have HJ := Lib.hid hJ
    clear hs hX hW hlow bel
    by_cases hlt : j < 260
    · have d0 : decide (J ≤ 260) = true := decide_eq_true (by omega)
      have CS := stepS HS.out HX.out (by omega) (by omega)
      have hw1 : IntKind.i64.wrap (J + 1) = J + 1 := IntWalk.i64_in _ (by omega)
      by_cases hz0 : a0 = 0
      · obtain rfl : j = 0 := hz hz0
        have z1 : (a0 == 0) = true := by simp [hz0]
        have z2 : decide (a0 = 0) = true := decide_eq_true hz0
        have z3 : (J == 1) = true := by simp [hJ]
        have z4 : decide (J = 1) = true := decide_eq_true (by rw [hJ]; rfl)
        have hfin : Lk.fin ⟨a1, 0, a2, (0 : Nat), false, 0⟩ M = true := by
          unfold Lk.fin
          rw [Lk.step_hit rfl (hg.trans hz0)]; rfl
        unfold StepPost at CS
        rw [hfin] at CS
        replace CS := Lib.hid CS
        clear hJ hz hz0 hlim hlen hfin hg
        go_wp2_with fail
        refine CS.out.mono ?_
        rintro r W2 ⟨rfl, hs2, hf⟩
        have B2 := Lib.hid (HB.out.trans (hf.below HB.out.size HLW.out (by omega)))
        clear hs2 hf CS
        go_wp2
        go_ret
        exact ⟨rfl, B2.out⟩
      · have z1 : (a0 == 0) = false := by simp [hz0]
        have z2 : decide (a0 = 0) = false := decide_eq_false hz0
        have hmiss : Lk.step ⟨a1, 0, a2, j, false, 0⟩ M = ⟨a1, 0, a2, J, decide (J = a2), if J = a2 then 11 else 0⟩ := by
          rw [Lk.step_miss rfl (fun e => hz0 (hg.symm.trans e)), hJ]; rfl
        have hmem : Lk.mem ⟨a1, 0, a2, j, false, 0⟩ M = M.cas a1 0 0 (a1 + 1) := Lk.mem_run rfl
        have hW2 : (M.cas a1 0 0 (a1 + 1)).W = [a0] := (cas_miss (fun e => hz0 (hg.symm.trans e))).trans HW.out
        have hL2 : (M.cas a1 0 0 (a1 + 1)).L.length = j + 1 := by rw [cas_log, hlen]
        obtain ⟨M2, hM2⟩ : ∃ M2, M2 = M.cas a1 0 0 (a1 + 1) := ⟨_, rfl⟩
        have hfin : Lk.fin ⟨a1, 0, a2, j, false, 0⟩ M = decide (J = a2) := by unfold Lk.fin; rw [hmiss]; rfl
        unfold StepPost at CS
        rw [hfin, hmiss, hmem, ← hM2] at CS
        rw [← hM2] at hW2 hL2
        clear hfin hmiss hmem hM2
        by_cases hm : J = a2
        · have y1 : (J == a2) = true := by simp [hm]
          have y2 : decide (J = a2) = true := decide_eq_true hm
          rw [y2, if_pos hm] at CS
          replace CS := Lib.hid CS
          have HL2 := Lib.hid hL2
          have HM := Lib.hid hm
          clear hz hz0 hlim hlen hg hW2 hL2 hJ
          go_wp2_with fail
          refine CS.out.mono ?_
          rintro r W2 ⟨rfl, hs2, hf⟩
          have B2 := Lib.hid (HB.out.trans (hf.below HB.out.size HLW.out (by omega)))
          have HS2 := Lib.hid hs2
          clear hs2 hf CS
          go_wp2_with fail
          refine (resultS HS2.out (upd_same ..)).mono ?_
          rintro r W3 ⟨rfl, b3⟩
          have B3 := Lib.hid (B2.out.trans (b3.mono B2.out.size))
          have HS3 := Lib.hid (HS2.out.below pkL b3)
          clear b3
          have CL := lenS HS3.out
          rw [HL2.out, show ((j + 1 : Nat) : Int) = J from by rw [HJ.out]; rfl] at CL
          replace CL := Lib.hid CL
          go_wp2_with fail
          refine CL.out.mono ?_
          rintro r W4 ⟨rfl, rfl⟩
          go_wp2
          go_ret
          exact ⟨rfl, B3.out⟩
        · have y1 : (J == a2) = false := by simp [hm]
          have y2 : decide (J = a2) = false := decide_eq_false hm
          rw [y2, if_neg hm] at CS
          replace CS := Lib.hid CS
          have HL2 := Lib.hid hL2
          have HW2 := Lib.hid hW2
          have HM := Lib.hid hm
          have HZ0 := Lib.hid hz0
          have HLM := Lib.hid hlim
          clear hz hz0 hlim hlen hg hW2 hL2 hm hJ
          go_wp2_with fail
          refine CS.out.mono ?_
          rintro r W2 ⟨rfl, hs2, hf⟩
          have B2 := Lib.hid (HB.out.trans (hf.below HB.out.size HLW.out (by omega)))
          have HS2 := Lib.hid hs2
          have HLW2 := Lib.hid (hf.low HB.out.size HLW.out)
          clear hs2 hf CS
          go_wp2
          go_roundw
          case rel =>
            have e1 := HJ.out
            have e2 := HLM.out
            have e3 := HM.out
            exact ⟨J + 1, j + 1, _, M2, _, by go_num, by rw [e1]; rfl, by omega, HS2.out, (upd_same ..).trans (by rw [e1]; rfl), HW2.out, HL2.out, by omega, fun e => absurd e HZ0.out, HLW2.out, B2.out⟩
          case measure => simp [intOf]; have := HJ.out; omega
    · have d0 : decide (J ≤ 260) = false := decide_eq_false (by omega)
      have e1 : a2 = 0 := by omega
      subst e1
      clear hJ hz hlim hlen hg
      go_wp2
      go_ret
      exact ⟨rfl, HB.out⟩
end Wk
end Go.Proofs.Ytjocbmoelkobaaa
