/- The walk of the law OmapTwice, from the contracts of package omap (XOmC), XOmJ and XOmT. Conditions: those of the contracts. -/
import Derived.Test.YthinaablldnikaaWkOm1
namespace Go.Proofs.Ythinaablldnikaa
open Go.RowKit Go.Sort
set_option linter.unusedVariables false
set_option linter.unusedSimpArgs false
namespace Wk
open Om
set_option maxRecDepth 100000 in
set_option maxHeartbeats 4000000 in
theorem walk_omapTwice (a0 : Option Addr) (a0n a0c : Nat) (a0v : List Om.Pr) (a1Lo : Int) (a1Hi : Int) (a2A : Int) (a2B : Int) (w : World) (a0e : a0v.length = a0n) (a0m : a0n ≤ maxLen) (a0r : Om.Rd w a0 a0v) (a0b : Om.Bd a0v) (a0z : a0 = none → a0c = 0) (a0s : a0n * 16 ≤ 140737488351232) (a1Lol : 0 ≤ a1Lo) (a1Loh : a1Lo ≤ 18446744073709551615) (a1Hil : 0 ≤ a1Hi) (a1Hih : a1Hi ≤ 18446744073709551615) (a2Al : 0 ≤ a2A) (a2Ah : a2A ≤ 18446744073709551615) (a2Bl : 0 ≤ a2B) (a2Bh : a2B ≤ 18446744073709551615) :
    Calls Try.prog 10 #[.slice a0 a0n a0c, .agg #[.int .u64 a1Lo, .int .u64 a1Hi], .agg #[.int .u64 a2A, .int .u64 a2B]] w fun e w' => e = .returned (.bool true) ∧ Below w.heap.size w w' := by
  have HE := Lib.hid a0e; clear a0e
  have HR := Lib.hid a0r; clear a0r
  have HSZ := Lib.hid a0s; clear a0s
  have HBD := Lib.hid (maL_bd a0b); clear a0b
  have HA := Lib.hid (maL_asc a0v)
  have HN : a0n ≤ 2 ^ 63 - 1 := a0m
  clear a0z a0m
  have b0 : Below w.heap.size w ((w.alloc (.cells #[.int .u64 a1Lo, .int .u64 a1Hi] 41)).alloc (.cells #[.int .u64 a2A, .int .u64 a2B] 73)) := bel_alloc (bel_alloc (Below.refl _ _) _) _
  by_cases h1 : 60 < a0n
  · have t1 : decide (60 < (a0n : Int)) = true := decide_eq_true (by omega)
    go_enter Try.func10, Try.ntmps10
    go_wp2_with fail
    refine (known_any _).mono ?_
    rintro r W1 ⟨rfl, b2⟩
    go_wp2
    go_ret
    exact ⟨rfl, bel_trans b0 b2⟩
  have t1 : decide (60 < (a0n : Int)) = false := decide_eq_false (by omega)
  by_cases h2 : a1Hi < a1Lo
  · have t2 : decide (a1Hi < a1Lo) = true := decide_eq_true h2
    go_enter Try.func10, Try.ntmps10
    go_wp2_with fail
    refine (known_any _).mono ?_
    rintro r W1 ⟨rfl, b2⟩
    go_wp2
    go_ret
    exact ⟨rfl, bel_trans b0 b2⟩
  have t2 : decide (a1Hi < a1Lo) = false := decide_eq_false h2
  by_cases h3 : a2A = 0
  · have t3 : (a2A == 0) = true := by simp [h3]
    clear h3
    go_enter Try.func10, Try.ntmps10
    go_wp2_with fail
    refine (known_any _).mono ?_
    rintro r W1 ⟨rfl, b2⟩
    go_wp2
    go_ret
    exact ⟨rfl, bel_trans b0 b2⟩
  have t3 : (a2A == 0) = false := by simp [h3]
  by_cases h4 : a2B = 0
  · have t4 : (a2B == 0) = true := by simp [h4]
    clear h4 h3
    go_enter Try.func10, Try.ntmps10
    go_wp2_with fail
    refine (known_any _).mono ?_
    rintro r W1 ⟨rfl, b2⟩
    go_wp2
    go_ret
    exact ⟨rfl, bel_trans b0 b2⟩
  have t4 : (a2B == 0) = false := by simp [h4]
  by_cases h5 : 18446744073709551615 - a1Hi < a2A
  · have t5 : decide (18446744073709551615 - a1Hi < a2A) = true := decide_eq_true h5
    clear h4 h3
    go_enter Try.func10, Try.ntmps10
    go_wp2_with fail
    refine (known_any _).mono ?_
    rintro r W1 ⟨rfl, b2⟩
    go_wp2
    go_ret
    exact ⟨rfl, bel_trans b0 b2⟩
  have t5 : decide (18446744073709551615 - a1Hi < a2A) = false := decide_eq_false h5
  by_cases h6 : 18446744073709551615 - a1Hi - a2A < a2B
  · have t6 : decide (18446744073709551615 - a1Hi - a2A < a2B) = true := decide_eq_true h6
    clear h4 h3
    go_enter Try.func10, Try.ntmps10
    go_wp2_with fail
    refine (known_any _).mono ?_
    rintro r W1 ⟨rfl, b2⟩
    go_wp2
    go_ret
    exact ⟨rfl, bel_trans b0 b2⟩
  have t6 : decide (18446744073709551615 - a1Hi - a2A < a2B) = false := decide_eq_false h6
  have hle : a1Lo ≤ a1Hi := by omega
  have hs1 : a1Hi + a2A ≤ 18446744073709551615 := by omega
  have hs2 : a1Hi + a2A + a2B ≤ 18446744073709551615 := by omega
  have M1 := Lib.hid (show moE a1Lo a1Hi a2A = 0 by unfold moE; rw [if_neg (by omega), if_neg (by omega)])
  have M2 := Lib.hid (show moE (a1Lo + a2A) (a1Hi + a2A) a2B = 0 by unfold moE; rw [if_neg (by omega), if_neg (by omega)])
  have M3 := Lib.hid (show moE a1Lo a1Hi (a2A + a2B) = 0 by unfold moE; rw [if_neg (by omega), if_neg (by omega)])
  have HLEN := Lib.hid (show (maL a0v).length ≤ 60 by have := maL_len a0v; have := HE.out; omega)
  have RG := Lib.hid (show rgL (maL a0v) a1Lo a1Hi = inL (maL a0v) a1Lo a1Hi from if_pos hle)
  have RE := Lib.hid (show rgE a1Lo a1Hi = 0 from if_pos hle)
  have E0 := Lib.hid (show ((w.alloc (.cells #[.int .u64 a1Lo, .int .u64 a1Hi] 41)).alloc (.cells #[.int .u64 a2A, .int .u64 a2B] 73)).cell? ⟨w.heap.size, 0, none⟩ = some (.int .u64 a1Lo) by simp)
  have E1 := Lib.hid (show ((w.alloc (.cells #[.int .u64 a1Lo, .int .u64 a1Hi] 41)).alloc (.cells #[.int .u64 a2A, .int .u64 a2B] 73)).cell? ⟨w.heap.size, 1, none⟩ = some (.int .u64 a1Hi) by simp)
  have E2 := Lib.hid (show ((w.alloc (.cells #[.int .u64 a1Lo, .int .u64 a1Hi] 41)).alloc (.cells #[.int .u64 a2A, .int .u64 a2B] 73)).cell? ⟨w.heap.size + 1, 0, none⟩ = some (.int .u64 a2A) by simp)
  have E3 := Lib.hid (show ((w.alloc (.cells #[.int .u64 a1Lo, .int .u64 a1Hi] 41)).alloc (.cells #[.int .u64 a2A, .int .u64 a2B] 73)).cell? ⟨w.heap.size + 1, 1, none⟩ = some (.int .u64 a2B) by simp)
  clear h3 h4 h5 h6 h2
  go_enter Try.func10, Try.ntmps10
  go_wp2_with fail
  refine (made_any _ _ _ a0v _ HE.out HSZ.out (HR.out.below b0)).mono ?_
  intro r W0 h
  obtain ⟨bm, v, rfl, hs⟩ := Stb.start (B := w.heap.size + 2) (by simp) (by simp) (h.some_ (by have := HE.out; omega))
  have HB := Lib.hid hs; clear hs h
  go_wp2_with fail
  refine (made_any _ _ _ a0v _ HE.out HSZ.out (HR.out.below (b0.trans (HB.out.bel.mono (by omega))))).mono ?_
  intro r W00 h
  obtain ⟨bn, u, rfl, hs⟩ := HB.out.more (h.some_ (by have := HE.out; omega))
  have HS := Lib.hid hs; clear hs h HB
  have e0 := (HS.out.bel.cell (p := ⟨w.heap.size, 0, none⟩) (show w.heap.size < w.heap.size + 2 by omega)).trans E0.out
  have e1 := (HS.out.bel.cell (p := ⟨w.heap.size, 1, none⟩) (show w.heap.size < w.heap.size + 2 by omega)).trans E1.out
  go_wp2_with fail
  refine (rangeC_any _ _ _ a1Lo a1Hi _ HS.out.m HA.out (by have := HLEN.out; omega) HBD.out a1Lol a1Loh a1Hil a1Hih).mono ?_
  intro r W1 h
  rw [RG.out, RE.out] at h
  obtain ⟨q, rfl, hq, b1⟩ := h
  have RQ := Lib.hid (Rw.fresh HS.out hq); clear hq
  have HS := Lib.hid (HS.out.below b1); clear b1
  have e0 := (HS.out.bel.cell (p := ⟨w.heap.size, 0, none⟩) (show w.heap.size < w.heap.size + 2 by omega)).trans E0.out
  have e1 := (HS.out.bel.cell (p := ⟨w.heap.size, 1, none⟩) (show w.heap.size < w.heap.size + 2 by omega)).trans E1.out
  have e2 := (HS.out.bel.cell (p := ⟨w.heap.size + 1, 0, none⟩) (show w.heap.size + 1 < w.heap.size + 2 by omega)).trans E2.out
  have e3 := (HS.out.bel.cell (p := ⟨w.heap.size + 1, 1, none⟩) (show w.heap.size + 1 < w.heap.size + 2 by omega)).trans E3.out
  go_wp2_with fail
  refine (moC_any _ _ _ a1Lo a1Hi a2A _ HS.out.m HA.out (by have := HLEN.out; omega) HBD.out a1Lol a1Loh a1Hil a1Hih a2Al a2Ah).mono ?_
  intro r W2 h
  rw [show moL (maL a0v) a1Lo a1Hi a2A = mvL (maL a0v) a1Lo a1Hi a2A by unfold moL; rw [M1.out]; rfl] at h
  unfold moT at h
  rw [M1.out] at h
  obtain ⟨v1, rfl, hs, hrw⟩ := HS.out.left' h
  have RQ := Lib.hid (hrw _ _ RQ.out); clear hrw
  have HS := Lib.hid hs; clear hs h
  have e0 := (HS.out.bel.cell (p := ⟨w.heap.size, 0, none⟩) (show w.heap.size < w.heap.size + 2 by omega)).trans E0.out
  have e1 := (HS.out.bel.cell (p := ⟨w.heap.size, 1, none⟩) (show w.heap.size < w.heap.size + 2 by omega)).trans E1.out
  have e2 := (HS.out.bel.cell (p := ⟨w.heap.size + 1, 0, none⟩) (show w.heap.size + 1 < w.heap.size + 2 by omega)).trans E2.out
  have e3 := (HS.out.bel.cell (p := ⟨w.heap.size + 1, 1, none⟩) (show w.heap.size + 1 < w.heap.size + 2 by omega)).trans E3.out
  have L1 := Lib.hid (show (mvL (maL a0v) a1Lo a1Hi a2A).length ≤ 60 from Nat.le_trans (mvL_len_le _ _ _ _) HLEN.out)
  go_wp2_with fail
  refine (moC_any _ _ _ (a1Lo + a2A) (a1Hi + a2A) a2B _ HS.out.m (mvL_asc HA.out _ _ _) (by have := L1.out; omega) (shL_bd HBD.out a2Al hs1) (by omega) (by omega) (by omega) hs1 a2Bl a2Bh).mono ?_
  intro r W3 h
  rw [show moL (mvL (maL a0v) a1Lo a1Hi a2A) (a1Lo + a2A) (a1Hi + a2A) a2B = mvL (mvL (maL a0v) a1Lo a1Hi a2A) (a1Lo + a2A) (a1Hi + a2A) a2B by unfold moL; rw [M2.out]; rfl] at h
  unfold moT at h
  rw [M2.out] at h
  obtain ⟨v2, rfl, hs, hrw⟩ := HS.out.left' h
  have RQ := Lib.hid (hrw _ _ RQ.out); clear hrw
  have HS := Lib.hid hs; clear hs h
  have e0 := (HS.out.bel.cell (p := ⟨w.heap.size, 0, none⟩) (show w.heap.size < w.heap.size + 2 by omega)).trans E0.out
  have e1 := (HS.out.bel.cell (p := ⟨w.heap.size, 1, none⟩) (show w.heap.size < w.heap.size + 2 by omega)).trans E1.out
  have e2 := (HS.out.bel.cell (p := ⟨w.heap.size + 1, 0, none⟩) (show w.heap.size + 1 < w.heap.size + 2 by omega)).trans E2.out
  have e3 := (HS.out.bel.cell (p := ⟨w.heap.size + 1, 1, none⟩) (show w.heap.size + 1 < w.heap.size + 2 by omega)).trans E3.out
  go_wp2_with fail
  refine (moC_any _ _ _ a1Lo a1Hi (a2A + a2B) _ HS.out.c HA.out (by have := HLEN.out; omega) HBD.out a1Lol a1Loh a1Hil a1Hih (by omega) (by omega)).mono ?_
  intro r W4 h
  rw [show moL (maL a0v) a1Lo a1Hi (a2A + a2B) = mvL (maL a0v) a1Lo a1Hi (a2A + a2B) by unfold moL; rw [M3.out]; rfl] at h
  unfold moT at h
  rw [M3.out] at h
  obtain ⟨u1, rfl, hs, hrw⟩ := HS.out.swap.left' h
  have RQ := Lib.hid (hrw _ _ RQ.out.swap).swap; clear hrw
  have HS := Lib.hid hs.swap; clear hs h
  have e0 := (HS.out.bel.cell (p := ⟨w.heap.size, 0, none⟩) (show w.heap.size < w.heap.size + 2 by omega)).trans E0.out
  have e1 := (HS.out.bel.cell (p := ⟨w.heap.size, 1, none⟩) (show w.heap.size < w.heap.size + 2 by omega)).trans E1.out
  have e2 := (HS.out.bel.cell (p := ⟨w.heap.size + 1, 0, none⟩) (show w.heap.size + 1 < w.heap.size + 2 by omega)).trans E2.out
  have e3 := (HS.out.bel.cell (p := ⟨w.heap.size + 1, 1, none⟩) (show w.heap.size + 1 < w.heap.size + 2 by omega)).trans E3.out
  have L2 := Lib.hid (show (mvL (mvL (maL a0v) a1Lo a1Hi a2A) (a1Lo + a2A) (a1Hi + a2A) a2B).length ≤ 60 from Nat.le_trans (mvL_len_le _ _ _ _) L1.out)
  have L3 := Lib.hid (show (mvL (maL a0v) a1Lo a1Hi (a2A + a2B)).length ≤ 60 from Nat.le_trans (mvL_len_le _ _ _ _) HLEN.out)
  have A1 := Lib.hid (mvL_asc HA.out a1Lo a1Hi a2A)
  have A2 := Lib.hid (mvL_asc A1.out (a1Lo + a2A) (a1Hi + a2A) a2B)
  have A3 := Lib.hid (mvL_asc HA.out a1Lo a1Hi (a2A + a2B))
  have G1 := fun k x h1 h2 hg => Lib.hid (mv_get A1.out (lo := a1Lo + a2A) (hi := a1Hi + a2A) (d := a2B) (k := k + a2A) (x := x) (show a1Lo + a2A ≤ k + a2A by omega) (show k + a2A ≤ a1Hi + a2A by omega) (mv_get HA.out (d := a2A) (k := k) h1 h2 hg))
  have G2 := fun k x h1 h2 hg => Lib.hid (mv_get HA.out (lo := a1Lo) (hi := a1Hi) (d := a2A + a2B) (k := k) (x := x) h1 h2 hg)
  obtain ⟨A, c, rfl, hc, rd⟩ := RQ.out.rd
  clear rd
  have hil := inL_len (maL a0v) a1Lo a1Hi
  have hil2 : ((inL (maL a0v) a1Lo a1Hi).length : Int) ≤ 60 := by have := HLEN.out; omega
  go_wp2
  go_loopw [17] (fun i wr => ∃ k : Nat, k ≤ (inL (maL a0v) a1Lo a1Hi).length ∧ i = .int .i64 k ∧ Sta (w.heap.size + 2) ((w.alloc (.cells #[.int .u64 a1Lo, .int .u64 a1Hi] 41)).alloc (.cells #[.int .u64 a2A, .int .u64 a2B] 73)) wr bm v2 (mvL (mvL (maL a0v) a1Lo a1Hi a2A) (a1Lo + a2A) (a1Hi + a2A) a2B) bn u1 (mvL (maL a0v) a1Lo a1Hi (a2A + a2B)) ∧ Rw wr bm v2 bn u1 (.slice A (inL (maL a0v) a1Lo a1Hi).length c) (inL (maL a0v) a1Lo a1Hi)) (fun i _ => ((inL (maL a0v) a1Lo a1Hi).length - intOf i).toNat)
  case atStart => exact ⟨0, Nat.zero_le _, rfl, HS.out, RQ.out⟩
  case round =>
    clear HS RQ e0 e1 e2 e3
    obtain ⟨k, hk, rfl, hs, hrq⟩ := hrel
    have HS := Lib.hid hs; clear hs
    have RQ := Lib.hid hrq; clear hrq
    have e2 := (HS.out.bel.cell (p := ⟨w.heap.size + 1, 0, none⟩) (show w.heap.size + 1 < w.heap.size + 2 by omega)).trans E2.out
    have e3 := (HS.out.bel.cell (p := ⟨w.heap.size + 1, 1, none⟩) (show w.heap.size + 1 < w.heap.size + 2 by omega)).trans E3.out
    by_cases hlt : k < (inL (maL a0v) a1Lo a1Hi).length
    · have u0 : decide ((k : Int) < (inL (maL a0v) a1Lo a1Hi).length) = true := decide_eq_true (by omega)
      have hki : (k : Int) < (inL (maL a0v) a1Lo a1Hi).length := by omega
      obtain ⟨x, hx, hmem⟩ := getElem?_lt rfl hlt
      obtain ⟨hml, hx1, hx2⟩ := in_mem hmem
      obtain ⟨d0, d1, d2, d3⟩ := HBD.out x hml
      have hg := (getL_mem HA.out (k := x.1) (v := x.2)).2 hml
      have GG1 := G1 x.1 x.2 hx1 hx2 hg
      have GG2 := G2 x.1 x.2 hx1 hx2 hg
      rw [← Int.add_assoc] at GG2
      have HX := Lib.hid hx
      clear hg hmem hml hx
      obtain ⟨A', c', e, _, rd⟩ := RQ.out.rd
      cases e
      obtain ⟨b, o, rfl, c0, c1⟩ := rd k x HX.out
      clear rd
      have C1 := fun W h => Lib.hid (getC_any bm v2 _ (x.1 + a2A + a2B) W h A2.out (by have := L2.out; omega))
      have C2 := fun W h => Lib.hid (getC_any bn u1 _ (x.1 + a2A + a2B) W h A3.out (by have := L3.out; omega))
      rw [GG1.out] at C1
      rw [GG2.out] at C2
      unfold gT at C1 C2
      have k0 := cell_regrown c0
      have k2 := cell_regrown e2
      have k3 := cell_regrown e3
      have HSr := fun d os => Lib.hid (HS.out.below (below_regrown wr d os))
      have s1 : IntKind.u64.wrap (x.1 + a2A) = x.1 + a2A := IntWalk.u64_in _ (by omega)
      have s2 : IntKind.u64.wrap (x.1 + a2A + a2B) = x.1 + a2A + a2B := IntWalk.u64_in _ (by omega)
      go_wp2
      refine wp_region_quiet_below (by kernel_rfl) (by kernel_rfl) ?_
      repeat (quiet_step ((go_at_call 23; exact Calls.regrown_of (C1 _ (HSr _ _).out.m).out)))
      refine wpQuiet_nil ?_
      intro _ hw'
      obtain ⟨⟨dq, osq⟩, hw''⟩ := hw'
      subst hw''
      show Exit.then _ _ Exit.normal _ (grow (redrawn wr dq) osq)
      have RQ := Lib.hid (RQ.out.below (below_regrown wr dq osq))
      have HS := HSr dq osq
      replace k0 := k0 dq osq
      replace k2 := k2 dq osq
      replace k3 := k3 dq osq
      clear HSr c0 c1 e2 e3 C1
      generalize grow (redrawn wr dq) osq = W5 at *
      have j0 := cell_regrown k0
      have j2 := cell_regrown k2
      have j3 := cell_regrown k3
      have HSr := fun d os => Lib.hid (HS.out.below (below_regrown W5 d os))
      go_wp2
      refine wp_region_quiet_below (by kernel_rfl) (by kernel_rfl) ?_
      repeat (quiet_step ((go_at_call 23; exact Calls.regrown_of (C2 _ (HSr _ _).out.c).out)))
      refine wpQuiet_nil ?_
      intro _ hw'
      obtain ⟨⟨dr, osr⟩, hw''⟩ := hw'
      subst hw''
      show Exit.then _ _ Exit.normal _ (grow (redrawn W5 dr) osr)
      have RQ := Lib.hid (RQ.out.below (below_regrown W5 dr osr))
      have HS := HSr dr osr
      clear HSr k0 k2 k3 j0 j2 j3 C2 s1 s2
      generalize grow (redrawn W5 dr) osr = W6 at *
      obtain ⟨A', c', e, _, rd⟩ := RQ.out.rd
      cases e
      obtain ⟨b', o', e', c0, c1⟩ := rd k x HX.out
      cases e'
      clear rd
      go_wp2
      go_roundw
      case rel => exact ⟨k + 1, by omega, by go_num, HS.out, RQ.out⟩
      case measure => simp [intOf]; omega
    · obtain rfl : k = (inL (maL a0v) a1Lo a1Hi).length := by omega
      have u0 : decide (((inL (maL a0v) a1Lo a1Hi).length : Int) < (inL (maL a0v) a1Lo a1Hi).length) = false := decide_eq_false (by omega)
      go_wp2_with fail
      refine (known_any _).mono ?_
      rintro r W9 ⟨rfl, b9⟩
      go_wp2
      go_ret
      exact ⟨rfl, bel_trans (b0.trans (HS.out.bel.mono (by omega))) b9⟩
end Wk
end Go.Proofs.Ythinaablldnikaa
