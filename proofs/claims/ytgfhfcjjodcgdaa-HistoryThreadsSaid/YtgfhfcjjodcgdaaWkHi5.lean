/- HistoryThreads: the walk. Conditions: those of the arguments' kinds. Written by tools/mk12w5.py. -/
import Derived.Test.YtgfhfcjjodcgdaaHiWm
namespace Go.Proofs.Ytgfhfcjjodcgdaa
open Go.RowKit Go.Shelf Go.Sort
set_option linter.unusedVariables false
set_option linter.unusedSimpArgs false
namespace Wk
open Hi
set_option maxRecDepth 100000 in
set_option maxHeartbeats 4000000 in
theorem walk_historyThreads (a0 : Option Addr) (a0n a0c : Nat) (a0v : List Hi.C) (w : World) (a0e : a0v.length = a0n) (a0m : a0n ≤ maxLen) (a0r : Hi.RdV w a0 a0v) (a0b : Hi.BdV a0v) (a0z : a0 = none → a0c = 0) (a0y : a0n ≤ a0c ∧ a0c ≤ maxLen) :
    Calls Try.prog 8 #[.slice a0 a0n a0c] w fun e w' => e = .returned (.bool true) ∧ Below w.heap.size w w' := by
  have RA := Lib.hid (show KC.Rd w a0 a0v from a0r)
  have FW := fun (W : World) (h : KC.Rd W a0 a0v) => Lib.hid (few_any a0 a0n a0c a0v W a0e a0m a0y.1 a0y.2 h a0z)
  have hF := few_len a0v
  have BF := Lib.hid (fewL_bd a0b)
  have B := Lib.hid (Below.refl w.heap.size w)
  obtain ⟨F, hFF⟩ : ∃ F, fewL a0v = F := ⟨_, rfl⟩
  rw [hFF] at FW hF BF
  obtain ⟨n, hn⟩ : ∃ n, F.length = n := ⟨_, rfl⟩
  have HN := Lib.hid hn
  rw [hn] at hF
  have hF3 : n ≤ 1000 := by omega
  have n1 : (n : Int) ≤ 1000 := by omega
  clear a0r a0b a0z a0y a0e a0m hFF hn
  obtain ⟨cat, hcat⟩ : ∃ x, chkAt F = x := ⟨_, rfl⟩
  have HCA := Lib.hid hcat
  clear hcat
  by_cases hwf : WF F
  · have HW := Lib.hid hwf
    obtain ⟨f, hf⟩ : ∃ f : Nat → Nat, f = fun t : Nat => (ofT (t : Int) F).length := ⟨_, rfl⟩
    obtain ⟨g, hg⟩ : ∃ g : Nat → Nat, g = fun t : Nat => (peL (ofT (t : Int) F)).length := ⟨_, rfl⟩
    have HFA := Lib.hid (show sumT f 64 = n from by rw [hf, sum_all hwf]; exact HN.out)
    have HGA := Lib.hid (show sumT g 64 = (peL F).length from by rw [hg]; exact sum_wait hwf)
    have HFT := Lib.hid (fun t : Nat => show f t = (ofT (t : Int) F).length by rw [hf])
    have HGT := Lib.hid (fun t : Nat => show g t = (peL (ofT (t : Int) F)).length by rw [hg])
    have HFB := Lib.hid (fun t => sumT_le (f := f) (n := 1000) (fun k => by rw [hf]; have := ofT_len (k : Int) F; have := HN.out; show (ofT (k : Int) F).length ≤ 1000; omega) t)
    have HGB := Lib.hid (fun t => sumT_le (f := g) (n := 1000) (fun k => by rw [hg]; have := peL_len (ofT (k : Int) F); have := ofT_len (k : Int) F; have := HN.out; show (peL (ofT (k : Int) F)).length ≤ 1000; omega) t)
    clear hf hg hwf
    have hwf := HW.out
    have HER := Lib.hid (show erC F = 0 from erC_ok hwf)
    go_enter Try.func8, Try.ntmps8
    go_wp2_with fail
    refine ((FW _ RA.out).out).mono ?_
    rintro e w1 h1
    obtain ⟨A1, c1, rfl, rd1, zr1, b1⟩ := ro_use h1
    rw [HN.out]
    have RA_2 := Lib.hid (RA.out.below b1)
    clear RA
    replace B := Lib.hid (bel_bel B.out b1)
    clear b1
    have RI := Lib.hid rd1
    clear rd1
    clear zr1
    clear RA_2
    go_wp2_with fail
    refine (check_use (check_any A1 n c1 F _ HN.out hF3 RI.out BF.out)).mono ?_
    rintro e w3 ⟨h3, b3⟩
    have RI_4 := Lib.hid (RI.out.below b3)
    clear RI
    replace B := Lib.hid (bel_bel B.out b3)
    clear b3
    rw [HCA.out, HER.out] at h3
    subst h3
    clear hwf
    obtain ⟨wm, hwm⟩ : ∃ wm : World, wm = w3 := ⟨_, rfl⟩
    rw [← hwm] at RI_4 B ⊢
    clear hwm
    go_wp2_with fail
    go_loopw [6, 7, 8] (fun u p v wr => ∃ T S P : Nat, T ≤ 64 ∧ v = .int .i64 T ∧ u = .int .i64 S ∧ p = .int .i64 P ∧ S = sumT f T ∧ P = sumT g T ∧ Below wm.heap.size wm wr) (fun u p v _ => 64 - (intOf v).toNat)
    case atStart => exact ⟨0, 0, 0, by omega, rfl, rfl, rfl, rfl, rfl, Below.refl _ _⟩
    case round =>
      obtain ⟨T, S, P, hT, rfl, rfl, rfl, hS, hP, bel⟩ := hrel
      obtain ⟨wq, rfl⟩ : ∃ wq : World, wq = wr := ⟨_, rfl⟩
      have BQ := Lib.hid (bel_bel B.out bel)
      have QI := Lib.hid (RI_4.out.below bel)
      have HS := Lib.hid hS
      have HP := Lib.hid hP
      have S1 : S ≤ 64000 := by have := HFB.out T; omega
      have P1 : P ≤ 64000 := by have := HGB.out T; omega
      have BM := Lib.hid bel
      clear bel hS hP
      by_cases hT4 : T < 64
      · have d0 : decide ((T : Int) < 64) = true := decide_eq_true (by omega)
        have BB := Lib.hid (Below.refl wq.heap.size wq)
        have HT := Lib.hid (thr_of (l := F) (T : Int) HW.out)
        have hO1 := ofT_len (T : Int) F
        have HS2 := HFT.out T
        have HP2 := HGT.out T
        have hw1 : IntKind.i64.wrap ((T : Int) + 1) = ((T + 1 : Nat) : Int) := by rw [IntWalk.i64_in _ (by omega)]; omega
        go_wp2_with fail
        refine (of_any (T : Int) A1 n c1 F _ HN.out hF3 QI.out).mono ?_
        rintro e w101 h101
        obtain ⟨A101, c101, rfl, rd101, zr101, b101⟩ := ro_use h101
        have QI_102 := Lib.hid (QI.out.below b101)
        clear QI
        replace BB := Lib.hid (bel_bel BB.out b101)
        clear b101
        have SO := Lib.hid rd101
        clear rd101
        clear zr101
        obtain ⟨O, hO⟩ : ∃ O, ofT (T : Int) F = O := ⟨_, rfl⟩
        rw [hO] at HT hO1 HS2 HP2 SO ⊢
        obtain ⟨m, hm⟩ : ∃ m, O.length = m := ⟨_, rfl⟩
        rw [hm] at hO1 HS2 ⊢
        have HM := Lib.hid hm
        have m1 : m ≤ 1000 := by have := HN.out; omega
        have hS3 : IntKind.i64.wrap ((S : Int) + m) = ((S + m : Nat) : Int) := by rw [IntWalk.i64_in _ (by omega)]; omega
        have HSN := Lib.hid (show S + m = sumT f (T + 1) by rw [HS.out, ← HS2]; rfl)
        clear hO hm HS2
        go_wp2_with fail
        refine (pending_any A101 m c101 O _ HM.out m1 SO.out).mono ?_
        rintro e w103 h103
        obtain ⟨A103, c103, rfl, rd103, zr103, b103⟩ := ro_use h103
        have QI_104 := Lib.hid (QI_102.out.below b103)
        clear QI_102
        have SO_105 := Lib.hid (SO.out.below b103)
        clear SO
        replace BB := Lib.hid (bel_bel BB.out b103)
        clear b103
        have SP := Lib.hid rd103
        clear rd103
        clear zr103
        obtain ⟨pl, hpl⟩ : ∃ pl, (peL O).length = pl := ⟨_, rfl⟩
        rw [hpl] at HP2 ⊢
        have HPN := Lib.hid (show P + pl = sumT g (T + 1) by rw [HP.out, ← HP2]; rfl)
        have hpd : pl = 0 ∨ (pl = 1 ∧ ∃ M b o, m = M + 1 ∧ A103 = some ⟨b, o, none⟩ ∧ w103.cell? ⟨b, o, none⟩ = some (.int .i64 M)) := by
          rcases thr_pend HT.out with h | ⟨h0, h⟩
          · rw [h] at hpl; exact .inl hpl.symm
          · have hl : 0 < (peL O).length := by rw [h]; exact Nat.one_pos
            obtain ⟨b, o, e, c⟩ := KI.at_ SP.out hl
            rw [HM.out] at h0 h
            refine .inr ⟨by rw [h] at hpl; exact hpl.symm, m - 1, b, o, by omega, e, ?_⟩
            rw [h] at c
            exact c
        have pl1 : pl ≤ 1 := by rcases hpd with h | h <;> omega
        have hP3 : IntKind.i64.wrap ((P : Int) + pl) = ((P + pl : Nat) : Int) := by rw [IntWalk.i64_in _ (by omega)]; omega
        clear hpl HP2
        obtain ⟨wv, hwv⟩ : ∃ wv : World, wv = w103 := ⟨_, rfl⟩
        rw [← hwv] at hpd SP SO_105 QI_104 BB ⊢
        clear hwv
        go_upto_region 12 with fail
        go_cut [51] from 35 to 51 (fun u wx => u = .bool false ∧ wx = wv)
        case first =>
          rcases hpd with rfl | ⟨rfl, M, b, o, rfl, rfl, cc⟩
          · go_wp2_with fail
            go_meet
            first | done | exact ⟨rfl, rfl⟩
          · have hw2 : IntKind.i64.wrap ((M : Int) + 1 - 1) = M := by rw [IntWalk.i64_in _ (by omega)]; omega
            go_wp2_with fail
            go_meet
            first | done | exact ⟨rfl, rfl⟩
        case rest =>
          obtain ⟨rfl, rfl⟩ := hcut
          clear hpd
          go_wp2_with fail
          go_loopw [11] (fun v wr => ∃ i : Nat, i ≤ m ∧ v = .int .i64 i ∧ Below wc.heap.size wc wr) (fun v _ => m - (intOf v).toNat)
          case atStart => exact ⟨0, by omega, rfl, Below.refl _ _⟩
          case round =>
            obtain ⟨i, him, rfl, bel⟩ := hrel
            obtain ⟨wz, rfl⟩ : ∃ wz : World, wz = wr := ⟨_, rfl⟩
            have BZ := Lib.hid bel
            clear bel
            by_cases hi : i < m
            · have d1 : decide ((i : Int) < m) = true := decide_eq_true (by omega)
              have i1 : (i : Int) < m := by omega
              have hil : i < O.length := by rw [HM.out]; exact hi
              obtain ⟨b, o, rfl, at0⟩ := KC.at_ (SO_105.out.below BZ.out) hil
              have AT := Lib.hid at0
              have ct : wz.cell? ⟨b, o + i * 18, none⟩ = some (.int .i64 T) := by rw [← HT.out.t i hil]; exact at0 0 _ rfl
              have ci : wz.cell? ⟨b, o + i * 18 + 1, none⟩ = some (.int .i64 i) := by rw [← HT.out.i i hil]; exact at0 1 _ rfl
              clear at0
              go_wp2_with fail
              go_cut [94] from 62 to 94 (fun u wx => u = .bool false ∧ Below wz.heap.size wz wx)
              case first =>
                by_cases hi0 : i = 0
                · subst hi0
                  have u0 : decide ((0 : Int) > 0) = false := by decide
                  rw [Nat.zero_mul, Nat.add_zero] at ct ci
                  go_quiet (fail)
                  go_wp2_with fail
                  go_meet
                  exact ⟨rfl, bel_drawN (Below.refl _ _) _⟩
                · obtain ⟨j, hj⟩ : ∃ j, i = j + 1 := ⟨i - 1, by omega⟩
                  have u0 : decide ((i : Int) > 0) = true := decide_eq_true (by omega)
                  have u1 : decide (0 < i) = true := decide_eq_true (by omega)
                  have ctR := fun d os => cell_regrown ct d os
                  have ciR := fun d os => cell_regrown ci d os
                  have hw2 : IntKind.i64.wrap ((i : Int) - 1) = j := by rw [IntWalk.i64_in _ (by omega)]; omega
                  have j1 : (j : Int) < m := by omega
                  obtain ⟨b2, o2, eA, aj⟩ := KC.at_ (SO_105.out.below BZ.out) (show j < O.length by omega)
                  injection eA with eA
                  injection eA with q1 q2 q3
                  subst q1 q2
                  clear q3
                  have AJ := Lib.hid aj
                  have hb := HT.out.b j (by omega)
                  rw [← hj] at hb
                  have CB := fun W => before_any (O.getD j c0) (O.getD i c0) W
                  rw [hb] at CB
                  clear aj hb
                  obtain ⟨x, hx⟩ : ∃ x, O.getD j c0 = x := ⟨_, rfl⟩
                  obtain ⟨y, hy⟩ : ∃ y, O.getD i c0 = y := ⟨_, rfl⟩
                  rw [hx] at AJ CB
                  rw [hy] at AT CB
                  clear hx hy hj hi0
                  refine wp_region_quiet_below (by kernel_rfl) (by kernel_rfl) ?_
                  repeat (first | (go_big_quiet_want; refine ldQ (.tmp 85) rfl b (o + j * 18) rfl x (at_regrown AJ.out) ?_; go_simp; go_big_quiet_on) | (go_big_quiet_want; refine ldQ (.tmp 89) rfl b (o + i * 18) rfl y (at_regrown AT.out) ?_; go_simp; go_big_quiet_on) | quiet_step (first | (go_at_call 30; with_reducible exact Calls.regrown_of (CB _))))
                  refine wpQuiet_nil ?_
                  rintro w' ⟨q, rfl⟩
                  go_wp2
                  go_meet
                  exact ⟨rfl, below_regrown _ _ _⟩
              case rest =>
                obtain ⟨rfl, bc⟩ := hcut
                have BN := Lib.hid (BZ.out.trans (bc.mono BZ.out.size))
                clear bc ct ci
                go_wp2_with fail
                go_roundw
                case rel => exact ⟨i + 1, by omega, by go_num, BN.out⟩
                case measure => simp [intOf]; omega
            · obtain rfl : i = m := by omega
              have d1 : decide ((i : Int) < i) = false := by simp
              go_wp2_with fail
              go_roundw
              case rel => exact ⟨T + 1, S + i, P + pl, by omega, by go_num, rfl, rfl, HSN.out, HPN.out, bel_bel BM.out (bel_bel BB.out BZ.out)⟩
              case measure => simp [intOf]; omega
      · obtain rfl : T = 64 := by omega
        have d0 : decide (((64 : Nat) : Int) < 64) = false := by decide
        obtain rfl : S = n := HS.out.trans HFA.out
        obtain ⟨PL, hPL⟩ : ∃ PL, (peL F).length = PL := ⟨_, rfl⟩
        obtain rfl : P = PL := by rw [← hPL]; exact HP.out.trans HGA.out
        have HPL := Lib.hid hPL
        clear hPL
        go_wp2_with fail
        refine (pending_any A1 S c1 F _ HN.out hF3 QI.out).mono ?_
        rintro e w3 h3
        obtain ⟨A3, c3, rfl, rd3, zr3, b3⟩ := ro_use h3
        clear h3 rd3 zr3
        rw [HPL.out]
        have B3 := Lib.hid (bel_bel BQ.out b3)
        clear b3
        go_wp2_with fail
        refine (awake_any _).mono ?_
        rintro e w9 ⟨rfl, b9⟩
        go_wp2
        go_ret
        exact ⟨rfl, bel_bel B3.out b9⟩
  · have HER := Lib.hid (show erC F = 15 from erC_no hwf)
    go_enter Try.func8, Try.ntmps8
    go_wp2_with fail
    refine ((FW _ RA.out).out).mono ?_
    rintro e w1 h1
    obtain ⟨A1, c1, rfl, rd1, zr1, b1⟩ := ro_use h1
    rw [HN.out]
    have RA_2 := Lib.hid (RA.out.below b1)
    clear RA
    replace B := Lib.hid (bel_bel B.out b1)
    clear b1
    have RI := Lib.hid rd1
    clear rd1
    clear zr1
    clear RA_2
    go_wp2_with fail
    refine (check_use (check_any A1 n c1 F _ HN.out hF3 RI.out BF.out)).mono ?_
    rintro e w3 ⟨h3, b3⟩
    have RI_4 := Lib.hid (RI.out.below b3)
    clear RI
    replace B := Lib.hid (bel_bel B.out b3)
    clear b3
    rw [HCA.out, HER.out] at h3
    subst h3
    go_wp2_with fail
    refine (awake_any _).mono ?_
    rintro e w9 ⟨rfl, b9⟩
    go_wp2
    go_ret
    exact ⟨rfl, bel_bel B.out b9⟩
end Wk
end Go.Proofs.Ytgfhfcjjodcgdaa
