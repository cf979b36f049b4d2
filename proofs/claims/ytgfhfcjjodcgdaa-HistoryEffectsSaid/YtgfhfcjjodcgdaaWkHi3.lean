/- HistoryEffects: the walk. Conditions: those of the arguments' kinds. Written by tools/mk12w3.py. -/
import Derived.Test.YtgfhfcjjodcgdaaHiWm
namespace Go.Proofs.Ytgfhfcjjodcgdaa
open Go.RowKit Go.Shelf Go.Sort
set_option linter.unusedVariables false
set_option linter.unusedSimpArgs false
namespace Wk
open Hi
set_option maxRecDepth 100000 in
set_option maxHeartbeats 4000000 in
theorem walk_historyEffects (a0 : Option Addr) (a0n a0c : Nat) (a0v : List Hi.C) (w : World) (a0e : a0v.length = a0n) (a0m : a0n ≤ maxLen) (a0r : Hi.RdV w a0 a0v) (a0b : Hi.BdV a0v) (a0z : a0 = none → a0c = 0) (a0y : a0n ≤ a0c ∧ a0c ≤ maxLen) :
    Calls Try.prog 6 #[.slice a0 a0n a0c] w fun e w' => e = .returned (.bool true) ∧ Below w.heap.size w w' := by
  have RA := Lib.hid (show KC.Rd w a0 a0v from a0r)
  have FW := fun (W : World) (h : KC.Rd W a0 a0v) => Lib.hid (few_any a0 a0n a0c a0v W a0e a0m a0y.1 a0y.2 h a0z)
  have hF := few_len a0v
  have BF := Lib.hid (fewL_bd a0b)
  have B := Lib.hid (Below.refl w.heap.size w)
  obtain ⟨F, hFF⟩ : ∃ F, fewL a0v = F := ⟨_, rfl⟩
  rw [hFF] at FW hF BF
  obtain ⟨n, hn⟩ : ∃ n, F.length = n := ⟨_, rfl⟩
  have HN := Lib.hid hn
  rw [hn] at hF
  have hF3 : n ≤ 1000 := by omega
  have n1 : (n : Int) ≤ 1000 := by omega
  clear a0r a0b a0z a0y a0e a0m hFF hn
  obtain ⟨i0, hi, hz0, hz1, hz2⟩ := info_b
  by_cases hwf : WF F
  · have HER := Lib.hid (show erC F = 0 from erC_ok hwf)
    have HEL := Lib.hid (efL_wf hwf)
    obtain ⟨cat, hcat⟩ : ∃ x, chkAt F = x := ⟨_, rfl⟩
    have HCA := Lib.hid hcat
    clear hcat
    go_enter Try.func6, Try.ntmps6
    go_wp2_with fail
    refine ((FW _ RA.out).out).mono ?_
    rintro e w1 h1
    obtain ⟨A1, c1, rfl, rd1, zr1, b1⟩ := ro_use h1
    rw [HN.out]
    have RA_2 := Lib.hid (RA.out.below b1)
    clear RA
    replace B := Lib.hid (bel_bel B.out b1)
    clear b1
    have RI := Lib.hid rd1
    clear rd1
    clear zr1
    clear RA_2
    go_wp2_with fail
    refine (effects_any A1 n c1 F _ HN.out hF3 RI.out BF.out).mono ?_
    rintro e w3 h3
    obtain ⟨A3, c3, rfl, rd3, zr3, b3⟩ := rw_use h3
    rw [HER.out, HEL.out]
    rw [HEL.out] at rd3
    have RI_4 := Lib.hid (RI.out.below b3)
    clear RI
    replace B := Lib.hid (bel_bel B.out b3)
    clear b3
    have SX := Lib.hid rd3
    clear rd3
    clear zr3
    go_wp2_with fail
    refine (check_use (check_any A1 n c1 F _ HN.out hF3 RI_4.out BF.out)).mono ?_
    rintro e w5 ⟨h5, b5⟩
    have RI_6 := Lib.hid (RI_4.out.below b5)
    clear RI_4
    have SX_7 := Lib.hid (SX.out.below b5)
    clear SX
    replace B := Lib.hid (bel_bel B.out b5)
    clear b5
    rw [HCA.out, HER.out] at h5
    subst h5
    have HW := Lib.hid hwf
    have hEN := eL_len F
    obtain ⟨N, hN⟩ : ∃ N, (eL F).length = N := ⟨_, rfl⟩
    have HNN := Lib.hid hN
    rw [hN] at hEN
    have HEN := Lib.hid hEN
    have hN3 : N ≤ 40 := by have := eff_len F; have := HN.out; omega
    simp only [hN]
    clear hN hEN hwf
    obtain ⟨wm, hwm⟩ : ∃ wm : World, wm = w5 := ⟨_, rfl⟩
    rw [← hwm] at RI_6 SX_7 B ⊢
    clear hwm
    go_upto_region 9 with (at_make; refine wpList_make_full _ rfl _ _ 57 rfl wm.heap.size 4 i0 (.bool false) 1 Try.underlying57 hi hz0 hz1 .i64 .i64 _ _ n rfl rfl rfl rfl (by rw [hz2]; omega) (by unfold maxLen; omega) (Nat.le_refl _) ?_; intro w1 hown hgrow)
    rw [madeB_flat] at hown
    have bw1 : Below wm.heap.size wm w1 := (Below.refl _ wm).grown hgrow (Nat.le_refl _) fun g h => by cases h
    have OW1 := Lib.hid (show Rb w1 wm.heap.size n (fun _ => false) from hown)
    have BW1 := Lib.hid bw1
    clear hown hgrow bw1 hi hz0 hz1 hz2
    go_wp2_with fail
    go_loopw [9] (fun s wr => ∃ k : Nat, k ≤ N ∧ s = .int .i64 k ∧ Rb wr wm.heap.size n (inO (eL F) k) ∧ Below wm.heap.size wm wr) (fun s _ => N - (intOf s).toNat)
    case atStart => exact ⟨0, Nat.zero_le _, rfl, by rw [inO_nil]; exact OW1.out, BW1.out⟩
    case round =>
      clear OW1 BW1
      obtain ⟨k, hk, rfl, ow, bel⟩ := hrel
      obtain ⟨wq, rfl⟩ : ∃ wq : World, wq = wr := ⟨_, rfl⟩
      have OW := Lib.hid ow
      have BE := Lib.hid bel
      clear ow bel
      by_cases hkN : k < N
      · have d0 : decide ((k : Int) < N) = true := decide_eq_true (by omega)
        have k1 : (k : Int) < N := by omega
        have hkE : k < (eff F).length := by have := HEN.out; omega
        obtain ⟨bx, ox, rfl, cx⟩ := KI.at_ (SX_7.out.below BE.out) (show k < (eL F).length by rw [HNN.out]; exact hkN)
        rw [eL_get hkE] at cx
        have heg := eff_get_lt hkE
        obtain ⟨e, he⟩ : ∃ e, (eff F).getD k 0 = e := ⟨_, rfl⟩
        have hfr := eL_fresh hkE he
        have HNX := Lib.hid (inO_next (o := eL F) (k := k) (by rw [HNN.out]; exact hkN) e (by rw [eL_get hkE, he]))
        have HST := Lib.hid (fun (j : Nat) (h : j + 1 = k) => (show tk F ((eff F).getD j 0) < tk F e from by
          subst h; rw [← he]; exact eff_step HW.out hkE))
        rw [he] at cx heg
        have hen : e < n := by have := HN.out; omega
        have e1 : (e : Int) < n := by omega
        have e2 : decide ((e : Int) < 0) = false := decide_eq_false (by omega)
        have e3 : decide ((e : Int) ≥ n) = false := decide_eq_false (by omega)
        have e4 : decide (n ≤ e) = false := decide_eq_false (by omega)
        obtain ⟨k0, f0⟩ := OW.out.cell hen
        rw [hfr] at k0
        obtain ⟨b, o, rfl, at0⟩ := KC.at_ (RI_6.out.below BE.out) (show e < F.length by have := HN.out; omega)
        have CU := Lib.hid (fun (e : Nat) (he : e < n) => (show wq.cell? ⟨b, o + e * 18 + 10, none⟩ = some (.int .i64 (tk F e)) from by
          obtain ⟨b', o', eA, hat⟩ := KC.at_ (RI_6.out.below BE.out) (show e < F.length by have := HN.out; omega)
          injection eA with eA
          injection eA with e1 e2 e3
          subst e1 e2
          exact hat 10 _ rfl))
        have cj := CU.out e hen
        clear at0 hfr heg he
        go_wp2_with fail
        go_cut [91] from 45 to 91 (fun s wx => s = .bool false ∧ Below wq.heap.size wq wx)
        case first =>
          by_cases hk0 : k = 0
          · subst hk0
            have u0 : decide ((0 : Int) > 0) = false := by decide
            rw [Nat.add_zero] at cx
            go_quiet (fail)
            go_wp2_with fail
            go_meet
            exact ⟨rfl, bel_drawN (Below.refl _ _) _⟩
          · obtain ⟨j, hj⟩ : ∃ j, k = j + 1 := ⟨k - 1, by omega⟩
            have hs := HST.out j hj.symm
            have hjE : j < (eff F).length := by omega
            obtain ⟨b2, o2, eX, cy⟩ := KI.at_ (SX_7.out.below BE.out) (show j < (eL F).length by rw [HNN.out]; omega)
            injection eX with eX
            injection eX with q1 q2 q3
            subst q1 q2
            rw [eL_get hjE] at cy
            have hfg := eff_get_lt hjE
            obtain ⟨f, hf⟩ : ∃ f, (eff F).getD j 0 = f := ⟨_, rfl⟩
            rw [hf] at cy hfg hs
            have hfn : f < n := by have := HN.out; omega
            have f1 : (f : Int) < n := by omega
            have cf := CU.out f hfn
            obtain ⟨ue, hue⟩ : ∃ u, tk F e = u := ⟨_, rfl⟩
            obtain ⟨uf, huf⟩ : ∃ u, tk F f = u := ⟨_, rfl⟩
            rw [hue] at cj hs
            rw [huf] at cf hs
            have q5 : decide (uf ≥ ue) = false := decide_eq_false (by omega)
            have u0 : decide ((k : Int) > 0) = true := decide_eq_true (by omega)
            have u1 : decide (0 < k) = true := decide_eq_true (by omega)
            have w1 : IntKind.i64.wrap ((k : Int) - 1) = j := by rw [IntWalk.i64_in _ (by omega)]; omega
            have i3 : (j : Int) < N := by omega
            clear hfg hf hue huf hs hj hk0
            go_quiet (fail)
            go_wp2_with fail
            go_meet
            exact ⟨rfl, bel_drawN (Below.refl _ _) _⟩
        case rest =>
          obtain ⟨rfl, bc⟩ := hcut
          have cx2 : wc.cell? ⟨bx, ox + k, none⟩ = some (.int .i64 e) := (bc.cell (p := ⟨bx, ox + k, none⟩) (cell_lt cx)).trans cx
          have OWc := Lib.hid (OW.out.below bc)
          have BEc := Lib.hid (BE.out.trans (bc.mono BE.out.size))
          obtain ⟨k2, f2⟩ := OWc.out.cell hen
          have OW2 := Lib.hid (OWc.out.set e true)
          rw [HNX.out] at OW2
          clear bc OW BE CU cj cx k0 f0
          go_wp2_with fail
          go_roundw
          case rel => exact ⟨k + 1, by omega, by go_num, OW2.out, BEc.out.setCell (p := ⟨wm.heap.size, e, none⟩) (Nat.le_refl _) _⟩
          case measure => simp [intOf]; omega
      · obtain rfl : k = N := by omega
        have d0 : decide ((k : Int) < k) = false := by simp
        go_wp2_with fail
        go_loopw [10] (fun s wr => ∃ i : Nat, i ≤ n ∧ s = .int .i64 i ∧ Below wq.heap.size wq wr) (fun s _ => n - (intOf s).toNat)
        case atStart => exact ⟨0, Nat.zero_le _, rfl, Below.refl _ _⟩
        case round =>
          obtain ⟨i, hin, rfl, bel⟩ := hrel
          obtain ⟨wv, rfl⟩ : ∃ wv : World, wv = wr := ⟨_, rfl⟩
          have BI := Lib.hid bel
          have BV := Lib.hid (BE.out.trans (bel.mono BE.out.size))
          clear bel
          by_cases hi : i < n
          · have d1 : decide ((i : Int) < n) = true := decide_eq_true (by omega)
            have i1 : (i : Int) < n := by omega
            have hil : i < F.length := by have := HN.out; omega
            obtain ⟨k0, f0⟩ := (OW.out.below BI.out).cell hi
            rw [eL_seen HEN.out hil] at k0
            obtain ⟨b, o, rfl, at0⟩ := KC.at_ (RI_6.out.below BV.out) hil
            have cu : wv.cell? ⟨b, o + i * 18 + 10, none⟩ = some (.int .i64 (tk F i)) := at0 10 _ rfl
            have ca : wv.cell? ⟨b, o + i * 18 + 11, none⟩ = some (.int .i64 (F.getD i c0).a) := at0 11 _ rfl
            have hat := ans_took HW.out hil
            obtain ⟨u, hu⟩ : ∃ u, tk F i = u := ⟨_, rfl⟩
            obtain ⟨a, ha⟩ : ∃ a, (F.getD i c0).a = a := ⟨_, rfl⟩
            rw [hu] at cu k0 hat
            rw [ha] at ca hat
            clear at0 hu ha
            go_wp2_with fail
            go_cut [129] from 104 to 129 (fun s wx => s = .bool false ∧ Below wv.heap.size wv wx)
            case first =>
              by_cases h1 : u ≥ 0
              · have q1 := decide_eq_true h1
                rw [show decide (0 ≤ u) = true from decide_eq_true h1] at k0
                by_cases h2 : a ≥ 0
                · have q2 := decide_eq_true h2
                  clear h1 h2 hat
                  go_quiet (fail)
                  go_wp2_with fail
                  go_meet
                  exact ⟨rfl, bel_drawN (Below.refl _ _) _⟩
                · have q2 := decide_eq_false h2
                  clear h1 h2 hat
                  go_quiet (fail)
                  go_wp2_with fail
                  go_meet
                  exact ⟨rfl, bel_drawN (Below.refl _ _) _⟩
              · have q1 := decide_eq_false h1
                rw [show decide (0 ≤ u) = false from decide_eq_false h1] at k0
                have h2 : ¬ a ≥ 0 := fun h => h1 (hat h)
                have q2 := decide_eq_false h2
                clear h1 h2 hat
                go_quiet (fail)
                go_wp2_with fail
                go_meet
                exact ⟨rfl, bel_drawN (Below.refl _ _) _⟩
            case rest =>
              obtain ⟨rfl, bc⟩ := hcut
              have BN := Lib.hid (BI.out.trans (bc.mono BI.out.size))
              clear bc k0 f0 cu ca
              go_wp2_with fail
              go_roundw
              case rel => exact ⟨i + 1, by omega, by go_num, BN.out⟩
              case measure => simp [intOf]; omega
          · obtain rfl : i = n := by omega
            have d1 : decide ((i : Int) < i) = false := by simp
            go_wp2_with fail
            refine (Agrees_any A3 k c3 (eL F) HNN.out (by omega) A1 i c1 F HN.out hF3 _ (SX_7.out.below BV.out) (RI_6.out.below BV.out) BF.out).mono ?_
            rintro e w8 ⟨h8, b8⟩
            rw [(eL_yes HW.out).1, (eL_yes HW.out).2] at h8
            subst h8
            have B8 := Lib.hid (bel_bel B.out (bel_bel BV.out b8))
            clear b8
            go_wp2_with (first | (go_at_call 29; refine (yes1 _).mono ?_; rintro e w9 ⟨rfl, rfl⟩))
            refine (awake_any _).mono ?_
            rintro e w9 ⟨rfl, b9⟩
            go_wp2
            go_ret
            exact ⟨rfl, bel_bel B8.out b9⟩
  · have HER := Lib.hid (show erC F = 15 from erC_no hwf)
    have HEL := Lib.hid (efL_no hwf)
    obtain ⟨cat, hcat⟩ : ∃ x, chkAt F = x := ⟨_, rfl⟩
    have HCA := Lib.hid hcat
    clear hcat
    go_enter Try.func6, Try.ntmps6
    go_wp2_with fail
    refine ((FW _ RA.out).out).mono ?_
    rintro e w1 h1
    obtain ⟨A1, c1, rfl, rd1, zr1, b1⟩ := ro_use h1
    rw [HN.out]
    have RA_2 := Lib.hid (RA.out.below b1)
    clear RA
    replace B := Lib.hid (bel_bel B.out b1)
    clear b1
    have RI := Lib.hid rd1
    clear rd1
    clear zr1
    clear RA_2
    go_wp2_with fail
    refine (effects_any A1 n c1 F _ HN.out hF3 RI.out BF.out).mono ?_
    rintro e w3 h3
    obtain ⟨A3, c3, rfl, rd3, zr3, b3⟩ := rw_use h3
    rw [HER.out, HEL.out]
    rw [HEL.out] at rd3
    have RI_4 := Lib.hid (RI.out.below b3)
    clear RI
    replace B := Lib.hid (bel_bel B.out b3)
    clear b3
    have SX := Lib.hid rd3
    clear rd3
    clear zr3
    go_wp2_with fail
    refine (check_use (check_any A1 n c1 F _ HN.out hF3 RI_4.out BF.out)).mono ?_
    rintro e w5 ⟨h5, b5⟩
    have RI_6 := Lib.hid (RI_4.out.below b5)
    clear RI_4
    have SX_7 := Lib.hid (SX.out.below b5)
    clear SX
    replace B := Lib.hid (bel_bel B.out b5)
    clear b5
    rw [HCA.out, HER.out] at h5
    subst h5
    go_wp2_with fail
    refine (awake_any _).mono ?_
    rintro e w9 ⟨rfl, b9⟩
    go_wp2
    go_ret
    exact ⟨rfl, bel_bel B.out b9⟩
end Wk
end Go.Proofs.Ytgfhfcjjodcgdaa
