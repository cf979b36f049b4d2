/- Package event: Inside: contract of the translated code. Conditions: those of the lemma. Written by tools/mk11in2.py. -/
import Derived.Test.YtbnchajkfceaoaaEvF
namespace Go.Proofs.Ytbnchajkfceaoaa
open Go.RowKit Go.Sort
set_option linter.unusedVariables false
set_option linter.unusedSimpArgs false
namespace Ev
theorem thB_no {t : Int} (h : t < 0 ∨ 64 ≤ t) : thB t = false := by
  unfold thB
  rw [Bool.and_eq_false_iff, decide_eq_false_iff_not, decide_eq_false_iff_not]
  omega
theorem thB_yes {t : Int} (h : ¬ (t < 0 ∨ 64 ≤ t)) : thB t = true := by
  unfold thB
  rw [Bool.and_eq_true, decide_eq_true_eq, decide_eq_true_eq]
  omega
set_option maxRecDepth 100000 in
set_option maxHeartbeats 1000000 in
theorem inside_any (t st : Int) (A : Option Addr) (n c : Nat) (l : List E) (w : World) (hl : l.length = n) (hx : n ≤ 1000) (hr : KE.Rd w A l) :
    Calls Try.prog 22 #[.int .i64 t, .int .i64 st, .slice A n c] w fun e w' => e = .returned (insV t st l) ∧ Below w.heap.size w w' := by
  obtain ⟨V, hV⟩ : ∃ V, insV t st l = V := ⟨_, rfl⟩
  have CC := fun (W : World) (h : KE.Rd W A l) => Lib.hid (check_any A n c l W hl (by unfold maxLen; omega) h)
  have CT := fun (W : World) => Lib.hid (isThread_any t W)
  have CO := fun (hok : chk l = none) (W : World) (h : KE.Rd W A l) => Lib.hid (open_any2 st A n c l W hl hx hok h)
  rw [hV]
  have HR := Lib.hid hr
  have HLn := Lib.hid (show l.length ≤ 1000 by omega)
  clear hl hr
  have b0 : Below w.heap.size w (w.alloc (.cells #[.int .i64 0, .int .u64 0, .int .i64 0, .int .i64 0] 41)) := bel_alloc (Below.refl _ _) _
  have BX := Lib.hid (Bs.new w i0)
  have B0 := Lib.hid b0
  have HR1 := Lib.hid (HR.out.below b0)
  have FIN := Lib.hid (fun (x : I) (W : World) (hb : Below w.heap.size w W) (hs : Bs W w.heap.size x) (y : I) => (⟨bel_set4 hb (Nat.le_refl _) (.int .i64 y.t) (.int .u64 y.v) (.int .i64 y.a) (.int .i64 y.b), (hs.set y).c⟩ : Below w.heap.size w ((((W.setCell ⟨w.heap.size, 0, none⟩ (.int .i64 y.t)).setCell ⟨w.heap.size, 1, none⟩ (.int .u64 y.v)).setCell ⟨w.heap.size, 2, none⟩ (.int .i64 y.a)).setCell ⟨w.heap.size, 3, none⟩ (.int .i64 y.b)) ∧ _))
  clear b0
  by_cases hok : chk l = none
  · rw [chkV_none hok] at CC
    have CO := CO hok
    by_cases ha : t < 0 ∨ 64 ≤ t
    · have HV := Lib.hid (hV.symm.trans (insV_arg (st := st) hok ha))
      rw [thB_no ha] at CT
      clear hok hV CO ha
      go_enter Try.func22, Try.ntmps22
      go_wp2_with fail
      refine (CC _ HR1.out).out.mono ?_
      rintro e w1 ⟨rfl, b1⟩
      have bs := BX.out.below b1 (by simp)
      obtain ⟨s0, s1, s2, s3⟩ := bs.c
      obtain ⟨f0, f1, f2, f3⟩ := bs.f
      have bw := B0.out.trans (b1.mono (by simp))
      go_wp2_with fail
      refine (CT _).out.mono ?_
      rintro e w8 ⟨rfl, rfl⟩
      go_wp2
      obtain ⟨hb, g0, g1, g2, g3⟩ := FIN.out i0 (w1) bw bs i0
      simp only [i0] at hb g0 g1 g2 g3
      generalize (((World.setCell (w1) ⟨w.heap.size, 0, none⟩ (.int .i64 0)).setCell ⟨w.heap.size, 1, none⟩ (.int .u64 0)).setCell ⟨w.heap.size, 2, none⟩ (.int .i64 0)).setCell ⟨w.heap.size, 3, none⟩ (.int .i64 0) = w9 at *
      exact bodyPost_ret (v := .tuple #[.agg #[.int .i64 0, .int .u64 0, .int .i64 0, .int .i64 0], .bool false, .int .i64 2]) (by simp [results, Try.results22, go_sem, g0, g1, g2, g3]) rfl ⟨by rw [HV.out], hb⟩
    · rw [thB_yes ha] at CT
      by_cases hst : st < -1
      · have HV := Lib.hid (hV.symm.trans (insV_low hok ha hst))
        have d1 := decide_eq_true hst
        clear hok hV ha hst CO
        go_enter Try.func22, Try.ntmps22
        go_wp2_with fail
        refine (CC _ HR1.out).out.mono ?_
        rintro e w1 ⟨rfl, b1⟩
        have bs := BX.out.below b1 (by simp)
        obtain ⟨s0, s1, s2, s3⟩ := bs.c
        obtain ⟨f0, f1, f2, f3⟩ := bs.f
        have bw := B0.out.trans (b1.mono (by simp))
        go_wp2_with fail
        refine (CT _).out.mono ?_
        rintro e w8 ⟨rfl, rfl⟩
        go_wp2
        obtain ⟨hb, g0, g1, g2, g3⟩ := FIN.out i0 (w1) bw bs i0
        simp only [i0] at hb g0 g1 g2 g3
        generalize (((World.setCell (w1) ⟨w.heap.size, 0, none⟩ (.int .i64 0)).setCell ⟨w.heap.size, 1, none⟩ (.int .u64 0)).setCell ⟨w.heap.size, 2, none⟩ (.int .i64 0)).setCell ⟨w.heap.size, 3, none⟩ (.int .i64 0) = w9 at *
        exact bodyPost_ret (v := .tuple #[.agg #[.int .i64 0, .int .u64 0, .int .i64 0, .int .i64 0], .bool false, .int .i64 3]) (by simp [results, Try.results22, go_sem, g0, g1, g2, g3]) rfl ⟨by rw [HV.out], hb⟩
      · have HS := Lib.hid (fun x h => hV.symm.trans (insV_some (x := x) hok ha hst h))
        have HN := Lib.hid (fun h => hV.symm.trans (insV_none hok ha hst h))
        have d1 := decide_eq_false hst
        have hsl : (opn st (ivs 1 l)).length ≤ 1000 := by have := ivs_len 1 l; have := opn_len st (ivs 1 l); have := HLn.out; omega
        unfold ins at HS HN
        obtain ⟨s, hs⟩ : ∃ s, opn st (ivs 1 l) = s := ⟨_, rfl⟩
        rw [hs] at CO HS HN hsl
        clear hok hV ha hst hs
        go_enter Try.func22, Try.ntmps22
        go_wp2_with fail
        refine (CC _ HR1.out).out.mono ?_
        rintro e w1 ⟨rfl, b1⟩
        have bs := BX.out.below b1 (by simp)
        obtain ⟨s0, s1, s2, s3⟩ := bs.c
        obtain ⟨f0, f1, f2, f3⟩ := bs.f
        have bw := B0.out.trans (b1.mono (by simp))
        go_wp2_with fail
        refine (CT _).out.mono ?_
        rintro e w8 ⟨rfl, rfl⟩
        go_wp2_with fail
        refine (CO _ (HR1.out.below b1)).out.mono ?_
        rintro e w2 ⟨v, rfl, ow2, b2⟩
        have bs2 := bs.below b2 (by have := b1.size; simp at this; omega)
        have bw2 := bw.trans (b2.mono bw.size)
        clear bs bw s0 s1 s2 s3 f0 f1 f2 f3
        obtain ⟨A2, c2, rfl, hrd, _⟩ := row_rd KS ow2
        have RD := Lib.hid hrd
        have BS := Lib.hid bs2
        have BW := Lib.hid bw2
        clear ow2 hrd bs2 bw2
        go_wp2
        go_loopw [33] (fun i wr => ∃ k : Nat, k ≤ s.length ∧ i = .int .i64 k ∧ (∀ j, j < k → (s.getD j i0).t ≠ t) ∧ Below w2.heap.size w2 wr) (fun i _ => s.length - (intOf i).toNat)
        case atStart => exact ⟨0, Nat.zero_le _, rfl, fun j hj => by omega, Below.refl _ _⟩
        case round =>
          obtain ⟨j, hj, rfl, hno, bel⟩ := hrel
          obtain ⟨wq, rfl⟩ : ∃ wq : World, wq = wr := ⟨_, rfl⟩
          have HNO := Lib.hid hno
          clear hno
          by_cases hlt : j < s.length
          · have d0 : decide ((j : Int) < s.length) = true := decide_eq_true (by omega)
            have j1 : (j : Int) < s.length := by omega
            obtain ⟨b, o, rfl, c0, c1, c2, c3⟩ := KS.at_ (RD.out.below bel) hlt
            have bsq := BS.out.below bel BS.out.lt
            have bwq := BW.out.trans (bel.mono BW.out.size)
            by_cases ht : (s.getD j i0).t = t
            · have HV := Lib.hid (HS.out _ (find_hit hlt HNO.out ht))
              generalize s.getD j i0 = y at *
              obtain ⟨yt, yv, ya, yb⟩ := y
              simp only at c0 c1 c2 c3 ht
              have t0 : (yt == t) = true := by simpa using ht
              have bs := bsq.alloc (.cells #[.int .i64 yt, .int .u64 yv, .int .i64 ya, .int .i64 yb] 41)
              have bw := bel_alloc bwq (.cells #[.int .i64 yt, .int .u64 yv, .int .i64 ya, .int .i64 yb] 41)
              obtain ⟨s0, s1, s2, s3⟩ := bs.c
              obtain ⟨f0, f1, f2, f3⟩ := bs.f
              clear ht HS HN bsq bwq
              go_wp2
              obtain ⟨hb, g0, g1, g2, g3⟩ := FIN.out i0 (wq.alloc (.cells #[.int .i64 yt, .int .u64 yv, .int .i64 ya, .int .i64 yb] 41)) bw bs ⟨yt, yv, ya, yb⟩
              simp only [i0] at hb g0 g1 g2 g3
              generalize (((World.setCell (wq.alloc (.cells #[.int .i64 yt, .int .u64 yv, .int .i64 ya, .int .i64 yb] 41)) ⟨w.heap.size, 0, none⟩ (.int .i64 yt)).setCell ⟨w.heap.size, 1, none⟩ (.int .u64 yv)).setCell ⟨w.heap.size, 2, none⟩ (.int .i64 ya)).setCell ⟨w.heap.size, 3, none⟩ (.int .i64 yb) = w9 at *
              exact bodyPost_ret (v := .tuple #[.agg #[.int .i64 yt, .int .u64 yv, .int .i64 ya, .int .i64 yb], .bool true, .int .i64 0]) (by simp [results, Try.results22, go_sem, g0, g1, g2, g3]) rfl ⟨by rw [HV.out], hb⟩
            · have HN2 := Lib.hid (show ∀ i, i < j + 1 → (s.getD i i0).t ≠ t from fun i hi => by
                by_cases hij : i = j
                · subst hij; exact ht
                · exact HNO.out i (by omega))
              generalize s.getD j i0 = y at *
              obtain ⟨yt, yv, ya, yb⟩ := y
              simp only at c0 c1 c2 c3 ht
              have t0 : (yt == t) = false := by simpa using ht
              clear ht
              go_wp2
              go_roundw
              case rel => exact ⟨j + 1, by omega, by go_num, HN2.out, bel_alloc bel _⟩
              case measure => simp [intOf]; omega
          · have HV := Lib.hid (HN.out (find_miss (fun i hi => HNO.out i (by omega))))
            have d0 : decide ((j : Int) < (s.length : Int)) = false := decide_eq_false (by omega)
            have bs := BS.out.below bel BS.out.lt
            have bw := BW.out.trans (bel.mono BW.out.size)
            obtain ⟨s0, s1, s2, s3⟩ := bs.c
            obtain ⟨f0, f1, f2, f3⟩ := bs.f
            clear HS HN
            go_wp2
            obtain ⟨hb, g0, g1, g2, g3⟩ := FIN.out i0 (wq) bw bs i0
            simp only [i0] at hb g0 g1 g2 g3
            generalize (((World.setCell (wq) ⟨w.heap.size, 0, none⟩ (.int .i64 0)).setCell ⟨w.heap.size, 1, none⟩ (.int .u64 0)).setCell ⟨w.heap.size, 2, none⟩ (.int .i64 0)).setCell ⟨w.heap.size, 3, none⟩ (.int .i64 0) = w9 at *
            exact bodyPost_ret (v := .tuple #[.agg #[.int .i64 0, .int .u64 0, .int .i64 0, .int .i64 0], .bool false, .int .i64 0]) (by simp [results, Try.results22, go_sem, g0, g1, g2, g3]) rfl ⟨by rw [HV.out], hb⟩
  · have HV := Lib.hid (hV.symm.trans (insV_no (t := t) (st := st) hok))
    rw [show chkV l = .tuple #[.int .i64 (chkAt l : Nat), .int .i64 15] by rw [chkV_eq, erC_no hok]] at CC
    generalize chkAt l = at_ at *
    clear hok hV CO
    go_enter Try.func22, Try.ntmps22
    go_wp2_with fail
    refine (CC _ HR1.out).out.mono ?_
    rintro e w1 ⟨rfl, b1⟩
    have bs := BX.out.below b1 (by simp)
    obtain ⟨s0, s1, s2, s3⟩ := bs.c
    obtain ⟨f0, f1, f2, f3⟩ := bs.f
    have bw := B0.out.trans (b1.mono (by simp))
    go_wp2
    obtain ⟨hb, g0, g1, g2, g3⟩ := FIN.out i0 (w1) bw bs i0
    simp only [i0] at hb g0 g1 g2 g3
    generalize (((World.setCell (w1) ⟨w.heap.size, 0, none⟩ (.int .i64 0)).setCell ⟨w.heap.size, 1, none⟩ (.int .u64 0)).setCell ⟨w.heap.size, 2, none⟩ (.int .i64 0)).setCell ⟨w.heap.size, 3, none⟩ (.int .i64 0) = w9 at *
    exact bodyPost_ret (v := .tuple #[.agg #[.int .i64 0, .int .u64 0, .int .i64 0, .int .i64 0], .bool false, .int .i64 15]) (by simp [results, Try.results22, go_sem, g0, g1, g2, g3]) rfl ⟨by rw [HV.out], hb⟩
end Ev
end Go.Proofs.Ytbnchajkfceaoaa
