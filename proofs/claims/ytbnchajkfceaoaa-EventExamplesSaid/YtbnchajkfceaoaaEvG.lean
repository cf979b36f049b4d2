/- leapfrogref11: good: contract of the translated code. Condition: the index is that of an event. Written by tools/mk11good.py. -/
import Derived.Test.YtbnchajkfceaoaaEvKc
import Derived.IntWalk
namespace Go.Proofs.Ytbnchajkfceaoaa
open Go.RowKit Go.Sort
set_option linter.unusedVariables false
set_option linter.unusedSimpArgs false
namespace Ev
theorem good_step {l : List E} {x : E} {ik iv : Int} (h1 : rangeB x = true) (h2 : prevB l x = true) (h3 : lastE x.t l = (ik, iv)) : goodB l x = allowB (ik, iv) x := by
  unfold goodB; rw [h1, h2, h3]; rfl
theorem allow1 {ik iv : Int} {x : E} (h : x.k = 1) : allowB (ik, iv) x = (decide (ik ≠ 1) && (decide (ik ≠ 3) && decide (x.v < 64))) := by unfold allowB; rw [if_pos h]
theorem allow2 {ik iv : Int} {x : E} (h : x.k = 2) : allowB (ik, iv) x = (decide (ik = 1) && decide (x.v = iv)) := by unfold allowB; rw [if_neg (by omega), if_pos h]
theorem allow3 {ik iv : Int} {x : E} (h : x.k = 3) : allowB (ik, iv) x = (decide (ik ≠ 1) && (decide (ik ≠ 3) && decide (x.v ≠ 0))) := by unfold allowB; rw [if_neg (by omega), if_neg (by omega), if_pos h]
theorem allow4 {ik iv : Int} {x : E} (h1 : x.k ≠ 1) (h2 : x.k ≠ 2) (h3 : x.k ≠ 3) : allowB (ik, iv) x = (decide (ik = 3) && decide (x.v = iv)) := by unfold allowB; rw [if_neg h1, if_neg h2, if_neg h3]
set_option maxRecDepth 100000 in
set_option maxHeartbeats 2000000 in
theorem good_any (A : Option Addr) (n c I : Nat) (l : List E) (w : World) (hl : l.length = n) (hx : n ≤ maxLen) (hi : I < n) (hr : KE.Rd w A l) :
    Calls Try.prog 34 #[.slice A n c, .int .i64 (I : Nat)] w fun e w' => e = .returned (.bool (goodB (l.take I) (l.getD I e0))) ∧ Below w.heap.size w w' := by
  unfold maxLen at hx
  have hil : I < l.length := by omega
  obtain ⟨b, o, rfl, c0, c1, c2, c3⟩ := KE.at_ hr hil
  have HL := Lib.hid hl
  have HR := Lib.hid hr
  clear hl hr
  have hprev := fun (k : Nat) (hk : I = k + 1) => (show (l.take I).getLast? = some (l.getD k e0) by rw [hk, take_get (d := e0) (by omega)]; simp)
  have hat := fun (W : World) (hB : Below w.heap.size w W) (k : Nat) (hk : k < l.length) => KE.at_ (HR.out.below hB) hk
  obtain ⟨⟨xs, xt, xk, xv⟩, hxe⟩ : ∃ x, l.getD I e0 = x := ⟨_, rfl⟩
  rw [hxe] at c0 c1 c2 c3
  rw [hxe]
  simp only at c0 c1 c2 c3
  obtain ⟨r, hrr⟩ : ∃ r, goodB (l.take I) ⟨xs, xt, xk, xv⟩ = r := ⟨_, rfl⟩
  rw [hrr]
  have HRR := Lib.hid hrr
  clear hrr hxe
  have i1 : (I : Int) < n := by omega
  have BX0 := Lib.hid (Bk.new w ⟨xs, xt, xk, xv⟩)
  have B0 := Lib.hid (bel_alloc (Below.refl _ w) (.cells #[.int .i64 xs, .int .i64 xt, .int .u8 xk, .int .u64 xv] 57))
  by_cases e1 : xs < 0
  · have q1 := decide_eq_true e1
    have HV := Lib.hid (show r = false by rw [← HRR.out]; simp [goodB, rangeB]; omega)
    go_enter Try.func34, Try.ntmps34
    go_wp2
    go_ret
    exact ⟨by rw [HV.out]; first | done | rfl, B0.out⟩
  have q1 := decide_eq_false e1
  by_cases e2 : xt < 0
  · have q2 := decide_eq_true e2
    have HV := Lib.hid (show r = false by rw [← HRR.out]; simp [goodB, rangeB]; omega)
    go_enter Try.func34, Try.ntmps34
    go_wp2
    go_ret
    exact ⟨by rw [HV.out]; first | done | rfl, B0.out⟩
  have q2 := decide_eq_false e2
  by_cases e3 : 64 ≤ xt
  · have q3 := decide_eq_true e3
    have HV := Lib.hid (show r = false by rw [← HRR.out]; simp [goodB, rangeB]; omega)
    go_enter Try.func34, Try.ntmps34
    go_wp2
    go_ret
    exact ⟨by rw [HV.out]; first | done | rfl, B0.out⟩
  have q3 := decide_eq_false e3
  by_cases e4 : xk < 1
  · have q4 := decide_eq_true e4
    have HV := Lib.hid (show r = false by rw [← HRR.out]; simp [goodB, rangeB]; omega)
    go_enter Try.func34, Try.ntmps34
    go_wp2
    go_ret
    exact ⟨by rw [HV.out]; first | done | rfl, B0.out⟩
  have q4 := decide_eq_false e4
  by_cases e5 : 4 < xk
  · have q5 := decide_eq_true e5
    have HV := Lib.hid (show r = false by rw [← HRR.out]; simp [goodB, rangeB]; omega)
    go_enter Try.func34, Try.ntmps34
    go_wp2
    go_ret
    exact ⟨by rw [HV.out]; first | done | rfl, B0.out⟩
  have q5 := decide_eq_false e5
  have hR : rangeB ⟨xs, xt, xk, xv⟩ = true := by simp [rangeB]; omega
  have HGS := fun (h : prevB (l.take I) ⟨xs, xt, xk, xv⟩ = true) => Lib.hid (show allowB (lastE xt (l.take I)) ⟨xs, xt, xk, xv⟩ = r by rw [← HRR.out]; unfold goodB; rw [hR, h]; rfl)
  clear e1 e2 e3 e4 e5
  cases I with
  | zero =>
    have HGS := HGS rfl
    simp only [Nat.zero_mul, Nat.add_zero] at c0 c1 c2 c3
    have u0 : decide ((0 : Int) < 0) = false := by decide
    clear hprev hat hR HRR
    go_enter Try.func34, Try.ntmps34
    go_wp2
    go_quiet (fail)
    go_wp2
    have BX : Hid _ := BX0
    have BW : Hid _ := B0
    go_loopw [7, 8, 9] (fun a b q wy => ∃ j : Nat, j ≤ 0 ∧ q = .int .i64 j ∧ a = .int .u8 (lastE xt (l.take j)).1 ∧ b = .int .u64 (lastE xt (l.take j)).2 ∧ Bk wy w.heap.size ⟨xs, xt, xk, xv⟩ ∧ Below w.heap.size w wy) (fun a b q _ => 0 - (intOf q).toNat)
    case atStart => exact ⟨0, Nat.zero_le _, rfl, rfl, rfl, BX.out, bel_drawN BW.out _⟩
    case round =>
      obtain ⟨j, hj, rfl, rfl, rfl, bk, bel⟩ := hrel
      obtain ⟨wq, rfl⟩ : ∃ wq : World, wq = wr := ⟨_, rfl⟩
      clear BX BW
      obtain ⟨x0, x1, x2, x3⟩ := bk.c
      by_cases hlt : j < 0
      · have d0 : decide ((j : Int) < (0 : Int)) = true := decide_eq_true (by omega)
        have hjl : j < l.length := by have := HL.out; omega
        obtain ⟨b, o, eA, c0, c1, c2, c3⟩ := KE.at_ (HR.out.below bel) hjl
        cases eA
        have HN := Lib.hid (show lastE xt (l.take (j + 1)) = if (l.getD j e0).t = xt then ((l.getD j e0).k, (l.getD j e0).v) else lastE xt (l.take j) by rw [take_get (d := e0) hjl, lastE_snoc])
        generalize l.getD j e0 = y at *
        obtain ⟨ys, yt, yk, yv⟩ := y
        simp only at c0 c1 c2 c3 HN
        have j1 : (j : Int) < n := by omega
        have j2 : (j : Int) < (0 : Int) := by omega
        clear x0 x2 x3
        by_cases ht : yt = xt
        · have t0 : (yt == xt) = true := by simpa using ht
          have HM := Lib.hid (show lastE xt (l.take (j + 1)) = (yk, yv) by rw [HN.out, if_pos ht])
          clear ht HN
          go_wp2
          go_quiet (fail)
          go_wp2
          go_quiet (fail)
          go_wp2
          go_roundw
          case rel => exact ⟨j + 1, by omega, by go_num, by rw [HM.out], by rw [HM.out], bk, bel_drawN bel _⟩
          case measure => simp [intOf]; omega
        · have t0 : (yt == xt) = false := by simpa using ht
          have HM := Lib.hid (show lastE xt (l.take (j + 1)) = lastE xt (l.take j) by rw [HN.out, if_neg ht])
          clear ht HN
          go_wp2
          go_quiet (fail)
          go_wp2
          go_roundw
          case rel => exact ⟨j + 1, by omega, by go_num, by rw [HM.out], by rw [HM.out], bk, bel_drawN bel _⟩
          case measure => simp [intOf]; omega
      · obtain rfl : j = 0 := by omega
        have d0 : decide ((0 : Int) < (0 : Int)) = false := by simp
        have HRS := HGS
        obtain ⟨⟨ik, iv⟩, hik⟩ : ∃ q, lastE xt (l.take 0) = q := ⟨_, rfl⟩
        rw [hik] at HRS
        simp only [hik]
        clear hik HGS
        by_cases h1 : xk = 1
        · have u1 : (xk == 1) = true := by simpa using h1
          have HAL := Lib.hid (allow1 (ik := ik) (iv := iv) (x := ⟨xs, xt, xk, xv⟩) h1)
          by_cases g1 : ik = 1
          · have q1 : (ik != 1) = false := by simpa using g1
            have HV := Lib.hid (show r = false by rw [← HRS.out, HAL.out]; simp [g1])
            clear HAL g1
            go_wp2
            go_ret
            exact ⟨by rw [HV.out]; first | done | rfl, bel⟩
          · have q1 : (ik != 1) = true := by simpa using g1
            by_cases g3 : ik = 3
            · have q3 : (ik != 3) = false := by simpa using g3
              have HV := Lib.hid (show r = false by rw [← HRS.out, HAL.out]; simp [g3])
              clear HAL g3
              go_wp2
              go_ret
              exact ⟨by rw [HV.out]; first | done | rfl, bel⟩
            · have q3 : (ik != 3) = true := by simpa using g3
              by_cases g5 : xv < 64
              · have q5 := decide_eq_true g5
                have HV := Lib.hid (show r = true by rw [← HRS.out, HAL.out]; simp [g1, g3, g5])
                clear HAL g1 g3 g5
                go_wp2
                go_ret
                exact ⟨by rw [HV.out]; first | done | rfl, bel⟩
              · have q5 := decide_eq_false g5
                have HV := Lib.hid (show r = false by rw [← HRS.out, HAL.out]; simp [g5])
                clear HAL g5
                go_wp2
                go_ret
                exact ⟨by rw [HV.out]; first | done | rfl, bel⟩
        · have u1 : (xk == 1) = false := by simpa using h1
          by_cases h2 : xk = 2
          · have u2 : (xk == 2) = true := by simpa using h2
            have HAL := Lib.hid (allow2 (ik := ik) (iv := iv) (x := ⟨xs, xt, xk, xv⟩) h2)
            by_cases g1 : ik = 1
            · have q1 : (ik == 1) = true := by simpa using g1
              by_cases g5 : xv = iv
              · have q5 : (xv == iv) = true := by simpa using g5
                have HV := Lib.hid (show r = true by rw [← HRS.out, HAL.out]; simp [g1, g5])
                clear HAL g1 g5
                go_wp2
                go_ret
                exact ⟨by rw [HV.out]; first | done | rfl, bel⟩
              · have q5 : (xv == iv) = false := by simpa using g5
                have HV := Lib.hid (show r = false by rw [← HRS.out, HAL.out]; simp [g5])
                clear HAL g5
                go_wp2
                go_ret
                exact ⟨by rw [HV.out]; first | done | rfl, bel⟩
            · have q1 : (ik == 1) = false := by simpa using g1
              have HV := Lib.hid (show r = false by rw [← HRS.out, HAL.out]; simp [g1])
              clear HAL g1
              go_wp2
              go_ret
              exact ⟨by rw [HV.out]; first | done | rfl, bel⟩
          · have u2 : (xk == 2) = false := by simpa using h2
            by_cases h3 : xk = 3
            · have u3 : (xk == 3) = true := by simpa using h3
              have HAL := Lib.hid (allow3 (ik := ik) (iv := iv) (x := ⟨xs, xt, xk, xv⟩) h3)
              by_cases g1 : ik = 1
              · have q1 : (ik != 1) = false := by simpa using g1
                have HV := Lib.hid (show r = false by rw [← HRS.out, HAL.out]; simp [g1])
                clear HAL g1
                go_wp2
                go_ret
                exact ⟨by rw [HV.out]; first | done | rfl, bel⟩
              · have q1 : (ik != 1) = true := by simpa using g1
                by_cases g3 : ik = 3
                · have q3 : (ik != 3) = false := by simpa using g3
                  have HV := Lib.hid (show r = false by rw [← HRS.out, HAL.out]; simp [g3])
                  clear HAL g3
                  go_wp2
                  go_ret
                  exact ⟨by rw [HV.out]; first | done | rfl, bel⟩
                · have q3 : (ik != 3) = true := by simpa using g3
                  by_cases g5 : xv = 0
                  · have q5 : (xv != 0) = false := by simpa using g5
                    have HV := Lib.hid (show r = false by rw [← HRS.out, HAL.out]; simp [g5])
                    clear HAL g5
                    go_wp2
                    go_ret
                    exact ⟨by rw [HV.out]; first | done | rfl, bel⟩
                  · have q5 : (xv != 0) = true := by simpa using g5
                    have HV := Lib.hid (show r = true by rw [← HRS.out, HAL.out]; simp [g1, g3, g5])
                    clear HAL g1 g3 g5
                    go_wp2
                    go_ret
                    exact ⟨by rw [HV.out]; first | done | rfl, bel⟩
            · have u3 : (xk == 3) = false := by simpa using h3
              have HAL := Lib.hid (allow4 (ik := ik) (iv := iv) (x := ⟨xs, xt, xk, xv⟩) h1 h2 h3)
              by_cases g1 : ik = 3
              · have q1 : (ik == 3) = true := by simpa using g1
                by_cases g5 : xv = iv
                · have q5 : (xv == iv) = true := by simpa using g5
                  have HV := Lib.hid (show r = true by rw [← HRS.out, HAL.out]; simp [g1, g5])
                  clear HAL g1 g5
                  go_wp2
                  go_ret
                  exact ⟨by rw [HV.out]; first | done | rfl, bel⟩
                · have q5 : (xv == iv) = false := by simpa using g5
                  have HV := Lib.hid (show r = false by rw [← HRS.out, HAL.out]; simp [g5])
                  clear HAL g5
                  go_wp2
                  go_ret
                  exact ⟨by rw [HV.out]; first | done | rfl, bel⟩
              · have q1 : (ik == 3) = false := by simpa using g1
                have HV := Lib.hid (show r = false by rw [← HRS.out, HAL.out]; simp [g1])
                clear HAL g1
                go_wp2
                go_ret
                exact ⟨by rw [HV.out]; first | done | rfl, bel⟩
  | succ i =>
    have hil2 : i < l.length := by omega
    have PC := Lib.hid (KE.at_ (HR.out.below B0.out) hil2)
    have hpl := hprev i rfl
    obtain ⟨⟨ps, pt, pk, pv⟩, hpe⟩ : ∃ p, l.getD i e0 = p := ⟨_, rfl⟩
    rw [hpe] at PC hpl
    obtain ⟨b2, o2, eA, p0, p1, p2, p3⟩ := PC.out
    cases eA
    simp only at p0 p1 p2 p3
    have HPB := Lib.hid (show prevB (l.take (i + 1)) ⟨xs, xt, xk, xv⟩ = stepB ⟨ps, pt, pk, pv⟩ ⟨xs, xt, xk, xv⟩ by unfold prevB; rw [hpl])
    have HBAD := fun (h : stepB ⟨ps, pt, pk, pv⟩ ⟨xs, xt, xk, xv⟩ = false) => (show r = false by rw [← HRR.out]; unfold goodB; rw [HPB.out, h]; simp)
    have u0 : decide ((0 : Int) < (i : Int) + 1) = true := decide_eq_true (by omega)
    have w1 : IntKind.i64.wrap ((i : Int) + 1 - 1) = i := by rw [IntWalk.i64_in _ (by omega)]; omega
    have i2 : (i : Int) + 1 < n := by omega
    have i3 : (i : Int) < n := by omega
    clear hpe PC hpl hprev hat hR HRR hil2 i1
    by_cases g1 : xs ≤ ps
    · have t1 := decide_eq_true g1
      by_cases g2 : xs < ps
      · have t2 := decide_eq_true g2
        have HV := Lib.hid (HBAD (by simp [stepB]; omega))
        clear HBAD HGS HPB g1 g2
        go_enter Try.func34, Try.ntmps34
        go_wp2
        go_quiet (fail)
        go_wp2
        go_ret
        exact ⟨by rw [HV.out]; first | done | rfl, bel_alloc (bel_drawN B0.out _) _⟩
      have t2 := decide_eq_false g2
      by_cases g3 : pk = 3
      · have t3 : (pk != 3) = false := by simpa using g3
        by_cases g4 : xk = 4
        · have t4 : (xk != 4) = false := by simpa using g4
          by_cases g5 : xt = pt
          · have t5 : (xt != pt) = false := by simpa using g5
            have HGS := HGS (by rw [HPB.out]; simp [stepB]; omega)
            clear HBAD HPB g1 g2 g3 g4 g5
            go_enter Try.func34, Try.ntmps34
            go_wp2
            go_quiet (fail)
            go_wp2
            have BX := BX0
            have BW := B0
            clear t1 t2 t3 t4 t5 p0 p1 p2 p3
            go_loopw [7, 8, 9] (fun a b q wy => ∃ j : Nat, j ≤ (i + 1) ∧ q = .int .i64 j ∧ a = .int .u8 (lastE xt (l.take j)).1 ∧ b = .int .u64 (lastE xt (l.take j)).2 ∧ Bk wy w.heap.size ⟨xs, xt, xk, xv⟩ ∧ Below w.heap.size w wy) (fun a b q _ => (i + 1) - (intOf q).toNat)
            case atStart => exact ⟨0, Nat.zero_le _, rfl, rfl, rfl, Bk.alloc (W := (w.alloc _).drewN _) BX.out _, bel_alloc (bel_drawN BW.out _) _⟩
            case round =>
              obtain ⟨j, hj, rfl, rfl, rfl, bk, bel⟩ := hrel
              obtain ⟨wq, rfl⟩ : ∃ wq : World, wq = wr := ⟨_, rfl⟩
              clear BX BW
              obtain ⟨x0, x1, x2, x3⟩ := bk.c
              by_cases hlt : j < (i + 1)
              · have d0 : decide ((j : Int) < ((i : Int) + 1)) = true := decide_eq_true (by omega)
                have hjl : j < l.length := by have := HL.out; omega
                obtain ⟨b, o, eA, c0, c1, c2, c3⟩ := KE.at_ (HR.out.below bel) hjl
                cases eA
                have HN := Lib.hid (show lastE xt (l.take (j + 1)) = if (l.getD j e0).t = xt then ((l.getD j e0).k, (l.getD j e0).v) else lastE xt (l.take j) by rw [take_get (d := e0) hjl, lastE_snoc])
                generalize l.getD j e0 = y at *
                obtain ⟨ys, yt, yk, yv⟩ := y
                simp only at c0 c1 c2 c3 HN
                have j1 : (j : Int) < n := by omega
                have j2 : (j : Int) < ((i : Int) + 1) := by omega
                clear x0 x2 x3
                by_cases ht : yt = xt
                · have t0 : (yt == xt) = true := by simpa using ht
                  have HM := Lib.hid (show lastE xt (l.take (j + 1)) = (yk, yv) by rw [HN.out, if_pos ht])
                  clear ht HN
                  go_wp2
                  go_quiet (fail)
                  go_wp2
                  go_quiet (fail)
                  go_wp2
                  go_roundw
                  case rel => exact ⟨j + 1, by omega, by go_num, by rw [HM.out], by rw [HM.out], bk, bel_drawN bel _⟩
                  case measure => simp [intOf]; omega
                · have t0 : (yt == xt) = false := by simpa using ht
                  have HM := Lib.hid (show lastE xt (l.take (j + 1)) = lastE xt (l.take j) by rw [HN.out, if_neg ht])
                  clear ht HN
                  go_wp2
                  go_quiet (fail)
                  go_wp2
                  go_roundw
                  case rel => exact ⟨j + 1, by omega, by go_num, by rw [HM.out], by rw [HM.out], bk, bel_drawN bel _⟩
                  case measure => simp [intOf]; omega
              · obtain rfl : j = (i + 1) := by omega
                have d0 : decide (((i : Int) + 1) < ((i : Int) + 1)) = false := by simp
                have HRS := HGS
                obtain ⟨⟨ik, iv⟩, hik⟩ : ∃ q, lastE xt (l.take (i + 1)) = q := ⟨_, rfl⟩
                rw [hik] at HRS
                simp only [hik]
                clear hik HGS
                by_cases h1 : xk = 1
                · have u1 : (xk == 1) = true := by simpa using h1
                  have HAL := Lib.hid (allow1 (ik := ik) (iv := iv) (x := ⟨xs, xt, xk, xv⟩) h1)
                  by_cases g1 : ik = 1
                  · have q1 : (ik != 1) = false := by simpa using g1
                    have HV := Lib.hid (show r = false by rw [← HRS.out, HAL.out]; simp [g1])
                    clear HAL g1
                    go_wp2
                    go_ret
                    exact ⟨by rw [HV.out]; first | done | rfl, bel⟩
                  · have q1 : (ik != 1) = true := by simpa using g1
                    by_cases g3 : ik = 3
                    · have q3 : (ik != 3) = false := by simpa using g3
                      have HV := Lib.hid (show r = false by rw [← HRS.out, HAL.out]; simp [g3])
                      clear HAL g3
                      go_wp2
                      go_ret
                      exact ⟨by rw [HV.out]; first | done | rfl, bel⟩
                    · have q3 : (ik != 3) = true := by simpa using g3
                      by_cases g5 : xv < 64
                      · have q5 := decide_eq_true g5
                        have HV := Lib.hid (show r = true by rw [← HRS.out, HAL.out]; simp [g1, g3, g5])
                        clear HAL g1 g3 g5
                        go_wp2
                        go_ret
                        exact ⟨by rw [HV.out]; first | done | rfl, bel⟩
                      · have q5 := decide_eq_false g5
                        have HV := Lib.hid (show r = false by rw [← HRS.out, HAL.out]; simp [g5])
                        clear HAL g5
                        go_wp2
                        go_ret
                        exact ⟨by rw [HV.out]; first | done | rfl, bel⟩
                · have u1 : (xk == 1) = false := by simpa using h1
                  by_cases h2 : xk = 2
                  · have u2 : (xk == 2) = true := by simpa using h2
                    have HAL := Lib.hid (allow2 (ik := ik) (iv := iv) (x := ⟨xs, xt, xk, xv⟩) h2)
                    by_cases g1 : ik = 1
                    · have q1 : (ik == 1) = true := by simpa using g1
                      by_cases g5 : xv = iv
                      · have q5 : (xv == iv) = true := by simpa using g5
                        have HV := Lib.hid (show r = true by rw [← HRS.out, HAL.out]; simp [g1, g5])
                        clear HAL g1 g5
                        go_wp2
                        go_ret
                        exact ⟨by rw [HV.out]; first | done | rfl, bel⟩
                      · have q5 : (xv == iv) = false := by simpa using g5
                        have HV := Lib.hid (show r = false by rw [← HRS.out, HAL.out]; simp [g5])
                        clear HAL g5
                        go_wp2
                        go_ret
                        exact ⟨by rw [HV.out]; first | done | rfl, bel⟩
                    · have q1 : (ik == 1) = false := by simpa using g1
                      have HV := Lib.hid (show r = false by rw [← HRS.out, HAL.out]; simp [g1])
                      clear HAL g1
                      go_wp2
                      go_ret
                      exact ⟨by rw [HV.out]; first | done | rfl, bel⟩
                  · have u2 : (xk == 2) = false := by simpa using h2
                    by_cases h3 : xk = 3
                    · have u3 : (xk == 3) = true := by simpa using h3
                      have HAL := Lib.hid (allow3 (ik := ik) (iv := iv) (x := ⟨xs, xt, xk, xv⟩) h3)
                      by_cases g1 : ik = 1
                      · have q1 : (ik != 1) = false := by simpa using g1
                        have HV := Lib.hid (show r = false by rw [← HRS.out, HAL.out]; simp [g1])
                        clear HAL g1
                        go_wp2
                        go_ret
                        exact ⟨by rw [HV.out]; first | done | rfl, bel⟩
                      · have q1 : (ik != 1) = true := by simpa using g1
                        by_cases g3 : ik = 3
                        · have q3 : (ik != 3) = false := by simpa using g3
                          have HV := Lib.hid (show r = false by rw [← HRS.out, HAL.out]; simp [g3])
                          clear HAL g3
                          go_wp2
                          go_ret
                          exact ⟨by rw [HV.out]; first | done | rfl, bel⟩
                        · have q3 : (ik != 3) = true := by simpa using g3
                          by_cases g5 : xv = 0
                          · have q5 : (xv != 0) = false := by simpa using g5
                            have HV := Lib.hid (show r = false by rw [← HRS.out, HAL.out]; simp [g5])
                            clear HAL g5
                            go_wp2
                            go_ret
                            exact ⟨by rw [HV.out]; first | done | rfl, bel⟩
                          · have q5 : (xv != 0) = true := by simpa using g5
                            have HV := Lib.hid (show r = true by rw [← HRS.out, HAL.out]; simp [g1, g3, g5])
                            clear HAL g1 g3 g5
                            go_wp2
                            go_ret
                            exact ⟨by rw [HV.out]; first | done | rfl, bel⟩
                    · have u3 : (xk == 3) = false := by simpa using h3
                      have HAL := Lib.hid (allow4 (ik := ik) (iv := iv) (x := ⟨xs, xt, xk, xv⟩) h1 h2 h3)
                      by_cases g1 : ik = 3
                      · have q1 : (ik == 3) = true := by simpa using g1
                        by_cases g5 : xv = iv
                        · have q5 : (xv == iv) = true := by simpa using g5
                          have HV := Lib.hid (show r = true by rw [← HRS.out, HAL.out]; simp [g1, g5])
                          clear HAL g1 g5
                          go_wp2
                          go_ret
                          exact ⟨by rw [HV.out]; first | done | rfl, bel⟩
                        · have q5 : (xv == iv) = false := by simpa using g5
                          have HV := Lib.hid (show r = false by rw [← HRS.out, HAL.out]; simp [g5])
                          clear HAL g5
                          go_wp2
                          go_ret
                          exact ⟨by rw [HV.out]; first | done | rfl, bel⟩
                      · have q1 : (ik == 3) = false := by simpa using g1
                        have HV := Lib.hid (show r = false by rw [← HRS.out, HAL.out]; simp [g1])
                        clear HAL g1
                        go_wp2
                        go_ret
                        exact ⟨by rw [HV.out]; first | done | rfl, bel⟩
          · have t5 : (xt != pt) = true := by simpa using g5
            have HV := Lib.hid (HBAD (by simp [stepB]; omega))
            clear HBAD HGS HPB g1 g2 g3 g4 g5
            go_enter Try.func34, Try.ntmps34
            go_wp2
            go_quiet (fail)
            go_wp2
            go_ret
            exact ⟨by rw [HV.out]; first | done | rfl, bel_alloc (bel_drawN B0.out _) _⟩
        · have t4 : (xk != 4) = true := by simpa using g4
          have HV := Lib.hid (HBAD (by simp [stepB]; omega))
          clear HBAD HGS HPB g1 g2 g3 g4
          go_enter Try.func34, Try.ntmps34
          go_wp2
          go_quiet (fail)
          go_wp2
          go_ret
          exact ⟨by rw [HV.out]; first | done | rfl, bel_alloc (bel_drawN B0.out _) _⟩
      · have t3 : (pk != 3) = true := by simpa using g3
        have HV := Lib.hid (HBAD (by simp [stepB]; omega))
        clear HBAD HGS HPB g1 g2 g3
        go_enter Try.func34, Try.ntmps34
        go_wp2
        go_quiet (fail)
        go_wp2
        go_ret
        exact ⟨by rw [HV.out]; first | done | rfl, bel_alloc (bel_drawN B0.out _) _⟩
    · have t1 := decide_eq_false g1
      have HGS := HGS (by rw [HPB.out]; simp [stepB]; omega)
      clear HBAD HPB g1
      go_enter Try.func34, Try.ntmps34
      go_wp2
      go_quiet (fail)
      go_wp2
      have BX := BX0
      have BW := B0
      clear t1 p0 p1 p2 p3
      go_loopw [7, 8, 9] (fun a b q wy => ∃ j : Nat, j ≤ (i + 1) ∧ q = .int .i64 j ∧ a = .int .u8 (lastE xt (l.take j)).1 ∧ b = .int .u64 (lastE xt (l.take j)).2 ∧ Bk wy w.heap.size ⟨xs, xt, xk, xv⟩ ∧ Below w.heap.size w wy) (fun a b q _ => (i + 1) - (intOf q).toNat)
      case atStart => exact ⟨0, Nat.zero_le _, rfl, rfl, rfl, BX.out, bel_drawN BW.out _⟩
      case round =>
        obtain ⟨j, hj, rfl, rfl, rfl, bk, bel⟩ := hrel
        obtain ⟨wq, rfl⟩ : ∃ wq : World, wq = wr := ⟨_, rfl⟩
        clear BX BW
        obtain ⟨x0, x1, x2, x3⟩ := bk.c
        by_cases hlt : j < (i + 1)
        · have d0 : decide ((j : Int) < ((i : Int) + 1)) = true := decide_eq_true (by omega)
          have hjl : j < l.length := by have := HL.out; omega
          obtain ⟨b, o, eA, c0, c1, c2, c3⟩ := KE.at_ (HR.out.below bel) hjl
          cases eA
          have HN := Lib.hid (show lastE xt (l.take (j + 1)) = if (l.getD j e0).t = xt then ((l.getD j e0).k, (l.getD j e0).v) else lastE xt (l.take j) by rw [take_get (d := e0) hjl, lastE_snoc])
          generalize l.getD j e0 = y at *
          obtain ⟨ys, yt, yk, yv⟩ := y
          simp only at c0 c1 c2 c3 HN
          have j1 : (j : Int) < n := by omega
          have j2 : (j : Int) < ((i : Int) + 1) := by omega
          clear x0 x2 x3
          by_cases ht : yt = xt
          · have t0 : (yt == xt) = true := by simpa using ht
            have HM := Lib.hid (show lastE xt (l.take (j + 1)) = (yk, yv) by rw [HN.out, if_pos ht])
            clear ht HN
            go_wp2
            go_quiet (fail)
            go_wp2
            go_quiet (fail)
            go_wp2
            go_roundw
            case rel => exact ⟨j + 1, by omega, by go_num, by rw [HM.out], by rw [HM.out], bk, bel_drawN bel _⟩
            case measure => simp [intOf]; omega
          · have t0 : (yt == xt) = false := by simpa using ht
            have HM := Lib.hid (show lastE xt (l.take (j + 1)) = lastE xt (l.take j) by rw [HN.out, if_neg ht])
            clear ht HN
            go_wp2
            go_quiet (fail)
            go_wp2
            go_roundw
            case rel => exact ⟨j + 1, by omega, by go_num, by rw [HM.out], by rw [HM.out], bk, bel_drawN bel _⟩
            case measure => simp [intOf]; omega
        · obtain rfl : j = (i + 1) := by omega
          have d0 : decide (((i : Int) + 1) < ((i : Int) + 1)) = false := by simp
          have HRS := HGS
          obtain ⟨⟨ik, iv⟩, hik⟩ : ∃ q, lastE xt (l.take (i + 1)) = q := ⟨_, rfl⟩
          rw [hik] at HRS
          simp only [hik]
          clear hik HGS
          by_cases h1 : xk = 1
          · have u1 : (xk == 1) = true := by simpa using h1
            have HAL := Lib.hid (allow1 (ik := ik) (iv := iv) (x := ⟨xs, xt, xk, xv⟩) h1)
            by_cases g1 : ik = 1
            · have q1 : (ik != 1) = false := by simpa using g1
              have HV := Lib.hid (show r = false by rw [← HRS.out, HAL.out]; simp [g1])
              clear HAL g1
              go_wp2
              go_ret
              exact ⟨by rw [HV.out]; first | done | rfl, bel⟩
            · have q1 : (ik != 1) = true := by simpa using g1
              by_cases g3 : ik = 3
              · have q3 : (ik != 3) = false := by simpa using g3
                have HV := Lib.hid (show r = false by rw [← HRS.out, HAL.out]; simp [g3])
                clear HAL g3
                go_wp2
                go_ret
                exact ⟨by rw [HV.out]; first | done | rfl, bel⟩
              · have q3 : (ik != 3) = true := by simpa using g3
                by_cases g5 : xv < 64
                · have q5 := decide_eq_true g5
                  have HV := Lib.hid (show r = true by rw [← HRS.out, HAL.out]; simp [g1, g3, g5])
                  clear HAL g1 g3 g5
                  go_wp2
                  go_ret
                  exact ⟨by rw [HV.out]; first | done | rfl, bel⟩
                · have q5 := decide_eq_false g5
                  have HV := Lib.hid (show r = false by rw [← HRS.out, HAL.out]; simp [g5])
                  clear HAL g5
                  go_wp2
                  go_ret
                  exact ⟨by rw [HV.out]; first | done | rfl, bel⟩
          · have u1 : (xk == 1) = false := by simpa using h1
            by_cases h2 : xk = 2
            · have u2 : (xk == 2) = true := by simpa using h2
              have HAL := Lib.hid (allow2 (ik := ik) (iv := iv) (x := ⟨xs, xt, xk, xv⟩) h2)
              by_cases g1 : ik = 1
              · have q1 : (ik == 1) = true := by simpa using g1
                by_cases g5 : xv = iv
                · have q5 : (xv == iv) = true := by simpa using g5
                  have HV := Lib.hid (show r = true by rw [← HRS.out, HAL.out]; simp [g1, g5])
                  clear HAL g1 g5
                  go_wp2
                  go_ret
                  exact ⟨by rw [HV.out]; first | done | rfl, bel⟩
                · have q5 : (xv == iv) = false := by simpa using g5
                  have HV := Lib.hid (show r = false by rw [← HRS.out, HAL.out]; simp [g5])
                  clear HAL g5
                  go_wp2
                  go_ret
                  exact ⟨by rw [HV.out]; first | done | rfl, bel⟩
              · have q1 : (ik == 1) = false := by simpa using g1
                have HV := Lib.hid (show r = false by rw [← HRS.out, HAL.out]; simp [g1])
                clear HAL g1
                go_wp2
                go_ret
                exact ⟨by rw [HV.out]; first | done | rfl, bel⟩
            · have u2 : (xk == 2) = false := by simpa using h2
              by_cases h3 : xk = 3
              · have u3 : (xk == 3) = true := by simpa using h3
                have HAL := Lib.hid (allow3 (ik := ik) (iv := iv) (x := ⟨xs, xt, xk, xv⟩) h3)
                by_cases g1 : ik = 1
                · have q1 : (ik != 1) = false := by simpa using g1
                  have HV := Lib.hid (show r = false by rw [← HRS.out, HAL.out]; simp [g1])
                  clear HAL g1
                  go_wp2
                  go_ret
                  exact ⟨by rw [HV.out]; first | done | rfl, bel⟩
                · have q1 : (ik != 1) = true := by simpa using g1
                  by_cases g3 : ik = 3
                  · have q3 : (ik != 3) = false := by simpa using g3
                    have HV := Lib.hid (show r = false by rw [← HRS.out, HAL.out]; simp [g3])
                    clear HAL g3
                    go_wp2
                    go_ret
                    exact ⟨by rw [HV.out]; first | done | rfl, bel⟩
                  · have q3 : (ik != 3) = true := by simpa using g3
                    by_cases g5 : xv = 0
                    · have q5 : (xv != 0) = false := by simpa using g5
                      have HV := Lib.hid (show r = false by rw [← HRS.out, HAL.out]; simp [g5])
                      clear HAL g5
                      go_wp2
                      go_ret
                      exact ⟨by rw [HV.out]; first | done | rfl, bel⟩
                    · have q5 : (xv != 0) = true := by simpa using g5
                      have HV := Lib.hid (show r = true by rw [← HRS.out, HAL.out]; simp [g1, g3, g5])
                      clear HAL g1 g3 g5
                      go_wp2
                      go_ret
                      exact ⟨by rw [HV.out]; first | done | rfl, bel⟩
              · have u3 : (xk == 3) = false := by simpa using h3
                have HAL := Lib.hid (allow4 (ik := ik) (iv := iv) (x := ⟨xs, xt, xk, xv⟩) h1 h2 h3)
                by_cases g1 : ik = 3
                · have q1 : (ik == 3) = true := by simpa using g1
                  by_cases g5 : xv = iv
                  · have q5 : (xv == iv) = true := by simpa using g5
                    have HV := Lib.hid (show r = true by rw [← HRS.out, HAL.out]; simp [g1, g5])
                    clear HAL g1 g5
                    go_wp2
                    go_ret
                    exact ⟨by rw [HV.out]; first | done | rfl, bel⟩
                  · have q5 : (xv == iv) = false := by simpa using g5
                    have HV := Lib.hid (show r = false by rw [← HRS.out, HAL.out]; simp [g5])
                    clear HAL g5
                    go_wp2
                    go_ret
                    exact ⟨by rw [HV.out]; first | done | rfl, bel⟩
                · have q1 : (ik == 3) = false := by simpa using g1
                  have HV := Lib.hid (show r = false by rw [← HRS.out, HAL.out]; simp [g1])
                  clear HAL g1
                  go_wp2
                  go_ret
                  exact ⟨by rw [HV.out]; first | done | rfl, bel⟩
end Ev
end Go.Proofs.Ytbnchajkfceaoaa
