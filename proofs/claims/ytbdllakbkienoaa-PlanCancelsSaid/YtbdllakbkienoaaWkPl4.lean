/- PlanCancels: the walk. Conditions: those of the given row. -/
import Derived.Test.YtbdllakbkienoaaPlX
import Derived.Test.YtbdllakbkienoaaPlLw
import Derived.Test.YtbdllakbkienoaaPdL
namespace Go.Proofs.Ytbdllakbkienoaa
open Go.RowKit Go.Sort
set_option linter.unusedVariables false
set_option linter.unusedSimpArgs false
namespace Wk
open Pl
open Om (addr_lit bel_alloc bel_trans below_drewN ret_eq Asc)
attribute [local go_sem] guardR
set_option maxRecDepth 100000 in
set_option maxHeartbeats 4000000 in
theorem walk_planCancels (a0 : Option Addr) (a0n a0c : Nat) (a0v : List Pl.Rc) (w : World) (a0e : a0v.length = a0n) (a0m : a0n ≤ maxLen) (a0r : Pl.Rd w a0 a0v) (a0b : Pl.Bd a0v) (a0z : a0 = none → a0c = 0) (a0s : a0n * 40 ≤ 140737488351232) (a0y : a0n ≤ a0c) :
    Calls Try.prog 10 #[.slice a0 a0n a0c] w fun e w' => e = .returned (.bool true) ∧ Below w.heap.size w w' := by
  have HR := Lib.hid a0r; have HZ := Lib.hid a0z; have HL := Lib.hid a0e
  have CI := Lib.hid (invBig a0 a0n a0c a0v w a0e (by omega) a0r)
  clear a0r a0b a0z a0e
  have hml : (a0n : Int) * 40 ≤ 140737488351232 := by omega
  by_cases hbig : 60 < a0n
  · have t0 : decide ((60 : Int) < a0n) = true := decide_eq_true (by omega)
    go_enter Try.func10, Try.ntmps10
    go_wp2_with fail
    refine CI.out.mono ?_
    rintro r W1 ⟨v, rfl, ho, b1⟩
    clear ho CI
    go_wp2_with fail
    refine (known_any _).mono ?_
    rintro r W2 ⟨rfl, b2⟩
    go_wp2
    go_ret
    exact ⟨rfl, bel_trans b1 b2⟩
  have t0 : decide ((60 : Int) < a0n) = false := decide_eq_false (by omega)
  have h60 : a0n ≤ 60 := by omega
  clear hbig
  by_cases hk : chk a0v
  · have hc := cancel hk
    rw [ckE_yes hk, ivR_yes hk] at CI
    have HC := Lib.hid hc
    clear hk hc
    go_enter Try.func10, Try.ntmps10
    go_wp2_with fail
    refine CI.out.mono ?_
    rintro r W1 ⟨v, rfl, ho, b1⟩
    obtain ⟨IA, IC, rfl, il, hic, ir, iz⟩ := row_use ho
    rw [List.length_map, HL.out] at hic
    rw [List.length_map, HL.out]
    have CT := Lib.hid (thenP a0 IA a0n a0c a0n IC a0v (a0v.map revR) W1 HL.out (by rw [List.length_map]; exact HL.out) (by omega) (by omega) hic iz (HR.out.below b1) ir)
    rw [HC.out.1, HC.out.2] at CT
    clear ho CI ir iz il
    go_wp2_with fail
    refine CT.out.mono ?_
    rintro r W2 ⟨v, rfl, ho, b2⟩
    obtain ⟨TA, TC, rfl, tl, htc, tr, tz⟩ := row_use ho
    have hq0 := cnl_len a0v
    obtain ⟨q, hq⟩ : ∃ q, (cnl a0v).length = q := ⟨_, rfl⟩
    rw [hq] at htc hq0
    rw [hq]
    rw [HL.out] at hq0
    have LQ := Lib.hid hq
    have RT := Lib.hid tr
    clear ho tr tz tl hq CT
    have q2 := bel_trans b1 b2
    go_wp2
    go_loopw [6, 7] (fun nn i wr => ∃ j m : Nat, j ≤ a0n ∧ i = .int .i64 j ∧ nn = .int .i64 m ∧ m ≤ j ∧ Hid ((cnl (a0v.take j)).length = m) ∧ Below W2.heap.size W2 wr) (fun _ i _ => (a0n - intOf i).toNat)
    case atStart => exact ⟨0, 0, Nat.zero_le _, rfl, rfl, Nat.le_refl _, Lib.hid rfl, Below.refl _ _⟩
    case round =>
      obtain ⟨j, m, hj, rfl, rfl, hm, HM, bel⟩ := hrel
      by_cases hlt : j < a0n
      · obtain ⟨x, hx, hxm⟩ := getElem?_lt HL.out hlt
        obtain ⟨b, o, rfl, g0, g1, g2, g3, g4⟩ := (HR.out.below (bel_trans q2 bel)) j x hx
        have u0 : decide ((j : Int) < a0n) = true := decide_eq_true (by omega)
        have hji : (j : Int) < a0n := by omega
        have HX := Lib.hid hx
        obtain ⟨xk, xw, xo, xi, xn⟩ := x
        simp only at g0 g1 g2 g3 g4
        clear hx hxm
        cases xw
        · have HN := Lib.hid (show (cnl (a0v.take (j + 1))).length = m by rw [cnl_take_no HX.out rfl]; exact HM.out)
          go_wp2
          go_roundw
          case rel => exact ⟨j + 1, m, by omega, by go_num, rfl, by omega, HN, bel⟩
          case measure => simp [intOf]; omega
        · have hy := cnl_take_yes HX.out rfl
          have HN := Lib.hid (show (cnl (a0v.take (j + 1))).length = m + 1 by rw [hy.1, List.length_append, HM.out]; rfl)
          have hy2 := hy.2
          rw [HM.out] at hy2
          have hmq : m < q := by have := (List.getElem?_eq_some_iff.1 hy2).1; rw [LQ.out] at this; exact this
          obtain ⟨tb, tof, rfl, k0, k1, k2, k3, k4⟩ := (RT.out.below bel) m _ hy2
          simp only at k0 k1 k2 k3 k4
          have u1 : decide ((q : Int) ≤ m) = false := decide_eq_false (by omega)
          have hmi : (m : Int) < q := by omega
          have EQ := fun W => eqR ⟨xk, true, xo, true, xo⟩ ⟨xk, true, xo, true, xo⟩ W
          simp only [decide_true] at EQ
          clear hy hy2
          go_wp2
          go_quiet (fail)
          go_wp2
          go_roundw
          case rel => exact ⟨j + 1, m + 1, by omega, by go_num, by go_num, by omega, HN, below_drewN bel _⟩
          case measure => simp [intOf]; omega
      · obtain rfl : j = a0n := by omega
        have u0 : decide ((j : Int) < j) = false := decide_eq_false (by omega)
        have hmq : m = q := by
          rw [← HM.out, ← LQ.out, List.take_of_length_le (by rw [HL.out]; omega)]
        subst hmq
        have u1 : ((m : Int) == m) = true := by simp
        go_wp2_with fail
        refine (known_any _).mono ?_
        rintro r W3 ⟨rfl, b3⟩
        go_wp2
        go_ret
        exact ⟨rfl, bel_trans q2 (bel_trans bel b3)⟩
  · rw [ckE_no hk, ivR_no hk] at CI
    clear hk
    go_enter Try.func10, Try.ntmps10
    go_wp2_with fail
    refine CI.out.mono ?_
    rintro r W1 ⟨v, rfl, ho, b1⟩
    clear ho CI
    go_wp2_with fail
    refine (known_any _).mono ?_
    rintro r W2 ⟨rfl, b2⟩
    go_wp2
    go_ret
    exact ⟨rfl, bel_trans b1 b2⟩
end Wk
end Go.Proofs.Ytbdllakbkienoaa
