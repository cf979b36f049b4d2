/- '==' of two pairs, and Same of leapfrogref05 (the part of stage 5's XOmW that stage 7 needs): contracts of the translated code. Conditions: at most 5000 pairs. -/
import Derived.Test.YtbndgbjenmknmaaDoorOmP
import Derived.Laws.StructEq
namespace Go.Proofs.YtbndgbjenmknmaaDoor
open Go.RowKit Go.Sort
set_option linter.unusedVariables false
set_option linter.unusedSimpArgs false
namespace Om
theorem ext_pairs {l r : List Pr} {n : Nat} (hl : l.length = n) (hr : r.length = n) (h : ∀ t : Nat, t < n → l[t]? = r[t]?) : l = r := by
  refine List.ext_getElem? fun t => ?_
  by_cases ht : t < n
  · exact h t ht
  · rw [List.getElem?_eq_none (by omega), List.getElem?_eq_none (by omega)]
/-- '==' of two pairs -/
theorem eqP (a b c d : Int) (w : World) : (Op.equalIn 10000 39 (.agg #[.int .u64 a, .int .u64 b]) (.agg #[.int .u64 c, .int .u64 d])).run Tryd.prog w = .ok (a == c && b == d) w := by
  have u3 := Tryd.underlying22
  have a3 := Tryd.isAgg22
  have z3 := Tryd.sizeOf22
  have hS : Tryd.prog.underlying 39 = some (.struct (Tryd.prog.fieldsOf 39)) := by kernel_rfl
  have hp : Tryd.prog.stoodInHeld 39 = false := by kernel_rfl
  rw [show (10000 : Nat) = 9999 + 1 from rfl, run_equalIn_agg w 9999 39 _ _ hS hp]
  simp only [Program.fieldsOf, Tryd.underlying39]
  go_simp
  by_cases h1 : a = c <;> by_cases h2 : b = d <;> simp [h1, h2]
theorem guardP : Tryd.prog.eqGuardType Tryd.prog.depth 39 = false := by kernel_rfl
attribute [go_sem] eqP guardP
theorem sameR_any (A B : Option Addr) (m c q d : Nat) (l r : List Pr) (w : World) (hm : l.length = m) (hq : r.length = q) (hx : m ≤ 5000) (hy : q ≤ 5000) (hl : Rd w A l) (hr : Rd w B r) :
    Calls Tryd.prog 16 #[.slice A m c, .slice B q d] w fun e w' => e = .returned (.bool (decide (l = r))) ∧ Below w.heap.size w w' := by
  have HL := Lib.hid hl; clear hl
  have HR := Lib.hid hr; clear hr
  have HM := Lib.hid hm; clear hm
  have HQ := Lib.hid hq; clear hq
  by_cases hmq : m = q
  · subst hmq
    have t0 : ((m : Int) != m) = false := by simp
    go_enter Tryd.func16, Tryd.ntmps16
    go_wp2
    go_loopw [5] (fun i wr => ∃ j : Nat, j ≤ m ∧ i = .int .i64 j ∧ (∀ t : Nat, t < j → l[t]? = r[t]?) ∧ Below w.heap.size w wr) (fun i _ => (m - intOf i).toNat)
    case atStart => exact ⟨0, Nat.zero_le _, rfl, fun t h => absurd h (Nat.not_lt_zero _), Below.refl _ _⟩
    case round =>
      obtain ⟨j, hj, rfl, hE, bel⟩ := hrel
      have HE := Lib.hid hE; clear hE
      by_cases hlt : j < m
      · obtain ⟨x, hx, _⟩ := getElem?_lt HM.out hlt
        obtain ⟨y, hy, _⟩ := getElem?_lt HQ.out hlt
        obtain ⟨b, o, rfl, g0, g1⟩ := (HL.out.below bel) j x hx
        obtain ⟨b', o', rfl, g2, g3⟩ := (HR.out.below bel) j y hy
        have t1 : decide ((j : Int) < m) = true := by simp; omega
        have hji : (j : Int) < m := by omega
        by_cases hxy : x = y
        · subst hxy
          have HN := Lib.hid (show ∀ t : Nat, t < j + 1 → l[t]? = r[t]? from fun t ht => by
            by_cases h : t < j
            · exact HE.out t h
            · obtain rfl : t = j := by omega
              rw [hx, hy])
          clear hx hy
          go_wp2
          go_quiet (fail)
          go_wp2
          go_roundw
          case rel => exact ⟨j + 1, by omega, by go_num, HN.out, below_drewN bel _⟩
          case measure => simp [intOf]; omega
        · have HN := Lib.hid (show ¬ l = r from fun h => hxy (by rw [h, hy] at hx; exact (Option.some.inj hx).symm))
          by_cases h1 : x.1 = y.1
          · have t2 : (x.1 == y.1) = true := by simp [h1]
            have t3 : (x.2 == y.2) = false := by
              simp only [beq_eq_false_iff_ne, ne_eq]
              exact fun h2 => hxy (Prod.ext h1 h2)
            clear hx hy hxy h1
            go_wp2
            go_quiet (fail)
            go_wp2
            go_ret
            exact ⟨ret_eq (congrArg Value.bool (decide_eq_false HN.out).symm), below_drewN bel _⟩
          · have t2 : (x.1 == y.1) = false := by simp [h1]
            clear hx hy hxy h1
            go_wp2
            go_quiet (fail)
            go_wp2
            go_ret
            exact ⟨ret_eq (congrArg Value.bool (decide_eq_false HN.out).symm), below_drewN bel _⟩
      · obtain rfl : j = m := by omega
        have HN := Lib.hid (show l = r from ext_pairs HM.out HQ.out HE.out)
        have t1 : decide ((j : Int) < j) = false := by simp
        go_wp2
        go_ret
        exact ⟨ret_eq (congrArg Value.bool (decide_eq_true HN.out).symm), bel⟩
  · have HN := Lib.hid (show ¬ l = r from fun h => hmq (by rw [← HM.out, ← HQ.out, h]))
    have t0 : ((m : Int) != q) = true := by simp; omega
    go_enter Tryd.func16, Tryd.ntmps16
    go_wp2
    go_ret
    exact ⟨ret_eq (congrArg Value.bool (decide_eq_false HN.out).symm), Below.refl _ _⟩
end Om
end Go.Proofs.YtbndgbjenmknmaaDoor
