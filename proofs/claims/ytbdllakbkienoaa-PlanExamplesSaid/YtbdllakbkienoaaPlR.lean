/- Ascending, Check, keys, find, Same and merged of leapfrogref06: contracts of the translated code. Conditions: at most 5000 elements. -/
import Derived.Test.YtbdllakbkienoaaPlU
import Derived.Laws.StructEq
namespace Go.Proofs.Ytbdllakbkienoaa
open Go.RowKit Go.Sort
set_option linter.unusedVariables false
set_option linter.unusedSimpArgs false
namespace Pl
open Om (addr_lit bel_alloc bel_trans below_drewN ret_eq)
theorem ext_rc {l r : List Rc} {n : Nat} (hl : l.length = n) (hr : r.length = n) (h : ∀ t : Nat, t < n → l[t]? = r[t]?) : l = r := by
  refine List.ext_getElem? fun t => ?_
  by_cases ht : t < n
  · exact h t ht
  · rw [List.getElem?_eq_none (by omega), List.getElem?_eq_none (by omega)]
/-- '==' of two changes -/
theorem eqR (x y : Rc) (w : World) : (Op.equalIn 10000 45 (.agg #[.int .u64 x.k, .bool x.w, .int .u64 x.o, .bool x.i, .int .u64 x.n]) (.agg #[.int .u64 y.k, .bool y.w, .int .u64 y.o, .bool y.i, .int .u64 y.n])).run Try.prog w = .ok (decide (x = y)) w := by
  have u3 := Try.underlying23
  have a3 := Try.isAgg23
  have z3 := Try.sizeOf23
  have u4 := Try.underlying4
  have a4 := Try.isAgg4
  have z4 := Try.sizeOf4
  have hS : Try.prog.underlying 45 = some (.struct (Try.prog.fieldsOf 45)) := by kernel_rfl
  have hp : Try.prog.stoodInHeld 45 = false := by kernel_rfl
  rw [show (10000 : Nat) = 9999 + 1 from rfl, run_equalIn_agg w 9999 45 _ _ hS hp]
  simp only [Program.fieldsOf, Try.underlying45]
  go_simp
  obtain ⟨k, b, o, i, n⟩ := x
  obtain ⟨k', b', o', i', n'⟩ := y
  simp only [Rc.mk.injEq]
  by_cases h1 : k = k' <;> by_cases h2 : b = b' <;> by_cases h3 : o = o' <;> by_cases h4 : i = i' <;> by_cases h5 : n = n' <;> simp [h1, h2, h3, h4, h5]
theorem guardR : Try.prog.eqGuardType Try.prog.depth 45 = false := by kernel_rfl
attribute [local go_sem] guardR
theorem sameR_any (A B : Option Addr) (m c q d : Nat) (l r : List Rc) (w : World) (hm : l.length = m) (hq : r.length = q) (hx : m ≤ 5000) (hy : q ≤ 5000) (hl : Rd w A l) (hr : Rd w B r) :
    Calls Try.prog 16 #[.slice A m c, .slice B q d] w fun e w' => e = .returned (.bool (decide (l = r))) ∧ Below w.heap.size w w' := by
  have HL := Lib.hid hl; clear hl
  have HR := Lib.hid hr; clear hr
  have HM := Lib.hid hm; clear hm
  have HQ := Lib.hid hq; clear hq
  by_cases hmq : m = q
  · subst hmq
    have t0 : ((m : Int) != m) = false := by simp
    go_enter Try.func16, Try.ntmps16
    go_wp2
    go_loopw [5] (fun i wr => ∃ j : Nat, j ≤ m ∧ i = .int .i64 j ∧ (∀ t : Nat, t < j → l[t]? = r[t]?) ∧ Below w.heap.size w wr) (fun i _ => (m - intOf i).toNat)
    case atStart => exact ⟨0, Nat.zero_le _, rfl, fun t h => absurd h (Nat.not_lt_zero _), Below.refl _ _⟩
    case round =>
      obtain ⟨j, hj, rfl, hE, bel⟩ := hrel
      have HE := Lib.hid hE; clear hE
      by_cases hlt : j < m
      · obtain ⟨x, hx, _⟩ := getElem?_lt HM.out hlt
        obtain ⟨y, hy, _⟩ := getElem?_lt HQ.out hlt
        obtain ⟨b, o, rfl, g0, g1, g2, g3, g4⟩ := (HL.out.below bel) j x hx
        obtain ⟨b', o', rfl, k0, k1, k2, k3, k4⟩ := (HR.out.below bel) j y hy
        have t1 : decide ((j : Int) < m) = true := by simp; omega
        have hji : (j : Int) < m := by omega
        have ER := fun W => eqR x y W
        by_cases hxy : x = y
        · have HN := Lib.hid (show ∀ t : Nat, t < j + 1 → l[t]? = r[t]? from fun t ht => by
            by_cases h : t < j
            · exact HE.out t h
            · obtain rfl : t = j := by omega
              rw [hx, hy, hxy])
          rw [decide_eq_true hxy] at ER
          clear hx hy hxy
          go_wp2
          go_quiet (fail)
          go_wp2
          go_roundw
          case rel => exact ⟨j + 1, by omega, by go_num, HN.out, below_drewN bel _⟩
          case measure => simp [intOf]; omega
        · have HN := Lib.hid (show ¬ l = r from fun h => hxy (by rw [h, hy] at hx; exact (Option.some.inj hx).symm))
          rw [decide_eq_false hxy] at ER
          clear hx hy hxy
          go_wp2
          go_quiet (fail)
          go_wp2
          go_ret
          exact ⟨ret_eq (congrArg Value.bool (decide_eq_false HN.out).symm), below_drewN bel _⟩
      · obtain rfl : j = m := by omega
        have HN := Lib.hid (show l = r from ext_rc HM.out HQ.out HE.out)
        have t1 : decide ((j : Int) < j) = false := by simp
        go_wp2
        go_ret
        exact ⟨ret_eq (congrArg Value.bool (decide_eq_true HN.out).symm), bel⟩
  · have HN := Lib.hid (show ¬ l = r from fun h => hmq (by rw [← HM.out, ← HQ.out, h]))
    have t0 : ((m : Int) != q) = true := by simp; omega
    go_enter Try.func16, Try.ntmps16
    go_wp2
    go_ret
    exact ⟨ret_eq (congrArg Value.bool (decide_eq_false HN.out).symm), Below.refl _ _⟩
end Pl
end Go.Proofs.Ytbdllakbkienoaa
