/- EqualUints, EqualAccesses, within of leapfrogkit and leapfroglaw08: contracts of the translated code. No conditions beside those of each lemma. -/
import Derived.Test.YtjocbmoelkobaaaWdP
namespace Go.Proofs.Ytjocbmoelkobaaa
open Go.RowKit Go.Sort
set_option linter.unusedVariables false
set_option linter.unusedSimpArgs false
namespace Wd
open Dm (addr_lit info_parts spot_none RdK flatU infoU bel_alloc bel_trans own_keep below_drewN ret_eq)
theorem ext_ac {l m : List Ac} {n : Nat} (hl : l.length = n) (hm : m.length = n) (h : ∀ t, t < n → l[t]? = m[t]?) : l = m := by
  apply List.ext_getElem?
  intro i
  by_cases hi : i < n
  · exact h i hi
  · rw [List.getElem?_eq_none (by omega), List.getElem?_eq_none (by omega)]
/-- '==' of two accesses -/
theorem eqA (x y : Ac) (w : World) : (Op.equalIn 10000 88 (.agg #[.int .i64 x.t, .int .i64 x.a, .int .u8 x.k, .int .u64 x.o, .int .u64 x.n, .bool x.s]) (.agg #[.int .i64 y.t, .int .i64 y.a, .int .u8 y.k, .int .u64 y.o, .int .u64 y.n, .bool y.s])).run Try.prog w = .ok (decide (x = y)) w := by
  have u3 := Try.underlying55
  have a3 := Try.isAgg55
  have z3 := Try.sizeOf55
  have u4 := Try.underlying4
  have a4 := Try.isAgg4
  have z4 := Try.sizeOf4
  have u5 := Try.underlying5
  have a5 := Try.isAgg5
  have z5 := Try.sizeOf5
  have u6 := Try.underlying3
  have a6 := Try.isAgg3
  have z6 := Try.sizeOf3
  have hS : Try.prog.underlying 88 = some (.struct (Try.prog.fieldsOf 88)) := by kernel_rfl
  have hp : Try.prog.stoodInHeld 88 = false := by kernel_rfl
  rw [show (10000 : Nat) = 9999 + 1 from rfl, run_equalIn_agg w 9999 88 _ _ hS hp]
  simp only [Program.fieldsOf, Try.underlying88]
  go_simp
  obtain ⟨t, a, k, o, n, s⟩ := x
  obtain ⟨t', a', k', o', n', s'⟩ := y
  simp only [Ac.mk.injEq]
  by_cases h1 : t = t' <;> by_cases h2 : a = a' <;> by_cases h3 : k = k' <;> by_cases h4 : o = o' <;> by_cases h5 : n = n' <;> by_cases h6 : s = s' <;> simp [h1, h2, h3, h4, h5, h6]
theorem guardA : Try.prog.eqGuardType Try.prog.depth 88 = false := by kernel_rfl
attribute [go_sem] guardA
set_option maxRecDepth 100000 in
set_option maxHeartbeats 1000000 in
theorem eqa_any (A B : Option Addr) (m c q d : Nat) (l r : List Ac) (w : World) (hm : l.length = m) (hq : r.length = q) (hx : m ≤ 100000) (hy : q ≤ 100000) (hl : RdA w A l) (hr : RdA w B r) :
    Calls Try.prog 20 #[.slice A m c, .slice B q d] w fun e w' => e = .returned (.bool (decide (l = r))) ∧ Below w.heap.size w w' := by
  have HL := Lib.hid hl; clear hl
  have HR := Lib.hid hr; clear hr
  have HM := Lib.hid hm; clear hm
  have HQ := Lib.hid hq; clear hq
  by_cases hmq : m = q
  · subst hmq
    have t0 : ((m : Int) != m) = false := by simp
    go_enter Try.func20, Try.ntmps20
    go_wp2
    go_loopw [5] (fun i wr => ∃ j : Nat, j ≤ m ∧ i = .int .i64 j ∧ (∀ t : Nat, t < j → l[t]? = r[t]?) ∧ Below w.heap.size w wr) (fun i _ => (m - intOf i).toNat)
    case atStart => exact ⟨0, Nat.zero_le _, rfl, fun t h => absurd h (Nat.not_lt_zero _), Below.refl _ _⟩
    case round =>
      obtain ⟨j, hj, rfl, hE, bel⟩ := hrel
      have HE := Lib.hid hE; clear hE
      by_cases hlt : j < m
      · obtain ⟨x, hx⟩ := ac_get (show j < l.length by rw [HM.out]; exact hlt)
        obtain ⟨y, hy⟩ := ac_get (show j < r.length by rw [HQ.out]; exact hlt)
        obtain ⟨b, o, rfl, g0, g1, g2, g3, g4, g5⟩ := (HL.out.below bel) j x hx
        obtain ⟨b', o', rfl, k0, k1, k2, k3, k4, k5⟩ := (HR.out.below bel) j y hy
        have t1 : decide ((j : Int) < m) = true := by simp; omega
        have hji : (j : Int) < m := by omega
        have ER := fun W => eqA x y W
        by_cases hxy : x = y
        · have HN := Lib.hid (show ∀ t : Nat, t < j + 1 → l[t]? = r[t]? from fun t ht => by
            by_cases h : t < j
            · exact HE.out t h
            · obtain rfl : t = j := by omega
              rw [hx, hy, hxy])
          rw [decide_eq_true hxy] at ER
          clear hx hy hxy
          go_wp2
          go_quiet (fail)
          go_wp2
          go_roundw
          case rel => exact ⟨j + 1, by omega, by go_num, HN.out, below_drewN bel _⟩
          case measure => simp [intOf]; omega
        · have HN := Lib.hid (show ¬ l = r from fun h => hxy (by rw [h, hy] at hx; exact (Option.some.inj hx).symm))
          rw [decide_eq_false hxy] at ER
          clear hx hy hxy
          go_wp2
          go_quiet (fail)
          go_wp2
          go_ret
          exact ⟨ret_eq (congrArg Value.bool (decide_eq_false HN.out).symm), below_drewN bel _⟩
      · obtain rfl : j = m := by omega
        have HN := Lib.hid (show l = r from ext_ac HM.out HQ.out HE.out)
        have t1 : decide ((j : Int) < j) = false := by simp
        go_wp2
        go_ret
        exact ⟨ret_eq (congrArg Value.bool (decide_eq_true HN.out).symm), bel⟩
  · have HN := Lib.hid (show ¬ l = r from fun h => hmq (by rw [← HM.out, ← HQ.out, h]))
    have t0 : ((m : Int) != q) = true := by simp; omega
    go_enter Try.func20, Try.ntmps20
    go_wp2
    go_ret
    exact ⟨ret_eq (congrArg Value.bool (decide_eq_false HN.out).symm), Below.refl _ _⟩
theorem mod_val (i : Int) (n : Nat) (h0 : 0 < n) (h1 : n ≤ 65536) : (wrap64 (i.tmod (n : Int) + (n : Int))).tmod (n : Int) = i % (n : Int) := by
  have b1 := Int.tmod_lt_of_pos i (show (0 : Int) < n by omega)
  have b2 : -(n : Int) < i.tmod n := by
    have := Int.tmod_lt_of_pos (-i) (show (0 : Int) < n by omega)
    rw [Int.neg_tmod] at this
    omega
  rw [IntWalk.wrap64_in _ (by omega), Int.tmod_eq_emod_of_nonneg (by omega), Int.tmod_def, show i - (n : Int) * i.tdiv n + n = i + (n : Int) * (1 - i.tdiv n) by rw [Int.mul_sub, Int.mul_one]; omega, Int.add_mul_emod_self_left]
end Wd
end Go.Proofs.Ytjocbmoelkobaaa
