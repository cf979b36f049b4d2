/- cut and Least of leapfrogref03: contracts of the translated code. Conditions: those of XDom. (tools/mk1dom.py wrote the arms of cut.) -/
import Derived.Test.YtnjgolbghcjijaaDoorDomV
import Derived.OwnWalk
namespace Go.Proofs.YtnjgolbghcjijaaDoor
open Go.RowKit Go.Sort
set_option linter.unusedVariables false
set_option linter.unusedSimpArgs false
namespace Dm
theorem lsC_zero (l : List Int) (f : Int) : lsC l ((0 : Nat) : Int) f = if ((0 : Nat) : Int) < l.length ∧ l.getD 0 0 ≤ f then none else some f := by unfold lsC; rfl
theorem lsC_high {l : List Int} {f : Int} {p : Nat} (h : f < l.getD p 0) : lsC l ((p + 1 : Nat) : Int) f = if ((p + 1 : Nat) : Int) < l.length ∧ l.getD (p + 1) 0 ≤ l.getD p 0 then none else some (l.getD p 0) := by
  unfold lsC
  simp only [Int.toNat_natCast, Nat.add_sub_cancel]
  rw [if_pos (show 0 < ((p + 1 : Nat) : Int) by omega), show max f (l.getD p 0) = l.getD p 0 by omega]
theorem lsC_low {l : List Int} {f : Int} {p : Nat} (h : ¬ f < l.getD p 0) : lsC l ((p + 1 : Nat) : Int) f = if ((p + 1 : Nat) : Int) < l.length ∧ l.getD (p + 1) 0 ≤ f then none else some f := by
  unfold lsC
  simp only [Int.toNat_natCast, Nat.add_sub_cancel]
  rw [if_pos (show 0 < ((p + 1 : Nat) : Int) by omega), show max f (l.getD p 0) = f by omega]
def lsR (o : Option Int) : Value := .tuple #[.int .u64 (o.getD 0), .bool o.isSome, .int .i64 0]
theorem cutR_any (v f : Int) (A : Option Addr) (m c : Nat) (l : List Int) (w : World) (fl : 0 ≤ f) (fh : f ≤ 18446744073709551615) (hm : l.length = m) (m63 : m ≤ 63) (vl : 0 ≤ v) (vh : v ≤ m) (hr : RdK .u64 w A l) (hd : BdU l) :
    Calls Tryd.prog 42 #[.slice A m c, .int .i64 v, .int .u64 f] w fun e w' => e = .returned (lsR (lsC l v f)) ∧ Below w.heap.size w w' := by
  have HR := Lib.hid hr; clear hr
  have HD := Lib.hid hd; clear hd
  have HM := Lib.hid hm; clear hm
  obtain ⟨p, rfl⟩ := Int.eq_ofNat_of_zero_le vl
  have hpm : p ≤ m := by omega
  have hmi : (m : Int) ≤ 63 := by omega
  clear vh vl
  rcases p with _ | p
  · skip
    by_cases hlt : 0 < m
    · obtain ⟨y0, y1⟩ := HD.out (0) (by have := HM.out; omega)
      obtain ⟨b2, o2, e2, g2⟩ := HR.out (0) (by have := HM.out; omega)
      subst e2
      rw [Nat.add_zero] at g2
      have hi : (0 : Int) < m := by omega
      by_cases hy : l.getD (0) 0 ≤ f
      · skip
        have HO := Lib.hid (show lsC l (0) f = none from (lsC_zero l f).trans (if_pos ⟨by have := HM.out; omega, hy⟩))
        generalize l.getD (0) 0 = y at y0 y1 g2 hy
        have t1 : decide (y ≤ f) = true := by simp; omega
        go_enter Tryd.func42, Tryd.ntmps42
        go_wp2
        all_goals (go_ret3; exact ⟨(congrArg (fun o => Ending.returned (lsR o)) HO.out).symm, Below.refl _ _⟩)
      · skip
        have HO := Lib.hid (show lsC l (0) f = some (f) from (lsC_zero l f).trans (if_neg fun h => hy h.2))
        generalize l.getD (0) 0 = y at y0 y1 g2 hy
        have t1 : decide (y ≤ f) = false := by simp; omega
        go_enter Tryd.func42, Tryd.ntmps42
        go_wp2
        all_goals (go_ret3; exact ⟨(congrArg (fun o => Ending.returned (lsR o)) HO.out).symm, Below.refl _ _⟩)
    · obtain rfl : 0 = m := by omega
      have HO := Lib.hid (show lsC l (0) f = some (f) from (lsC_zero l f).trans (if_neg fun h => by have := HM.out; have := h.1; omega))
      go_enter Tryd.func42, Tryd.ntmps42
      go_wp2
      all_goals (go_ret3; exact ⟨(congrArg (fun o => Ending.returned (lsR o)) HO.out).symm, Below.refl _ _⟩)
  · obtain ⟨x0, x1⟩ := HD.out p (by have := HM.out; omega)
    obtain ⟨b1, o1, rfl, g1⟩ := HR.out p (by have := HM.out; omega)
    by_cases hu : f < l.getD p 0
    · skip
      by_cases hlt : p + 1 < m
      · obtain ⟨y0, y1⟩ := HD.out (p + 1) (by have := HM.out; omega)
        obtain ⟨b2, o2, e2, g2⟩ := HR.out (p + 1) (by have := HM.out; omega)
        cases e2
        have hi : ((p : Int) + 1 : Int) < m := by omega
        by_cases hy : l.getD (p + 1) 0 ≤ l.getD p 0
        · skip
          have HO := Lib.hid (show lsC l ((p : Int) + 1) f = none from (lsC_high hu).trans (if_pos ⟨by have := HM.out; omega, hy⟩))
          generalize l.getD (p + 1) 0 = y at y0 y1 g2 hy
          generalize l.getD p 0 = u at *
          have t2 : decide (f < u) = true := by simp; omega
          have t1 : decide (y ≤ u) = true := by simp; omega
          go_enter Tryd.func42, Tryd.ntmps42
          go_wp2
          all_goals (go_ret3; exact ⟨(congrArg (fun o => Ending.returned (lsR o)) HO.out).symm, Below.refl _ _⟩)
        · skip
          have HO := Lib.hid (show lsC l ((p : Int) + 1) f = some (l.getD p 0) from (lsC_high hu).trans (if_neg fun h => hy h.2))
          generalize l.getD (p + 1) 0 = y at y0 y1 g2 hy
          generalize l.getD p 0 = u at *
          have t2 : decide (f < u) = true := by simp; omega
          have t1 : decide (y ≤ u) = false := by simp; omega
          go_enter Tryd.func42, Tryd.ntmps42
          go_wp2
          all_goals (go_ret3; exact ⟨(congrArg (fun o => Ending.returned (lsR o)) HO.out).symm, Below.refl _ _⟩)
      · obtain rfl : p + 1 = m := by omega
        have HO := Lib.hid (show lsC l ((p : Int) + 1) f = some (l.getD p 0) from (lsC_high hu).trans (if_neg fun h => by have := HM.out; have := h.1; omega))
        generalize l.getD p 0 = u at *
        have t2 : decide (f < u) = true := by simp; omega
        go_enter Tryd.func42, Tryd.ntmps42
        go_wp2
        all_goals (go_ret3; exact ⟨(congrArg (fun o => Ending.returned (lsR o)) HO.out).symm, Below.refl _ _⟩)
    · skip
      by_cases hlt : p + 1 < m
      · obtain ⟨y0, y1⟩ := HD.out (p + 1) (by have := HM.out; omega)
        obtain ⟨b2, o2, e2, g2⟩ := HR.out (p + 1) (by have := HM.out; omega)
        cases e2
        have hi : ((p : Int) + 1 : Int) < m := by omega
        by_cases hy : l.getD (p + 1) 0 ≤ f
        · skip
          have HO := Lib.hid (show lsC l ((p : Int) + 1) f = none from (lsC_low hu).trans (if_pos ⟨by have := HM.out; omega, hy⟩))
          generalize l.getD (p + 1) 0 = y at y0 y1 g2 hy
          generalize l.getD p 0 = u at x0 x1 g1 hu
          have t2 : decide (f < u) = false := by simp; omega
          have t1 : decide (y ≤ f) = true := by simp; omega
          go_enter Tryd.func42, Tryd.ntmps42
          go_wp2
          all_goals (go_ret3; exact ⟨(congrArg (fun o => Ending.returned (lsR o)) HO.out).symm, Below.refl _ _⟩)
        · skip
          have HO := Lib.hid (show lsC l ((p : Int) + 1) f = some (f) from (lsC_low hu).trans (if_neg fun h => hy h.2))
          generalize l.getD (p + 1) 0 = y at y0 y1 g2 hy
          generalize l.getD p 0 = u at x0 x1 g1 hu
          have t2 : decide (f < u) = false := by simp; omega
          have t1 : decide (y ≤ f) = false := by simp; omega
          go_enter Tryd.func42, Tryd.ntmps42
          go_wp2
          all_goals (go_ret3; exact ⟨(congrArg (fun o => Ending.returned (lsR o)) HO.out).symm, Below.refl _ _⟩)
      · obtain rfl : p + 1 = m := by omega
        have HO := Lib.hid (show lsC l ((p : Int) + 1) f = some (f) from (lsC_low hu).trans (if_neg fun h => by have := HM.out; have := h.1; omega))
        generalize l.getD p 0 = u at x0 x1 g1 hu
        have t2 : decide (f < u) = false := by simp; omega
        go_enter Tryd.func42, Tryd.ntmps42
        go_wp2
        all_goals (go_ret3; exact ⟨(congrArg (fun o => Ending.returned (lsR o)) HO.out).symm, Below.refl _ _⟩)
end Dm
end Go.Proofs.YtnjgolbghcjijaaDoor
