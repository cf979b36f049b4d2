/- PicksExpands: the walk. Conditions: the bounds of each argument's kind. -/
import Derived.Test.YtnoggggbghkgkaaWkPk5
namespace Go.Proofs.Ytnoggggbghkgkaa
open Go.RowKit Go.Shelf Go.Sort
set_option linter.unusedVariables false
set_option linter.unusedSimpArgs false
namespace Wk
open Pk
open Dm (RdK BdI bel_alloc bel_trans cell_lt flatI info info_parts row_rd app1 appAll addr_lit ret_eq)
theorem bdI_take {l : List Int} {m : Nat} (h : BdI l) : BdI (l.take m) := fun k hk => by
  rw [List.length_take] at hk
  have := h k (by omega)
  rw [List.getD_eq_getElem?_getD, List.getElem?_take, if_pos (by omega), ← List.getD_eq_getElem?_getD]
  exact this
set_option maxRecDepth 100000 in
set_option maxHeartbeats 2000000 in
theorem walk_picksExpands (a0 : Option Addr) (a0n a0c : Nat) (a0v : List Int) (w : World) (a0e : a0v.length = a0n) (a0m : a0n ≤ maxLen) (a0r : Dm.RdK .i64 w a0 a0v) (a0b : Dm.BdI a0v) (a0z : a0 = none → a0c = 0) (a0y : a0n ≤ a0c ∧ a0c ≤ maxLen) :
    Calls Try.prog 5 #[.slice a0 a0n a0c] w fun e w' => e = .returned (.bool true) ∧ Below w.heap.size w w' := by
  unfold maxLen at a0m a0y
  obtain ⟨m, hm⟩ : ∃ m, min a0n 40 = m := ⟨_, rfl⟩
  have hmin : min (a0n : Int) 40 = (m : Int) := by omega
  have hm4 : m ≤ 40 := by omega
  have hmn : m ≤ a0n := by omega
  have R1 := take_run a0 a0n m a0c hmn a0y.1
  have LX := Lib.hid (li_take a0r a0e hmn (by omega))
  have BX := Lib.hid (bdI_take (m := m) a0b)
  obtain ⟨xs, hxs⟩ : ∃ xs, a0v.take m = xs := ⟨_, rfl⟩
  rw [hxs] at LX BX
  obtain ⟨er, q, l, H1⟩ := ex_same xs
  have CP := Lib.hid (copy_any a0 m a0c xs w LX.out.ln (by omega) LX.out.rd a0z)
  have HZ := Lib.hid a0z
  have HY := Lib.hid a0y
  have HM := Lib.hid H1
  have m1 : (m : Int) ≤ 40 := by omega
  have m2 : (m : Int) ≤ a0n := by omega
  clear a0r a0e a0b hxs hm a0z H1
  go_enter Try.func5, Try.ntmps5
  go_wp2_with fail
  refine CP.out.mono ?_
  rintro e w1 ⟨v, rfl, ow, b1⟩
  obtain ⟨A1, c1, rfl, h1, h2, _, li1⟩ := row_li ow (by omega)
  have I1 := Lib.hid li1
  have X1 := Lib.hid (LX.out.below b1)
  have B1 := Lib.hid b1
  clear ow li1 b1 CP LX
  go_wp2_with fail
  refine ((expand_any A1 m c1 xs I1.out.ln (by omega) h1 h2 BX.out _ I1.out.rd).mono (HM.out _)).mono ?_
  rintro e w2 ⟨A2, c2, rfl, _, li2, b2, _⟩
  have I2 := Lib.hid (I1.out.below b2)
  have X2 := Lib.hid (X1.out.below b2)
  have O2 := Lib.hid li2
  have B2 := Lib.hid (bel_trans B1.out b2)
  clear I1 X1 li2 b2 B1
  go_wp2_with fail
  refine ((expandR_any a0 m a0c xs X2.out.ln (by omega) BX.out _ X2.out.rd).mono (HM.out _)).mono ?_
  rintro e w3 ⟨A3, c3, rfl, _, li3, b3, _⟩
  have I3 := Lib.hid (I2.out.below b3)
  have X3 := Lib.hid (X2.out.below b3)
  have O3 := Lib.hid (O2.out.below b3)
  have P3 := Lib.hid li3
  have B3 := Lib.hid (bel_trans B2.out b3)
  clear I2 X2 li3 b3 B2 O2
  go_wp2_with fail
  refine (equ_same O3.out P3.out rfl).mono ?_
  rintro e w4 ⟨rfl, b4⟩
  have I4 := Lib.hid (I3.out.below b4)
  have X4 := Lib.hid (X3.out.below b4)
  have B4 := Lib.hid (bel_trans B3.out b4)
  clear I3 X3 b4 B3 O3 P3
  go_wp2_with fail
  refine (equ_same I4.out X4.out rfl).mono ?_
  rintro e w5 ⟨rfl, b5⟩
  have B5 := Lib.hid (bel_trans B4.out b5)
  clear I4 X4 b5 B4
  go_wp2_with fail
  refine (awake_any _).mono ?_
  rintro e w' ⟨rfl, b7⟩
  go_wp2
  go_ret
  exact ⟨rfl, bel_trans B5.out b7⟩
end Wk
end Go.Proofs.Ytnoggggbghkgkaa
