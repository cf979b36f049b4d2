/- leapfroglaw03.known and long, from the contracts of package domain's Of and Members. Conditions: Tz (XDomW). -/
import Derived.Test.YtnjgolbghcjijaaDoorDomH
import Derived.Test.YtnjgolbghcjijaaDoorDomE
import Derived.Test.YtnjgolbghcjijaaDoorDomY
import Derived.Lib.LaidTab
namespace Go.Proofs.YtnjgolbghcjijaaDoor
open Go.RowKit Go.Sort
set_option linter.unusedVariables false
set_option linter.unusedSimpArgs false
namespace Dm
theorem Tz.pos {w : World} (h : Tz w) : 0 < w.heap.size := cell_lt (h 0 (by decide))
def MPost (S : Nat) (w : World) (e : Ending) (w' : World) : Prop := (∃ A c, e = .returned (.slice A (memL S 64).length c) ∧ RdK .i64 w' A (memL S 64)) ∧ Below w.heap.size w w'
theorem members_any (S : Nat) (hS : S < 18446744073709551616) (w : World) (hT : Tz w) : Calls Tryd.prog 33 #[.int .u64 S] w (MPost S w) :=
  (membersP_any S hS w hT hT.pos).mono fun e w1 ⟨⟨v, he, ow⟩, b1⟩ => by
    obtain ⟨hl, A, c, rfl, rd⟩ := row_rd ow
    exact ⟨⟨A, c, he, rd⟩, b1⟩
theorem known_any (w : World) (hT : Tz w) : Calls Tryd.prog 13 #[] w fun e w' => e = .returned (.bool true) ∧ Below w.heap.size w w' := by
  have HV := Lib.hid (show dmV 2 7 [] 23 = 2 by decide +kernel)
  have HE := Lib.hid (show dmE 2 7 [] = 0 by decide +kernel)
  have HM := Lib.hid (show memL 10 64 = [1, 3] by decide +kernel)
  have HT := Lib.hid hT; clear hT
  have CO := fun W => Lib.hid (of_any 2 7 23 none 0 0 [] W (by omega) (by omega) (by omega) (by omega) (by omega) (by omega) rfl (Nat.zero_le _) (fun k hk => by simp at hk) (fun k hk => by simp at hk))
  have CM := fun W h => Lib.hid (members_any 10 (by omega) W h)
  go_enter Tryd.func13, Tryd.ntmps13
  go_wp2_with fail
  refine (CO _).out.mono ?_
  rw [HV.out, HE.out]
  rintro r w1 ⟨rfl, b1⟩
  go_wp2_with fail
  refine (CM _ (HT.out.below b1)).out.mono ?_
  rintro r w2 ⟨⟨A, c, rfl, rd⟩, b2⟩
  rw [HM.out] at rd ⊢
  obtain ⟨b, o, rfl, c0⟩ := rd 0 (by simp)
  obtain ⟨b', o', e', c1⟩ := rd 1 (by simp)
  cases e'
  rw [Nat.add_zero] at c0
  simp at c0 c1
  clear rd
  go_wp2
  go_ret
  exact ⟨rfl, b1.trans (b2.mono b1.size)⟩
theorem long_any (k n : Int) (A : Option Addr) (m c : Nat) (w : World) : Calls Tryd.prog 12 #[.agg #[.int .u8 k, .int .i64 n, .slice A m c]] w fun e w' => e = .returned (.bool (decide (200 < (m : Int)))) ∧ Below w.heap.size w w' := by
  go_enter Tryd.func12, Tryd.ntmps12
  go_wp2
  go_ret
  exact ⟨rfl, bel_alloc (Below.refl _ _) _⟩
/-- what the given condition on the listed table gives a walk -/
theorem tz_laid {W : World} (h : laidMet Tryd.prog [("math/bits.deBruijn64tab", Rows.laid_math_bits_deBruijn64tab)] W) : Tz W := by
  have hg : Tryd.prog.globalNamed "math/bits.deBruijn64tab" = some 0 := by kernel_rfl
  have h' : laidMet Tryd.prog [("math/bits.deBruijn64tab", Lib.tabData .u8 (Lib.deBruijn64tab.map Int.ofNat))] W := h
  have ht := Lib.tabIs_of_head (t := 77) (e := 5) (n := 64) hg (by kernel_rfl) Tryd.underlying77 Tryd.underlying5 (by kernel_rfl) (by kernel_rfl) h'
  intro j hj
  have hc := ht.cell hg j (by simpa using hj)
  rw [hc]
  congr 2
  rw [List.getD_eq_getElem?_getD, List.getD_eq_getElem?_getD, List.getElem?_map]
  cases Lib.deBruijn64tab[j]? <;> rfl
end Dm
end Go.Proofs.YtnjgolbghcjijaaDoor
