/- Missing, Pop and Skip of leapfrogref07: contracts of the translated code. Conditions: the bounds of each number's kind. -/
import Derived.Test.YtbndgbjenmknmaaDoorMgT
import Derived.Test.YtbndgbjenmknmaaDoorNum
namespace Go.Proofs.YtbndgbjenmknmaaDoor
open Go.RowKit Go.Sort
set_option linter.unusedVariables false
set_option linter.unusedSimpArgs false
namespace Mg
open Om (Pr below_drewN bel_alloc)
open Dm (flatI app1)
def Mg.missN (M : Mg) (n : Nat) : List Int := ((List.range n).filter M.lacks).map Int.ofNat
theorem missN_yes {M : Mg} {n : Nat} (h : M.lacks n = true) : M.missN (n + 1) = M.missN n ++ [(n : Int)] := by simp [Mg.missN, List.range_succ, List.filter_append, List.filter_cons, h]
theorem missN_no {M : Mg} {n : Nat} (h : M.lacks n = false) : M.missN (n + 1) = M.missN n := by simp [Mg.missN, List.range_succ, List.filter_append, List.filter_cons, h]
theorem missN_len (M : Mg) (n : Nat) : (M.missN n).length ≤ n := by
  unfold Mg.missN
  rw [List.length_map]
  exact Nat.le_trans (List.length_filter_le _ _) (by simp)
theorem missingR_nil (w : World) :
    Calls Tryd.prog 15 #[.pointer none] w fun e w' => e = .returned (.slice none 0 0) ∧ Below w.heap.size w w' := by
  go_enter Tryd.func15, Tryd.ntmps15
  go_wp2
  go_loopw [3, 4] (fun q i wr => q = .slice none 0 0 ∧ i = .int .i64 0 ∧ Below w.heap.size w wr) (fun q i _ => 0)
  case atStart => exact ⟨rfl, rfl, Below.refl _ _⟩
  case round =>
    obtain ⟨rfl, rfl, bel⟩ := hrel
    go_wp2
    go_ret
    exact ⟨rfl, bel⟩
set_option maxHeartbeats 4000000 in
theorem missingR (M : Mg) (b : Nat) (w : World) (hm : MrAt w b M) :
    Calls Tryd.prog 15 #[.pointer (some ⟨b, 0, none⟩)] w fun e w' => (∃ v, e = .returned v ∧ w'.ownsRow w.heap.size 3 1 v (M.missN 64).length (flatI (M.missN 64))) ∧ Below w.heap.size w w' := by
  have H := Lib.hid hm; clear hm
  go_enter Tryd.func15, Tryd.ntmps15
  go_wp2
  go_loopw [3, 4] (fun q i wr => ∃ n : Nat, n ≤ 64 ∧ i = .int .i64 n ∧ wr.ownsRow w.heap.size 3 1 q (M.missN n).length (flatI (M.missN n)) ∧ Below w.heap.size w wr) (fun q i _ => (64 - intOf i).toNat)
  case atStart => exact ⟨0, Nat.zero_le _, rfl, World.ownsRow_nil _ _ _ _, Below.refl _ _⟩
  case round =>
    obtain ⟨n, hn, rfl, ow, bel⟩ := hrel
    have OW := Lib.hid ow; clear ow
    by_cases hlt : n < 64
    · have t0 : decide ((n : Int) < 64) = true := decide_eq_true (by omega)
      have hlen := missN_len M n
      have hsz := bel.size
      have q0 := (H.out.below bel).ls n hlt
      have q1 := (H.out.below bel).hs n hlt
      have q2 := (H.out.below bel).en n hlt
      cases hb : M.lacks n with
      | true =>
        have HM := Lib.hid (missN_yes hb)
        have h1 : M.ls n = true ∧ M.hs n = false ∧ M.en n = false := by
          unfold Mg.lacks at hb
          cases e1 : M.ls n <;> cases e2 : M.hs n <;> cases e3 : M.en n <;> rw [e1, e2, e3] at hb <;> first | exact ⟨rfl, rfl, rfl⟩ | cases hb
        rw [h1.1] at q0; rw [h1.2.1] at q1; rw [h1.2.2] at q2
        clear hb h1
        go_wp2_with (at_builtin; refine app1 rfl (.tmp 37) (.tmp 39) rfl _ w.heap.size (M.missN n).length _ (M.missN n) (n : Int) rfl rfl OW.out (by omega) hsz ?_; intro v1 w1 h1 b1)
        go_roundw
        case rel => exact ⟨n + 1, by omega, by go_num, by rw [HM.out, List.length_append]; exact h1, bel.trans (b1.mono (Nat.le_refl _))⟩
        case measure => simp [intOf]; omega
      | false =>
        have HM := Lib.hid (missN_no hb)
        unfold Mg.lacks at hb
        cases e1 : M.ls n <;> cases e2 : M.hs n <;> cases e3 : M.en n <;> rw [e1] at q0 hb <;> rw [e2] at q1 hb <;> rw [e3] at q2 hb
        all_goals first | (exfalso; revert hb; decide) | skip
        all_goals
          clear hb
          go_wp2
          go_roundw
          case rel => exact ⟨n + 1, by omega, by go_num, by rw [HM.out]; exact OW.out, bel⟩
          case measure => simp [intOf]; omega
    · obtain rfl : n = 64 := by omega
      go_wp2
      go_ret
      exact ⟨⟨_, rfl, OW.out⟩, bel⟩
end Mg
end Go.Proofs.YtbndgbjenmknmaaDoor
