/- A merge of leapfrogref07 in memory: stores into it; the list of its least candidate. Conditions: those of XMgR. -/
import Derived.Test.YtbndgbjenmknmaaDoorMgR
namespace Go.Proofs.YtbndgbjenmknmaaDoor
open Go.RowKit Go.Sort
set_option linter.unusedVariables false
set_option linter.unusedSimpArgs false
namespace Mg
open Om (Pr below_drewN)
/-- the least of the candidates of the first n lists -/
def Mg.leastN (M : Mg) (n : Nat) (r : Int) : Prop :=
  (r = -1 ∧ ∀ v, v < n → M.hs v = false) ∨ ∃ v : Nat, r = v ∧ v < n ∧ M.hs v = true ∧ ∀ u, u < n → M.hs u = true → (M.p v).1 ≤ (M.p u).1
theorem leastN_zero (M : Mg) : M.leastN 0 (-1) := .inl ⟨rfl, fun v hv => absurd hv (Nat.not_lt_zero _)⟩
theorem leastN_skip {M : Mg} {n : Nat} {r : Int} (h : M.leastN n r) (hn : M.hs n = false) : M.leastN (n + 1) r := by
  have key : ∀ u, u < n + 1 → M.hs u = true → u < n := fun u hu hh => Nat.lt_of_le_of_ne (by omega) fun e => by subst e; rw [hn] at hh; cases hh
  rcases h with ⟨e, h⟩ | ⟨v, e, hv, h1, h2⟩
  · refine .inl ⟨e, fun v hv => ?_⟩
    by_cases q : v = n
    · subst q; exact hn
    · exact h v (by omega)
  · exact .inr ⟨v, e, by omega, h1, fun u hu hh => h2 u (key u hu hh) hh⟩
theorem leastN_first {M : Mg} {n : Nat} {r : Int} (h : M.leastN n r) (hr : r < 0) (hn : M.hs n = true) : M.leastN (n + 1) n := by
  rcases h with ⟨e, h⟩ | ⟨v, e, hv, h1, h2⟩
  · refine .inr ⟨n, rfl, by omega, hn, fun u hu hh => ?_⟩
    by_cases q : u = n
    · subst q; exact Int.le_refl _
    · rw [h u (by omega)] at hh; cases hh
  · omega
theorem leastN_take {M : Mg} {n v : Nat} (h : M.leastN n v) (hn : M.hs n = true) (hlt : (M.p n).1 < (M.p v).1) : M.leastN (n + 1) n := by
  rcases h with ⟨e, h⟩ | ⟨x, e, hv, h1, h2⟩
  · omega
  · have : x = v := by omega
    subst this
    refine .inr ⟨n, rfl, by omega, hn, fun u hu hh => ?_⟩
    by_cases q : u = n
    · subst q; exact Int.le_refl _
    · have := h2 u (by omega) hh; omega
theorem leastN_keep {M : Mg} {n v : Nat} (h : M.leastN n v) (hlt : ¬ (M.p n).1 < (M.p v).1) : M.leastN (n + 1) v := by
  rcases h with ⟨e, h⟩ | ⟨x, e, hv, h1, h2⟩
  · omega
  · have : x = v := by omega
    subst this
    refine .inr ⟨x, rfl, by omega, h1, fun u hu hh => ?_⟩
    by_cases q : u = n
    · subst q; exact Int.not_lt.1 hlt
    · exact h2 u (by omega) hh
set_option maxHeartbeats 4000000 in
theorem leastR (M : Mg) (b : Nat) (w : World) (hm : MrAt w b M) :
    Calls Tryd.prog 33 #[.pointer (some ⟨b, 0, none⟩)] w fun e w' => ∃ r : Int, e = .returned (.int .i64 r) ∧ M.leastN 64 r ∧ Below w.heap.size w w' := by
  have H := Lib.hid hm; clear hm
  go_enter Tryd.func33, Tryd.ntmps33
  go_wp2
  go_loopw [3, 4] (fun q i wr => ∃ (r : Int) (n : Nat), n ≤ 64 ∧ q = .int .i64 r ∧ i = .int .i64 n ∧ M.leastN n r ∧ Below w.heap.size w wr) (fun q i _ => (64 - intOf i).toNat)
  case atStart => exact ⟨-1, 0, Nat.zero_le _, rfl, rfl, leastN_zero M, Below.refl _ _⟩
  case round =>
    obtain ⟨r, n, hn, rfl, rfl, hl, bel⟩ := hrel
    have HL := Lib.hid hl; clear hl
    by_cases hlt : n < 64
    · have t0 : decide ((n : Int) < 64) = true := decide_eq_true (by omega)
      have q1 := (H.out.below bel).hs n hlt
      cases hh : M.hs n with
      | false =>
        rw [hh] at q1
        have NX := Lib.hid (leastN_skip HL.out hh)
        go_wp2
        go_quiet (fail)
        go_wp2
        go_roundw
        case rel => exact ⟨r, n + 1, by omega, rfl, by go_num, NX.out, below_drewN bel _⟩
        case measure => simp [intOf]; omega
      | true =>
        rw [hh] at q1
        by_cases hr : r < 0
        · have t1 : decide (r < 0) = true := decide_eq_true hr
          have NX := Lib.hid (leastN_first HL.out hr hh)
          go_wp2
          go_quiet (fail)
          go_wp2
          go_roundw
          case rel => exact ⟨n, n + 1, by omega, rfl, by go_num, NX.out, below_drewN bel _⟩
          case measure => simp [intOf]; omega
        · have hv : ∃ v : Nat, r = v ∧ v < 64 := by
            rcases HL.out with ⟨e, _⟩ | ⟨v, e, hv, _⟩
            · omega
            · exact ⟨v, e, by omega⟩
          obtain ⟨v, rfl, hv⟩ := hv
          have t1 : decide ((v : Int) < 0) = false := decide_eq_false hr
          have q2 := (H.out.below bel).pk n hlt
          have q3 := (H.out.below bel).pk v hv
          by_cases hc : (M.p n).1 < (M.p v).1
          · have t2 : decide ((M.p n).1 < (M.p v).1) = true := decide_eq_true hc
            have NX := Lib.hid (leastN_take HL.out hh hc)
            go_wp2
            go_quiet (fail)
            go_wp2
            go_roundw
            case rel => exact ⟨n, n + 1, by omega, rfl, by go_num, NX.out, below_drewN bel _⟩
            case measure => simp [intOf]; omega
          · have t2 : decide ((M.p n).1 < (M.p v).1) = false := decide_eq_false hc
            have NX := Lib.hid (leastN_keep HL.out hc)
            go_wp2
            go_quiet (fail)
            go_wp2
            go_roundw
            case rel => exact ⟨v, n + 1, by omega, rfl, by go_num, NX.out, below_drewN bel _⟩
            case measure => simp [intOf]; omega
    · have t0 : decide ((n : Int) < 64) = false := decide_eq_false (by omega)
      have : n = 64 := by omega
      subst this
      go_wp2
      go_ret
      exact ⟨r, rfl, HL.out, bel⟩
end Mg
end Go.Proofs.YtbndgbjenmknmaaDoor
