/- Package layout: Next, Latch, Of: contracts of the translated code. No conditions beside those of each lemma. -/
import Derived.Test.YtjcbjbhlclajnaaLyL
namespace Go.Proofs.Ytjcbjbhlclajnaa
open Go.RowKit Go.Sort
set_option linter.unusedVariables false
set_option linter.unusedSimpArgs false
set_option maxRecDepth 100000
namespace Ly
open Dm (RdK BdU dmB dmE dmN bel_alloc bel_trans cell_lt)
/-- Next -/
def nxO (g : Ge) (r u : Int) : Option Nat := if 0 ≤ u ∧ u ≤ 5 then (if 0 < r then ad g 9 r (5 + u) else if r = 0 then none else ad g 8 (-1 - r) (1 + u)) else none
/-- Latch -/
def ltO (g : Ge) (r : Int) : Option Nat := if 0 < r then ad g 9 r 3 else if r = 0 then none else ad g 8 (-1 - r) 0
theorem ad8 (g : Ge) {v u : Nat} (hv : v < g.D) (hu : u < 7) : ad g 8 (v : Int) (u : Int) = some (pH g + 7 * v + u) := ad_head g hv hu
theorem ad8_none (g : Ge) {r : Int} (h : ¬ (r ≤ -1 ∧ -1 - r < (g.D : Int))) (hr : r ≤ 0) (u : Int) : ad g 8 (-1 - r) u = none := ad_head_none g fun h1 h2 => absurd ⟨by omega, h2⟩ h
theorem nx_none (g : Ge) {r : Int} (h1 : ∀ i, i < 6 → ¬ InT g r i) (h2 : ¬ (r ≤ -1 ∧ -1 - r < (g.D : Int))) (u : Int) : nxO g r u = none := by
  unfold nxO
  split
  · split
    · exact ad9_none g h1 _
    · split
      · rfl
      · exact ad8_none g h2 (by omega) _
  · rfl
theorem lt_none (g : Ge) {r : Int} (h1 : ∀ i, i < 6 → ¬ InT g r i) (h2 : ¬ (r ≤ -1 ∧ -1 - r < (g.D : Int))) : ltO g r = none := by
  unfold ltO
  split
  · exact ad9_none g h1 _
  · split
    · rfl
    · exact ad8_none g h2 (by omega) _
theorem next_any {w : World} {b : Nat} {f : Cf} {l : List Int} {g : Ge} (h : LyAt w b f l g) (ok : g.ok) (r u : Int) (hr : I64 r) : Calls Try.prog 25 #[.pointer (some ⟨b, 0, none⟩), .int .i64 r, .int .i64 u] w fun e w' => e = .returned (resp (nxO g r u)) ∧ Below w.heap.size w w' := by
  have C := Lib.hid (node_any h ok r hr)
  clear h
  go_enter Try.func25, Try.ntmps25
  go_wp2_with fail
  refine C.out.mono ?_
  rintro q w1 ⟨⟨v, A, hv, hrv, hA, rfl⟩ | ⟨i, y, I, N, S, F, A, hi, hy, hx, eI, eN, eS, eF, hA, rfl⟩ | ⟨hno, hnh, rfl⟩, b1⟩
  · have CW := fun W => Lib.hid (within_any u 0 5 W)
    have hA2 : (A : Int) ≤ 30000 := by have := ok.tt; have := ok.s2; have := ok.e2; have := ok.l2; have := ok.d2; simp only [pH] at hA; omega
    by_cases hu : 0 ≤ u ∧ u ≤ 5
    · obtain ⟨k, rfl⟩ : ∃ k : Nat, u = k := ⟨u.toNat, by omega⟩
      have HV := Lib.hid (show nxO g r (k : Int) = some (A + 1 + k) by
        unfold nxO
        rw [if_pos hu, if_neg (by omega), if_neg (by omega), show -1 - r = ((v : Nat) : Int) by omega, show (1 : Int) + (k : Int) = ((1 + k : Nat) : Int) by omega, ad8 g hv (by omega), hA, Nat.add_assoc (pH g + 7 * v)])
      have hbw : (decide ((0 : Int) ≤ (k : Int)) && decide ((k : Int) ≤ 5)) = true := by rw [decide_eq_true hu.1, decide_eq_true hu.2]; rfl
      rw [hbw] at CW
      have hk5 : (k : Int) ≤ 5 := hu.2
      clear C hrv hA hv hr hu hbw
      go_wp2_with fail
      refine (CW _).out.mono ?_
      rintro q w2 ⟨rfl, rfl⟩
      go_wp2
      go_ret2
      exact ⟨by rw [HV.out]; simp [resp], bel_trans b1 (bel_alloc (Below.refl _ _) _)⟩
    · have HV := Lib.hid (show nxO g r u = none by unfold nxO; rw [if_neg hu])
      have hbw : (decide ((0 : Int) ≤ u) && decide (u ≤ 5)) = false := by rw [Bool.and_eq_false_iff, decide_eq_false_iff_not, decide_eq_false_iff_not]; omega
      rw [hbw] at CW
      clear C hrv hA hv hr hu hbw
      go_wp2_with fail
      refine (CW _).out.mono ?_
      rintro q w2 ⟨rfl, rfl⟩
      go_wp2
      go_ret2
      exact ⟨by rw [HV.out]; rfl, bel_trans b1 (bel_alloc (Below.refl _ _) _)⟩
  · have CW := fun W => Lib.hid (within_any u 0 (i : Int) W)
    have hb := words_bnd ok hi hy eI eN eS eF
    have hA2 : (A : Int) ≤ 30000 := by omega
    have hi6 : (i : Int) < 6 := by omega
    by_cases hu : 0 ≤ u ∧ u ≤ (i : Int)
    · obtain ⟨k, rfl⟩ : ∃ k : Nat, u = k := ⟨u.toNat, by omega⟩
      have HV := Lib.hid (show nxO g r (k : Int) = some (A + 5 + k) by
        unfold nxO
        rw [if_pos ⟨hu.1, by omega⟩, if_pos (by omega), hx, show (5 : Int) + (k : Int) = ((5 + k : Nat) : Int) by omega, ad9 g hi hy eI eN eS eF (by omega), hA, Nat.add_assoc (F + y * S)])
      have hbw : (decide ((0 : Int) ≤ (k : Int)) && decide ((k : Int) ≤ (i : Int))) = true := by rw [decide_eq_true hu.1, decide_eq_true hu.2]; rfl
      rw [hbw] at CW
      have hk5 : (k : Int) ≤ 5 := by omega
      clear C hx eI eN eS eF hA hy hb hr hu hbw
      go_wp2_with fail
      refine (CW _).out.mono ?_
      rintro q w2 ⟨rfl, rfl⟩
      go_wp2
      go_ret2
      exact ⟨by rw [HV.out]; simp [resp], bel_trans b1 (bel_alloc (Below.refl _ _) _)⟩
    · have HV := Lib.hid (show nxO g r u = none by
        unfold nxO
        split
        · rename_i h5
          rw [if_pos (by omega), hx]
          exact ad9_high g (F := F) hi hy eI eN eS (by omega)
        · rfl)
      have hbw : (decide ((0 : Int) ≤ u) && decide (u ≤ (i : Int))) = false := by rw [Bool.and_eq_false_iff, decide_eq_false_iff_not, decide_eq_false_iff_not]; omega
      rw [hbw] at CW
      clear C hx eI eN eS eF hA hy hb hr hu hbw
      go_wp2_with fail
      refine (CW _).out.mono ?_
      rintro q w2 ⟨rfl, rfl⟩
      go_wp2
      go_ret2
      exact ⟨by rw [HV.out]; rfl, bel_trans b1 (bel_alloc (Below.refl _ _) _)⟩
  · have HV := Lib.hid (nx_none g hno hnh u)
    clear C hno hnh hr
    go_wp2
    go_ret2
    exact ⟨by rw [HV.out]; rfl, bel_trans b1 (bel_alloc (Below.refl _ _) _)⟩
end Ly
end Go.Proofs.Ytjcbjbhlclajnaa
