/- leapfroglaw15: EqualPairs, pairs: contracts of the translated code; the lists of the initial words are empty. Conditions: those of each contract. -/
import Derived.Test.YtjcbjbhlclajnaaTwV
import Derived.Test.YtjcbjbhlclajnaaTwK
namespace Go.Proofs.Ytjcbjbhlclajnaa
open Go.RowKit Go.Sort
set_option linter.unusedVariables false
set_option linter.unusedSimpArgs false
set_option maxRecDepth 100000
namespace Tw
open Wd
open Ly (Ge tot pk pW nxO wdO ad tg gs InT Cf LyAt I64 Kd)
open Dm (addr_lit bel_alloc bel_trans)
theorem eqP (A B : Option Addr) (m c d : Nat) (l : List Pq) (w : World) (hm : l.length = m) (hx : m ≤ 100000) (hl : KQ.Rd w A l) (hr : KQ.Rd w B l) :
    Calls Try.prog 21 #[.slice A m c, .slice B m d] w fun e w' => e = .returned (.bool true) ∧ Below w.heap.size w w' := by
  have HL := Lib.hid hl; clear hl
  have HR := Lib.hid hr; clear hr
  have HM := Lib.hid hm; clear hm
  have t0 : ((m : Int) != m) = false := by simp
  go_enter Try.func21, Try.ntmps21
  go_wp2
  go_loopw [5] (fun i wr => ∃ j : Nat, j ≤ m ∧ i = .int .i64 j ∧ Below w.heap.size w wr) (fun i _ => (m - intOf i).toNat)
  case atStart => exact ⟨0, Nat.zero_le _, rfl, Below.refl _ _⟩
  case round =>
    obtain ⟨j, hj, rfl, bel⟩ := hrel
    by_cases hlt : j < m
    · obtain ⟨x, hx⟩ := get_some (show j < l.length by rw [HM.out]; exact hlt)
      obtain ⟨b, o, rfl, _⟩ := (HL.out.below bel) j x hx
      obtain ⟨b', o', rfl, _⟩ := (HR.out.below bel) j x hx
      obtain ⟨g0, g1⟩ := kq_at (HL.out.below bel) hx
      obtain ⟨k0, k1⟩ := kq_at (HR.out.below bel) hx
      have t1 : decide ((j : Int) < m) = true := by simp; omega
      have hji : (j : Int) < m := by omega
      obtain ⟨x0, x1⟩ := x
      dsimp only at g0 g1 k0 k1
      have t2 : (x0 != x0) = false := by simp
      have t3 : (x0 == x0) = true := by simp
      have t4 : (x1 == x1) = true := by simp
      have t5 : (x1 != x1) = false := by simp
      have HBE := Lib.hid bel
      clear hx bel
      go_wp2
      go_quiet (fail)
      go_wp2
      go_roundw
      case rel => exact ⟨j + 1, by omega, by go_num, bel_drawN HBE.out _⟩
      case measure => simp [intOf]; omega
    · obtain rfl : j = m := by omega
      have t1 : decide ((j : Int) < j) = false := by simp
      have HBE := Lib.hid bel
      clear bel
      go_wp2
      go_ret
      exact ⟨rfl, HBE.out⟩
theorem ini_head {g : Ge} {v u : Nat} (hv : v < g.D) (hu : u ≤ 5) : (⟨Ly.ini g, []⟩ : Wm).get ((Ly.pH g + 7 * v + (1 + u) : Nat) : Int) = 0 := by
  unfold Wm.get Ly.ini
  simp only [Int.toNat_natCast]
  have h0 : Ly.st g 6 (tot g.t 6) (Ly.pH g + 7 * v + (1 + u)) = 0 := by
    unfold Ly.st
    rw [if_neg (by unfold Ly.pH Ly.pP; omega), if_neg (by unfold Ly.pH Ly.pK; omega)]
  have hw : Ly.pH g + 7 * v + (1 + u) < pW g := by unfold pW Ly.pH Ly.pT; omega
  simp [List.getD, List.getElem?_map, List.getElem?_range hw, h0]
theorem ls_ini {g : Ge} {v u : Nat} (hv : v < g.D) (hu : u ≤ 5) : ls g ⟨Ly.ini g, []⟩ (v : Int) (u : Int) = [] := by
  have e : nxO g (-1 - (v : Int)) (u : Int) = some (Ly.pH g + 7 * v + (1 + u)) := by
    unfold nxO
    rw [if_pos ⟨by omega, by omega⟩, if_neg (by omega), if_neg (by omega), show -1 - (-1 - (v : Int)) = ((v : Nat) : Int) by omega, show (1 : Int) + (u : Int) = ((1 + u : Nat) : Int) by omega]
    exact Ly.ad8 g hv (by omega)
  have h1 : nxV g ⟨Ly.ini g, []⟩ (-1 - (v : Int)) (u : Int) = 0 := by
    unfold nxV
    rw [e]
    exact ini_head hv hu
  have h2 : af g ⟨Ly.ini g, []⟩ (-1 - (v : Int)) (u : Int) = 0 := by
    unfold af
    rw [h1, if_pos (by omega)]
  have h3 : hgt g 0 = 0 := by
    by_cases e : 0 < hgt g 0
    · have := hgt_pos e; omega
    · omega
  unfold ls
  rw [lsW, h2, h3, if_pos (.inl (by omega))]
theorem raw_ini {g : Ge} : ∀ n : Nat, n ≤ g.D → rawL g ⟨Ly.ini g, []⟩ n = []
  | 0, _ => rfl
  | n + 1, h => by
    rw [rawL, raw_ini n (by omega), show (0 : Int) = ((0 : Nat) : Int) from rfl, ls_ini (by omega) (by omega)]
    rfl
theorem sm_raw : rawL gS smM gS.D = [(4, 40), (6, 60)] := by decide +kernel
theorem sm_ok : ∀ v : Nat, v < gS.D → ∀ y, y ∈ ls gS smM (v : Int) 0 → StOk gS smM y := by
  have h : (List.range gS.D).all (fun v => (ls gS smM (v : Int) 0).all fun y => decide (wdV gS smM y 4 % 8 ≤ 2 ∨ wdV gS smM y 4 % 65536 / 8 < (gS.L : Int))) = true := by decide +kernel
  intro v hv y hy
  have h1 := List.all_eq_true.1 h v (List.mem_range.2 hv)
  have h2 := List.all_eq_true.1 h1 y hy
  have h3 := of_decide_eq_true h2
  exact h3
theorem litP (W : World) : KQ.Rd (W.alloc (.cells #[.int .u64 4, .int .u64 40, .int .u64 6, .int .u64 60] 38)) (some ⟨W.heap.size, 0, none⟩) [(4, 40), (6, 60)] := fun i x hi => by
  refine ⟨W.heap.size, 0, rfl, fun j u hj => ?_⟩
  rw [World.cell?_alloc_new]
  match i, hi, j, hj with
  | 0, hi, 0, hj => cases hi; exact hj
  | 0, hi, 1, hj => cases hi; exact hj
  | 1, hi, 0, hj => cases hi; exact hj
  | 1, hi, 1, hj => cases hi; exact hj
  | 0, hi, j + 2, hj => cases hi; simp [KQ] at hj
  | 1, hi, j + 2, hj => cases hi; simp [KQ] at hj
  | i + 2, hi, _, _ => simp at hi
section
variable {w : World} {x bm p : Nat} {q : Option Nat} {bl : Nat} {f : Cf} {l : List Int}
/-- the pairs of the example -/
theorem pairsQ (hT : Tt w x bm p q bl f l gS smM) : Calls Try.prog 10 #[.pointer (some ⟨x, 0, none⟩), .int .u64 60] w fun e w' => e = .returned (.bool true) ∧ Below w.heap.size w w' := by
  have CP := pairs_any hT sm_ok (by rw [sm_raw]; unfold As; decide) (by rw [sm_raw]; decide)
  unfold PrP at CP
  rw [sm_raw] at CP
  replace CP := Lib.hid CP
  clear hT
  go_enter Try.func10, Try.ntmps10
  go_wp2_with fail
  refine CP.out.mono ?_
  rintro r1 W1 ⟨A, c, rfl, hrd, hb1⟩
  have HB1 := Lib.hid hb1
  have HRD := Lib.hid hrd
  clear hb1 hrd CP
  go_wp2_with fail
  obtain ⟨W2, hW2⟩ : ∃ W, W = W1.alloc (.cells #[.int .u64 4, .int .u64 40, .int .u64 6, .int .u64 60] 38) := ⟨_, rfl⟩
  have b2 : Below W1.heap.size W1 W2 := by rw [hW2]; exact bel_alloc (Below.refl _ _) _
  have hr2 : KQ.Rd W2 (some ⟨W1.heap.size, 0, none⟩) [(4, 40), (6, 60)] := by rw [hW2]; exact litP W1
  rw [← hW2]
  refine (eqP A (some ⟨W1.heap.size, 0, none⟩) 2 c 2 [(4, 40), (6, 60)] W2 rfl (by decide) (HRD.out.below b2) hr2).mono ?_
  rintro r1 W3 ⟨rfl, hb3⟩
  have HB3 := Lib.hid (HB1.out.trans ((b2.trans (hb3.mono b2.size)).mono HB1.out.size))
  clear hb3 b2 hr2 hW2
  go_wp2
  go_ret
  exact ⟨rfl, HB3.out⟩
end
end Tw
end Go.Proofs.Ytjcbjbhlclajnaa
