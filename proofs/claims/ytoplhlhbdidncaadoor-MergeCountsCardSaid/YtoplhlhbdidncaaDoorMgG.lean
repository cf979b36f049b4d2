/- Rows that are written over; both merges made. Conditions: none. -/
import Derived.Test.YtoplhlhbdidncaaDoorMgF
namespace Go.Proofs.YtoplhlhbdidncaaDoor
open Go.RowKit Go.Sort
set_option linter.unusedVariables false
set_option linter.unusedSimpArgs false
namespace Wk
open Hq
open Om (bel_alloc Pr bel_trans flat)
open Mg (popT Dd BdD1 MrAt Chg)
open Dm (flatI RdK)
/-- n cells from the address A on may be written over; they lie at H or above -/
def Wr (H : Nat) (w : World) (A : Option Addr) (n : Nat) : Prop := ∀ k, k < n → ∃ g, A = some ⟨g, 0, none⟩ ∧ H ≤ g ∧ (∃ v, w.cell? ⟨g, k, none⟩ = some v) ∧ w.frozen? ⟨g, k, none⟩ = false
theorem Wr.below {H : Nat} {w w' : World} {A : Option Addr} {n : Nat} (h : Wr H w A n) (hb : Below w.heap.size w w') : Wr H w' A n := fun k hk => by
  obtain ⟨g, e, hg, ⟨v, hv⟩, hf⟩ := h k hk
  have hlt : g < w.heap.size := World.block_lt_of_cell? w _ hv
  exact ⟨g, e, hg, ⟨v, (hb.cell (p := ⟨g, k, none⟩) hlt).trans hv⟩, (hb.frozen (p := ⟨g, k, none⟩) hlt).trans hf⟩
theorem Wr.set {H : Nat} {w : World} {A : Option Addr} {n : Nat} (h : Wr H w A n) (b o : Nat) (x : Value) : Wr H (w.setCell ⟨b, o, none⟩ x) A n := fun k hk => by
  obtain ⟨g, e, hg, ⟨v, hv⟩, hf⟩ := h k hk
  refine ⟨g, e, hg, ?_, by rw [World.frozen?_setCell]; exact hf⟩
  by_cases h2 : (⟨b, o, none⟩ : Addr) = ⟨g, k, none⟩
  · rw [h2]; exact ⟨x, World.cell?_setCell_same _ _ _ hv⟩
  · exact ⟨v, by rw [World.cell?_setCell_other _ _ _ _ (fun e => h2 (by rw [e]))]; exact hv⟩
theorem own_wr {w : World} {H : Nat} {t : TypeId} {s : Nat} {A : Option Addr} {n c : Nat} {xs : List Value} (h : w.ownsRow H t s (.slice A n c) n xs) : Wr H w A (n * s) := fun k hk => by
  rcases h.2 with ⟨e, h0⟩ | ⟨g, cap, cur, e, hg, hh, hnc, hm, hs, ht⟩
  · subst h0; omega
  · injection e with e1 e2 e3
    refine ⟨g, e1, hg, ?_, ?_⟩
    · have hlt : k < cur.size := by rw [hs]; exact Nat.lt_of_lt_of_le hk (Nat.mul_le_mul_right s hnc)
      exact ⟨cur[k], by rw [cell_of_row w g k cur _ _ hh]; exact Array.getElem?_eq_getElem hlt⟩
    · subst e1; subst e3
      exact World.ownsRow.frozenAt ⟨h.1, .inr ⟨g, _, cur, rfl, hg, hh, hnc, hm, hs, ht⟩⟩ _
theorem Du.below {B b br : Nat} {w w' : World} {M : Mg.Mg} (h : Du B w b br M) (hb : Below w.heap.size w w') : Du B w' b br M := ⟨h.sm.below hb, h.mr.below hb, h.le⟩
theorem new_both (S : Nat) (w : World) (hS : S < 18446744073709551616) :
    Calls Tryd.prog 9 #[.int .u64 (S : Nat)] w fun e w' => e = .returned (.pointer (some ⟨w.heap.size, 0, none⟩)) ∧ Sm (fun i => i < w.heap.size) w' w.heap.size (Mg.Mg.new fun v => S.testBit v) ∧ Below w.heap.size w w' :=
  newS (fun i => i < w.heap.size) S w hS (fun i h => h)
theorem new_ref (S B b : Nat) (w : World) (hS : S < 18446744073709551616) (h : Sm (fun i => i < B) w b (Mg.Mg.new fun v => S.testBit v)) (hB : B ≤ w.heap.size) :
    Calls Tryd.prog 10 #[.int .u64 S] w fun e w' => e = .returned (.pointer (some ⟨w.heap.size, 0, none⟩)) ∧ Du B w' b w.heap.size (Mg.Mg.new fun v => S.testBit v) ∧ Below w.heap.size w w' :=
  (Mg.newR S w (fun p W hp => Dm.in_any S p hS hp W)).mono fun e w' ⟨he, hm, hb⟩ => ⟨he, ⟨h.more hb fun i hi => by
    rcases hi with h1 | h1 | h1
    · exact .inl h1
    · subst h1; exact .inr ⟨Nat.le_refl _, hm.lt⟩
    · omega, hm, hB⟩, hb⟩
end Wk
end Go.Proofs.YtoplhlhbdidncaaDoor
