/- Lists of picks and counts as mathematics; fitsCounts of package picks: contract of the translated code. Conditions: those of each lemma. -/
import Derived.Test.YtnoggggbghkgkaaPkQ
namespace Go.Proofs.Ytnoggggbghkgkaa
open Go.RowKit Go.Shelf Go.Sort
set_option linter.unusedVariables false
set_option linter.unusedSimpArgs false
attribute [local go_sem] Oper.semAt_some
namespace Pk
open Dm (RdK BdI bel_alloc bel_trans cell_lt flatI info info_parts row_rd app1)
/-- the count and the pick of a pair -/
def cnt (l : List Int) (j : Nat) : Int := l.getD (2 * j + 1) 0
def pck (l : List Int) (j : Nat) : Int := l.getD (2 * j) 0
/-- the sum of the first counts -/
def sm (l : List Int) : Nat → Int
  | 0 => 0
  | j + 1 => sm l j + cnt l j
/-- the error of a list of picks and counts -/
noncomputable def fcE (l : List Int) : Int := by
  classical exact if l.length % 2 ≠ 0 then 2 else if ∃ j, j < l.length / 2 ∧ cnt l j < 0 then 2 else if ∃ j, j < l.length / 2 ∧ 65536 - sm l j < cnt l j then 5 else 0
/-- the picks of the first pairs -/
def exN (l : List Int) : Nat → List Int
  | 0 => []
  | j + 1 => exN l j ++ List.replicate (cnt l j).toNat (pck l j)
theorem fcE_odd {l : List Int} (h : l.length % 2 ≠ 0) : fcE l = 2 := by unfold fcE; rw [if_pos h]
theorem fcE_neg {l : List Int} (h : l.length % 2 = 0) (hn : ∃ j, j < l.length / 2 ∧ cnt l j < 0) : fcE l = 2 := by unfold fcE; rw [if_neg (by omega), if_pos hn]
theorem fcE_long {l : List Int} (h : l.length % 2 = 0) (hn : ¬ ∃ j, j < l.length / 2 ∧ cnt l j < 0) (hs : ∃ j, j < l.length / 2 ∧ 65536 - sm l j < cnt l j) : fcE l = 5 := by unfold fcE; rw [if_neg (by omega), if_neg hn, if_pos hs]
theorem fcE_ok {l : List Int} (h : l.length % 2 = 0) (hn : ¬ ∃ j, j < l.length / 2 ∧ cnt l j < 0) (hs : ¬ ∃ j, j < l.length / 2 ∧ 65536 - sm l j < cnt l j) : fcE l = 0 := by unfold fcE; rw [if_neg (by omega), if_neg hn, if_neg hs]
theorem fcE_zero {l : List Int} (h : fcE l = 0) : l.length % 2 = 0 ∧ (∀ j, j < l.length / 2 → 0 ≤ cnt l j ∧ cnt l j ≤ 65536 - sm l j) := by
  unfold fcE at h
  split at h
  · cases h
  · split at h
    · cases h
    · split at h
      · cases h
      · rename_i h1 h2 h3
        refine ⟨by omega, fun j hj => ⟨?_, ?_⟩⟩
        · rcases Int.lt_or_le (cnt l j) 0 with g | g
          · exact absurd ⟨j, hj, g⟩ h2
          · exact g
        · rcases Int.lt_or_le (65536 - sm l j) (cnt l j) with g | g
          · exact absurd ⟨j, hj, g⟩ h3
          · exact g
section
variable {k : Nat}
def smF (l : List Int) (pre : List (Fin k)) : Int := (pre.map fun x => cnt l x.val).sum
def exF (l : List Int) (pre : List (Fin k)) : List Int := pre.flatMap fun x => List.replicate (cnt l x.val).toNat (pck l x.val)
theorem smF_snoc (l : List Int) (pre : List (Fin k)) (x : Fin k) : smF l (pre ++ [x]) = smF l pre + cnt l x.val := by simp [smF, List.sum_append]
theorem exF_snoc (l : List Int) (pre : List (Fin k)) (x : Fin k) : exF l (pre ++ [x]) = exF l pre ++ List.replicate (cnt l x.val).toNat (pck l x.val) := by simp [exF]
theorem smF_take (l : List Int) : ∀ j, j ≤ k → smF l ((List.finRange k).take j) = sm l j
  | 0, _ => rfl
  | j + 1, h => by rw [fin_next (show j < k by omega), smF_snoc, smF_take l j (by omega)]; rfl
theorem exF_take (l : List Int) : ∀ j, j ≤ k → exF l ((List.finRange k).take j) = exN l j
  | 0, _ => rfl
  | j + 1, h => by rw [fin_next (show j < k by omega), exF_snoc, exF_take l j (by omega)]; rfl
theorem smF_all (l : List Int) : smF l (List.finRange k) = sm l k := by
  have := smF_take (k := k) l k (Nat.le_refl _)
  rwa [List.take_of_length_le (by simp)] at this
theorem exF_all (l : List Int) : exF l (List.finRange k) = exN l k := by
  have := exF_take (k := k) l k (Nat.le_refl _)
  rwa [List.take_of_length_le (by simp)] at this
theorem pre_snoc {l : List Int} {pre : List (Fin k)} {x : Fin k} (h : pre ++ [x] <+: List.finRange k) : smF l pre = sm l x.val := by
  obtain ⟨t, ht⟩ := h
  have hlen : pre.length < k := by
    have := congrArg List.length ht
    simp at this; omega
  have h1 : pre = (List.finRange k).take pre.length := by
    rw [← ht, List.append_assoc, List.take_left']; rfl
  have h2 : x = ⟨pre.length, hlen⟩ := by
    have : (List.finRange k)[pre.length]? = some x := by rw [← ht]; simp
    rw [List.getElem?_eq_getElem (by simpa using hlen)] at this
    simpa using this.symm
  have h3 : x.val = pre.length := by rw [h2]
  rw [h3]
  have := smF_take (k := k) l pre.length (by omega)
  rwa [← h1] at this
end
theorem sm_mono {l : List Int} {k : Nat} (h : ∀ j, j < k → 0 ≤ cnt l j) : ∀ j, j ≤ k → sm l j ≤ sm l k := by
  intro j hj
  obtain ⟨d, rfl⟩ := Nat.le.dest hj
  clear hj
  induction d with
  | zero => exact Int.le_refl _
  | succ d ih =>
    have a := ih (fun j hj => h j (by omega))
    have b := h (j + d) (by omega)
    rw [← Nat.add_assoc, sm]
    omega
theorem chunk_stops' (F : Fence) (hF : ∀ f, F.fn f) (hro : F.round = none) (n : Nat) (hn : 1 ≤ n) (Bs Bn b o k m c : Nat) (hk : 2 * k = m) (A : Option Addr) (hA : 0 < k → A = some ⟨b, o, none⟩) (hc : m ≤ c) (hm : c ≤ 9223372036854775807) (X : Nat → Prop) (X1 : X Bs) (X2 : X Bn) (w : World) (hX : ∀ b, X b → b < w.heap.size)
    (hBs : w.cell? ⟨Bs, 0, none⟩ = some (.slice A m c)) (hBn : w.cell? ⟨Bn, 0, none⟩ = some (.int .i64 2)) :
    SeqStopsK F n Try.prog 50 #[.pointer (some ⟨Bs, 0, none⟩), .pointer (some ⟨Bn, 0, none⟩)] (fun x : Fin k => #[Value.slice (some ⟨b, o + 2 * x.val, none⟩) 2 2]) (KX X) (fun ys => ys = List.finRange k) (fun pre => pre <+: List.finRange k) (List.finRange k).length w := by
  subst hk
  exact chunk_stops F hF hro n hn Bs Bn b o k c A hA hc hm X X1 X2 w hX hBs hBn
/-- the cells of the pairs -/
theorem pair_cells {w W : World} {A : Option Addr} {l : List Int} {k b o : Nat} (hk : 2 * k = l.length) (hA : 0 < k → A = some ⟨b, o, none⟩) (hrd : RdK .i64 w A l) (hB : Below w.heap.size w W) (x : Fin k) :
    W.cell? ⟨b, o + 2 * x.val, none⟩ = some (.int .i64 (pck l x.val)) ∧ W.cell? ⟨b, o + 2 * x.val + 1, none⟩ = some (.int .i64 (cnt l x.val)) := by
  have hx := x.isLt
  obtain ⟨b1, o1, e1, c1⟩ := (hrd.below hB) (2 * x.val) (by omega)
  obtain ⟨b2, o2, e2, c2⟩ := (hrd.below hB) (2 * x.val + 1) (by omega)
  have e := hA (by omega)
  rw [e] at e1 e2
  cases e1
  cases e2
  exact ⟨c1, c2⟩
end Pk
end Go.Proofs.Ytnoggggbghkgkaa
