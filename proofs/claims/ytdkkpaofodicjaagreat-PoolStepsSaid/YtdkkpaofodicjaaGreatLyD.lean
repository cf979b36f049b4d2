/- Package layout: groups, the words of the engine, the copy of a configuration, the library's slices.Clone at uint64: contracts of the translated code. No conditions beside those of each lemma. -/
import Derived.Test.YtdkkpaofodicjaaGreatLyC
import Derived.Test.YtdkkpaofodicjaaGreatLyN
import Derived.Laws.LoneSync
namespace Go.Proofs.YtdkkpaofodicjaaGreat
open Go.RowKit Go.Sort
set_option linter.unusedVariables false
set_option linter.unusedSimpArgs false
set_option maxRecDepth 100000
namespace Ly
open Dm (RdK BdU dmB dmE dmN bel_alloc bel_trans cell_lt)
theorem info_parts {i? : Option TypeInfo} {z : Value} {s b : Nat} (h : i?.map (fun i => (i.zero, i.size, i.bytes)) = some (some z, s, b)) (hz : z.cells.size = s) : ∃ i0 z, i? = some i0 ∧ i0.zero = some z ∧ z.cells.size = s ∧ i0.size = s ∧ i0.bytes = b := by
  cases i? with
  | none => cases h
  | some i => simp at h; exact ⟨i, z, rfl, h.1, hz, h.2.1, h.2.2⟩
def KI : Kd Int where
  E := 3
  S := 69
  sz := 1
  bt := 8
  enc := fun x => [.int .i64 x]
  len := fun _ => rfl
  pos := by decide
  bpos := by decide
  one := fun x u hu => by simp at hu; subst hu; rfl
  und := Tryz.underlying69
  info := info_parts (z := .int .i64 0) (by kernel_rfl) rfl
def KU : Kd Int where
  E := 101
  S := 29
  sz := 1
  bt := 8
  enc := fun x => [.int .u64 x]
  len := fun _ => rfl
  pos := by decide
  bpos := by decide
  one := fun x u hu => by simp at hu; subst hu; rfl
  und := Tryz.underlying29
  info := info_parts (z := .int .u64 0) (by kernel_rfl) rfl
def KP : Kd Pl where
  E := 155
  S := 93
  sz := 3
  bt := 24
  enc := fun x => [.int .u8 x.1, .int .i64 x.2.1, .int .i64 x.2.2]
  len := fun _ => rfl
  pos := by decide
  bpos := by decide
  one := fun x u hu => by simp at hu; rcases hu with rfl | rfl | rfl <;> rfl
  und := Tryz.underlying93
  info := info_parts (z := .agg #[.int .u8 0, .int .i64 0, .int .i64 0]) (by kernel_rfl) rfl
/-- a group and the address of its first word -/
abbrev Gx := G × Nat
def KG : Kd Gx where
  E := 88
  S := 86
  sz := 5
  bt := 40
  enc := fun x => [.int .u8 x.1.k, .int .i64 (x.1.i : Nat), .int .i64 (x.1.n : Nat), .int .i64 (x.1.s : Nat), .int .i64 (x.2 : Nat)]
  len := fun _ => rfl
  pos := by decide
  bpos := by decide
  one := fun x u hu => by simp at hu; rcases hu with rfl | rfl | rfl | rfl | rfl <;> rfl
  und := Tryz.underlying86
  info := info_parts (z := .agg #[.int .u8 0, .int .i64 0, .int .i64 0, .int .i64 0, .int .i64 0]) (by kernel_rfl) rfl
theorem rdK_KU {w : World} {A : Option Addr} {l : List Int} (h : RdK .u64 w A l) : KU.Rd w A l := fun i x hi => by
  obtain ⟨hlt, e⟩ := List.getElem?_eq_some_iff.1 hi
  obtain ⟨b, o, ea, c⟩ := h i hlt
  refine ⟨b, o, ea, fun j u hj => ?_⟩
  have hj0 : j = 0 := by have := (List.getElem?_eq_some_iff.1 hj).1; simp [KU] at this; omega
  subst hj0
  have hu : u = .int .u64 x := by simpa [KU] using hj.symm
  subst hu
  rw [List.getD_eq_getElem?_getD, hi] at c
  simpa [KU] using c
theorem KU_rdK {w : World} {A : Option Addr} {l : List Int} (h : KU.Rd w A l) : RdK .u64 w A l := fun k hk => by
  obtain ⟨b, o, ea, c⟩ := h k _ (List.getElem?_eq_getElem hk)
  refine ⟨b, o, ea, ?_⟩
  have := c 0 _ rfl
  simp only [KU, Nat.mul_one, Nat.add_zero] at this
  rw [this, List.getD_eq_getElem?_getD, List.getElem?_eq_getElem hk]; rfl
theorem Om_drew {B : Nat} {a w : World} (h : Below B a w) : Below B a w.drew := ⟨h.os, h.tape, h.output, h.size, h.block⟩
theorem has_any (k : Int) (i n s f : Nat) (x : Int) (w : World) (hb : i + n ≤ 100000) : Calls Tryz.prog 39 #[.agg #[.int .u8 k, .int .i64 i, .int .i64 n, .int .i64 s, .int .i64 f], .int .i64 x] w fun e w' =>
    e = .returned (.bool (decide ((i : Int) ≤ x) && decide (x < ((i + n : Nat) : Int)))) ∧ Below w.heap.size w w' := by
  have hc : ((i + n : Nat) : Int) = (i : Int) + (n : Int) := by omega
  rw [hc]
  clear hc
  obtain ⟨r, hr⟩ : ∃ r, (decide ((i : Int) ≤ x) && decide (x < (i : Int) + (n : Int))) = r := ⟨_, rfl⟩
  rw [hr]
  have HR := Lib.hid hr
  clear hr
  by_cases h0 : (i : Int) ≤ x
  · have d0 := decide_eq_true h0
    by_cases h1 : x < (i : Int) + (n : Int)
    all_goals
      first | (have d1 := decide_eq_true h1) | (have d1 := decide_eq_false h1)
      go_enter Tryz.func39, Tryz.ntmps39
      go_wp2
      go_ret
      exact ⟨by rw [← HR.out]; simp [h0, h1], bel_alloc (Below.refl _ _) _⟩
  · have d0 := decide_eq_false h0
    go_enter Tryz.func39, Tryz.ntmps39
    go_wp2
    go_ret
    exact ⟨by rw [← HR.out, d0]; rfl, bel_alloc (Below.refl _ _) _⟩
theorem at_any (k : Int) (i n s f j : Nat) (w : World) (hb : i + j ≤ 100000) (hs : j * s ≤ 100000) (hf : f ≤ 100000) : Calls Tryz.prog 40 #[.agg #[.int .u8 k, .int .i64 i, .int .i64 n, .int .i64 s, .int .i64 f], .int .i64 ((i + j : Nat) : Int)] w fun e w' =>
    e = .returned (.int .i64 ((f + j * s : Nat) : Int)) ∧ Below w.heap.size w w' := by
  obtain ⟨p, hp⟩ : ∃ p, j * s = p := ⟨_, rfl⟩
  rw [hp] at hs ⊢
  have hc : ((i + j : Nat) : Int) - (i : Int) = (j : Int) := by omega
  have hm : (j : Int) * (s : Int) = (p : Int) := by rw [← hp]; simp
  have hd : (f : Int) + (p : Int) = ((f + p : Nat) : Int) := by omega
  go_enter Tryz.func40, Tryz.ntmps40
  go_wp2
  go_ret
  refine ⟨?_, bel_alloc (Below.refl _ _) _⟩
  simp
  rw [show (i : Int) + (j : Int) - (i : Int) = (j : Int) by omega, hm]
  unfold wrap64
  omega
/-- the answer of a group to an address -/
def ofG (g : Gx) (a : Int) : Value := if (g.2 : Int) ≤ a ∧ a < ((g.2 + g.1.n * g.1.s : Nat) : Int) then .tuple #[.agg #[.int .u8 g.1.k, .int .i64 ((g.1.i + (a.toNat - g.2) / g.1.s : Nat) : Int), .int .i64 (((a.toNat - g.2) % g.1.s : Nat) : Int)], .bool true]
  else .tuple #[.agg #[.int .u8 0, .int .i64 0, .int .i64 0], .bool false]
end Ly
end Go.Proofs.YtdkkpaofodicjaaGreat
