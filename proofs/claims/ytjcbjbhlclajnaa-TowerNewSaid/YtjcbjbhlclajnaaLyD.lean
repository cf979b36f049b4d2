/- Package layout: groups, the words of the engine, the copy of a configuration, the library's slices.Clone at uint64: contracts of the translated code. No conditions beside those of each lemma. -/
import Derived.Test.YtjcbjbhlclajnaaLyC
import Derived.Test.YtjcbjbhlclajnaaLyN
import Derived.Laws.LoneSync
namespace Go.Proofs.Ytjcbjbhlclajnaa
open Go.RowKit Go.Sort
set_option linter.unusedVariables false
set_option linter.unusedSimpArgs false
set_option maxRecDepth 100000
namespace Ly
open Dm (RdK BdU dmB dmE dmN bel_alloc bel_trans cell_lt)
theorem info_parts {i? : Option TypeInfo} {z : Value} {s b : Nat} (h : i?.map (fun i => (i.zero, i.size, i.bytes)) = some (some z, s, b)) (hz : z.cells.size = s) : ∃ i0 z, i? = some i0 ∧ i0.zero = some z ∧ z.cells.size = s ∧ i0.size = s ∧ i0.bytes = b := by
  cases i? with
  | none => cases h
  | some i => simp at h; exact ⟨i, z, rfl, h.1, hz, h.2.1, h.2.2⟩
def KI : Kd Int where
  E := 3
  S := 25
  sz := 1
  bt := 8
  enc := fun x => [.int .i64 x]
  len := fun _ => rfl
  pos := by decide
  bpos := by decide
  one := fun x u hu => by simp at hu; subst hu; rfl
  und := Try.underlying25
  info := info_parts (z := .int .i64 0) (by kernel_rfl) rfl
def KU : Kd Int where
  E := 27
  S := 43
  sz := 1
  bt := 8
  enc := fun x => [.int .u64 x]
  len := fun _ => rfl
  pos := by decide
  bpos := by decide
  one := fun x u hu => by simp at hu; subst hu; rfl
  und := Try.underlying43
  info := info_parts (z := .int .u64 0) (by kernel_rfl) rfl
def KP : Kd Pl where
  E := 208
  S := 191
  sz := 3
  bt := 24
  enc := fun x => [.int .u8 x.1, .int .i64 x.2.1, .int .i64 x.2.2]
  len := fun _ => rfl
  pos := by decide
  bpos := by decide
  one := fun x u hu => by simp at hu; rcases hu with rfl | rfl | rfl <;> rfl
  und := Try.underlying191
  info := info_parts (z := .agg #[.int .u8 0, .int .i64 0, .int .i64 0]) (by kernel_rfl) rfl
/-- a group and the address of its first word -/
abbrev Gx := G × Nat
def KG : Kd Gx where
  E := 138
  S := 136
  sz := 5
  bt := 40
  enc := fun x => [.int .u8 x.1.k, .int .i64 (x.1.i : Nat), .int .i64 (x.1.n : Nat), .int .i64 (x.1.s : Nat), .int .i64 (x.2 : Nat)]
  len := fun _ => rfl
  pos := by decide
  bpos := by decide
  one := fun x u hu => by simp at hu; rcases hu with rfl | rfl | rfl | rfl | rfl <;> rfl
  und := Try.underlying136
  info := info_parts (z := .agg #[.int .u8 0, .int .i64 0, .int .i64 0, .int .i64 0, .int .i64 0]) (by kernel_rfl) rfl
theorem rdK_KU {w : World} {A : Option Addr} {l : List Int} (h : RdK .u64 w A l) : KU.Rd w A l := fun i x hi => by
  obtain ⟨hlt, e⟩ := List.getElem?_eq_some_iff.1 hi
  obtain ⟨b, o, ea, c⟩ := h i hlt
  refine ⟨b, o, ea, fun j u hj => ?_⟩
  have hj0 : j = 0 := by have := (List.getElem?_eq_some_iff.1 hj).1; simp [KU] at this; omega
  subst hj0
  have hu : u = .int .u64 x := by simpa [KU] using hj.symm
  subst hu
  rw [List.getD_eq_getElem?_getD, hi] at c
  simpa [KU] using c
theorem KU_rdK {w : World} {A : Option Addr} {l : List Int} (h : KU.Rd w A l) : RdK .u64 w A l := fun k hk => by
  obtain ⟨b, o, ea, c⟩ := h k _ (List.getElem?_eq_getElem hk)
  refine ⟨b, o, ea, ?_⟩
  have := c 0 _ rfl
  simp only [KU, Nat.mul_one, Nat.add_zero] at this
  rw [this, List.getD_eq_getElem?_getD, List.getElem?_eq_getElem hk]; rfl
theorem Om_drew {B : Nat} {a w : World} (h : Below B a w) : Below B a w.drew := ⟨h.os, h.tape, h.output, h.size, h.block⟩
theorem has_any (k : Int) (i n s f : Nat) (x : Int) (w : World) (hb : i + n ≤ 100000) : Calls Try.prog 71 #[.agg #[.int .u8 k, .int .i64 i, .int .i64 n, .int .i64 s, .int .i64 f], .int .i64 x] w fun e w' =>
    e = .returned (.bool (decide ((i : Int) ≤ x) && decide (x < ((i + n : Nat) : Int)))) ∧ Below w.heap.size w w' := by
  have hc : ((i + n : Nat) : Int) = (i : Int) + (n : Int) := by omega
  rw [hc]
  clear hc
  obtain ⟨r, hr⟩ : ∃ r, (decide ((i : Int) ≤ x) && decide (x < (i : Int) + (n : Int))) = r := ⟨_, rfl⟩
  rw [hr]
  have HR := Lib.hid hr
  clear hr
  by_cases h0 : (i : Int) ≤ x
  · have d0 := decide_eq_true h0
    by_cases h1 : x < (i : Int) + (n : Int)
    all_goals
      first | (have d1 := decide_eq_true h1) | (have d1 := decide_eq_false h1)
      go_enter Try.func71, Try.ntmps71
      go_wp2
      go_ret
      exact ⟨by rw [← HR.out]; simp [h0, h1], bel_alloc (Below.refl _ _) _⟩
  · have d0 := decide_eq_false h0
    go_enter Try.func71, Try.ntmps71
    go_wp2
    go_ret
    exact ⟨by rw [← HR.out, d0]; rfl, bel_alloc (Below.refl _ _) _⟩
theorem at_any (k : Int) (i n s f j : Nat) (w : World) (hb : i + j ≤ 100000) (hs : j * s ≤ 100000) (hf : f ≤ 100000) : Calls Try.prog 58 #[.agg #[.int .u8 k, .int .i64 i, .int .i64 n, .int .i64 s, .int .i64 f], .int .i64 ((i + j : Nat) : Int)] w fun e w' =>
    e = .returned (.int .i64 ((f + j * s : Nat) : Int)) ∧ Below w.heap.size w w' := by
  obtain ⟨p, hp⟩ : ∃ p, j * s = p := ⟨_, rfl⟩
  rw [hp] at hs ⊢
  have hc : ((i + j : Nat) : Int) - (i : Int) = (j : Int) := by omega
  have hm : (j : Int) * (s : Int) = (p : Int) := by rw [← hp]; simp
  have hd : (f : Int) + (p : Int) = ((f + p : Nat) : Int) := by omega
  go_enter Try.func58, Try.ntmps58
  go_wp2
  go_ret
  refine ⟨?_, bel_alloc (Below.refl _ _) _⟩
  simp
  rw [show (i : Int) + (j : Int) - (i : Int) = (j : Int) by omega, hm]
  unfold wrap64
  omega
/-- the answer of a group to an address -/
def ofG (g : Gx) (a : Int) : Value := if (g.2 : Int) ≤ a ∧ a < ((g.2 + g.1.n * g.1.s : Nat) : Int) then .tuple #[.agg #[.int .u8 g.1.k, .int .i64 ((g.1.i + (a.toNat - g.2) / g.1.s : Nat) : Int), .int .i64 (((a.toNat - g.2) % g.1.s : Nat) : Int)], .bool true]
  else .tuple #[.agg #[.int .u8 0, .int .i64 0, .int .i64 0], .bool false]
theorem of_any (k : Int) (i n s f : Nat) (a : Int) (w : World) (hs : n * s ≤ 100000) (hi : i ≤ 100000) (hf : f ≤ 100000) : Calls Try.prog 108 #[.agg #[.int .u8 k, .int .i64 i, .int .i64 n, .int .i64 s, .int .i64 f], .int .i64 a] w fun e w' =>
    e = .returned (ofG (⟨k, i, n, s⟩, f) a) ∧ Below w.heap.size w w' := by
  simp only [ofG]
  obtain ⟨p, hp⟩ : ∃ p, n * s = p := ⟨_, rfl⟩
  have hm : (n : Int) * (s : Int) = (p : Int) := by rw [← hp]; simp
  rw [hp] at hs ⊢
  have hc : (f : Int) + (p : Int) = ((f + p : Nat) : Int) := by omega
  by_cases h : (f : Int) ≤ a ∧ a < ((f + p : Nat) : Int)
  · rw [if_pos h]
    have hx : a.toNat - f < n * s := by omega
    have hin := at_in (g := ⟨k, i, n, s⟩) hx
    simp only at hin
    obtain ⟨x, hxe⟩ : ∃ x, a.toNat - f = x := ⟨_, rfl⟩
    rw [hxe] at hin hx ⊢
    obtain ⟨q, hq⟩ : ∃ q, x / s = q := ⟨_, rfl⟩
    obtain ⟨u, hu⟩ : ∃ u, x % s = u := ⟨_, rfl⟩
    rw [hq, hu] at hin ⊢
    have hqn : q ≤ n * s := Nat.le_trans (Nat.le_of_lt hin.2.1) (Nat.le_mul_of_pos_right _ hin.1)
    have hxb : (x : Int) ≤ 100000 := by omega
    have hqb : (q : Int) ≤ 100000 := by omega
    have hq0 : (x : Int) / (s : Int) = (q : Int) := by rw [← hq]; simp
    have hu0 : (x : Int) % (s : Int) = (u : Int) := by rw [← hu]; simp
    have h0 : decide (a < (f : Int)) = false := decide_eq_false (by omega)
    have h1 : decide ((f : Int) + (p : Int) ≤ a) = false := decide_eq_false (by omega)
    have h2 : a - (f : Int) = (x : Int) := by omega
    have hs0 : (s : Int) ≠ 0 := by omega
    clear hin hxe h hc hx hqn hq hu
    go_enter Try.func108, Try.ntmps108
    go_wp2_with fail
    go_region
    go_wp2
    refine bodyPost_ret (v := .tuple #[.agg #[.int .u8 k, .int .i64 ((i : Int) + (q : Int)), .int .i64 (u : Int)], .bool true]) (by simp [results, Try.results108, go_sem]) rfl ⟨by simp, ?_⟩
    exact Om_drew (bel_alloc (bel_alloc (Below.refl _ _) _) _)
  · rw [if_neg h]
    have hout : decide (a < (f : Int)) = true ∨ (decide (a < (f : Int)) = false ∧ decide ((f : Int) + (p : Int) ≤ a) = true) := by
      by_cases h0 : a < (f : Int)
      · exact .inl (decide_eq_true h0)
      · exact .inr ⟨decide_eq_false h0, decide_eq_true (by omega)⟩
    clear h hc
    rcases hout with h0 | ⟨h0, h1⟩
    all_goals
      go_enter Try.func108, Try.ntmps108
      go_wp2
      refine bodyPost_ret (v := .tuple #[.agg #[.int .u8 0, .int .i64 0, .int .i64 0], .bool false]) (by simp [results, Try.results108, go_sem]) rfl ⟨rfl, ?_⟩
      first | exact Om_drew (bel_alloc (bel_alloc (Below.refl _ _) _) _) | exact bel_alloc (bel_alloc (Below.refl _ _) _) _
end Ly
end Go.Proofs.Ytjcbjbhlclajnaa
