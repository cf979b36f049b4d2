/- leapfroglaw15: Config: contract of the translated code; the open form of an array of six small numbers. Conditions: none. (Written by tools/mk15h.py.) -/
import Derived.Test.YtjcbjbhlclajnaaTwB
import Derived.Test.YtjcbjbhlclajnaaLyH1
import Derived.Test.YtjcbjbhlclajnaaLyJ
import Derived.Deep.MidRow
namespace Go.Proofs.Ytjcbjbhlclajnaa
open Go.RowKit Go.Sort
set_option linter.unusedVariables false
set_option linter.unusedSimpArgs false
set_option maxRecDepth 100000
namespace Ly
open Dm (RdK BdU dmB dmE dmN bel_alloc bel_trans cell_lt)
theorem sz_cfg16 : (Try.prog.info? 87).map (·.size) = some 16 := by kernel_rfl
theorem cfg_cells (f : Cf) : (#[.int .i64 f.th, .int .i64 f.sl, .int .u8 f.en, .int .i64 f.bu, .int .u8 f.k, .int .i64 f.n, .slice f.A f.m f.c, .int .i64 (f.t 0), .int .i64 (f.t 1), .int .i64 (f.t 2), .int .i64 (f.t 3), .int .i64 (f.t 4), .int .i64 (f.t 5), .int .i64 f.lo, .int .i64 f.tr, .int .i64 f.ba] : Array Value).all (·.oneCell') = true := all_oneCell_toArray (cs := [.int .i64 f.th, .int .i64 f.sl, .int .u8 f.en, .int .i64 f.bu, .int .u8 f.k, .int .i64 f.n, .slice f.A f.m f.c, .int .i64 (f.t 0), .int .i64 (f.t 1), .int .i64 (f.t 2), .int .i64 (f.t 3), .int .i64 (f.t 4), .int .i64 (f.t 5), .int .i64 f.lo, .int .i64 f.tr, .int .i64 f.ba]) (fun v hv => by simp at hv; rcases hv with rfl | rfl | rfl | rfl | rfl | rfl | rfl | rfl | rfl | rfl | rfl | rfl | rfl | rfl | rfl | rfl <;> rfl)
theorem cfg_there {w w1 : World} {b : Nat} {f : Cf} (h : w.heap[b]? = some (.cells #[.int .i64 f.th, .int .i64 f.sl, .int .u8 f.en, .int .i64 f.bu, .int .u8 f.k, .int .i64 f.n, .slice f.A f.m f.c, .int .i64 (f.t 0), .int .i64 (f.t 1), .int .i64 (f.t 2), .int .i64 (f.t 3), .int .i64 (f.t 4), .int .i64 (f.t 5), .int .i64 f.lo, .int .i64 f.tr, .int .i64 f.ba] 87)) (hb : Below w.heap.size w w1) : w1.there b 0 16 := fun j hj => by
  have hc : ∃ v, (#[.int .i64 f.th, .int .i64 f.sl, .int .u8 f.en, .int .i64 f.bu, .int .u8 f.k, .int .i64 f.n, .slice f.A f.m f.c, .int .i64 (f.t 0), .int .i64 (f.t 1), .int .i64 (f.t 2), .int .i64 (f.t 3), .int .i64 (f.t 4), .int .i64 (f.t 5), .int .i64 f.lo, .int .i64 f.tr, .int .i64 f.ba] : Array Value)[j]? = some v := ⟨_, Array.getElem?_eq_getElem (by simpa using hj)⟩
  obtain ⟨v, hv⟩ := hc
  have c := cell_of h hv
  have lt := cell_lt c
  rw [Nat.zero_add]
  refine ⟨by rw [hb.cell (p := ⟨b, j, none⟩) lt, c]; rfl, ?_⟩
  rw [hb.frozen (p := ⟨b, j, none⟩) lt]
  simp [World.frozen?, h]
theorem CfB.put {w : World} {b : Nat} (f : Cf) (ht : w.there b 0 16) : CfB (w.setCells b 0 [.int .i64 f.th, .int .i64 f.sl, .int .u8 f.en, .int .i64 f.bu, .int .u8 f.k, .int .i64 f.n, .slice f.A f.m f.c, .int .i64 (f.t 0), .int .i64 (f.t 1), .int .i64 (f.t 2), .int .i64 (f.t 3), .int .i64 (f.t 4), .int .i64 (f.t 5), .int .i64 f.lo, .int .i64 f.tr, .int .i64 f.ba]) b f := by
  have k := World.cell?_setCells_in b [.int .i64 f.th, .int .i64 f.sl, .int .u8 f.en, .int .i64 f.bu, .int .u8 f.k, .int .i64 f.n, .slice f.A f.m f.c, .int .i64 (f.t 0), .int .i64 (f.t 1), .int .i64 (f.t 2), .int .i64 (f.t 3), .int .i64 (f.t 4), .int .i64 (f.t 5), .int .i64 f.lo, .int .i64 f.tr, .int .i64 f.ba] 0 w (fun j hj => by rw [Nat.zero_add]; have := (ht j hj).1; rw [Nat.zero_add] at this; exact this)
  have k' : ∀ j v, j < 16 → ([.int .i64 f.th, .int .i64 f.sl, .int .u8 f.en, .int .i64 f.bu, .int .u8 f.k, .int .i64 f.n, .slice f.A f.m f.c, .int .i64 (f.t 0), .int .i64 (f.t 1), .int .i64 (f.t 2), .int .i64 (f.t 3), .int .i64 (f.t 4), .int .i64 (f.t 5), .int .i64 f.lo, .int .i64 f.tr, .int .i64 f.ba] : List Value)[j]? = some v → (w.setCells b 0 [.int .i64 f.th, .int .i64 f.sl, .int .u8 f.en, .int .i64 f.bu, .int .u8 f.k, .int .i64 f.n, .slice f.A f.m f.c, .int .i64 (f.t 0), .int .i64 (f.t 1), .int .i64 (f.t 2), .int .i64 (f.t 3), .int .i64 (f.t 4), .int .i64 (f.t 5), .int .i64 f.lo, .int .i64 f.tr, .int .i64 f.ba]).cell? ⟨b, j, none⟩ = some v := fun j v hj hv => by
    have h1 := k j hj
    rw [Nat.zero_add] at h1
    rw [h1, ← List.getElem?_eq_getElem, hv]
  exact ⟨k' 0 _ (by omega) rfl, k' 1 _ (by omega) rfl, k' 2 _ (by omega) rfl, k' 3 _ (by omega) rfl, k' 4 _ (by omega) rfl, k' 5 _ (by omega) rfl, k' 6 _ (by omega) rfl, k' 7 _ (by omega) rfl, k' 8 _ (by omega) rfl, k' 9 _ (by omega) rfl, k' 10 _ (by omega) rfl, k' 11 _ (by omega) rfl, k' 12 _ (by omega) rfl, k' 13 _ (by omega) rfl, k' 14 _ (by omega) rfl, k' 15 _ (by omega) rfl⟩
section
variable {ops : Array Oper} {rest : List Oper} {op : Oper} {a : Act} {w : World} {Q : Exit → Act → World → Prop}
theorem st_cfg (hgd : op.guard = none) (p y : Operand) (ho : op.op = .store 87 p y) (b : Nat) (f : Cf) (ht : w.there b 0 16) (hp : a.eval p = .pointer (some ⟨b, 0, none⟩)) (hy : a.eval y = .agg #[.int .i64 f.th, .int .i64 f.sl, .int .u8 f.en, .int .i64 f.bu, .int .u8 f.k, .int .i64 f.n, .slice f.A f.m f.c, .int .i64 (f.t 0), .int .i64 (f.t 1), .int .i64 (f.t 2), .int .i64 (f.t 3), .int .i64 (f.t 4), .int .i64 (f.t 5), .int .i64 f.lo, .int .i64 f.tr, .int .i64 f.ba])
    (h : ∀ W', CfB W' b f → (∀ N w0, N ≤ b → Below N w0 w → Below N w0 W') → (∀ k, k ≠ b → W'.heap[k]? = w.heap[k]?) → wpList Try.prog ops Q rest (a.put op.dst undef) W') : wpList Try.prog ops Q (op :: rest) a w := by
  refine wpList_store_mid hgd _ p y ho b 0 #[.int .i64 f.th, .int .i64 f.sl, .int .u8 f.en, .int .i64 f.bu, .int .u8 f.k, .int .i64 f.n, .slice f.A f.m f.c, .int .i64 (f.t 0), .int .i64 (f.t 1), .int .i64 (f.t 2), .int .i64 (f.t 3), .int .i64 (f.t 4), .int .i64 (f.t 5), .int .i64 f.lo, .int .i64 f.tr, .int .i64 f.ba] hp hy ht sz_cfg16 (cfg_cells f) ?_
  exact h _ (CfB.put f ht) (fun N w0 hN hb => below_setCells hb hN _ _) (fun k hk => block_setCells _ _ _ _ _ hk)
theorem ld_cfg (hgd : op.guard = none) (p : Operand) (ho : op.op = .load 87 p) (b : Nat) (f : Cf) (hf : CfB w b f) (hp : a.eval p = .pointer (some ⟨b, 0, none⟩))
    (h : wpList Try.prog ops Q rest (a.put op.dst (.agg #[.int .i64 f.th, .int .i64 f.sl, .int .u8 f.en, .int .i64 f.bu, .int .u8 f.k, .int .i64 f.n, .slice f.A f.m f.c, .int .i64 (f.t 0), .int .i64 (f.t 1), .int .i64 (f.t 2), .int .i64 (f.t 3), .int .i64 (f.t 4), .int .i64 (f.t 5), .int .i64 f.lo, .int .i64 f.tr, .int .i64 f.ba])) w) : wpList Try.prog ops Q (op :: rest) a w := by
  refine wpList_load_mid hgd _ p ho b 0 hp [.int .i64 f.th, .int .i64 f.sl, .int .u8 f.en, .int .i64 f.bu, .int .u8 f.k, .int .i64 f.n, .slice f.A f.m f.c, .int .i64 (f.t 0), .int .i64 (f.t 1), .int .i64 (f.t 2), .int .i64 (f.t 3), .int .i64 (f.t 4), .int .i64 (f.t 5), .int .i64 f.lo, .int .i64 f.tr, .int .i64 f.ba] _ (fun j v hj => ?_) Try.underlying87 rfl sz_cfg16 h
  rw [Nat.zero_add]
  match j, hj with
  | 0, hj => cases hj; exact hf.c0
  | 1, hj => cases hj; exact hf.c1
  | 2, hj => cases hj; exact hf.c2
  | 3, hj => cases hj; exact hf.c3
  | 4, hj => cases hj; exact hf.c4
  | 5, hj => cases hj; exact hf.c5
  | 6, hj => cases hj; exact hf.c6
  | 7, hj => cases hj; exact hf.c7
  | 8, hj => cases hj; exact hf.c8
  | 9, hj => cases hj; exact hf.c9
  | 10, hj => cases hj; exact hf.c10
  | 11, hj => cases hj; exact hf.c11
  | 12, hj => cases hj; exact hf.c12
  | 13, hj => cases hj; exact hf.c13
  | 14, hj => cases hj; exact hf.c14
  | 15, hj => cases hj; exact hf.c15
  | j + 16, hj => simp at hj
end
end Ly
namespace Tw
open Wd
open Ly (Ge tot pk pW nxO wdO ad tg gs InT Cf LyAt I64 KI RAt okB geo CfB)
open Dm (addr_lit info_parts spot_none RdK flatU infoU bel_alloc bel_trans own_keep below_drewN)
def six8 (t : Nat → Int) : Array Value := #[.int .u8 (t 0), .int .u8 (t 1), .int .u8 (t 2), .int .u8 (t 3), .int .u8 (t 4), .int .u8 (t 5)]
theorem six8_cell {W : World} {b : Nat} {t : Nat → Int} {ty : TypeId} (h : W.heap[b]? = some (.cells (six8 t) ty (0, 0))) {k : Nat} (hk : k < 6) : W.cell? ⟨b, k, none⟩ = some (.int .u8 (t k)) := by
  have : (six8 t)[k]? = some (.int .u8 (t k)) := by
    match k, hk with
    | 0, _ => rfl
    | 1, _ => rfl
    | 2, _ => rfl
    | 3, _ => rfl
    | 4, _ => rfl
    | 5, _ => rfl
  simp [World.cell?, h, this]
def setT (f : Cf) (k : Nat) (v : Int) : Cf := { f with t := fun i => if i = k then v else f.t i }
theorem CfB.setT {w : World} {b : Nat} {f : Cf} (h : CfB w b f) {k : Nat} (hk : k < 6) (v : Int) : CfB (w.setCell ⟨b, 7 + k, none⟩ (.int .i64 v)) b (setT f k v) := by
  have o : ∀ j, j ≠ 7 + k → (w.setCell ⟨b, 7 + k, none⟩ (.int .i64 v)).cell? ⟨b, j, none⟩ = w.cell? ⟨b, j, none⟩ := fun j hj => Ly.cell_set (fun e => hj e.symm)
  have six : w.cell? ⟨b, 7 + k, none⟩ = some (.int .i64 (f.t k)) := by
    rcases (show k = 0 ∨ k = 1 ∨ k = 2 ∨ k = 3 ∨ k = 4 ∨ k = 5 by omega) with rfl | rfl | rfl | rfl | rfl | rfl
    · exact h.c7
    · exact h.c8
    · exact h.c9
    · exact h.c10
    · exact h.c11
    · exact h.c12
  have s : (w.setCell ⟨b, 7 + k, none⟩ (.int .i64 v)).cell? ⟨b, 7 + k, none⟩ = some (.int .i64 v) := World.cell?_setCell_same _ _ _ six
  rcases (show k = 0 ∨ k = 1 ∨ k = 2 ∨ k = 3 ∨ k = 4 ∨ k = 5 by omega) with rfl | rfl | rfl | rfl | rfl | rfl
  · exact ⟨(o 0 (by omega)).trans h.c0, (o 1 (by omega)).trans h.c1, (o 2 (by omega)).trans h.c2, (o 3 (by omega)).trans h.c3, (o 4 (by omega)).trans h.c4, (o 5 (by omega)).trans h.c5, (o 6 (by omega)).trans h.c6, s, (o 8 (by omega)).trans h.c8, (o 9 (by omega)).trans h.c9, (o 10 (by omega)).trans h.c10, (o 11 (by omega)).trans h.c11, (o 12 (by omega)).trans h.c12, (o 13 (by omega)).trans h.c13, (o 14 (by omega)).trans h.c14, (o 15 (by omega)).trans h.c15⟩
  · exact ⟨(o 0 (by omega)).trans h.c0, (o 1 (by omega)).trans h.c1, (o 2 (by omega)).trans h.c2, (o 3 (by omega)).trans h.c3, (o 4 (by omega)).trans h.c4, (o 5 (by omega)).trans h.c5, (o 6 (by omega)).trans h.c6, (o 7 (by omega)).trans h.c7, s, (o 9 (by omega)).trans h.c9, (o 10 (by omega)).trans h.c10, (o 11 (by omega)).trans h.c11, (o 12 (by omega)).trans h.c12, (o 13 (by omega)).trans h.c13, (o 14 (by omega)).trans h.c14, (o 15 (by omega)).trans h.c15⟩
  · exact ⟨(o 0 (by omega)).trans h.c0, (o 1 (by omega)).trans h.c1, (o 2 (by omega)).trans h.c2, (o 3 (by omega)).trans h.c3, (o 4 (by omega)).trans h.c4, (o 5 (by omega)).trans h.c5, (o 6 (by omega)).trans h.c6, (o 7 (by omega)).trans h.c7, (o 8 (by omega)).trans h.c8, s, (o 10 (by omega)).trans h.c10, (o 11 (by omega)).trans h.c11, (o 12 (by omega)).trans h.c12, (o 13 (by omega)).trans h.c13, (o 14 (by omega)).trans h.c14, (o 15 (by omega)).trans h.c15⟩
  · exact ⟨(o 0 (by omega)).trans h.c0, (o 1 (by omega)).trans h.c1, (o 2 (by omega)).trans h.c2, (o 3 (by omega)).trans h.c3, (o 4 (by omega)).trans h.c4, (o 5 (by omega)).trans h.c5, (o 6 (by omega)).trans h.c6, (o 7 (by omega)).trans h.c7, (o 8 (by omega)).trans h.c8, (o 9 (by omega)).trans h.c9, s, (o 11 (by omega)).trans h.c11, (o 12 (by omega)).trans h.c12, (o 13 (by omega)).trans h.c13, (o 14 (by omega)).trans h.c14, (o 15 (by omega)).trans h.c15⟩
  · exact ⟨(o 0 (by omega)).trans h.c0, (o 1 (by omega)).trans h.c1, (o 2 (by omega)).trans h.c2, (o 3 (by omega)).trans h.c3, (o 4 (by omega)).trans h.c4, (o 5 (by omega)).trans h.c5, (o 6 (by omega)).trans h.c6, (o 7 (by omega)).trans h.c7, (o 8 (by omega)).trans h.c8, (o 9 (by omega)).trans h.c9, (o 10 (by omega)).trans h.c10, s, (o 12 (by omega)).trans h.c12, (o 13 (by omega)).trans h.c13, (o 14 (by omega)).trans h.c14, (o 15 (by omega)).trans h.c15⟩
  · exact ⟨(o 0 (by omega)).trans h.c0, (o 1 (by omega)).trans h.c1, (o 2 (by omega)).trans h.c2, (o 3 (by omega)).trans h.c3, (o 4 (by omega)).trans h.c4, (o 5 (by omega)).trans h.c5, (o 6 (by omega)).trans h.c6, (o 7 (by omega)).trans h.c7, (o 8 (by omega)).trans h.c8, (o 9 (by omega)).trans h.c9, (o 10 (by omega)).trans h.c10, (o 11 (by omega)).trans h.c11, s, (o 13 (by omega)).trans h.c13, (o 14 (by omega)).trans h.c14, (o 15 (by omega)).trans h.c15⟩
/-- the number of domain values -/
def nnV (n : Int) : Int := if 1 ≤ n ∧ n ≤ 4 then n else 1
theorem nnV_bd (n : Int) : 1 ≤ nnV n ∧ nnV n ≤ 4 := by unfold nnV; split <;> omega
/-- the configuration of the laws -/
def cfT (n : Int) (t : Nat → Int) : Cf := ⟨4, 2, 1, 0, 2, nnV n, none, 0, 0, fun i => t i % 13, 2, 3, 0⟩
theorem cfT_tot (t : Nat → Int) : ∀ k, k ≤ 6 → tot (fun i => (t i % 13).toNat) k ≤ 12 * k
  | 0, _ => Nat.le_refl _
  | k + 1, h => by
    have := cfT_tot t k (by omega)
    rw [tot]
    have h2 : (t k % 13).toNat ≤ 12 := by omega
    omega
theorem cfT_twB (t : Nat → Int) : ∀ k, k ≤ 6 → Ly.twB (fun i => t i % 13) k = true ∧ 0 ≤ Ly.sm (fun i => t i % 13) k ∧ Ly.sm (fun i => t i % 13) k ≤ 12 * k
  | 0, _ => ⟨rfl, by simp [Ly.sm], by simp [Ly.sm]⟩
  | k + 1, h => by
    obtain ⟨h1, h2, h3⟩ := cfT_twB t k (by omega)
    have h4 : 0 ≤ t k % 13 ∧ t k % 13 ≤ 12 := by omega
    refine ⟨?_, ?_, ?_⟩
    · rw [Ly.twB, h1, decide_eq_true h4.1, decide_eq_true (by omega)]; rfl
    · rw [Ly.sm]; omega
    · rw [Ly.sm]; omega
theorem cfT_gd (n : Int) (t : Nat → Int) : Gd (cfT n t) := by
  have hn := nnV_bd n
  have i4 : I64 4 := by constructor <;> decide
  have i2 : I64 2 := by constructor <;> decide
  have i3 : I64 3 := by constructor <;> decide
  have i0 : I64 0 := by constructor <;> decide
  have u1 : (0 : Int) ≤ 1 ∧ (1 : Int) ≤ 255 := by decide
  have u2 : (0 : Int) ≤ 2 ∧ (2 : Int) ≤ 255 := by decide
  have iN : I64 (nnV n) := by constructor <;> omega
  refine ⟨⟨i4, i2, u1, i0, u2, iN, fun i hi => (by constructor <;> (show _ ≤ _; simp only [cfT]; omega)), i2, i3, i0, rfl, Nat.zero_le _, fun k hk => (by simp at hk), fun _ => rfl⟩, ?_⟩
  have h1 := (cfT_twB t 6 (Nat.le_refl _)).1
  unfold okB
  show ((decide ((1:Int) ≤ 4) && decide ((4:Int) ≤ 64)) && (decide ((1:Int) ≤ 2) && decide ((2:Int) ≤ 64)) && Ly.engB 1 0 && Dm.dmB 2 (nnV n) [] && Ly.twB (fun i => t i % 13) 6 && (decide ((1:Int) ≤ 2) && decide ((2:Int) ≤ 16)) && (decide ((1:Int) ≤ 3) && decide ((3:Int) ≤ 255)) && (decide ((0:Int) ≤ 0) && decide ((0:Int) ≤ 64))) = true
  have h2 : Dm.dmB 2 (nnV n) [] = true := by
    rcases (show nnV n = 1 ∨ nnV n = 2 ∨ nnV n = 3 ∨ nnV n = 4 by omega) with e | e | e | e <;> (rw [e]; decide)
  rw [h1, h2]
  decide
/-- the configuration of which k numbers have been set -/
def cfK (NN : Int) (t : Nat → Int) (k : Nat) : Cf := ⟨4, 2, 1, 0, 2, NN, none, 0, 0, fun i => if i < k then t i % 13 else 0, 2, 3, 0⟩
theorem cfK_set (NN : Int) (t : Nat → Int) (k : Nat) : setT (cfK NN t k) k (t k % 13) = cfK NN t (k + 1) := by
  unfold setT cfK
  congr 1
  funext i
  by_cases e : i = k
  · subst e; rw [if_pos rfl, if_pos (by omega)]
  · rw [if_neg e]
    dsimp only
    by_cases h : i < k
    · rw [if_pos h, if_pos (by omega)]
    · rw [if_neg h, if_neg (by omega)]
theorem cfK_end {NN : Int} {n : Int} (h : NN = nnV n) (t : Nat → Int) : cfgV (cfK NN t 6) = cfgV (cfT n t) := by rw [h]; rfl
theorem there_keep {w w1 : World} {b k : Nat} (h : w.there b 0 k) (hb : w1.heap[b]? = w.heap[b]?) : w1.there b 0 k := fun j hj => by
  obtain ⟨h1, h2⟩ := h j hj
  exact ⟨by rw [World.cell?_of_block (a := ⟨b, 0 + j, none⟩) hb]; exact h1, (World.frozen?_of_block (a := ⟨b, 0 + j, none⟩) hb).trans h2⟩
theorem there_set {w : World} {b k : Nat} (h : w.there b 0 k) (j : Nat) (v : Value) : (w.setCell ⟨b, j, none⟩ v).there b 0 k := fun i hi => by
  obtain ⟨h1, h2⟩ := h i hi
  refine ⟨?_, by rw [World.frozen?_setCell]; exact h2⟩
  by_cases e : j = 0 + i
  · subst e
    obtain ⟨u, hu⟩ := Option.isSome_iff_exists.1 h1
    rw [World.cell?_setCell_same _ _ _ hu]; rfl
  · rw [Ly.cell_set e]; exact h1
structure Ks (w wr : World) (NN : Int) (t : Nat → Int) (k : Nat) : Prop where
  c : CfB wr (w.heap.size + 1 + 1) (cfK NN t k)
  h : wr.there (w.heap.size + 1 + 1) 0 16
  r : wr.there (w.heap.size + 1) 0 16
  a : ∀ i, i < 6 → wr.cell? ⟨w.heap.size, i, none⟩ = some (.int .u8 (t i))
  b : Below w.heap.size w wr
theorem Ks.start (w : World) (NN : Int) (t : Nat → Int) : Ks w (((w.alloc (.cells #[.int .u8 (t 0), .int .u8 (t 1), .int .u8 (t 2), .int .u8 (t 3), .int .u8 (t 4), .int .u8 (t 5)] 82)).alloc (.cells #[.int .i64 0, .int .i64 0, .int .u8 0, .int .i64 0, .int .u8 0, .int .i64 0, .slice none 0 0, .int .i64 0, .int .i64 0, .int .i64 0, .int .i64 0, .int .i64 0, .int .i64 0, .int .i64 0, .int .i64 0, .int .i64 0] 87)).alloc (.cells #[.int .i64 4, .int .i64 2, .int .u8 1, .int .i64 0, .int .u8 2, .int .i64 NN, .slice none 0 0, .int .i64 0, .int .i64 0, .int .i64 0, .int .i64 0, .int .i64 0, .int .i64 0, .int .i64 2, .int .i64 3, .int .i64 0] 87)) NN t 0 := by
  obtain ⟨W1, hW1⟩ : ∃ W, W = w.alloc (.cells #[.int .u8 (t 0), .int .u8 (t 1), .int .u8 (t 2), .int .u8 (t 3), .int .u8 (t 4), .int .u8 (t 5)] 82) := ⟨_, rfl⟩
  obtain ⟨W2, hW2⟩ : ∃ W, W = W1.alloc (.cells #[.int .i64 0, .int .i64 0, .int .u8 0, .int .i64 0, .int .u8 0, .int .i64 0, .slice none 0 0, .int .i64 0, .int .i64 0, .int .i64 0, .int .i64 0, .int .i64 0, .int .i64 0, .int .i64 0, .int .i64 0, .int .i64 0] 87) := ⟨_, rfl⟩
  have s1 : W1.heap.size = w.heap.size + 1 := by rw [hW1, World.size_alloc]
  have s2 : W2.heap.size = w.heap.size + 1 + 1 := by rw [hW2, World.size_alloc, s1]
  have h1 : W1.heap[w.heap.size]? = some (.cells (six8 t) 82 (0, 0)) := by rw [hW1]; exact heap_alloc_new w _
  have h2 : W2.heap[w.heap.size + 1]? = some (.cells #[.int .i64 0, .int .i64 0, .int .u8 0, .int .i64 0, .int .u8 0, .int .i64 0, .slice none 0 0, .int .i64 0, .int .i64 0, .int .i64 0, .int .i64 0, .int .i64 0, .int .i64 0, .int .i64 0, .int .i64 0, .int .i64 0] 87 (0, 0)) := by rw [hW2, ← s1]; exact heap_alloc_new W1 _
  have b01 : Below w.heap.size w W1 := by rw [hW1]; exact bel_alloc (Below.refl _ _) _
  have b12 : Below W1.heap.size W1 W2 := by rw [hW2]; exact bel_alloc (Below.refl _ _) _
  rw [← hW1, ← hW2]
  have b23 : Below W2.heap.size W2 (W2.alloc (.cells #[.int .i64 4, .int .i64 2, .int .u8 1, .int .i64 0, .int .u8 2, .int .i64 NN, .slice none 0 0, .int .i64 0, .int .i64 0, .int .i64 0, .int .i64 0, .int .i64 0, .int .i64 0, .int .i64 2, .int .i64 3, .int .i64 0] 87)) := bel_alloc (Below.refl _ _) _
  have h3 : (W2.alloc (.cells #[.int .i64 4, .int .i64 2, .int .u8 1, .int .i64 0, .int .u8 2, .int .i64 NN, .slice none 0 0, .int .i64 0, .int .i64 0, .int .i64 0, .int .i64 0, .int .i64 0, .int .i64 0, .int .i64 2, .int .i64 3, .int .i64 0] 87)).heap[w.heap.size + 1 + 1]? = some (.cells #[.int .i64 4, .int .i64 2, .int .u8 1, .int .i64 0, .int .u8 2, .int .i64 NN, .slice none 0 0, .int .i64 0, .int .i64 0, .int .i64 0, .int .i64 0, .int .i64 0, .int .i64 0, .int .i64 2, .int .i64 3, .int .i64 0] 87 (0, 0)) := by rw [← s2]; exact heap_alloc_new W2 _
  refine ⟨?_, ?_, ?_, ?_, b01.trans ((b12.trans (b23.mono b12.size)).mono b01.size)⟩
  · have := CfB.made W2 (cfK NN t 0) 87
    rw [s2] at this
    exact this
  · exact Ly.cfg_there (f := cfK NN t 0) h3 (Below.refl _ _)
  · exact Ly.cfg_there (f := ⟨0, 0, 0, 0, 0, 0, none, 0, 0, fun _ => 0, 0, 0, 0⟩) h2 b23
  · intro i hi
    have q := (b12.trans (b23.mono b12.size)).block w.heap.size (by omega)
    exact (World.cell?_of_block (a := ⟨w.heap.size, i, none⟩) q).trans (six8_cell h1 hi)
theorem Ks.set {w wr : World} {NN : Int} {t : Nat → Int} {k : Nat} (h : Ks w wr NN t k) (hk : k < 6) : Ks w (wr.setCell ⟨w.heap.size + 1 + 1, 7 + k, none⟩ (.int .i64 (t k % 13))) NN t (k + 1) := by
  refine ⟨?_, there_set h.h _ _, there_keep h.r (Below.heap_setCell _ _ _ _ (by show _ ≠ _; simp)), fun i hi => ?_, h.b.setCell (p := ⟨w.heap.size + 1 + 1, 7 + k, none⟩) (by show w.heap.size ≤ w.heap.size + 1 + 1; omega) _⟩
  · rw [← cfK_set]; exact CfB.setT h.c hk _
  · exact (World.cell?_of_block (a := ⟨w.heap.size, i, none⟩) (Below.heap_setCell _ _ _ _ (by show w.heap.size ≠ w.heap.size + 1 + 1; omega))).trans (h.a i hi)
set_option maxHeartbeats 4000000 in
theorem config_0 (n : Int) (t : Nat → Int) (ht : ∀ i, i < 6 → 0 ≤ t i ∧ t i ≤ 255) (w : World) (h1 : n < 1) : Calls Try.prog 29 #[.int .i64 n, .agg (six8 t)] w fun e w' => e = .returned (cfgV (cfT n t)) ∧ Below w.heap.size w w' := by
  have HT := Lib.hid ht
  clear ht
  unfold six8
  have d1 : decide (n < 1) = true := decide_eq_true h1
  have hNN : (1 : Int) = nnV n := by unfold nnV; rw [if_neg (by omega)]
  have HNN := Lib.hid hNN
  have HS := Lib.hid (Ks.start w 1 t)
  clear hNN h1
  go_enter Try.func29, Try.ntmps29
  go_wp2
  go_loopw [6] (fun vi wr => ∃ k : Nat, vi = .int .i64 (k : Int) ∧ k ≤ 6 ∧ Ks w wr 1 t k) (fun vi _ => (6 - intOf vi).toNat)
  case atStart => exact ⟨0, rfl, by omega, HS.out⟩
  case round =>
    clear HS
    obtain ⟨k, rfl, hk, hks⟩ := hrel
    by_cases h6 : k < 6
    · have e0 : decide ((k : Int) < 6) = true := decide_eq_true (by omega)
      have e1 : decide (k < 6) = true := decide_eq_true h6
      have hw1 : IntKind.i64.wrap ((k : Int) + 1) = (k : Int) + 1 := IntWalk.i64_in _ (by omega)
      have i0 : (0 : Int) ≤ (k : Int) := by omega
      have i1 : (k : Int) < 6 := by omega
      have hb := HT.out k h6
      have ca := hks.a k h6
      obtain ⟨r1, r2⟩ := hks.h (7 + k) (by omega)
      rw [Nat.zero_add] at r1 r2
      obtain ⟨u0, r0⟩ := Option.isSome_iff_exists.1 r1
      have hs := hks.set h6
      have m1 : (t k).tmod 13 = t k % 13 := Int.tmod_eq_emod_of_nonneg hb.1
      have m2 : IntKind.u8.wrap (t k % 13) = t k % 13 := by show (t k % 13) % 256 = t k % 13; omega
      have m3 : IntKind.i64.wrap (t k % 13) = t k % 13 := IntWalk.i64_in _ (by omega)
      have HKS := Lib.hid hs
      have M1 := Lib.hid m1
      clear hks hs r1 m1
      go_wp2
      go_roundw
      case rel => exact ⟨k + 1, by go_num, by omega, HKS.out⟩
      case measure => simp [intOf]; omega
    · obtain rfl : k = 6 := by omega
      have e0 : decide (((6 : Nat) : Int) < 6) = false := by decide
      have CK := Lib.hid hks.c
      have TK := Lib.hid hks.r
      have BK := Lib.hid hks.b
      have HE := Lib.hid (cfK_end HNN.out t)
      generalize cfK 1 t 6 = fk at CK HE
      clear hks
      as_aux_lemma =>
        go_wp2_with (first | (refine Ly.ld_cfg rfl (.tmp 5) rfl (w.heap.size + 1 + 1) fk CK.out rfl ?_) | (refine Ly.st_cfg rfl (.tmp 4) (.tmp 28) rfl (w.heap.size + 1) fk TK.out rfl rfl ?_; intro w2 cf2 bel2 blk2))
        obtain ⟨f0, f1, f2, f3, f4, f5, f6, f7, f8, f9, f10, f11, f12, f13, f14, f15⟩ := cf2
        refine bodyPost_ret (v := cfgV fk) (by unfold cfgV; simp [results, Try.results29, go_sem, f0, f1, f2, f3, f4, f5, f6, f7, f8, f9, f10, f11, f12, f13, f14, f15]) rfl ⟨by rw [HE.out], bel2 _ _ (by omega) BK.out⟩
set_option maxHeartbeats 4000000 in
theorem config_1 (n : Int) (t : Nat → Int) (ht : ∀ i, i < 6 → 0 ≤ t i ∧ t i ≤ 255) (w : World) (h1 : ¬ n < 1) (h4 : 4 < n) : Calls Try.prog 29 #[.int .i64 n, .agg (six8 t)] w fun e w' => e = .returned (cfgV (cfT n t)) ∧ Below w.heap.size w w' := by
  have HT := Lib.hid ht
  clear ht
  unfold six8
  have d1 : decide (n < 1) = false := decide_eq_false h1
  have d2 : decide (n > 4) = true := decide_eq_true h4
  have d3 : decide (4 < n) = true := decide_eq_true h4
  have hNN : (1 : Int) = nnV n := by unfold nnV; rw [if_neg (by omega)]
  have HNN := Lib.hid hNN
  have HS := Lib.hid (Ks.start w 1 t)
  clear hNN h1 h4
  go_enter Try.func29, Try.ntmps29
  go_wp2
  go_loopw [6] (fun vi wr => ∃ k : Nat, vi = .int .i64 (k : Int) ∧ k ≤ 6 ∧ Ks w wr 1 t k) (fun vi _ => (6 - intOf vi).toNat)
  case atStart => exact ⟨0, rfl, by omega, HS.out⟩
  case round =>
    clear HS
    obtain ⟨k, rfl, hk, hks⟩ := hrel
    by_cases h6 : k < 6
    · have e0 : decide ((k : Int) < 6) = true := decide_eq_true (by omega)
      have e1 : decide (k < 6) = true := decide_eq_true h6
      have hw1 : IntKind.i64.wrap ((k : Int) + 1) = (k : Int) + 1 := IntWalk.i64_in _ (by omega)
      have i0 : (0 : Int) ≤ (k : Int) := by omega
      have i1 : (k : Int) < 6 := by omega
      have hb := HT.out k h6
      have ca := hks.a k h6
      obtain ⟨r1, r2⟩ := hks.h (7 + k) (by omega)
      rw [Nat.zero_add] at r1 r2
      obtain ⟨u0, r0⟩ := Option.isSome_iff_exists.1 r1
      have hs := hks.set h6
      have m1 : (t k).tmod 13 = t k % 13 := Int.tmod_eq_emod_of_nonneg hb.1
      have m2 : IntKind.u8.wrap (t k % 13) = t k % 13 := by show (t k % 13) % 256 = t k % 13; omega
      have m3 : IntKind.i64.wrap (t k % 13) = t k % 13 := IntWalk.i64_in _ (by omega)
      have HKS := Lib.hid hs
      have M1 := Lib.hid m1
      clear hks hs r1 m1
      go_wp2
      go_roundw
      case rel => exact ⟨k + 1, by go_num, by omega, HKS.out⟩
      case measure => simp [intOf]; omega
    · obtain rfl : k = 6 := by omega
      have e0 : decide (((6 : Nat) : Int) < 6) = false := by decide
      have CK := Lib.hid hks.c
      have TK := Lib.hid hks.r
      have BK := Lib.hid hks.b
      have HE := Lib.hid (cfK_end HNN.out t)
      generalize cfK 1 t 6 = fk at CK HE
      clear hks
      as_aux_lemma =>
        go_wp2_with (first | (refine Ly.ld_cfg rfl (.tmp 5) rfl (w.heap.size + 1 + 1) fk CK.out rfl ?_) | (refine Ly.st_cfg rfl (.tmp 4) (.tmp 28) rfl (w.heap.size + 1) fk TK.out rfl rfl ?_; intro w2 cf2 bel2 blk2))
        obtain ⟨f0, f1, f2, f3, f4, f5, f6, f7, f8, f9, f10, f11, f12, f13, f14, f15⟩ := cf2
        refine bodyPost_ret (v := cfgV fk) (by unfold cfgV; simp [results, Try.results29, go_sem, f0, f1, f2, f3, f4, f5, f6, f7, f8, f9, f10, f11, f12, f13, f14, f15]) rfl ⟨by rw [HE.out], bel2 _ _ (by omega) BK.out⟩
set_option maxHeartbeats 4000000 in
theorem config_2 (n : Int) (t : Nat → Int) (ht : ∀ i, i < 6 → 0 ≤ t i ∧ t i ≤ 255) (w : World) (h1 : ¬ n < 1) (h4 : ¬ 4 < n) : Calls Try.prog 29 #[.int .i64 n, .agg (six8 t)] w fun e w' => e = .returned (cfgV (cfT n t)) ∧ Below w.heap.size w w' := by
  have HT := Lib.hid ht
  clear ht
  unfold six8
  have d1 : decide (n < 1) = false := decide_eq_false h1
  have d2 : decide (n > 4) = false := decide_eq_false h4
  have d3 : decide (4 < n) = false := decide_eq_false (by omega)
  have hNN : n = nnV n := by unfold nnV; rw [if_pos (by omega)]
  have HNN := Lib.hid hNN
  have HS := Lib.hid (Ks.start w n t)
  clear hNN h1 h4
  go_enter Try.func29, Try.ntmps29
  go_wp2
  go_loopw [6] (fun vi wr => ∃ k : Nat, vi = .int .i64 (k : Int) ∧ k ≤ 6 ∧ Ks w wr n t k) (fun vi _ => (6 - intOf vi).toNat)
  case atStart => exact ⟨0, rfl, by omega, HS.out⟩
  case round =>
    clear HS
    obtain ⟨k, rfl, hk, hks⟩ := hrel
    by_cases h6 : k < 6
    · have e0 : decide ((k : Int) < 6) = true := decide_eq_true (by omega)
      have e1 : decide (k < 6) = true := decide_eq_true h6
      have hw1 : IntKind.i64.wrap ((k : Int) + 1) = (k : Int) + 1 := IntWalk.i64_in _ (by omega)
      have i0 : (0 : Int) ≤ (k : Int) := by omega
      have i1 : (k : Int) < 6 := by omega
      have hb := HT.out k h6
      have ca := hks.a k h6
      obtain ⟨r1, r2⟩ := hks.h (7 + k) (by omega)
      rw [Nat.zero_add] at r1 r2
      obtain ⟨u0, r0⟩ := Option.isSome_iff_exists.1 r1
      have hs := hks.set h6
      have m1 : (t k).tmod 13 = t k % 13 := Int.tmod_eq_emod_of_nonneg hb.1
      have m2 : IntKind.u8.wrap (t k % 13) = t k % 13 := by show (t k % 13) % 256 = t k % 13; omega
      have m3 : IntKind.i64.wrap (t k % 13) = t k % 13 := IntWalk.i64_in _ (by omega)
      have HKS := Lib.hid hs
      have M1 := Lib.hid m1
      clear hks hs r1 m1
      go_wp2
      go_roundw
      case rel => exact ⟨k + 1, by go_num, by omega, HKS.out⟩
      case measure => simp [intOf]; omega
    · obtain rfl : k = 6 := by omega
      have e0 : decide (((6 : Nat) : Int) < 6) = false := by decide
      have CK := Lib.hid hks.c
      have TK := Lib.hid hks.r
      have BK := Lib.hid hks.b
      have HE := Lib.hid (cfK_end HNN.out t)
      generalize cfK n t 6 = fk at CK HE
      clear hks
      as_aux_lemma =>
        go_wp2_with (first | (refine Ly.ld_cfg rfl (.tmp 5) rfl (w.heap.size + 1 + 1) fk CK.out rfl ?_) | (refine Ly.st_cfg rfl (.tmp 4) (.tmp 28) rfl (w.heap.size + 1) fk TK.out rfl rfl ?_; intro w2 cf2 bel2 blk2))
        obtain ⟨f0, f1, f2, f3, f4, f5, f6, f7, f8, f9, f10, f11, f12, f13, f14, f15⟩ := cf2
        refine bodyPost_ret (v := cfgV fk) (by unfold cfgV; simp [results, Try.results29, go_sem, f0, f1, f2, f3, f4, f5, f6, f7, f8, f9, f10, f11, f12, f13, f14, f15]) rfl ⟨by rw [HE.out], bel2 _ _ (by omega) BK.out⟩
theorem config_any (n : Int) (t : Nat → Int) (ht : ∀ i, i < 6 → 0 ≤ t i ∧ t i ≤ 255) (w : World) : Calls Try.prog 29 #[.int .i64 n, .agg (six8 t)] w fun e w' => e = .returned (cfgV (cfT n t)) ∧ Below w.heap.size w w' := by
  by_cases h1 : n < 1
  · exact config_0 n t ht w h1
  by_cases h4 : 4 < n
  · exact config_1 n t ht w h1 h4
  · exact config_2 n t ht w h1 h4
end Tw
end Go.Proofs.Ytjcbjbhlclajnaa
