/- A configuration stored whole; a configuration of at most 100 cuts as an argument. Conditions: those of each lemma. -/
import Derived.Test.YthmadcjkodfdeaaLyCt
import Derived.Test.YthmadcjkodfdeaaLyU
import Derived.Test.YthmadcjkodfdeaaLrN
import Derived.Test.YthmadcjkodfdeaaLrI
import Derived.Test.YthmadcjkodfdeaaLyZ
import Derived.Deep.MidRow
namespace Go.Proofs.Ythmadcjkodfdeaa
open Go.RowKit Go.Sort
set_option linter.unusedVariables false
set_option linter.unusedSimpArgs false
namespace Ly
open Dm (RdK BdU dmB dmE dmN bel_alloc bel_trans cell_lt)
theorem sz_cfg16 : (Try.prog.info? 27).map (·.size) = some 16 := by kernel_rfl
theorem cfg_cells (f : Cf) : (#[.int .i64 f.th, .int .i64 f.sl, .int .u8 f.en, .int .i64 f.bu, .int .u8 f.k, .int .i64 f.n, .slice f.A f.m f.c, .int .i64 (f.t 0), .int .i64 (f.t 1), .int .i64 (f.t 2), .int .i64 (f.t 3), .int .i64 (f.t 4), .int .i64 (f.t 5), .int .i64 f.lo, .int .i64 f.tr, .int .i64 f.ba] : Array Value).all (·.oneCell') = true := all_oneCell_toArray (cs := [.int .i64 f.th, .int .i64 f.sl, .int .u8 f.en, .int .i64 f.bu, .int .u8 f.k, .int .i64 f.n, .slice f.A f.m f.c, .int .i64 (f.t 0), .int .i64 (f.t 1), .int .i64 (f.t 2), .int .i64 (f.t 3), .int .i64 (f.t 4), .int .i64 (f.t 5), .int .i64 f.lo, .int .i64 f.tr, .int .i64 f.ba]) (fun v hv => by simp at hv; rcases hv with rfl | rfl | rfl | rfl | rfl | rfl | rfl | rfl | rfl | rfl | rfl | rfl | rfl | rfl | rfl | rfl <;> rfl)
theorem cfg_there {w w1 : World} {b : Nat} {f : Cf} (h : w.heap[b]? = some (.cells #[.int .i64 f.th, .int .i64 f.sl, .int .u8 f.en, .int .i64 f.bu, .int .u8 f.k, .int .i64 f.n, .slice f.A f.m f.c, .int .i64 (f.t 0), .int .i64 (f.t 1), .int .i64 (f.t 2), .int .i64 (f.t 3), .int .i64 (f.t 4), .int .i64 (f.t 5), .int .i64 f.lo, .int .i64 f.tr, .int .i64 f.ba] 27)) (hb : Below w.heap.size w w1) : w1.there b 0 16 := fun j hj => by
  have hc : ∃ v, (#[.int .i64 f.th, .int .i64 f.sl, .int .u8 f.en, .int .i64 f.bu, .int .u8 f.k, .int .i64 f.n, .slice f.A f.m f.c, .int .i64 (f.t 0), .int .i64 (f.t 1), .int .i64 (f.t 2), .int .i64 (f.t 3), .int .i64 (f.t 4), .int .i64 (f.t 5), .int .i64 f.lo, .int .i64 f.tr, .int .i64 f.ba] : Array Value)[j]? = some v := ⟨_, Array.getElem?_eq_getElem (by simpa using hj)⟩
  obtain ⟨v, hv⟩ := hc
  have c := cell_of h hv
  have lt := cell_lt c
  rw [Nat.zero_add]
  refine ⟨by rw [hb.cell (p := ⟨b, j, none⟩) lt, c]; rfl, ?_⟩
  rw [hb.frozen (p := ⟨b, j, none⟩) lt]
  simp [World.frozen?, h]
theorem CfB.put {w : World} {b : Nat} (f : Cf) (ht : w.there b 0 16) : CfB (w.setCells b 0 [.int .i64 f.th, .int .i64 f.sl, .int .u8 f.en, .int .i64 f.bu, .int .u8 f.k, .int .i64 f.n, .slice f.A f.m f.c, .int .i64 (f.t 0), .int .i64 (f.t 1), .int .i64 (f.t 2), .int .i64 (f.t 3), .int .i64 (f.t 4), .int .i64 (f.t 5), .int .i64 f.lo, .int .i64 f.tr, .int .i64 f.ba]) b f := by
  have k := World.cell?_setCells_in b [.int .i64 f.th, .int .i64 f.sl, .int .u8 f.en, .int .i64 f.bu, .int .u8 f.k, .int .i64 f.n, .slice f.A f.m f.c, .int .i64 (f.t 0), .int .i64 (f.t 1), .int .i64 (f.t 2), .int .i64 (f.t 3), .int .i64 (f.t 4), .int .i64 (f.t 5), .int .i64 f.lo, .int .i64 f.tr, .int .i64 f.ba] 0 w (fun j hj => by rw [Nat.zero_add]; have := (ht j hj).1; rw [Nat.zero_add] at this; exact this)
  have k' : ∀ j v, j < 16 → ([.int .i64 f.th, .int .i64 f.sl, .int .u8 f.en, .int .i64 f.bu, .int .u8 f.k, .int .i64 f.n, .slice f.A f.m f.c, .int .i64 (f.t 0), .int .i64 (f.t 1), .int .i64 (f.t 2), .int .i64 (f.t 3), .int .i64 (f.t 4), .int .i64 (f.t 5), .int .i64 f.lo, .int .i64 f.tr, .int .i64 f.ba] : List Value)[j]? = some v → (w.setCells b 0 [.int .i64 f.th, .int .i64 f.sl, .int .u8 f.en, .int .i64 f.bu, .int .u8 f.k, .int .i64 f.n, .slice f.A f.m f.c, .int .i64 (f.t 0), .int .i64 (f.t 1), .int .i64 (f.t 2), .int .i64 (f.t 3), .int .i64 (f.t 4), .int .i64 (f.t 5), .int .i64 f.lo, .int .i64 f.tr, .int .i64 f.ba]).cell? ⟨b, j, none⟩ = some v := fun j v hj hv => by
    have h1 := k j hj
    rw [Nat.zero_add] at h1
    rw [h1, ← List.getElem?_eq_getElem, hv]
  exact ⟨k' 0 _ (by omega) rfl, k' 1 _ (by omega) rfl, k' 2 _ (by omega) rfl, k' 3 _ (by omega) rfl, k' 4 _ (by omega) rfl, k' 5 _ (by omega) rfl, k' 6 _ (by omega) rfl, k' 7 _ (by omega) rfl, k' 8 _ (by omega) rfl, k' 9 _ (by omega) rfl, k' 10 _ (by omega) rfl, k' 11 _ (by omega) rfl, k' 12 _ (by omega) rfl, k' 13 _ (by omega) rfl, k' 14 _ (by omega) rfl, k' 15 _ (by omega) rfl⟩
section
variable {ops : Array Oper} {rest : List Oper} {op : Oper} {a : Act} {w : World} {Q : Exit → Act → World → Prop}
theorem st_cfg (hgd : op.guard = none) (p y : Operand) (ho : op.op = .store 27 p y) (b : Nat) (f : Cf) (ht : w.there b 0 16) (hp : a.eval p = .pointer (some ⟨b, 0, none⟩)) (hy : a.eval y = .agg #[.int .i64 f.th, .int .i64 f.sl, .int .u8 f.en, .int .i64 f.bu, .int .u8 f.k, .int .i64 f.n, .slice f.A f.m f.c, .int .i64 (f.t 0), .int .i64 (f.t 1), .int .i64 (f.t 2), .int .i64 (f.t 3), .int .i64 (f.t 4), .int .i64 (f.t 5), .int .i64 f.lo, .int .i64 f.tr, .int .i64 f.ba])
    (h : ∀ W', CfB W' b f → (∀ N w0, N ≤ b → Below N w0 w → Below N w0 W') → (∀ k, k ≠ b → W'.heap[k]? = w.heap[k]?) → wpList Try.prog ops Q rest (a.put op.dst undef) W') : wpList Try.prog ops Q (op :: rest) a w := by
  refine wpList_store_mid hgd _ p y ho b 0 #[.int .i64 f.th, .int .i64 f.sl, .int .u8 f.en, .int .i64 f.bu, .int .u8 f.k, .int .i64 f.n, .slice f.A f.m f.c, .int .i64 (f.t 0), .int .i64 (f.t 1), .int .i64 (f.t 2), .int .i64 (f.t 3), .int .i64 (f.t 4), .int .i64 (f.t 5), .int .i64 f.lo, .int .i64 f.tr, .int .i64 f.ba] hp hy ht sz_cfg16 (cfg_cells f) ?_
  exact h _ (CfB.put f ht) (fun N w0 hN hb => below_setCells hb hN _ _) (fun k hk => block_setCells _ _ _ _ _ hk)
theorem ld_cfg (hgd : op.guard = none) (p : Operand) (ho : op.op = .load 27 p) (b : Nat) (f : Cf) (hf : CfB w b f) (hp : a.eval p = .pointer (some ⟨b, 0, none⟩))
    (h : wpList Try.prog ops Q rest (a.put op.dst (.agg #[.int .i64 f.th, .int .i64 f.sl, .int .u8 f.en, .int .i64 f.bu, .int .u8 f.k, .int .i64 f.n, .slice f.A f.m f.c, .int .i64 (f.t 0), .int .i64 (f.t 1), .int .i64 (f.t 2), .int .i64 (f.t 3), .int .i64 (f.t 4), .int .i64 (f.t 5), .int .i64 f.lo, .int .i64 f.tr, .int .i64 f.ba])) w) : wpList Try.prog ops Q (op :: rest) a w := by
  refine wpList_load_mid hgd _ p ho b 0 hp [.int .i64 f.th, .int .i64 f.sl, .int .u8 f.en, .int .i64 f.bu, .int .u8 f.k, .int .i64 f.n, .slice f.A f.m f.c, .int .i64 (f.t 0), .int .i64 (f.t 1), .int .i64 (f.t 2), .int .i64 (f.t 3), .int .i64 (f.t 4), .int .i64 (f.t 5), .int .i64 f.lo, .int .i64 f.tr, .int .i64 f.ba] _ (fun j v hj => ?_) Try.underlying27 rfl sz_cfg16 h
  rw [Nat.zero_add]
  match j, hj with
  | 0, hj => cases hj; exact hf.c0
  | 1, hj => cases hj; exact hf.c1
  | 2, hj => cases hj; exact hf.c2
  | 3, hj => cases hj; exact hf.c3
  | 4, hj => cases hj; exact hf.c4
  | 5, hj => cases hj; exact hf.c5
  | 6, hj => cases hj; exact hf.c6
  | 7, hj => cases hj; exact hf.c7
  | 8, hj => cases hj; exact hf.c8
  | 9, hj => cases hj; exact hf.c9
  | 10, hj => cases hj; exact hf.c10
  | 11, hj => cases hj; exact hf.c11
  | 12, hj => cases hj; exact hf.c12
  | 13, hj => cases hj; exact hf.c13
  | 14, hj => cases hj; exact hf.c14
  | 15, hj => cases hj; exact hf.c15
  | j + 16, hj => simp at hj
end
/-- the configuration that 'cut' hands out -/
def Cf.two (f : Cf) (A : Option Addr) (c : Nat) : Cf := f.few.cut A c
theorem two_bd {f : Cf} {l : List Int} (h : f.Bd l) {A : Option Addr} {c : Nat} (hz : A = none → c = 0) : (f.two A c).Bd (l.take (min f.m 100)) := by
  have hlen : (l.take (min f.m 100)).length = min f.m 100 := by rw [List.length_take, h.e]; omega
  refine ⟨h.th, h.sl, h.en, h.bu, h.k, h.n, h.t, h.lo, h.tr, h.ba, hlen, ?_, fun k hk => ?_, hz⟩
  · have := h.mx; show min f.m 100 ≤ maxLen; omega
  · have hk2 : k < l.length := by have := h.e; omega
    have hk3 : k < min f.m 100 := by omega
    have := h.b k hk2
    rw [List.getD_eq_getElem?_getD, List.getElem?_take, if_pos hk3, ← List.getD_eq_getElem?_getD]
    exact this
theorem geo_s1 {f : Cf} {l : List Int} (h : okB f l = true) : 1 ≤ pW (geo f l) := by
  have := (nums h).ok.s1
  unfold pW pT; omega
theorem map_flat {α β : Type} (f : α → β) : ∀ l : List α, l.map f = l.flatMap fun x => [f x]
  | [] => rfl
  | a :: l => by rw [List.map_cons, List.flatMap_cons, map_flat f l]; rfl
/-- the row of words, read -/
theorem ini_rd {w : World} {B : Nat} {g : Ge} (h : w.ownsRow B 39 1 (.slice (some ⟨B, 0, none⟩) (pW g) (pW g)) (pW g) ((ini g).map (Value.int .u64))) : RdK .u64 w (some ⟨B, 0, none⟩) (ini g) := by
  have e : (ini g).map (Value.int .u64) = KU.flat (ini g) := map_flat _ _
  rw [e] at h
  exact KU_rdK (KU.row_get (n := pW g) h)
end Ly
end Go.Proofs.Ythmadcjkodfdeaa
