/- The calls of package latch on a memory of the walk's own, with nothing else beside: for straight walks. Conditions: those of the contracts. -/
import Derived.Test.YtjocbmoelkobaaaLtS
namespace Go.Proofs.Ytjocbmoelkobaaa
open Go.RowKit Go.Sort
set_option linter.unusedVariables false
set_option linter.unusedSimpArgs false
namespace Lt
open Wd
open Dm (addr_lit info_parts spot_none RdK flatU infoU bel_alloc bel_trans own_keep below_drewN)
def SB (B : Nat) (w : World) (b : Nat) (M : Wm) (X : Nat → Option Lk) (N : Int) : Prop := ∃ c, SL 1 w c b M X N ∧ (∀ i, i < B → c i = 0) ∧ B ≤ w.heap.size
section
variable {B : Nat} {w : World} {b : Nat} {M : Wm} {X : Nat → Option Lk} {N : Int}
theorem SB.below {w1 : World} (h : SB B w b M X N) (hb : Below w.heap.size w w1) : SB B w1 b M X N ∧ Below B w w1 := by
  obtain ⟨c, h1, h2, h3⟩ := h
  exact ⟨⟨c, h1.below pkL hb, h2, Nat.le_trans h3 hb.size⟩, hb.mono h3⟩
theorem newB (h : SB B w b M X N) (hN : 0 ≤ N) (t a m : Int) (he : lkE M t a m = 0) : Calls Try.prog 9 #[.pointer (some ⟨b, 0, none⟩), .int .i64 t, .int .i64 a, .int .i64 m] w fun e w' => ∃ x, e = .returned (.tuple #[.pointer (some ⟨x, 0, none⟩), .int .i64 0]) ∧ X x = none ∧ SB B w' b M (upd X x (Lk.new t a m)) N ∧ Below B w w' := by
  obtain ⟨c, h1, h2, h3⟩ := h
  refine (newS h1 hN t a m).mono ?_
  rintro r w1 (⟨e1, _⟩ | ⟨_, rfl, hs, hb⟩)
  · exact absurd he e1
  · exact ⟨_, rfl, h1.fresh pkL (Nat.le_refl _), ⟨_, hs, fun i hi => (up_lt (by omega)).trans (h2 i hi), Nat.le_trans h3 hb.size⟩, hb.mono h3⟩
theorem stepB {x : Nat} {L : Lk} (h : SB B w b M X N) (hx : X x = some L) (hN : N ≤ 1000000) (hL : M.L.length ≤ 50000) : Calls Try.prog 16 #[.pointer (some ⟨x, 0, none⟩)] w fun e w' =>
    e = .returned (.tuple #[.int .u8 L.pc, .bool (L.fin M)]) ∧ SB B w' b (L.mem M) (upd X x (L.step M)) (N + 1) ∧ Below B w w' := by
  obtain ⟨c, h1, h2, h3⟩ := h
  refine (stepS h1 hx hN hL).mono ?_
  rintro r w1 ⟨rfl, hs, hf⟩
  exact ⟨rfl, ⟨_, hs, hf.low h3 h2, Nat.le_trans h3 hf.fr.size⟩, hf.below h3 h2 (by omega)⟩
theorem unlockB (h : SB B w b M X N) (hL : M.L.length ≤ 50000) (t a : Int) : Calls Try.prog 11 #[.pointer (some ⟨b, 0, none⟩), .int .i64 t, .int .i64 a] w fun e w' =>
    e = .returned (.int .i64 (unE M t a)) ∧ SB B w' b (unM M t a) X N ∧ Below B w w' := by
  obtain ⟨c, h1, h2, h3⟩ := h
  refine (unlockS h1 hL t a).mono ?_
  rintro r w1 ⟨rfl, hs, hf⟩
  exact ⟨rfl, ⟨_, hs, hf.low h3 h2, Nat.le_trans h3 hf.fr.size⟩, hf.below h3 h2 (by omega)⟩
theorem nextB {x : Nat} {L : Lk} (h : SB B w b M X N) (hx : X x = some L) : Calls Try.prog 15 #[.pointer (some ⟨x, 0, none⟩)] w fun e w' => e = .returned (.int .u8 L.pc) ∧ w' = w := by
  obtain ⟨c, h1, h2, h3⟩ := h
  exact nextS h1 hx
theorem resultB {x : Nat} {L : Lk} (h : SB B w b M X N) (hx : X x = some L) : Calls Try.prog 18 #[.pointer (some ⟨x, 0, none⟩)] w fun e w' => e = .returned (.tuple #[.int .i64 L.n, .int .i64 L.res]) ∧ SB B w' b M X N ∧ Below B w w' := by
  obtain ⟨c, h1, h2, h3⟩ := h
  refine (resultS h1 hx).mono ?_
  rintro r w1 ⟨rfl, hb⟩
  exact ⟨rfl, SB.below ⟨c, h1, h2, h3⟩ hb⟩
theorem startB {w1 : World} {p : Nat} (h : At 73 w1 b p none M) (hb : w.heap.size ≤ b) (hp : w.heap.size ≤ p) (hs : w.heap.size ≤ w1.heap.size) : SB w.heap.size w1 b M (fun _ => none) 0 :=
  ⟨_, mem_start (P := LAt) (k := 1) (c := fun _ => 0) h hb hp, fun i hi => up_lt hi, hs⟩
end
end Lt
end Go.Proofs.Ytjocbmoelkobaaa
