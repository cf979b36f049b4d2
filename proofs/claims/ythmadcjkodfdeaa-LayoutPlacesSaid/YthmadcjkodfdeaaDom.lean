/- The functions of leapfrogref03 on one map (Check, Values, Of): contracts of the translated code. 'RdK κ w A l': at the address A lie the numbers l of the kind κ. Conditions: the list is no longer than the model lets a slice be; the bounds of each argument's kind. -/
import Derived.Test.YthmadcjkodfdeaaRows
import Derived.Test.YthmadcjkodfdeaaDomM
import Derived.WalkKit
import Derived.ProofKit
import Derived.OpenShut
import Derived.Outline
import Derived.WalkLawsBesides
import Derived.Deep.QuietTactic
import Derived.BigQuiet
import Derived.Lib.QuietBelow
import Derived.Lib.Hide
namespace Go.Proofs.Ythmadcjkodfdeaa
open Go.RowKit Go.Sort
set_option linter.unusedVariables false
set_option linter.unusedSimpArgs false
namespace Dm
theorem ret_eq {a b : Value} (h : a = b) : Ending.returned a = Ending.returned b := by rw [h]
theorem bcell {W w1 : World} (hb : Below W.heap.size W w1) : (∀ b o, b < W.heap.size → w1.cell? ⟨b, o, none⟩ = W.cell? ⟨b, o, none⟩) ∧ (∀ b o, b < W.heap.size → w1.frozen? ⟨b, o, none⟩ = W.frozen? ⟨b, o, none⟩) :=
  ⟨fun b o h => hb.cell (p := ⟨b, o, none⟩) h, fun b o h => hb.frozen (p := ⟨b, o, none⟩) h⟩
theorem bel_alloc {W w : World} (h : Below W.heap.size W w) (o : Obj) : Below W.heap.size W (w.alloc o) := h.alloc h.size o
theorem bel_trans {W w w1 : World} (h : Below W.heap.size W w) (h1 : Below w.heap.size w w1) : Below W.heap.size W w1 := h.trans (h1.mono h.size)
def RdK (κ : IntKind) (w : World) (A : Option Addr) (l : List Int) : Prop :=
  ∀ (k : Nat), k < l.length → ∃ b o, A = some ⟨b, o, none⟩ ∧ w.cell? ⟨b, o + k, none⟩ = some (.int κ (l.getD k 0))
theorem cell_lt {w : World} {b o : Nat} {v : Value} (h : w.cell? ⟨b, o, none⟩ = some v) : b < w.heap.size := by
  have hb : w.heap[b]? ≠ none := by
    intro h0
    unfold World.cell? at h
    rw [h0] at h
    cases h
  by_cases hlt : b < w.heap.size
  · exact hlt
  · exact absurd (Array.getElem?_eq_none_iff.2 (by omega)) hb
theorem RdK.below {κ : IntKind} {w w' : World} {A : Option Addr} {l : List Int} (h : RdK κ w A l) (hb : Below w.heap.size w w') : RdK κ w' A l := by
  intro k hk
  obtain ⟨b, o, e, c⟩ := h k hk
  exact ⟨b, o, e, (hb.cell (p := ⟨b, o + k, none⟩) (cell_lt c)).trans c⟩
theorem RdK.drewN {κ : IntKind} {w : World} {A : Option Addr} {l : List Int} (h : RdK κ w A l) (n : Nat) : RdK κ (w.drewN n) A l := h
def BdU (l : List Int) : Prop := ∀ k, k < l.length → 0 ≤ l.getD k 0 ∧ l.getD k 0 ≤ 18446744073709551615

theorem checkR_any (k n : Int) (A : Option Addr) (m c : Nat) (l : List Int) (w : World) (kl : 0 ≤ k) (kh : k ≤ 255) (nl : -9223372036854775808 ≤ n) (nh : n ≤ 9223372036854775807) (hm : l.length = m) (hx : m ≤ maxLen) (hr : RdK .u64 w A l) (hd : BdU l) :
    Calls Try.prog 40 #[.agg #[.int .u8 k, .int .i64 n, .slice A m c]] w fun e w' => e = .returned (.int .i64 (dmE k n l)) ∧ Below w.heap.size w w' := by
  have HR := Lib.hid hr; clear hr
  have HD := Lib.hid hd; clear hd
  have HM := Lib.hid hm; clear hm
  by_cases h1 : k = 1
  · subst h1
    by_cases hb : n = 0 ∧ m = 0
    · obtain ⟨rfl, rfl⟩ := hb
      have HB := Lib.hid (show dmE 1 0 l = 0 by simp [dmE, dmB, HM.out])
      go_enter Try.func40, Try.ntmps40
      go_wp2
      all_goals (go_ret; exact ⟨by rw [HB.out]; rfl, bel_alloc (Below.refl _ _) _⟩)
    · have HB := Lib.hid (show dmE 1 n l = 2 by simp [dmE, dmB, HM.out]; omega)
      go_enter Try.func40, Try.ntmps40
      go_wp2
      all_goals (go_ret; exact ⟨by rw [HB.out]; rfl, bel_alloc (Below.refl _ _) _⟩)
  by_cases h2 : k = 2
  · subst h2
    clear h1
    by_cases hb : 1 ≤ n ∧ n ≤ 64 ∧ m = 0
    · obtain ⟨n1, n2, rfl⟩ := hb
      have HB := Lib.hid (show dmE 2 n l = 0 by simp [dmE, dmB, HM.out]; omega)
      go_enter Try.func40, Try.ntmps40
      go_wp2
      all_goals (go_ret; exact ⟨by rw [HB.out]; rfl, bel_alloc (Below.refl _ _) _⟩)
    · have HB := Lib.hid (show dmE 2 n l = 2 by simp [dmE, dmB, HM.out]; omega)
      go_enter Try.func40, Try.ntmps40
      go_wp2
      all_goals (go_ret; exact ⟨by rw [HB.out]; rfl, bel_alloc (Below.refl _ _) _⟩)
  by_cases h3 : k = 3
  · subst h3
    clear h1 h2
    by_cases hb : n = 0 ∧ 1 ≤ m ∧ m ≤ 63
    · obtain ⟨rfl, m1, m2⟩ := hb
      obtain ⟨b, o, rfl, c0⟩ := HR.out 0 (by have := HM.out; omega)
      obtain ⟨d0, d1⟩ := HD.out 0 (by have := HM.out; omega)
      have hbl := cell_lt c0
      rw [Nat.add_zero] at c0
      by_cases hz : l.getD 0 0 = 0
      · have HB := Lib.hid (show dmE 3 0 l = 2 by simp only [dmE, dmB]; rw [okC_not (by omega)]; rfl)
        rw [hz] at c0
        go_enter Try.func40, Try.ntmps40
        go_wp2
        all_goals (go_ret; exact ⟨by rw [HB.out]; rfl, bel_alloc (Below.refl _ _) _⟩)
      · have hM0 : (m : Int) ≤ 63 := by omega
        generalize hq : l.getD 0 0 = q at c0 d0 d1 hz
        have HQ := Lib.hid hq; clear hq
        go_enter Try.func40, Try.ntmps40
        have t1 : decide ((m : Int) < 1) = false := by simp; omega
        have t2 : decide (63 < (m : Int)) = false := by simp; omega
        have t3 : (q == 0) = false := by simp [hz]
        go_wp2
        have bw : Below w.heap.size w (w.alloc (Obj.cells #[Value.int IntKind.u8 3, Value.int IntKind.i64 0, Value.slice (some { block := b, off := o }) m c] 24)) := bel_alloc (Below.refl _ _) _
        obtain ⟨w1, hw1⟩ : ∃ w1 : World, w1 = w.alloc (Obj.cells #[Value.int IntKind.u8 3, Value.int IntKind.i64 0, Value.slice (some { block := b, off := o }) m c] 24) := ⟨_, rfl⟩
        have e2 : w1.cell? ⟨w.heap.size, 2, none⟩ = some (.slice (some ⟨b, o, none⟩) m c) := by rw [hw1]; simp
        have hws : w1.heap.size = w.heap.size + 1 := by rw [hw1]; simp
        rw [← hw1] at bw ⊢
        clear hw1
        go_loopw [3] (fun i wr => ∃ j : Nat, j + 1 ≤ m ∧ i = .int .i64 ((j + 1 : Nat) : Int) ∧ upTo l (j + 1) ∧ Below w1.heap.size w1 wr) (fun i _ => m - (intOf i).toNat)
        case atStart => exact ⟨0, by omega, rfl, upTo_one l, Below.refl _ _⟩
        case round =>
          obtain ⟨j, hj, rfl, hu, bel⟩ := hrel
          have HU := Lib.hid hu; clear hu
          have e3 : wr.cell? ⟨w.heap.size, 2, none⟩ = some (.slice (some ⟨b, o, none⟩) m c) := by rw [bel.cell (p := ⟨w.heap.size, 2, none⟩) (by simp; omega)]; exact e2
          have bt := bw.trans (bel.mono bw.size)
          by_cases hlt : j + 1 < m
          · obtain ⟨x0, x1⟩ := HD.out j (by have := HM.out; omega)
            obtain ⟨y0, y1⟩ := HD.out (j + 1) (by have := HM.out; omega)
            obtain ⟨b', o', e', g0⟩ := (HR.out.below bt) j (by have := HM.out; omega)
            cases e'
            obtain ⟨b', o', e', g1⟩ := (HR.out.below bt) (j + 1) (by have := HM.out; omega)
            cases e'
            by_cases hle : l.getD j 0 < l.getD (j + 1) 0
            · have HL := Lib.hid (upTo_succ HU.out (show l.getD (j + 1 - 1) 0 < l.getD (j + 1) 0 from hle))
              generalize l.getD j 0 = u at x0 x1 g0 hle
              generalize l.getD (j + 1) 0 = v at y0 y1 g1 hle
              have t4 : decide (v ≤ u) = false := by simp; omega
              go_wp2
              go_quiet (fail)
              go_wp2
              go_roundw
              case rel => exact ⟨j + 1, by omega, by go_num, HL.out, below_drewN bel _⟩
              case measure => simp [intOf]; omega
            · have HL := Lib.hid (upTo_not (n := l.length) (i := j + 1) (by have := HM.out; omega) (by omega) (show ¬ l.getD (j + 1 - 1) 0 < l.getD (j + 1) 0 from hle))
              generalize l.getD j 0 = u at x0 x1 g0 hle
              generalize l.getD (j + 1) 0 = v at y0 y1 g1 hle
              have t4 : decide (v ≤ u) = true := by simp; omega
              have HB := Lib.hid (show dmE 3 0 l = 2 by simp only [dmE, dmB]; rw [okC_not (fun h => HL.out h.2.2.2)]; rfl)
              go_wp2
              go_quiet (fail)
              go_wp2
              go_ret
              exact ⟨by rw [HB.out]; rfl, below_drewN bt _⟩
          · have HB := Lib.hid (show dmE 3 0 l = 0 by simp only [dmE, dmB]; rw [okC_iff.2 ⟨by have := HM.out; omega, by have := HM.out; omega, by rw [HQ.out]; exact hz, by rw [HM.out, show m = j + 1 by omega]; exact HU.out⟩]; rfl)
            go_wp2
            go_ret
            exact ⟨by rw [HB.out]; rfl, bt⟩
    · have HB := Lib.hid (show dmE 3 n l = 2 by
        simp only [dmE, dmB]
        by_cases h : n = 0
        · rw [okC_not (by have := HM.out; omega)]; simp
        · simp [h])
      by_cases hn0 : n = 0
      · subst hn0
        by_cases hm1 : m = 0
        · subst hm1
          go_enter Try.func40, Try.ntmps40
          go_wp2
          go_ret
          exact ⟨by rw [HB.out]; rfl, bel_alloc (Below.refl _ _) _⟩
        · have t1 : decide ((m : Int) < 1) = false := by simp; omega
          have t2 : decide (63 < (m : Int)) = true := by simp; omega
          go_enter Try.func40, Try.ntmps40
          go_wp2
          all_goals (go_ret; exact ⟨by rw [HB.out]; rfl, bel_alloc (Below.refl _ _) _⟩)
      · have t1 : (n == 0) = false := by simp [hn0]
        go_enter Try.func40, Try.ntmps40
        go_wp2
        all_goals (go_ret; exact ⟨by rw [HB.out]; rfl, bel_alloc (Below.refl _ _) _⟩)
  · have HB := Lib.hid (show dmE k n l = 2 by simp [dmE, dmB, h1, h2, h3])
    go_enter Try.func40, Try.ntmps40
    go_wp2
    all_goals (go_ret; exact ⟨by rw [HB.out]; rfl, bel_alloc (Below.refl _ _) _⟩)
end Dm
end Go.Proofs.Ythmadcjkodfdeaa
