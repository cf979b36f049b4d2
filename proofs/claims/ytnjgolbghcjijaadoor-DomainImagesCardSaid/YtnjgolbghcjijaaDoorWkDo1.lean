/- The walks of the laws DomainImages and DomainLeast, from the contracts of XDomI, XDomK, XDomP and XDomKn. Conditions: those of the contracts. -/
import Derived.Test.YtnjgolbghcjijaaDoorDomKn
import Derived.Test.YtnjgolbghcjijaaDoorDomA
namespace Go.Proofs.YtnjgolbghcjijaaDoor
open Go.RowKit Go.Sort
set_option linter.unusedVariables false
set_option linter.unusedSimpArgs false
namespace Wk
open Dm
set_option maxHeartbeats 1000000 in
theorem walk_domainLeast (a0k a0i : Int) (a0 : Option Addr) (a0n a0c : Nat) (a0v : List Int) (a1 : Int) (a2 : Int) (w : World) (a0kl : 0 ≤ a0k) (a0kh : a0k ≤ 255) (a0il : -9223372036854775808 ≤ a0i) (a0ih : a0i ≤ 9223372036854775807) (a0e : a0v.length = a0n) (a0m : a0n ≤ maxLen) (a0r : Dm.RdK .u64 w a0 a0v) (a0b : Dm.BdU a0v) (a0z : a0 = none → a0c = 0) (a1l : (-9223372036854775808) ≤ a1) (a1h : a1 ≤ 9223372036854775807) (a2l : 0 ≤ a2) (a2h : a2 ≤ 18446744073709551615) (hT : Dm.Tz w) :
    Calls Tryd.prog 5 #[.agg #[.int .u8 a0k, .int .i64 a0i, .slice a0 a0n a0c], .int .i64 a1, .int .u64 a2] w fun e w' => e = .returned (.bool true) ∧ Below w.heap.size w w' := by
  have HR := Lib.hid a0r; clear a0r
  have HT := Lib.hid hT; clear hT
  have b0 : Below w.heap.size w (w.alloc (Obj.cells #[.int .u8 a0k, .int .i64 a0i, .slice a0 a0n a0c] 24)) := bel_alloc (Below.refl _ _) _
  have C1 := fun W h => Lib.hid (least_any a0k a0i a1 a2 a0 a0n a0c a0v W a0kl a0kh a0il a0ih a1l a1h a2l a2h a0e a0m h a0b)
  have C2 := fun W h => Lib.hid (leastR_any a0k a0i a1 a2 a0 a0n a0c a0v W a0kl a0kh a0il a0ih a1l a1h a2l a2h a0e a0m h a0b)
  generalize lsE a0k a0i a0v a1 = E at C1 C2
  generalize dmL a0k a0i a0v a1 a2 = o at C1 C2
  by_cases hl : 200 < (a0n : Int)
  · have t0 : decide (200 < (a0n : Int)) = true := decide_eq_true hl
    go_enter Tryd.func5, Tryd.ntmps5
    go_wp2_with fail
    refine (long_any _ _ _ _ _ _).mono ?_
    rintro r w1 ⟨rfl, b1⟩
    have bw := bel_trans b0 b1
    go_wp2_with fail
    refine (known_any _ (HT.out.below bw)).mono ?_
    rintro r w2 ⟨rfl, b2⟩
    go_wp2
    go_ret
    exact ⟨rfl, bel_trans bw b2⟩
  · have t0 : decide (200 < (a0n : Int)) = false := decide_eq_false hl
    go_enter Tryd.func5, Tryd.ntmps5
    go_wp2_with fail
    refine (long_any _ _ _ _ _ _).mono ?_
    rintro r w1 ⟨rfl, b1⟩
    have bw := bel_trans b0 b1
    obtain ⟨kc, kf⟩ := bcell b1
    have e0 : w1.cell? ⟨w.heap.size, 0, none⟩ = some (.int .u8 a0k) := by rw [kc _ _ (by simp)]; simp
    have e1 : w1.cell? ⟨w.heap.size, 1, none⟩ = some (.int .i64 a0i) := by rw [kc _ _ (by simp)]; simp
    have e2 : w1.cell? ⟨w.heap.size, 2, none⟩ = some (.slice a0 a0n a0c) := by rw [kc _ _ (by simp)]; simp
    have hws : w.heap.size < w1.heap.size := by have := b1.size; simp at this; omega
    clear kc kf
    go_wp2_with fail
    refine (C1 _ (HR.out.below bw)).out.mono ?_
    rintro r w2 ⟨rfl, b2⟩
    have bw2 := bel_trans bw b2
    have g0 : w2.cell? ⟨w.heap.size, 0, none⟩ = some (.int .u8 a0k) := by rw [b2.cell (p := ⟨w.heap.size, 0, none⟩) hws]; exact e0
    have g1 : w2.cell? ⟨w.heap.size, 1, none⟩ = some (.int .i64 a0i) := by rw [b2.cell (p := ⟨w.heap.size, 1, none⟩) hws]; exact e1
    have g2 : w2.cell? ⟨w.heap.size, 2, none⟩ = some (.slice a0 a0n a0c) := by rw [b2.cell (p := ⟨w.heap.size, 2, none⟩) hws]; exact e2
    unfold lsT
    go_wp2_with fail
    refine (C2 _ (HR.out.below bw2)).out.mono ?_
    rintro r w3 ⟨rfl, b3⟩
    have bw3 := bel_trans bw2 b3
    unfold lsT
    go_wp2
    go_ret
    exact ⟨ret_eq (by simp), bw3⟩
set_option maxHeartbeats 1000000 in
theorem walk_domainImages (a0k a0i : Int) (a0 : Option Addr) (a0n a0c : Nat) (a0v : List Int) (a1Lo : Int) (a1Hi : Int) (w : World) (a0kl : 0 ≤ a0k) (a0kh : a0k ≤ 255) (a0il : -9223372036854775808 ≤ a0i) (a0ih : a0i ≤ 9223372036854775807) (a0e : a0v.length = a0n) (a0m : a0n ≤ maxLen) (a0r : Dm.RdK .u64 w a0 a0v) (a0b : Dm.BdU a0v) (a0z : a0 = none → a0c = 0) (a1Lol : 0 ≤ a1Lo) (a1Loh : a1Lo ≤ 18446744073709551615) (a1Hil : 0 ≤ a1Hi) (a1Hih : a1Hi ≤ 18446744073709551615) (hT : Dm.Tz w) :
    Calls Tryd.prog 4 #[.agg #[.int .u8 a0k, .int .i64 a0i, .slice a0 a0n a0c], .agg #[.int .u64 a1Lo, .int .u64 a1Hi]] w fun e w' => e = .returned (.bool true) ∧ Below w.heap.size w w' := by
  have HR := Lib.hid a0r; clear a0r
  have HT := Lib.hid hT; clear hT
  have b0 : Below w.heap.size w ((w.alloc (Obj.cells #[.int .u8 a0k, .int .i64 a0i, .slice a0 a0n a0c] 24)).alloc (Obj.cells #[.int .u64 a1Lo, .int .u64 a1Hi] 37)) := bel_alloc (bel_alloc (Below.refl _ _) _) _
  have C1 := fun W h => Lib.hid (img_any a0k a0i a1Lo a1Hi a0 a0n a0c a0v W a0kl a0kh a0il a0ih a1Lol a1Loh a1Hil a1Hih a0e a0m h a0b)
  have C2 := fun W h => Lib.hid (imgR_any a0k a0i a1Lo a1Hi a0 a0n a0c a0v W a0kl a0kh a0il a0ih a1Lol a1Loh a1Hil a1Hih a0e a0m h a0b)
  generalize imV a0k a0i a0v a1Lo a1Hi = V at C1 C2
  generalize imE a0k a0i a0v a1Lo a1Hi = E at C1 C2
  by_cases hl : 200 < (a0n : Int)
  · have t0 : decide (200 < (a0n : Int)) = true := decide_eq_true hl
    go_enter Tryd.func4, Tryd.ntmps4
    go_wp2_with fail
    refine (long_any _ _ _ _ _ _).mono ?_
    rintro r w1 ⟨rfl, b1⟩
    have bw := bel_trans b0 b1
    go_wp2_with fail
    refine (known_any _ (HT.out.below bw)).mono ?_
    rintro r w2 ⟨rfl, b2⟩
    go_wp2
    go_ret
    exact ⟨rfl, bel_trans bw b2⟩
  · have t0 : decide (200 < (a0n : Int)) = false := decide_eq_false hl
    go_enter Tryd.func4, Tryd.ntmps4
    go_wp2_with fail
    refine (long_any _ _ _ _ _ _).mono ?_
    rintro r w1 ⟨rfl, b1⟩
    have bw := bel_trans b0 b1
    obtain ⟨kc, kf⟩ := bcell b1
    have e0 : w1.cell? ⟨w.heap.size, 0, none⟩ = some (.int .u8 a0k) := by rw [kc _ _ (by simp; omega)]; simp
    have e1 : w1.cell? ⟨w.heap.size, 1, none⟩ = some (.int .i64 a0i) := by rw [kc _ _ (by simp; omega)]; simp
    have e2 : w1.cell? ⟨w.heap.size, 2, none⟩ = some (.slice a0 a0n a0c) := by rw [kc _ _ (by simp; omega)]; simp
    have e3 : w1.cell? ⟨w.heap.size + 1, 0, none⟩ = some (.int .u64 a1Lo) := by rw [kc _ _ (by simp)]; simp
    have e4 : w1.cell? ⟨w.heap.size + 1, 1, none⟩ = some (.int .u64 a1Hi) := by rw [kc _ _ (by simp)]; simp
    have hws : w.heap.size < w1.heap.size := by have := b1.size; simp at this; omega
    have hws1 : w.heap.size + 1 < w1.heap.size := by have := b1.size; simp at this; omega
    clear kc kf
    go_wp2_with fail
    refine (C1 _ (HR.out.below bw)).out.mono ?_
    rintro r w2 ⟨rfl, b2⟩
    have bw2 := bel_trans bw b2
    have g0 : w2.cell? ⟨w.heap.size, 0, none⟩ = some (.int .u8 a0k) := by rw [b2.cell (p := ⟨w.heap.size, 0, none⟩) hws]; exact e0
    have g1 : w2.cell? ⟨w.heap.size, 1, none⟩ = some (.int .i64 a0i) := by rw [b2.cell (p := ⟨w.heap.size, 1, none⟩) hws]; exact e1
    have g2 : w2.cell? ⟨w.heap.size, 2, none⟩ = some (.slice a0 a0n a0c) := by rw [b2.cell (p := ⟨w.heap.size, 2, none⟩) hws]; exact e2
    have g3 : w2.cell? ⟨w.heap.size + 1, 0, none⟩ = some (.int .u64 a1Lo) := by rw [b2.cell (p := ⟨w.heap.size + 1, 0, none⟩) hws1]; exact e3
    have g4 : w2.cell? ⟨w.heap.size + 1, 1, none⟩ = some (.int .u64 a1Hi) := by rw [b2.cell (p := ⟨w.heap.size + 1, 1, none⟩) hws1]; exact e4
    go_wp2_with fail
    refine (C2 _ (HR.out.below bw2)).out.mono ?_
    rintro r w3 ⟨rfl, b3⟩
    have bw3 := bel_trans bw2 b3
    go_wp2
    go_ret
    exact ⟨ret_eq (by simp), bw3⟩
end Wk
end Go.Proofs.YtnjgolbghcjijaaDoor
