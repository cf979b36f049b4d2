/- The walk of the law DrawExamples, from the contracts of XDrw, XDrwH and XDrwT. Conditions: those of the contracts. -/
import Derived.Test.YtfogcapgadfbfaaDoorWkDr2
import Derived.Test.YtfogcapgadfbfaaDoorWkDr4
namespace Go.Proofs.YtfogcapgadfbfaaDoor
open Go.RowKit Go.Sort
set_option linter.unusedVariables false
set_option linter.unusedSimpArgs false
attribute [local go_sem] Dr.eq6 Dr.guard6
namespace Dr
open Dm
theorem build3 (a0 a1 a2 : Int) (w : World) : (Instr.build 32 #[(0, .int .i64 a0), (1, .int .i64 a1), (2, .int .i64 a2)]).run Tryd.prog w = .ok (.agg #[.int .i64 a0, .int .i64 a1, .int .i64 a2, .int .i64 0, .int .i64 0, .int .i64 0]) w := run_build w 32 _ _ (by kernel_rfl)
theorem build0 (w : World) : (Instr.build 32 #[]).run Tryd.prog w = .ok (.agg #[.int .i64 0, .int .i64 0, .int .i64 0, .int .i64 0, .int .i64 0, .int .i64 0]) w := run_build w 32 _ _ (by kernel_rfl)
theorem rd3 (w : World) (t : TypeId) (x y z : Int) : RdK .i64 (w.alloc (.cells #[.int .i64 x, .int .i64 y, .int .i64 z] t)) (some ⟨w.heap.size, 0, none⟩) [x, y, z] := fun k hk => ⟨_, _, rfl, by
  rw [Nat.zero_add, World.cell?_alloc_new]
  have hk' : k < 3 := hk
  rcases (show k = 0 ∨ k = 1 ∨ k = 2 by omega) with rfl | rfl | rfl <;> rfl⟩
theorem rd1 (w : World) (t : TypeId) (x : Int) : RdK .i64 (w.alloc (.cells #[.int .i64 x] t)) (some ⟨w.heap.size, 0, none⟩) [x] := fun k hk => ⟨_, _, rfl, by
  rw [Nat.zero_add, World.cell?_alloc_new]
  have hk' : k < 1 := hk
  obtain rfl : k = 0 := by omega
  rfl⟩
theorem heights_lit (s : Nat) (S n : Int) (L : List Int) (m : Nat) (E : Int) (hS : S = s) (hs : s < M64) (nl : -9223372036854775808 ≤ n) (nh : n ≤ 9223372036854775807) (h1 : hL s n = L) (h2 : hE n = E) (h3 : L.length = m) (w : World) (hT : Tz w) :
    Calls Tryd.prog 14 #[.int .u64 S, .int .i64 n] w fun e w' => ∃ A c, e = .returned (.tuple #[.slice A m c, .int .i64 E]) ∧ RdK .i64 w' A L ∧ Below w.heap.size w w' := by
  subst hS h1 h2 h3
  exact (heights_g s n hs nl nh w hT).mono fun e w' ⟨A, c, h1, h2, _, _, h3⟩ => ⟨A, c, h1, h2, h3⟩
theorem tally_lit (l : List Int) (A : Option Addr) (m c : Nat) (x0 x1 x2 x3 x4 x5 E : Int) (h0 : tq l 0 = x0) (h1 : tq l 1 = x1) (h2 : tq l 2 = x2) (h3 : tq l 3 = x3) (h4 : tq l 4 = x4) (h5 : tq l 5 = x5) (hE : tE l = E) (hm : l.length = m) (hx : m ≤ maxLen) (hd : BdI l) (w : World) (hr : RdK .i64 w A l) :
    Calls Tryd.prog 18 #[.slice A m c] w fun e w' => e = .returned (.tuple #[.agg #[.int .i64 x0, .int .i64 x1, .int .i64 x2, .int .i64 x3, .int .i64 x4, .int .i64 x5], .int .i64 E]) ∧ Below w.heap.size w w' := by
  subst h0 h1 h2 h3 h4 h5 hE
  rw [← tlV_eq]
  exact tally_any A m c l w hm hx hr hd
theorem bd_lit (l : List Int) (h : l.all (fun x => decide (-9223372036854775808 ≤ x ∧ x ≤ 9223372036854775807)) = true) : BdI l := fun k hk => by
  have := List.all_eq_true.1 h (l.getD k 0) (by rw [List.getD_eq_getElem?_getD, List.getElem?_eq_getElem hk]; exact List.getElem_mem _)
  exact of_decide_eq_true this
end Dr
attribute [local go_sem] Dr.build3 Dr.build0
namespace Wk
open Dm Dr
set_option maxRecDepth 100000 in
set_option maxHeartbeats 4000000 in
theorem walk_drawExamples (w : World) (hT : Dm.Tz w) :
    Calls Tryd.prog 6 #[] w fun e w' => e = .returned (.bool true) ∧ Below w.heap.size w w' := by
  have HT := Lib.hid hT; clear hT
  have CH : ∀ (x : Nat) (X y : Int), X = x → x < M64 → ((hgt x : Nat) : Int) = y → ∀ W, Tz W → Hid (Calls Tryd.prog 10 #[.int .u64 X] W fun e w' => e = .returned (.int .i64 y) ∧ W = w') := fun x X y hX hx hy W h => Lib.hid (by subst hX hy; exact height_any x hx W h)
  have CM : ∀ (i : Nat) (I y : Int), I = i → i ≤ 1000 → ((mixN 0 i : Nat) : Int) = y → ∀ W, Hid (Calls Tryd.prog 12 #[.int .u64 0, .int .i64 I] W fun e w' => e = .returned (.int .u64 y) ∧ W = w') := fun i I y hI hi hy W => Lib.hid (by
    subst hI hy
    have h := mix_any 0 i (by decide) (by omega) (by omega) W
    rw [ix_nat (show i < 18446744073709551616 by omega)] at h
    exact h)
  go_enter Tryd.func6, Tryd.ntmps6
  go_wp2_with fail
  refine (CH 0 0 1 rfl (by decide) (by decide +kernel) _ HT.out).out.mono ?_
  rintro r w' ⟨rfl, rfl⟩
  go_wp2_with fail
  refine (CH 1 1 2 rfl (by decide) (by decide +kernel) _ HT.out).out.mono ?_
  rintro r w' ⟨rfl, rfl⟩
  go_wp2_with fail
  refine (CH 5 5 2 rfl (by decide) (by decide +kernel) _ HT.out).out.mono ?_
  rintro r w' ⟨rfl, rfl⟩
  go_wp2_with fail
  refine (CH 31 31 6 rfl (by decide) (by decide +kernel) _ HT.out).out.mono ?_
  rintro r w' ⟨rfl, rfl⟩
  go_wp2_with fail
  refine (CH 63 63 6 rfl (by decide) (by decide +kernel) _ HT.out).out.mono ?_
  rintro r w' ⟨rfl, rfl⟩
  go_wp2_with fail
  refine (CH 18446744073709551615 18446744073709551615 6 rfl (by decide) (by decide +kernel) _ HT.out).out.mono ?_
  rintro r w' ⟨rfl, rfl⟩
  go_wp2_with fail
  refine (CM 0 0 16294208416658607535 rfl (by omega) (by decide +kernel) _).out.mono ?_
  rintro r w' ⟨rfl, rfl⟩
  go_wp2_with fail
  refine (CM 1 1 7960286522194355700 rfl (by omega) (by decide +kernel) _).out.mono ?_
  rintro r w' ⟨rfl, rfl⟩
  go_wp2_with fail
  refine (CM 2 2 487617019471545679 rfl (by omega) (by decide +kernel) _).out.mono ?_
  rintro r w' ⟨rfl, rfl⟩
  clear CM CH
  have K1 := Lib.hid (heights_lit 0 0 3 [5, 1, 5] 3 0 rfl (by decide) (by omega) (by omega) (by decide +kernel) (by decide +kernel) rfl w HT.out)
  have K2 := fun W h => Lib.hid (heights_lit 0 0 (-1) [] 0 2 rfl (by decide) (by omega) (by omega) (by decide +kernel) (by decide +kernel) rfl W h)
  have K3 := fun W h => Lib.hid (heights_lit 0 0 1025 [] 0 5 rfl (by decide) (by omega) (by omega) (by decide +kernel) (by decide +kernel) rfl W h)
  go_wp2_with fail
  refine K1.out.mono ?_
  rintro r w1 ⟨A1, c1, rfl, r1, b1⟩
  have R1 := Lib.hid r1; clear r1
  go_wp2_with fail
  refine (K2 _ (HT.out.below b1)).out.mono ?_
  rintro r w2 ⟨A2, c2, rfl, r2, b2⟩
  have bw2 := bel_trans b1 b2
  have R1 := Lib.hid (R1.out.below b2); clear r2
  go_wp2_with fail
  refine (K3 _ (HT.out.below bw2)).out.mono ?_
  rintro r w3 ⟨A3, c3, rfl, r3, b3⟩
  have bw3 := bel_trans bw2 b3
  have R1 := Lib.hid (R1.out.below b3); clear r3
  clear K1 K2 K3
  have R4 := Lib.hid (rd3 w3 3 5 1 5)
  have b4 := bel_alloc bw3 (.cells #[.int .i64 5, .int .i64 1, .int .i64 5] 3)
  have KS := Lib.hid (same_any A1 (some ⟨w3.heap.size, 0, none⟩) 3 c1 3 3 [5, 1, 5] [5, 1, 5] (w3.alloc (.cells #[.int .i64 5, .int .i64 1, .int .i64 5] 3)) rfl rfl (by unfold maxLen; omega) (by unfold maxLen; omega) (R1.out.below (bel_alloc (Below.refl _ _) _)) R4.out)
  rw [show decide ([5, 1, 5] = ([5, 1, 5] : List Int)) = true from decide_eq_true rfl] at KS
  clear R1 R4
  go_wp2_with fail
  refine KS.out.mono ?_
  rintro r w5 ⟨rfl, b5⟩
  have bw5 := bel_trans b4 b5
  clear KS
  have K5 := Lib.hid (tally_lit [1, 1, 3] (some ⟨w5.heap.size, 0, none⟩) 3 3 2 0 1 0 0 0 0 (by decide +kernel) (by decide +kernel) (by decide +kernel) (by decide +kernel) (by decide +kernel) (by decide +kernel) (by decide +kernel) rfl (by unfold maxLen; omega) (bd_lit _ (by decide +kernel)) _ (rd3 w5 3 1 1 3))
  have b6 := bel_alloc bw5 (.cells #[.int .i64 1, .int .i64 1, .int .i64 3] 3)
  go_wp2_with fail
  refine K5.out.mono ?_
  rintro r w6 ⟨rfl, b7⟩
  have b8 := bel_alloc (bel_trans b6 b7) (.cells #[.int .i64 2, .int .i64 0, .int .i64 1, .int .i64 0, .int .i64 0, .int .i64 0] 32)
  have Y := Lib.hid (ar_new w6 32 2 0 1 0 0 0 (fun k => if k = 0 then 2 else if k = 2 then 1 else 0) rfl rfl rfl rfl rfl rfl)
  clear K5
  have rd := rd1 (w6.alloc (.cells #[.int .i64 2, .int .i64 0, .int .i64 1, .int .i64 0, .int .i64 0, .int .i64 0] 32)) 3 0
  rw [World.size_alloc] at rd
  have K6 := Lib.hid (tally_lit [0] (some ⟨w6.heap.size + 1, 0, none⟩) 1 1 0 0 0 0 0 0 3 (by decide +kernel) (by decide +kernel) (by decide +kernel) (by decide +kernel) (by decide +kernel) (by decide +kernel) (by decide +kernel) rfl (by unfold maxLen; omega) (bd_lit _ (by decide +kernel)) _ rd)
  clear rd
  have b9 := bel_alloc b8 (.cells #[.int .i64 0] 3)
  have Y := Lib.hid (Y.out.below (bel_alloc (Below.refl _ _) (.cells #[.int .i64 0] 3)) (by simp))
  go_wp2_with fail
  refine K6.out.mono ?_
  rintro r w7 ⟨rfl, b10⟩
  have b11 := bel_trans b9 b10
  have Y := Lib.hid (Y.out.below b10 (by simp; omega))
  clear K6
  have hs7 : w6.heap.size < w7.heap.size := cell_lt (Y.out 0 (by omega)).1
  have K7 := Lib.hid (tally_lit [7] (some ⟨w7.heap.size, 0, none⟩) 1 1 0 0 0 0 0 0 3 (by decide +kernel) (by decide +kernel) (by decide +kernel) (by decide +kernel) (by decide +kernel) (by decide +kernel) (by decide +kernel) rfl (by unfold maxLen; omega) (bd_lit _ (by decide +kernel)) _ (rd1 w7 3 7))
  have b12 := bel_alloc b11 (.cells #[.int .i64 7] 3)
  have Y := Lib.hid (Y.out.below (bel_alloc (Below.refl _ _) (.cells #[.int .i64 7] 3)) hs7)
  go_wp2_with fail
  refine K7.out.mono ?_
  rintro r w8 ⟨rfl, b13⟩
  have b14 := bel_trans b12 b13
  have Y := Lib.hid (Y.out.below b13 (by simp; omega))
  clear K7
  have hs8 : w6.heap.size < w8.heap.size := cell_lt (Y.out 0 (by omega)).1
  have K8 := Lib.hid (tally_lit [] none 0 0 0 0 0 0 0 0 0 (by decide +kernel) (by decide +kernel) (by decide +kernel) (by decide +kernel) (by decide +kernel) (by decide +kernel) (by decide +kernel) rfl (by unfold maxLen; omega) (bd_lit _ (by decide +kernel)) w8 (fun k hk => by simp at hk))
  go_wp2_with fail
  refine K8.out.mono ?_
  rintro r w9 ⟨rfl, b15⟩
  have b16 := bel_alloc (bel_trans b14 b15) (.cells #[.int .i64 0, .int .i64 0, .int .i64 0, .int .i64 0, .int .i64 0, .int .i64 0] 32)
  have Y := Y.out.below b15 hs8
  have hs9 : w6.heap.size < w9.heap.size := cell_lt (Y 0 (by omega)).1
  clear K8
  obtain ⟨e0, e1, e2, e3, e4, e5⟩ := Y.cells
  simp at e0 e1 e2 e3 e4 e5
  clear Y
  go_wp2
  go_ret
  exact ⟨rfl, b16⟩
end Wk
end Go.Proofs.YtfogcapgadfbfaaDoor
