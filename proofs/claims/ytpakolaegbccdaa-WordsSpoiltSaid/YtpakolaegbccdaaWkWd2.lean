/- The walk of the law WordsSpoilt, from the contracts of the memory. Conditions: those of the contracts. -/
import Derived.Test.YtpakolaegbccdaaWdF
namespace Go.Proofs.Ytpakolaegbccdaa
open Go.RowKit Go.Sort
set_option linter.unusedVariables false
set_option linter.unusedSimpArgs false
namespace Wk
open Wd
open Dm (addr_lit info_parts spot_none RdK flatU infoU bel_alloc bel_trans own_keep below_drewN)
set_option maxRecDepth 100000 in
set_option maxHeartbeats 4000000 in
theorem walk_wordsSpoilt (a0 : Option Addr) (a0n a0c : Nat) (a0v : List Int) (a1 : Option Addr) (a1n a1c : Nat) (a1v : List Wd.Dd) (a2 : Int) (a3 : Int) (w : World) (a0e : a0v.length = a0n) (a0m : a0n ≤ maxLen) (a0r : Dm.RdK .u64 w a0 a0v) (a0b : Dm.BdU a0v) (a0z : a0 = none → a0c = 0) (a1e : a1v.length = a1n) (a1m : a1n ≤ maxLen) (a1r : Wd.RdD w a1 a1v) (a1b : Wd.BdD a1v) (a1z : a1 = none → a1c = 0) (a2l : (-9223372036854775808) ≤ a2) (a2h : a2 ≤ 9223372036854775807) (a3l : 0 ≤ a3) (a3h : a3 ≤ 18446744073709551615) :
    Calls Try.prog 10 #[.slice a0 a0n a0c, .slice a1 a1n a1c, .int .i64 a2, .int .u64 a3] w fun e w' => e = .returned (.bool true) ∧ Below w.heap.size w w' := by
  have hpre : ∀ (b : Bool), (a0n < 1 ∨ 300 < a0n ∨ 200 < a1n ∨ a3 = 0) → Calls Try.prog 10 #[.slice a0 a0n a0c, .slice a1 a1n a1c, .int .i64 a2, .int .u64 a3] w fun e w' => e = .returned (.bool true) ∧ Below w.heap.size w w' := fun _ h => by
    by_cases g0 : a0n < 1
    · have t0 : decide ((a0n : Int) < 1) = true := decide_eq_true (by omega)
      go_enter Try.func10, Try.ntmps10
      go_wp2
      go_ret
      exact ⟨rfl, Below.refl _ _⟩
    have t0 : decide ((a0n : Int) < 1) = false := decide_eq_false (by omega)
    by_cases g1 : 300 < a0n
    · have t1 : decide ((300 : Int) < a0n) = true := decide_eq_true (by omega)
      go_enter Try.func10, Try.ntmps10
      go_wp2
      go_ret
      exact ⟨rfl, Below.refl _ _⟩
    have t1 : decide ((300 : Int) < a0n) = false := decide_eq_false (by omega)
    by_cases g2 : 200 < a1n
    · have t2 : decide ((200 : Int) < a1n) = true := decide_eq_true (by omega)
      go_enter Try.func10, Try.ntmps10
      go_wp2
      go_ret
      exact ⟨rfl, Below.refl _ _⟩
    have t2 : decide ((200 : Int) < a1n) = false := decide_eq_false (by omega)
    obtain rfl : a3 = 0 := by omega
    go_enter Try.func10, Try.ntmps10
    go_wp2
    go_ret
    exact ⟨rfl, Below.refl _ _⟩
  by_cases hp : a0n < 1 ∨ 300 < a0n ∨ 200 < a1n ∨ a3 = 0
  · exact hpre true hp
  clear hpre
  have t0 : decide ((a0n : Int) < 1) = false := decide_eq_false (by omega)
  have t1 : decide ((300 : Int) < a0n) = false := decide_eq_false (by omega)
  have t2 : decide ((200 : Int) < a1n) = false := decide_eq_false (by omega)
  have t3 : (a3 == 0) = false := beq_eq_false_iff_ne.2 (by omega)
  have p0 : 0 < a0n := by omega
  have p1 : a0n ≤ 300 := by omega
  have p2 : a1n ≤ 200 := by omega
  have p3 : a3 ≠ 0 := by omega
  clear hp
  have hW := bdU_bdW a0b
  have CR := Lib.hid (run_any a0 a0n a0c a0v a1 a1n a1c a1v w a0e p0 p1 a0r a0z hW a1e p2 a1r a1b)
  obtain ⟨hg, hll⟩ := run_good a0v (by omega) a1v
  have hmb := run_bd a0v (by omega) (by omega) hW a1v a1b
  have hll : (runM a0v a1v).L.length ≤ 200 := by omega
  obtain ⟨M, hM⟩ : ∃ M, runM a0v a1v = M := ⟨_, rfl⟩
  rw [hM] at CR hg hll hmb
  have HG := Lib.hid hg
  have HM := Lib.hid hmb
  have HR := Lib.hid a0r
  have HN := Lib.hid a0e
  have HW := Lib.hid hW
  clear hM hg hmb a0r a0e a0b a1r a1b a1e hW
  go_enter Try.func10, Try.ntmps10
  go_wp2_with fail
  refine CR.out.mono ?_
  rintro r w1 ⟨b, p, q, rfl, ha, hO, b1⟩
  have CL := log_any b p q M 0 w1 ha (by omega)
  rw [from_zero] at CL
  have HA := Lib.hid ha
  have B1 := Lib.hid b1
  clear ha hO b1 CR
  go_wp2_with fail
  refine CL.mono ?_
  rintro r w2 ⟨⟨v, rfl, ho⟩, b2⟩
  have B2 := Lib.hid (B1.out.trans (b2.mono B1.out.size))
  clear CL b2
  by_cases hl0 : M.L.length = 0
  · obtain ⟨_, A3, c3, rfl, _⟩ := rowA ho
    have t4 : ((M.L.length : Int) == 0) = true := by simp [hl0]
    clear ho
    rw [hl0]
    go_wp2
    go_ret
    exact ⟨rfl, B2.out⟩
  obtain ⟨g, cap, rfl⟩ := Joins.ownsRow_form ho (by omega)
  have t4 : ((M.L.length : Int) == 0) = false := beq_eq_false_iff_ne.2 (by omega)
  have CW := within_any a2 M.L.length w2 a2l a2h (by omega) (by omega)
  have k0 := Int.emod_nonneg a2 (show (M.L.length : Int) ≠ 0 by omega)
  have k1 := Int.emod_lt_of_pos a2 (show (0 : Int) < M.L.length by omega)
  obtain ⟨k, hk⟩ := Int.eq_ofNat_of_zero_le k0
  rw [hk] at CW k1
  have hkl : k < M.L.length := by omega
  obtain ⟨x, hx⟩ := ac_get hkl
  have c6 := (rowA_get ho) k x hx
  obtain ⟨_, _, e, c6⟩ := c6
  cases e
  have q3 := c6.c3
  simp only [Nat.zero_add] at q3
  have f3 := ho.frozenAt (k * 6 + 3)
  have bx := HM.out.l x (List.mem_of_getElem? hx)
  have o0 := bx.o0
  have o1 := bx.o1
  have OW := Lib.hid ho
  have HX := Lib.hid hx
  have HK := Lib.hid hk
  have CWh := Lib.hid CW
  clear ho hx hk c6 bx k0 CW
  go_wp2_with fail
  refine CWh.out.mono ?_
  rintro r w3 ⟨rfl, rfl⟩
  clear CWh
  obtain ⟨y, hy⟩ : ∃ y, IntKind.u64.wrap (x.o + a3) = y := ⟨_, rfl⟩
  have hy2 : y = (x.o + a3) % 18446744073709551616 := by rw [← hy, IntKind.wrap_u64]
  have HS := Lib.hid (spoilt (y := y) HG.out.g HX.out (by omega))
  have hbd : BdA (M.L.set k { x with o := y }) := fun z hz => by
    rcases List.mem_or_eq_of_mem_set hz with h | h
    · exact HM.out.l z h
    · have bx := HM.out.l x (List.mem_of_getElem? HX.out)
      subst h
      exact ⟨bx.t0, bx.t1, bx.a0, bx.a1, bx.k0, bx.k1, by show 0 ≤ y; omega, by show y ≤ _; omega, bx.n0, bx.n1⟩
  have hrow := (OW.out.stored (k * 6 + 3) (.int .u64 y)).1
  rw [flatA_set _ _ _ _ HX.out] at hrow
  have RDL := Lib.hid (rowA_get hrow)
  have B3 := B2.out.setCell (p := ⟨g, k * 6 + 3, none⟩) (Nat.le_trans B1.out.size (OW.out.lt g rfl).1) (.int .u64 y)
  have hlen : (M.L.set k { x with o := y }).length = M.L.length := by simp
  obtain ⟨W4, hW4⟩ : ∃ W4, w3.setCell ⟨g, k * 6 + 3, none⟩ (.int .u64 y) = W4 := ⟨_, rfl⟩
  rw [hW4] at B3 RDL
  have HRW := Lib.hid (HR.out.below B3)
  have B3h := Lib.hid B3
  generalize M.L.set k { x with o := y } = L' at *
  have HBD := Lib.hid hbd
  have HLEN := Lib.hid hlen
  have HE := Lib.hid (newE_ok p0 p1)
  have made : (W4.alloc (.cells #[] 31)).ownsRow W4.heap.size 31 1 (.slice (some ⟨W4.heap.size, 0, none⟩) 0 0) 0 (flatU []) := World.ownsRow_made W4 #[] 0 (Nat.le_refl _) (Nat.zero_le _) (by simp)
  have B0 : Below W4.heap.size W4 (W4.alloc (.cells #[] 31)) := bel_alloc (Below.refl _ _) _
  have hsz : W4.heap.size = w3.heap.size := by rw [← hW4]; simp
  rw [hsz] at made B0
  have HW4 := Lib.hid hW4
  clear hbd hlen hrow hy2 B3 hW4
  go_wp2_with (at_builtin; (first | rw [hy, HW4.out] | rw [HW4.out]); refine Dm.appAll rfl (.tmp 56) (.tmp 57) rfl _ w3.heap.size 0 _ [] a0 a0n a0c a0v rfl rfl made HN.out (by omega) (by omega) (by rw [World.size_alloc, hsz]; omega) (HRW.out.below (by rw [hsz]; exact B0)) a0z ?_; intro v2 w5 h2 b2; rw [Nat.zero_add, List.nil_append] at h2)
  obtain ⟨hl2, A5, c5, rfl, rd5⟩ := Dm.row_rd h2
  have b5 : Below W4.heap.size W4 w5 := by rw [hsz]; exact B0.trans (b2.mono (Nat.le_refl _))
  have CC := Lib.hid (replay_any A5 a0n c5 a0v (some ⟨g, 0, none⟩) M.L.length cap L' w5 HN.out a0m rd5 HLEN.out (by unfold maxLen; omega) (RDL.out.below b5) HBD.out)
  have B5 := Lib.hid (B3h.out.trans (b5.mono B3h.out.size))
  clear h2 b2 b5 rd5 hl2 made B0
  refine CC.out.mono ?_
  rintro r w6 ⟨hr, b6⟩
  have B6 := Lib.hid (B5.out.trans (b6.mono B5.out.size))
  clear CC b6
  rcases hr with ⟨hn, _⟩ | ⟨_, i, hs, rfl⟩ | ⟨_, V, AW, cW, hs, _⟩
  · rw [HN.out] at hn; exact absurd HE.out hn
  · obtain rfl : k = i := by rw [HS.out] at hs; exact congrArg Prod.snd hs
    clear hs
    go_wp2
    go_ret
    exact ⟨rfl, B6.out⟩
  · rw [HS.out] at hs; cases congrArg Prod.fst hs
end Wk
end Go.Proofs.Ytpakolaegbccdaa
