/- The walk of the law WordsConsistent, from the contracts of the memory. Conditions: those of the contracts. -/
import Derived.Test.YtpakolaegbccdaaWdF
namespace Go.Proofs.Ytpakolaegbccdaa
open Go.RowKit Go.Sort
set_option linter.unusedVariables false
set_option linter.unusedSimpArgs false
namespace Wk
open Wd
open Dm (addr_lit info_parts spot_none RdK flatU infoU bel_alloc bel_trans own_keep below_drewN)
set_option maxRecDepth 100000 in
set_option maxHeartbeats 8000000 in
theorem walk_wordsConsistent (a0 : Option Addr) (a0n a0c : Nat) (a0v : List Int) (a1 : Option Addr) (a1n a1c : Nat) (a1v : List Wd.Dd) (w : World) (a0e : a0v.length = a0n) (a0m : a0n ≤ maxLen) (a0r : Dm.RdK .u64 w a0 a0v) (a0b : Dm.BdU a0v) (a0z : a0 = none → a0c = 0) (a1e : a1v.length = a1n) (a1m : a1n ≤ maxLen) (a1r : Wd.RdD w a1 a1v) (a1b : Wd.BdD a1v) (a1z : a1 = none → a1c = 0) :
    Calls Try.prog 7 #[.slice a0 a0n a0c, .slice a1 a1n a1c] w fun e w' => e = .returned (.bool true) ∧ Below w.heap.size w w' := by
  have hpre : (a0n < 1 ∨ 300 < a0n ∨ 200 < a1n) → Calls Try.prog 7 #[.slice a0 a0n a0c, .slice a1 a1n a1c] w fun e w' => e = .returned (.bool true) ∧ Below w.heap.size w w' := fun h => by
    by_cases g0 : a0n < 1
    · have t0 : decide ((a0n : Int) < 1) = true := decide_eq_true (by omega)
      go_enter Try.func7, Try.ntmps7
      go_wp2
      go_ret
      exact ⟨rfl, Below.refl _ _⟩
    have t0 : decide ((a0n : Int) < 1) = false := decide_eq_false (by omega)
    by_cases g1 : 300 < a0n
    · have t1 : decide ((300 : Int) < a0n) = true := decide_eq_true (by omega)
      go_enter Try.func7, Try.ntmps7
      go_wp2
      go_ret
      exact ⟨rfl, Below.refl _ _⟩
    have t1 : decide ((300 : Int) < a0n) = false := decide_eq_false (by omega)
    have t2 : decide ((200 : Int) < a1n) = true := decide_eq_true (by omega)
    go_enter Try.func7, Try.ntmps7
    go_wp2
    go_ret
    exact ⟨rfl, Below.refl _ _⟩
  by_cases hp : a0n < 1 ∨ 300 < a0n ∨ 200 < a1n
  · exact hpre hp
  clear hpre
  have t0 : decide ((a0n : Int) < 1) = false := decide_eq_false (by omega)
  have t1 : decide ((300 : Int) < a0n) = false := decide_eq_false (by omega)
  have t2 : decide ((200 : Int) < a1n) = false := decide_eq_false (by omega)
  have p0 : 0 < a0n := by omega
  have p1 : a0n ≤ 300 := by omega
  have p2 : a1n ≤ 200 := by omega
  clear hp
  have hW := bdU_bdW a0b
  have CR := Lib.hid (run_any a0 a0n a0c a0v a1 a1n a1c a1v w a0e p0 p1 a0r a0z hW a1e p2 a1r a1b)
  obtain ⟨hg, hll⟩ := run_good a0v (by omega) a1v
  have hmb := run_bd a0v (by omega) (by omega) hW a1v a1b
  have hll : (runM a0v a1v).L.length ≤ a1n := by omega
  obtain ⟨M, hM⟩ : ∃ M, runM a0v a1v = M := ⟨_, rfl⟩
  rw [hM] at CR hg hll hmb
  have HG := Lib.hid hg
  have HM := Lib.hid hmb
  have HR := Lib.hid a0r
  have HN := Lib.hid a0e
  have hwl : M.W.length = a0n := by rw [hg.len, a0e]
  have HWL := Lib.hid hwl
  clear hM hg hmb a0r a0e a0b a1r a1b a1e hW hwl
  go_enter Try.func7, Try.ntmps7
  go_wp2_with fail
  refine CR.out.mono ?_
  rintro r w1 ⟨b, p, q, rfl, ha, hO, b1⟩
  have CL := log_any b p q M 0 w1 ha (by omega)
  rw [from_zero] at CL
  have HA := Lib.hid ha
  have B1 := Lib.hid b1
  clear ha hO b1 CR
  go_wp2_with fail
  refine CL.mono ?_
  rintro r w2 ⟨⟨v, rfl, ho⟩, b2⟩
  obtain ⟨_, AL, cL, rfl, hcL, rdL, hzL⟩ := rowA ho
  have B2 := Lib.hid (B1.out.trans (b2.mono B1.out.size))
  have CW := Lib.hid (words_any b p q M w2 (HA.out.below b2))
  have RL := Lib.hid rdL
  clear CL b2 ho rdL
  go_wp2_with fail
  refine CW.out.mono ?_
  rintro r w3 ⟨⟨v, rfl, ho⟩, b3⟩
  obtain ⟨_, AW, cW, rfl, rdW⟩ := Dm.row_rd ho
  have B3 := Lib.hid (B2.out.trans (b3.mono B2.out.size))
  have RL3 := Lib.hid (RL.out.below b3)
  have RW3 := Lib.hid rdW
  have HR3 := Lib.hid (HR.out.below B3.out)
  rw [HWL.out]
  have t3 : decide ((a1n : Int) < M.L.length) = false := decide_eq_false (by omega)
  clear CW b3 ho rdW RL B1 B2 HA HR
  have t4 : decide (a1n < M.L.length) = false := decide_eq_false (by omega)
  go_wp2
  go_loopw [8] (fun i wr => ∃ j : Nat, j ≤ M.L.length ∧ i = .int .i64 j ∧ Below w3.heap.size w3 wr) (fun i _ => (M.L.length - intOf i).toNat)
  case atStart => exact ⟨0, Nat.zero_le _, rfl, Below.refl _ _⟩
  case round =>
    obtain ⟨j, hj, rfl, bel⟩ := hrel
    by_cases hlt : j < M.L.length
    · obtain ⟨x, hx⟩ := ac_get hlt
      obtain ⟨a, ea, hal, ho⟩ := good_at HG.out.g hx
      rw [HN.out] at hal
      obtain ⟨xb, xo, ex, c6⟩ := (RL3.out.below bel) j x hx
      subst ex
      have xlt := World.block_lt_of_cell? wr _ c6.c0
      have q0 := c6.c0
      have q1 := c6.c1
      have q2 := c6.c2
      have q3 := c6.c3
      have q4 := c6.c4
      have q5 := c6.c5
      rw [ea] at q1
      obtain ⟨ab, ao, eab, ca⟩ := HR3.out a (by rw [HN.out]; exact hal)
      subst eab
      have alt := Nat.lt_of_lt_of_le (Dm.cell_lt ca) bel.size
      have ca := (bel.cell (p := ⟨ab, ao + a, none⟩) (Dm.cell_lt ca)).trans ca
      obtain ⟨y, hy⟩ : ∃ y, a0v.getD a 0 = y := ⟨_, rfl⟩
      rw [hy] at ca
      have u0 : decide ((a : Int) < 0) = false := decide_eq_false (by omega)
      have u1 : decide ((a0n : Int) ≤ (a : Int)) = false := decide_eq_false (by omega)
      have hjl : (j : Int) < M.L.length := by omega
      have HO := Lib.hid ho
      have HX := Lib.hid hx
      have HY := Lib.hid hy
      have BEL := Lib.hid bel
      clear c6 hx hy ho bel
      go_wp2
      have kb := bel_alloc (Below.refl wr.heap.size wr) (.cells #[.int .i64 x.t, .int .i64 (a : Nat), .int .u8 x.k, .int .u64 x.o, .int .u64 x.n, .bool x.s] 43)
      have k1 : (wr.alloc (.cells #[.int .i64 x.t, .int .i64 (a : Nat), .int .u8 x.k, .int .u64 x.o, .int .u64 x.n, .bool x.s] 43)).cell? ⟨wr.heap.size, 1, none⟩ = some (.int .i64 (a : Nat)) := by simp
      have k3 : (wr.alloc (.cells #[.int .i64 x.t, .int .i64 (a : Nat), .int .u8 x.k, .int .u64 x.o, .int .u64 x.n, .bool x.s] 43)).cell? ⟨wr.heap.size, 3, none⟩ = some (.int .u64 x.o) := by simp
      have ksz : (wr.alloc (.cells #[.int .i64 x.t, .int .i64 (a : Nat), .int .u8 x.k, .int .u64 x.o, .int .u64 x.n, .bool x.s] 43)).heap.size = wr.heap.size + 1 := by simp
      generalize wr.alloc (.cells #[.int .i64 x.t, .int .i64 (a : Nat), .int .u8 x.k, .int .u64 x.o, .int .u64 x.n, .bool x.s] 43) = W4 at *
      have B4 := Lib.hid (bel_trans BEL.out kb)
      clear kb q0 q1 q2 q3 q4 q5 ca
      obtain ⟨z, hz⟩ : ∃ z, z = wr.heap.size := ⟨_, rfl⟩
      rw [← hz] at k1 k3 ksz ⊢
      clear hz xlt alt
      go_loopw [10, 11] (fun s k wi => ∃ n : Nat, n ≤ j ∧ s = .int .u64 ((lead a0v (M.L.take n)).getD a 0) ∧ k = .int .i64 n ∧ Below W4.heap.size W4 wi) (fun _ k _ => (j - intOf k).toNat)
      case atStart => exact ⟨0, Nat.zero_le _, by rw [List.take_zero, lead_nil, HY.out], rfl, Below.refl _ _⟩
      case round =>
        obtain ⟨n, hn, rfl, rfl, bi⟩ := hrel
        have k1i := (bi.cell (p := ⟨z, 1, none⟩) (by show z < _; omega)).trans k1
        have k3i := (bi.cell (p := ⟨z, 3, none⟩) (by show z < _; omega)).trans k3
        by_cases hnj : n < j
        · obtain ⟨u, hu⟩ := ac_get (show n < M.L.length by omega)
          obtain ⟨ub, uo, eu, d6⟩ := (RL3.out.below (bel_trans B4.out bi)) n u hu
          cases eu
          have r1 := d6.c1
          have r4 := d6.c4
          obtain ⟨v, ev, hvl, _⟩ := good_at HG.out.g hu
          have HN1 := Lib.hid (lead_next (i := a) hu (by omega) (by rw [HN.out]; exact hal))
          have hnj' : decide ((n : Int) < j) = true := decide_eq_true (by omega)
          have hnl : (n : Int) < M.L.length := by omega
          clear d6 hu k1 k3 k3i
          by_cases e : u.a = (a : Int)
          · have e2 : (u.a == (a : Int)) = true := by simp [e]
            rw [if_pos e] at HN1
            rw [e] at r1
            clear e e2 ev
            generalize lead a0v (M.L.take n) = V at *
            go_wp2
            go_quiet (fail)
            go_wp2
            go_roundw
            case rel => exact ⟨n + 1, by omega, by rw [HN1.out], by go_num, below_drewN bi _⟩
            case measure => simp [intOf]; omega
          · have e2 : (u.a == (a : Int)) = false := by simp [e]
            rw [if_neg e] at HN1
            clear e ev
            generalize hV : (lead a0v (M.L.take n)).getD a 0 = V at *
            go_wp2
            go_quiet (fail)
            go_wp2
            go_roundw
            case rel => exact ⟨n + 1, by omega, by rw [HN1.out], by go_num, below_drewN bi _⟩
            case measure => simp [intOf]; omega
        · obtain rfl : n = j := by omega
          have hnj' : decide ((n : Int) < n) = false := decide_eq_false (by omega)
          rw [← HO.out]
          have u3 : (x.o != x.o) = false := by simp
          go_wp2
          go_roundw
          case rel => exact ⟨n + 1, by omega, by go_num, bel_trans B4.out bi⟩
          case measure => simp [intOf]; omega
    · obtain rfl : j = M.L.length := by omega
      have u0 : decide ((M.L.length : Int) < M.L.length) = false := decide_eq_false (by omega)
      have B5 := Lib.hid bel
      clear bel
      go_wp2
      obtain ⟨w4, hw4⟩ : ∃ w4, w4 = wr := ⟨_, rfl⟩
      rw [← hw4] at B5 ⊢
      clear hw4
      go_loopw [12] (fun i wr => ∃ j : Nat, j ≤ a0n ∧ i = .int .i64 j ∧ Below w4.heap.size w4 wr) (fun i _ => (a0n - intOf i).toNat)
      case atStart => exact ⟨0, Nat.zero_le _, rfl, Below.refl _ _⟩
      case round =>
        obtain ⟨a, hj, rfl, bel⟩ := hrel
        by_cases hal : a < a0n
        · obtain ⟨ab, ao, eab, ca⟩ := (HR3.out.below (bel_trans B5.out bel)) a (by rw [HN.out]; exact hal)
          subst eab
          obtain ⟨y, hy⟩ : ∃ y, a0v.getD a 0 = y := ⟨_, rfl⟩
          rw [hy] at ca
          have hjl : (a : Int) < a0n := by omega
          have HY := Lib.hid hy
          have BEL := Lib.hid bel
          clear hy bel
          obtain ⟨nb, no, enb, cn⟩ := (RW3.out.below (bel_trans B5.out BEL.out)) a (by rw [HWL.out]; exact hal)
          subst enb
          have nlt := Dm.cell_lt cn
          rw [HG.out.w] at cn
          go_wp2
          go_loopw [13, 14] (fun s k wi => ∃ n : Nat, n ≤ M.L.length ∧ s = .int .u64 ((lead a0v (M.L.take n)).getD a 0) ∧ k = .int .i64 n ∧ Below wr.heap.size wr wi) (fun _ k _ => (M.L.length - intOf k).toNat)
          case atStart => exact ⟨0, Nat.zero_le _, by rw [List.take_zero, lead_nil, HY.out], rfl, Below.refl _ _⟩
          case round =>
            obtain ⟨n, hn, rfl, rfl, bi⟩ := hrel
            by_cases hnj : n < M.L.length
            · obtain ⟨u, hu⟩ := ac_get hnj
              obtain ⟨ub, uo, eu, d6⟩ := (RL3.out.below (bel_trans B5.out (bel_trans BEL.out bi))) n u hu
              cases eu
              have r1 := d6.c1
              have r4 := d6.c4
              obtain ⟨v, ev, hvl, _⟩ := good_at HG.out.g hu
              have HN1 := Lib.hid (lead_next (i := a) hu (by omega) (by rw [HN.out]; exact hal))
              have hnj' : decide ((n : Int) < M.L.length) = true := decide_eq_true (by omega)
              have hnl : (n : Int) < M.L.length := by omega
              clear d6 hu cn ca
              by_cases e : u.a = (a : Int)
              · have e2 : (u.a == (a : Int)) = true := by simp [e]
                rw [if_pos e] at HN1
                rw [e] at r1
                clear e e2 ev
                generalize lead a0v (M.L.take n) = V at *
                go_wp2
                go_roundw
                case rel => exact ⟨n + 1, by omega, by rw [HN1.out], by go_num, bi⟩
                case measure => simp [intOf]; omega
              · have e2 : (u.a == (a : Int)) = false := by simp [e]
                rw [if_neg e] at HN1
                clear e ev
                generalize hV : (lead a0v (M.L.take n)).getD a 0 = V at *
                go_wp2
                go_roundw
                case rel => exact ⟨n + 1, by omega, by rw [HN1.out], by go_num, bi⟩
                case measure => simp [intOf]; omega
            · obtain rfl : n = M.L.length := by omega
              have hnj' : decide ((M.L.length : Int) < M.L.length) = false := decide_eq_false (by omega)
              rw [List.take_length]
              obtain ⟨V, hV⟩ : ∃ V, (lead a0v M.L).getD a 0 = V := ⟨_, rfl⟩
              rw [hV] at cn ⊢
              have cn1 := (bi.cell (p := ⟨nb, no + a, none⟩) nlt).trans cn
              have u3 : (V != V) = false := by simp
              clear cn ca hV
              go_wp2
              try (go_quiet (fail))
              try go_wp2
              go_roundw
              case rel => exact ⟨a + 1, by omega, by go_num, bel_trans BEL.out bi⟩
              case measure => simp [intOf]; omega
        · obtain rfl : a = a0n := by omega
          have u0 : decide ((a : Int) < a) = false := decide_eq_false (by omega)
          have B6 := Lib.hid (bel_trans B5.out bel)
          clear bel B5
          obtain ⟨w6, hw6⟩ : ∃ w6, w6 = wr := ⟨_, rfl⟩
          rw [← hw6] at B6 ⊢
          clear hw6
          have made : (w6.alloc (.cells #[] 31)).ownsRow w6.heap.size 31 1 (.slice (some ⟨w6.heap.size, 0, none⟩) 0 0) 0 (flatU []) := World.ownsRow_made w6 #[] 0 (Nat.le_refl _) (Nat.zero_le _) (by simp)
          have B0 : Below w6.heap.size w6 (w6.alloc (.cells #[] 31)) := bel_alloc (Below.refl _ _) _
          have BW6 := Lib.hid (B3.out.trans (B6.out.mono B3.out.size))
          have HRW := Lib.hid (HR3.out.below B6.out)
          go_wp2_with (at_builtin; refine Dm.appAll rfl (.tmp 134) (.tmp 135) rfl _ w6.heap.size 0 _ [] a0 a a0c a0v rfl rfl made HN.out (by omega) (by omega) (by simp) (HRW.out.below B0) a0z ?_; intro v2 w7 h2 b2; rw [Nat.zero_add, List.nil_append] at h2)
          obtain ⟨hl2, A5, c5, rfl, rd5⟩ := Dm.row_rd h2
          have b7 : Below w6.heap.size w6 w7 := B0.trans (b2.mono (Nat.le_refl _))
          have B7 := Lib.hid (bel_trans B6.out b7)
          have BW7 := Lib.hid (BW6.out.trans (b7.mono BW6.out.size))
          have CC := Lib.hid (replay_any A5 a c5 a0v AL M.L.length cL M.L w7 HN.out a0m rd5 rfl (by unfold maxLen; omega) (RL3.out.below B7.out) HM.out.l)
          have HS := Lib.hid (scan_good M.L a0v 0 HG.out.g)
          have HE := Lib.hid (newE_ok p0 p1)
          clear h2 b2 b7 rd5 hl2 made B0
          refine CC.out.mono ?_
          rintro r w8 ⟨hr, b8⟩
          have B8 := Lib.hid (bel_trans B7.out b8)
          have BW8 := Lib.hid (BW7.out.trans (b8.mono BW7.out.size))
          clear CC b8 B7 BW7 B6 BW6
          rcases hr with ⟨hn, _⟩ | ⟨_, i, hs, rfl⟩ | ⟨_, V, AV, cV, hs, rfl, rv⟩
          · rw [HN.out] at hn; exact absurd HE.out hn
          · rw [HS.out] at hs; cases congrArg Prod.fst hs
          · obtain rfl : lead a0v M.L = V := by rw [HS.out] at hs; exact Option.some.inj (congrArg Prod.fst hs)
            have CQ := equ_any AV AW (lead a0v M.L).length cV a cW (lead a0v M.L) M.W w8 rfl HWL.out (by rw [lead_len, HN.out]; omega) (by omega) rv (RW3.out.below B8.out)
            rw [decide_eq_true HG.out.w.symm] at CQ
            have CQh := Lib.hid CQ
            clear CQ hs rv HS
            generalize (lead a0v M.L).length = nv at *
            go_wp2_with fail
            refine CQh.out.mono ?_
            rintro r w9 ⟨rfl, b9⟩
            go_wp2
            go_ret
            exact ⟨rfl, BW8.out.trans (b9.mono BW8.out.size)⟩
end Wk
end Go.Proofs.Ytpakolaegbccdaa
