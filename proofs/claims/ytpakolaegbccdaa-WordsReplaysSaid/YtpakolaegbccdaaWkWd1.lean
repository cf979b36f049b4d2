/- The walks of the laws WordsSizes and WordsReplays, from the contracts of the memories. Conditions: those of the contracts. -/
import Derived.Test.YtpakolaegbccdaaWdQ
import Derived.Test.YtpakolaegbccdaaWdK
namespace Go.Proofs.Ytpakolaegbccdaa
open Go.RowKit Go.Sort
set_option linter.unusedVariables false
set_option linter.unusedSimpArgs false
namespace Wk
open Wd
open Dm (addr_lit info_parts spot_none RdK flatU infoU bel_alloc bel_trans own_keep below_drewN)
theorem bool_any (b : Bool) (w : World) : Calls Try.prog 20 #[.bool b] w fun e w' => e = .returned (.int .i64 (if b then 1 else 0)) ∧ w' = w := by
  cases b
  all_goals
    go_enter Try.func20, Try.ntmps20
    go_wp2
    go_ret
    exact ⟨rfl, rfl⟩
theorem scan_len : ∀ {l : List Ac} {W W' : List Int} {i k : Nat}, scan W l i = (some W', k) → W'.length = W.length
  | [], W, W', i, k, h => by simp only [scan, Prod.mk.injEq, Option.some.injEq] at h; rw [h.1]
  | x :: l, W, W', i, k, h => by
    by_cases ho : ok W x
    · rw [scan_ok ho] at h
      rw [scan_len h]; simp
    · rw [scan_bad ho] at h; cases congrArg Prod.fst h
theorem rep_bd (n : Nat) : BdW (List.replicate n 0) := fun x hx => by have := (List.mem_replicate.1 hx).2; omega
set_option maxRecDepth 100000 in
set_option maxHeartbeats 2000000 in
theorem walk_wordsSizes (a0 : Int) (w : World) (a0l : (-9223372036854775808) ≤ a0) (a0h : a0 ≤ 9223372036854775807) :
    Calls Try.prog 4 #[.int .i64 a0] w fun e w' => e = .returned (.bool true) ∧ Below w.heap.size w w' := by
  by_cases h0 : a0 < 0
  · have t0 : decide (a0 < 0) = true := decide_eq_true h0
    go_enter Try.func4, Try.ntmps4
    go_wp2
    go_ret
    exact ⟨rfl, Below.refl _ _⟩
  have t0 : decide (a0 < 0) = false := decide_eq_false h0
  by_cases h1 : 65539 < a0
  · have t1 : decide (65539 < a0) = true := decide_eq_true h1
    go_enter Try.func4, Try.ntmps4
    go_wp2
    go_ret
    exact ⟨rfl, Below.refl _ _⟩
  have t1 : decide (65539 < a0) = false := decide_eq_false h1
  obtain ⟨n, rfl⟩ := Int.eq_ofNat_of_zero_le (show 0 ≤ a0 by omega)
  have hn : n ≤ 65539 := by omega
  obtain ⟨i0, hi, hz0, hz1, hz2⟩ := info_parts infoU
  clear h0 h1
  go_enter Try.func4, Try.ntmps4
  go_wp2_with (at_make; refine wpList_make_full _ rfl _ _ 22 rfl w.heap.size 31 i0 (.int .u64 0) 1 Try.underlying22 hi hz0 hz1 .i64 .i64 _ _ n rfl rfl rfl rfl (by rw [hz2]; omega) (by unfold maxLen; omega) (Nat.le_refl _) ?_; intro w1 hown hgrow)
  rw [made_flat] at hown
  have b1 : Below w.heap.size w w1 := (Below.refl _ w).grown hgrow (Nat.le_refl _) fun g h => by cases h
  have rd := rowU_rd hown
  have CN := Lib.hid (new_any (some ⟨w.heap.size, 0, none⟩) n n (List.replicate n 0) w1 (by simp) (by unfold maxLen; omega) rd (rep_bd n))
  have CR := fun W (b : Below w1.heap.size w1 W) => Lib.hid (newR_any (some ⟨w.heap.size, 0, none⟩) n n (List.replicate n 0) W (by simp) (by unfold maxLen; omega) (rd.below b) (fun e => by cases e) (rep_bd n))
  clear hown hgrow hi hz0 hz1 hz2 rd
  go_wp2_with fail
  refine CN.out.mono ?_
  unfold NwP
  rw [List.length_replicate]
  rintro r w2 (⟨he, rfl, hw⟩ | ⟨he, b, p, rfl, ha, hbs, hps, b2⟩)
  · obtain rfl := hw.symm
    have HE := Lib.hid he
    generalize hy : newE n = y at *
    have t2 : decide (y = 0) = false := decide_eq_false he
    have t3 : (y == 0) = false := beq_eq_false_iff_ne.2 he
    have t4 : (y != 0) = true := by simp [bne, t3]
    clear he
    have CR1 := CR w1 (Below.refl _ _)
    go_wp2_with fail
    refine CR1.out.mono ?_
    unfold NwP
    rw [List.length_replicate, hy]
    rintro r w3 (⟨_, rfl, hw⟩ | ⟨he, _⟩)
    · obtain rfl := hw.symm
      go_wp2
      go_ret
      exact ⟨rfl, b1⟩
    · exact absurd he HE.out
  · have HA := Lib.hid ha
    have h00 := Lib.hid he
    clear ha he
    have CR2 := CR w2 b2
    go_wp2_with fail
    refine CR2.out.mono ?_
    unfold NwP
    rw [List.length_replicate, h00.out]
    rintro r w3 (⟨he, _⟩ | ⟨_, b', p', rfl, _, _, _, b3⟩)
    · exact absurd rfl he
    have CW := Lib.hid (words_any b p none _ w3 (HA.out.below b3))
    have B3 := Lib.hid (b1.trans ((b2.trans (b3.mono b2.size)).mono b1.size))
    clear CR2 CR CN b3 b2 b1 HA
    go_wp2_with fail
    refine CW.out.mono ?_
    rintro r w4 ⟨⟨v, rfl, ho⟩, b4⟩
    simp only [List.length_replicate] at ho
    have B4 := Lib.hid (B3.out.trans (b4.mono B3.out.size))
    have hv := Dm.row_rd ho
    obtain ⟨_, A', c', rfl, _⟩ := hv
    clear ho b4
    have CB := Lib.hid (bool_any true w4)
    go_wp2_with fail
    refine CB.out.mono ?_
    rintro r w5 ⟨rfl, rfl⟩
    have e1 : wrap64 ((n : Int) * 1) = n := by rw [Int.mul_one]; exact IntWalk.wrap64_in _ (by omega)
    go_wp2
    go_ret
    exact ⟨rfl, B4.out⟩
set_option maxRecDepth 100000 in
set_option maxHeartbeats 4000000 in
theorem walk_wordsReplays (a0 : Option Addr) (a0n a0c : Nat) (a0v : List Int) (a1 : Option Addr) (a1n a1c : Nat) (a1v : List Wd.Ac) (w : World) (a0e : a0v.length = a0n) (a0m : a0n ≤ maxLen) (a0r : Dm.RdK .u64 w a0 a0v) (a0b : Dm.BdU a0v) (a0z : a0 = none → a0c = 0) (a1e : a1v.length = a1n) (a1m : a1n ≤ maxLen) (a1r : Wd.RdA w a1 a1v) (a1b : Wd.BdA a1v) (a1z : a1 = none → a1c = 0) :
    Calls Try.prog 5 #[.slice a0 a0n a0c, .slice a1 a1n a1c] w fun e w' => e = .returned (.bool true) ∧ Below w.heap.size w w' := by
  by_cases h0 : 300 < a0n
  · have t0 : decide ((300 : Int) < a0n) = true := decide_eq_true (by omega)
    go_enter Try.func5, Try.ntmps5
    go_wp2
    go_ret
    exact ⟨rfl, Below.refl _ _⟩
  have t0 : decide ((300 : Int) < a0n) = false := decide_eq_false (by omega)
  by_cases h1 : 200 < a1n
  · have t1 : decide ((200 : Int) < a1n) = true := decide_eq_true (by omega)
    go_enter Try.func5, Try.ntmps5
    go_wp2
    go_ret
    exact ⟨rfl, Below.refl _ _⟩
  have t1 : decide ((200 : Int) < a1n) = false := decide_eq_false (by omega)
  have made : (w.alloc (.cells #[] 31)).ownsRow w.heap.size 31 1 (.slice (some ⟨w.heap.size, 0, none⟩) 0 0) 0 (flatU []) := World.ownsRow_made w #[] 0 (Nat.le_refl _) (Nat.zero_le _) (by simp)
  have B0 : Below w.heap.size w (w.alloc (.cells #[] 31)) := bel_alloc (Below.refl _ _) _
  have HR := Lib.hid a0r
  have HR2 := Lib.hid a1r
  have HD := Lib.hid (bdU_bdW a0b)
  have HD2 := Lib.hid a1b
  have HN := Lib.hid a0e
  have HN2 := Lib.hid a1e
  clear a0r a1r a0b a1b a0e a1e
  go_enter Try.func5, Try.ntmps5
  go_wp2_with (first
    | (at_builtin; refine Dm.appAll rfl (.tmp 20) (.tmp 21) rfl _ w.heap.size 0 _ [] a0 a0n a0c a0v rfl rfl made HN.out (by omega) (by omega) (by simp) (HR.out.below B0) a0z ?_; intro v2 w2 h2 b2; rw [Nat.zero_add, List.nil_append] at h2; obtain ⟨hl2, A2, c2, rfl, rd2⟩ := Dm.row_rd h2; have B2 := Lib.hid (B0.trans (b2.mono (Nat.le_refl _))); have RD2 := Lib.hid rd2; have made2 : (w2.alloc (.cells #[] 43)).ownsRow w2.heap.size 43 6 (.slice (some ⟨w2.heap.size, 0, none⟩) 0 0) 0 (flatA []) := World.ownsRow_made w2 #[] 0 (Nat.le_refl _) (Nat.zero_le _) (by simp); have B4 : Below w2.heap.size w2 (w2.alloc (.cells #[] 43)) := bel_alloc (Below.refl _ _) _; clear made b2 B0 h2 rd2)
    | (at_builtin; refine appAllA rfl (.tmp 25) (.tmp 26) rfl _ w2.heap.size 0 _ [] a1 a1n a1c a1v rfl rfl made2 HN2.out ((HR2.out.below B2.out).below B4) a1z (by omega) (by simp) ?_; intro v3 w3 h3 b3; rw [Nat.zero_add, List.nil_append] at h3; obtain ⟨hl3, A3, c3, rfl, _, rd3, _⟩ := rowA h3; have B3 := Lib.hid (B4.trans (b3.mono (Nat.le_refl _))); have RD3 := Lib.hid rd3; clear made2 b3 B4 h3 rd3 hl3))
  have CC := Lib.hid (replay_any A2 a0n c2 a0v A3 a1n c3 a1v w3 HN.out (by omega) (RD2.out.below B3.out) HN2.out (by omega) RD3.out HD2.out)
  have B5 := Lib.hid (B2.out.trans (B3.out.mono B2.out.size))
  refine CC.out.mono ?_
  rintro r w4 ⟨hr, b4⟩
  have B6 := Lib.hid (B5.out.trans (b4.mono B5.out.size))
  have RD4 := Lib.hid ((RD2.out.below B3.out).below b4)
  have CR := Lib.hid (replayR_any a0 a0n a0c a0v a1 a1n a1c a1v w4 HN.out a0m (HR.out.below B6.out) a0z HD.out HN2.out a1m (HR2.out.below B6.out) HD2.out)
  have LE := fun (l l' : List Int) (A A' : Option Addr) (c c' : Nat) (W : World) (h : l = l') (hl : l.length ≤ 1000) (r1 : RdK .u64 W A l) (r2 : RdK .u64 W A' l') => Lib.hid (by
    have := equ_any A A' l.length c l'.length c' l l' W rfl rfl (by omega) (by subst h; omega) r1 r2
    rw [decide_eq_true h] at this
    exact this)
  clear CC b4 RD2 RD3 B3 B5 B2
  have rd0 : ∀ W, RdK .u64 W none [] := fun W k hk => by simp at hk
  have LO := fun W (b : Below w4.heap.size w4 W) => Lib.hid (by
    have := equ_any A2 a0 a0n c2 a0n a0c a0v a0v W HN.out HN.out (by omega) (by omega) (RD4.out.below b) (HR.out.below (B6.out.trans (b.mono B6.out.size)))
    rw [decide_eq_true rfl] at this
    exact this)
  obtain ⟨y, hy⟩ : ∃ y, newE a0v.length = y := ⟨_, rfl⟩
  unfold RpP at CR
  rw [hy] at hr CR
  have HY := Lib.hid hy
  clear hy hl2
  rcases hr with ⟨hn, rfl⟩ | ⟨hn, i, hs, rfl⟩ | ⟨hn, W', AW, cW, hs, rfl, rdW⟩
  · go_wp2_with fail
    refine CR.out.mono ?_
    rintro r w5 ⟨hr, b5⟩
    rcases hr with ⟨hn', rfl⟩ | ⟨hn', _⟩ | ⟨hn', _⟩
    · have L1 := LE [] [] none none 0 0 w5 rfl (by simp) (rd0 _) (rd0 _)
      have BW5 := Lib.hid (B6.out.trans (b5.mono B6.out.size))
      have B5 := Lib.hid b5
      clear b5 CR LE
      go_wp2_with fail
      refine L1.out.mono ?_
      rintro r w6 ⟨rfl, b6⟩
      have B56 := Lib.hid (B5.out.trans (b6.mono B5.out.size))
      have BW6 := Lib.hid (BW5.out.trans (b6.mono BW5.out.size))
      clear b6
      go_wp2_with fail
      refine (LO _ B56.out).out.mono ?_
      rintro r w7 ⟨rfl, b7⟩
      go_wp2
      go_ret
      exact ⟨rfl, BW6.out.trans (b7.mono BW6.out.size)⟩
    · exact absurd hn' hn
    · exact absurd hn' hn
  · go_wp2_with fail
    refine CR.out.mono ?_
    rintro r w5 ⟨hr, b5⟩
    rcases hr with ⟨hn', _⟩ | ⟨hn', i', hs', rfl⟩ | ⟨hn', W'', AW', cW', hs', rfl, rdW'⟩
    · exact absurd hn hn'
    · have L1 := LE [] [] none none 0 0 w5 rfl (by simp) (rd0 _) (rd0 _)
      obtain rfl : i = i' := by rw [hs] at hs'; exact congrArg Prod.snd hs'
      clear hs hs' hn hn'
      have BW5 := Lib.hid (B6.out.trans (b5.mono B6.out.size))
      have B5 := Lib.hid b5
      clear b5 CR LE
      go_wp2_with fail
      refine L1.out.mono ?_
      rintro r w6 ⟨rfl, b6⟩
      have B56 := Lib.hid (B5.out.trans (b6.mono B5.out.size))
      have BW6 := Lib.hid (BW5.out.trans (b6.mono BW5.out.size))
      clear b6
      go_wp2_with fail
      refine (LO _ B56.out).out.mono ?_
      rintro r w7 ⟨rfl, b7⟩
      go_wp2
      go_ret
      exact ⟨rfl, BW6.out.trans (b7.mono BW6.out.size)⟩
    · rw [hs] at hs'; cases congrArg Prod.fst hs'
  · have RDW := Lib.hid rdW
    clear rdW
    go_wp2_with fail
    refine CR.out.mono ?_
    rintro r w5 ⟨hr, b5⟩
    rcases hr with ⟨hn', _⟩ | ⟨hn', i', hs', rfl⟩ | ⟨hn', W'', AW', cW', hs', rfl, rdW'⟩
    · exact absurd hn hn'
    · rw [hs] at hs'; cases congrArg Prod.fst hs'
    · obtain rfl : W' = W'' := by rw [hs] at hs'; exact Option.some.inj (congrArg Prod.fst hs')
      have hlen := scan_len hs
      have L1 := LE W' W' AW AW' cW cW' w5 rfl (by have := HN.out; omega) (RDW.out.below b5) rdW'
      clear hs hs' hn hn' rdW' RDW hlen
      have BW5 := Lib.hid (B6.out.trans (b5.mono B6.out.size))
      have B5 := Lib.hid b5
      clear b5 CR LE
      go_wp2_with fail
      refine L1.out.mono ?_
      rintro r w6 ⟨rfl, b6⟩
      have B56 := Lib.hid (B5.out.trans (b6.mono B5.out.size))
      have BW6 := Lib.hid (BW5.out.trans (b6.mono BW5.out.size))
      clear b6
      go_wp2_with fail
      refine (LO _ B56.out).out.mono ?_
      rintro r w7 ⟨rfl, b7⟩
      go_wp2
      go_ret
      exact ⟨rfl, BW6.out.trans (b7.mono BW6.out.size)⟩
end Wk
end Go.Proofs.Ytpakolaegbccdaa
