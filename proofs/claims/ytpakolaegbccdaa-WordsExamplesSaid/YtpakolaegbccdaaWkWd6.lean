/- The walk of the law WordsExamples, from the contracts of the memory. Conditions: none. (Written by tools/mk8ex.py.) -/
import Derived.Test.YtpakolaegbccdaaWdJ
namespace Go.Proofs.Ytpakolaegbccdaa
open Go.RowKit Go.Sort
set_option linter.unusedVariables false
set_option linter.unusedSimpArgs false
namespace Wk
open Wd
open Dm (addr_lit info_parts spot_none RdK flatU infoU bel_alloc bel_trans own_keep below_drewN)
theorem lit_u (w : World) (l : List Int) (xs : Array Value) (h : xs = (flatU l).toArray) : RdK .u64 (w.alloc (.cells xs 31)) (some ⟨w.heap.size, 0, none⟩) l := fun k hk => by
  subst h
  refine ⟨_, _, rfl, ?_⟩
  rw [World.cell?_alloc_new]
  simp [flatU, hk]
theorem lit_a (w : World) (l : List Ac) (xs : Array Value) (h : xs = (flatA l).toArray) : RdA (w.alloc (.cells xs 43)) (some ⟨w.heap.size, 0, none⟩) l := fun i x hi => by
  subst h
  have k : ∀ j, j < 6 → (w.alloc (.cells (flatA l).toArray 43)).cell? ⟨w.heap.size, 0 + i * 6 + j, none⟩ = (encA x)[j]? := fun j hj => by
    rw [World.cell?_alloc_new, Nat.zero_add]
    have := flatA_get l i j hj
    rw [hi] at this
    simpa using this
  exact ⟨w.heap.size, 0, rfl, k 0 (by omega), k 1 (by omega), k 2 (by omega), k 3 (by omega), k 4 (by omega), k 5 (by omega)⟩
def x1 : Ac := ⟨1, 0, 3, 5, 3, false⟩
def x2 : Ac := ⟨0, 0, 1, 3, 3, false⟩
def x3 : Ac := ⟨2, 1, 4, 0, 9, true⟩
def x4 : Ac := ⟨2, 1, 4, 9, 9, false⟩
def E0 : Wm := ⟨[5, 0], []⟩
def E1 : Wm := ⟨[3, 0], [x1]⟩
def E2 : Wm := ⟨[3, 0], [x1, x2]⟩
def E3 : Wm := ⟨[3, 9], [x1, x2, x3]⟩
def E4 : Wm := ⟨[3, 9], [x1, x2, x3, x4]⟩
theorem m1 : E0.after 0 (E0.addw 1 0 18446744073709551614) = E1 := by kernel_rfl
theorem m2 : E1.after 0 (E1.load 0 0) = E2 := by kernel_rfl
theorem m3 : E2.after 0 (E2.cas 2 1 0 9) = E3 := by kernel_rfl
theorem m4 : E3.after 0 (E3.cas 2 1 0 8) = E4 := by kernel_rfl
theorem m5 : E4.after 3 (E4.stor 0 2 1) = E4 := by kernel_rfl
theorem m6 : E4.after 2 (E4.stor 64 0 1) = E4 := by kernel_rfl
theorem m7 : E4.after 2 (E4.stor (-1) 0 1) = E4 := by kernel_rfl
theorem bd4 : BdA E4.L := fun x hx => by
  simp only [E4, List.mem_cons, List.not_mem_nil, or_false] at hx
  rcases hx with rfl | rfl | rfl | rfl <;> exact ⟨by decide, by decide, by decide, by decide, by decide, by decide, by decide, by decide, by decide, by decide⟩
theorem sc1 : scan [5, 0] E4.L 0 = (some [3, 9], 4) := by kernel_rfl
theorem sc2 : scan [0, 0] E4.L 0 = (none, 0) := by kernel_rfl
set_option maxRecDepth 100000 in
set_option maxHeartbeats 8000000 in
theorem walk_wordsExamples (w : World) :
    Calls Try.prog 6 #[] w fun e w' => e = .returned (.bool true) ∧ Below w.heap.size w w' := by
  have BW := Lib.hid (Below.refl w.heap.size w)
  have CN := Lib.hid (new_any (some ⟨w.heap.size, 0, none⟩) 2 2 [5, 0] _ rfl (by unfold maxLen; omega) (lit_u w [5, 0] #[.int .u64 5, .int .u64 0] rfl) (fun x hx => by simp at hx; omega))
  have BB := Lib.hid (show Below w.heap.size w (w.alloc (.cells #[.int .u64 5, .int .u64 0] 31)) from bel_alloc (Below.refl _ _) _)
  go_enter Try.func6, Try.ntmps6
  go_wp2_with fail
  refine CN.out.mono ?_
  rintro r V1 (⟨he, _⟩ | ⟨_, b, p, rfl, ha, hbs, hps, b1⟩)
  · exact absurd (show newE 2 = 0 from rfl) he
  have HO := Lib.hid (show ∀ i, Of b p none i → w.heap.size ≤ i from fun i hi => by
    have := BB.out.size
    rcases hi with e | e | e
    · omega
    · omega
    · cases e)
  have BW := Lib.hid (BB.out.trans (b1.mono BB.out.size))
  have HA := Lib.hid (show At 75 V1 b p none E0 from ha)
  clear ha hbs hps b1 BB CN
  go_wp2_with fail
  refine (addZ b p none E0 1 0 18446744073709551614 3 0 V1 HA.out (by decide) (by decide) (by decide) (by kernel_rfl) (by kernel_rfl)).mono ?_
  rintro r V2 ⟨rfl, hat⟩
  rw [m1] at hat
  obtain ⟨q2, ha, ho, bb⟩ := after_own HO.out BW.out.size hat
  have HA := Lib.hid ha
  have HO := Lib.hid ho
  have BW := Lib.hid (BW.out.trans bb)
  clear hat ha ho bb
  go_wp2_with fail
  refine (loadZ b p q2 E1 0 0 3 0 V2 HA.out (by decide) (by kernel_rfl) (by kernel_rfl)).mono ?_
  rintro r V3 ⟨rfl, hat⟩
  rw [m2] at hat
  obtain ⟨q3, ha, ho, bb⟩ := after_own HO.out BW.out.size hat
  have HA := Lib.hid ha
  have HO := Lib.hid ho
  have BW := Lib.hid (BW.out.trans bb)
  clear hat ha ho bb
  go_wp2_with fail
  refine (casZ b p q3 E2 2 1 0 9 true 0 V3 HA.out (by decide) (by decide) (by decide) (by kernel_rfl) (by kernel_rfl)).mono ?_
  rintro r V4 ⟨rfl, hat⟩
  rw [m3] at hat
  obtain ⟨q4, ha, ho, bb⟩ := after_own HO.out BW.out.size hat
  have HA := Lib.hid ha
  have HO := Lib.hid ho
  have BW := Lib.hid (BW.out.trans bb)
  clear hat ha ho bb
  go_wp2_with fail
  refine (casZ b p q4 E3 2 1 0 8 false 0 V4 HA.out (by decide) (by decide) (by decide) (by kernel_rfl) (by kernel_rfl)).mono ?_
  rintro r V5 ⟨rfl, hat⟩
  rw [m4] at hat
  obtain ⟨q5, ha, ho, bb⟩ := after_own HO.out BW.out.size hat
  have HA := Lib.hid ha
  have HO := Lib.hid ho
  have BW := Lib.hid (BW.out.trans bb)
  clear hat ha ho bb
  go_wp2_with fail
  refine (storeZ b p q5 E4 0 2 1 3 V5 HA.out (by decide) (by decide) (by decide) (by kernel_rfl)).mono ?_
  rintro r V6 ⟨rfl, hat⟩
  rw [m5] at hat
  obtain ⟨q6, ha, ho, bb⟩ := after_own HO.out BW.out.size hat
  have HA := Lib.hid ha
  have HO := Lib.hid ho
  have BW := Lib.hid (BW.out.trans bb)
  clear hat ha ho bb
  go_wp2_with fail
  refine (storeZ b p q6 E4 64 0 1 2 V6 HA.out (by decide) (by decide) (by decide) (by kernel_rfl)).mono ?_
  rintro r V7 ⟨rfl, hat⟩
  rw [m6] at hat
  obtain ⟨q7, ha, ho, bb⟩ := after_own HO.out BW.out.size hat
  have HA := Lib.hid ha
  have HO := Lib.hid ho
  have BW := Lib.hid (BW.out.trans bb)
  clear hat ha ho bb
  go_wp2_with fail
  refine (storeZ b p q7 E4 (-1) 0 1 2 V7 HA.out (by decide) (by decide) (by decide) (by kernel_rfl)).mono ?_
  rintro r V8 ⟨rfl, hat⟩
  rw [m7] at hat
  obtain ⟨q8, ha, ho, bb⟩ := after_own HO.out BW.out.size hat
  have HA := Lib.hid ha
  have HO := Lib.hid ho
  have BW := Lib.hid (BW.out.trans bb)
  clear hat ha ho bb
  go_wp2_with fail
  have RW := Lib.hid (lit_a V8 E4.L #[.int .i64 1, .int .i64 0, .int .u8 3, .int .u64 5, .int .u64 3, .bool false, .int .i64 0, .int .i64 0, .int .u8 1, .int .u64 3, .int .u64 3, .bool false, .int .i64 2, .int .i64 1, .int .u8 4, .int .u64 0, .int .u64 9, .bool true, .int .i64 2, .int .i64 1, .int .u8 4, .int .u64 9, .int .u64 9, .bool false] rfl)
  have bb : Below V8.heap.size V8 (V8.alloc (.cells #[.int .i64 1, .int .i64 0, .int .u8 3, .int .u64 5, .int .u64 3, .bool false, .int .i64 0, .int .i64 0, .int .u8 1, .int .u64 3, .int .u64 3, .bool false, .int .i64 2, .int .i64 1, .int .u8 4, .int .u64 0, .int .u64 9, .bool true, .int .i64 2, .int .i64 1, .int .u8 4, .int .u64 9, .int .u64 9, .bool false] 43)) := bel_alloc (Below.refl _ _) _
  have HA := Lib.hid (HA.out.below bb)
  have BW := Lib.hid (BW.out.trans (bb.mono BW.out.size))
  clear bb
  generalize V8.alloc (.cells #[.int .i64 1, .int .i64 0, .int .u8 3, .int .u64 5, .int .u64 3, .bool false, .int .i64 0, .int .i64 0, .int .u8 1, .int .u64 3, .int .u64 3, .bool false, .int .i64 2, .int .i64 1, .int .u8 4, .int .u64 0, .int .u64 9, .bool true, .int .i64 2, .int .i64 1, .int .u8 4, .int .u64 9, .int .u64 9, .bool false] 43) = V9 at *
  have CL := log_any b p q8 E4 0 V9 HA.out (by decide)
  rw [show from_ E4.L 0 = E4.L from by kernel_rfl] at CL
  refine CL.mono ?_
  rintro r V10 ⟨⟨v, rfl, ho⟩, bb⟩
  obtain ⟨_, AV10, cV10, rfl, _, rd, _⟩ := rowA ho
  clear ho CL
  have RL := Lib.hid rd
  clear rd
  have HA := Lib.hid (HA.out.below bb)
  have RW := Lib.hid (RW.out.below bb)
  have BW := Lib.hid (BW.out.trans (bb.mono BW.out.size))
  clear bb
  go_wp2_with fail
  have CQ := eqa_any AV10 (some ⟨V8.heap.size, 0, none⟩) 4 cV10 4 4 E4.L E4.L V10 rfl rfl (by omega) (by omega) RL.out RW.out
  rw [decide_eq_true rfl] at CQ
  refine CQ.mono ?_
  rintro r V11 ⟨rfl, bb⟩
  clear CQ RL
  have HA := Lib.hid (HA.out.below bb)
  have RW := Lib.hid (RW.out.below bb)
  have BW := Lib.hid (BW.out.trans (bb.mono BW.out.size))
  clear bb
  go_wp2_with fail
  refine (len_any b p q8 E4 V11 HA.out).mono ?_
  rintro r V12 ⟨rfl, hw⟩
  obtain rfl := hw.symm
  go_wp2_with fail
  have CL := log_any b p q8 E4 4 V11 HA.out (by decide)
  rw [show from_ E4.L 4 = [] from by kernel_rfl] at CL
  refine CL.mono ?_
  rintro r V13 ⟨⟨v, rfl, ho⟩, bb⟩
  obtain ⟨_, AV13, cV13, rfl, _, rd, _⟩ := rowA ho
  clear ho CL
  clear rd
  have HA := Lib.hid (HA.out.below bb)
  have RW := Lib.hid (RW.out.below bb)
  have BW := Lib.hid (BW.out.trans (bb.mono BW.out.size))
  clear bb
  go_wp2_with fail
  have CL := log_any b p q8 E4 (-1) V13 HA.out (by decide)
  rw [show from_ E4.L (-1) = [] from by kernel_rfl] at CL
  refine CL.mono ?_
  rintro r V14 ⟨⟨v, rfl, ho⟩, bb⟩
  obtain ⟨_, AV14, cV14, rfl, _, rd, _⟩ := rowA ho
  clear ho CL
  clear rd
  have HA := Lib.hid (HA.out.below bb)
  have RW := Lib.hid (RW.out.below bb)
  have BW := Lib.hid (BW.out.trans (bb.mono BW.out.size))
  clear bb
  go_wp2_with fail
  have RU := Lib.hid (lit_u V14 [5, 0] #[.int .u64 5, .int .u64 0] rfl)
  have bb : Below V14.heap.size V14 (V14.alloc (.cells #[.int .u64 5, .int .u64 0] 31)) := bel_alloc (Below.refl _ _) _
  have HA := Lib.hid (HA.out.below bb)
  have RW := Lib.hid (RW.out.below bb)
  have BW := Lib.hid (BW.out.trans (bb.mono BW.out.size))
  clear bb
  generalize V14.alloc (.cells #[.int .u64 5, .int .u64 0] 31) = V15 at *
  refine (replay_any (some ⟨V14.heap.size, 0, none⟩) 2 2 [5, 0] (some ⟨V8.heap.size, 0, none⟩) 4 4 E4.L V15 rfl (by unfold maxLen; omega) RU.out rfl (by unfold maxLen; omega) RW.out bd4).mono ?_
  rintro r V16 ⟨⟨hn, _⟩ | ⟨_, i, hs, rfl⟩ | ⟨_, W', A', c', hs, rfl, rd⟩, bb⟩
  · exact absurd (show newE 2 = 0 from rfl) hn
  · rw [sc1] at hs; cases congrArg Prod.fst hs
  obtain rfl : [3, 9] = W' := by rw [sc1] at hs; exact Option.some.inj (congrArg Prod.fst hs)
  have RR := Lib.hid rd
  clear hs rd RU
  have HA := Lib.hid (HA.out.below bb)
  have RW := Lib.hid (RW.out.below bb)
  have BW := Lib.hid (BW.out.trans (bb.mono BW.out.size))
  clear bb
  go_wp2_with fail
  have RU := Lib.hid (lit_u V16 [3, 9] #[.int .u64 3, .int .u64 9] rfl)
  have bb : Below V16.heap.size V16 (V16.alloc (.cells #[.int .u64 3, .int .u64 9] 31)) := bel_alloc (Below.refl _ _) _
  have HA := Lib.hid (HA.out.below bb)
  have RW := Lib.hid (RW.out.below bb)
  have RR := Lib.hid (RR.out.below bb)
  have BW := Lib.hid (BW.out.trans (bb.mono BW.out.size))
  clear bb
  generalize V16.alloc (.cells #[.int .u64 3, .int .u64 9] 31) = V17 at *
  have CQ := equ_any A' (some ⟨V16.heap.size, 0, none⟩) 2 c' 2 2 [3, 9] [3, 9] V17 rfl rfl (by omega) (by omega) RR.out RU.out
  rw [decide_eq_true rfl] at CQ
  refine CQ.mono ?_
  rintro r V18 ⟨rfl, bb⟩
  clear CQ RU RR
  have HA := Lib.hid (HA.out.below bb)
  have RW := Lib.hid (RW.out.below bb)
  have BW := Lib.hid (BW.out.trans (bb.mono BW.out.size))
  clear bb
  go_wp2_with fail
  have RU := Lib.hid (lit_u V18 [0, 0] #[.int .u64 0, .int .u64 0] rfl)
  have bb : Below V18.heap.size V18 (V18.alloc (.cells #[.int .u64 0, .int .u64 0] 31)) := bel_alloc (Below.refl _ _) _
  have HA := Lib.hid (HA.out.below bb)
  have RW := Lib.hid (RW.out.below bb)
  have BW := Lib.hid (BW.out.trans (bb.mono BW.out.size))
  clear bb
  generalize V18.alloc (.cells #[.int .u64 0, .int .u64 0] 31) = V19 at *
  refine (replay_any (some ⟨V18.heap.size, 0, none⟩) 2 2 [0, 0] (some ⟨V8.heap.size, 0, none⟩) 4 4 E4.L V19 rfl (by unfold maxLen; omega) RU.out rfl (by unfold maxLen; omega) RW.out bd4).mono ?_
  rintro r V20 ⟨⟨hn, _⟩ | ⟨_, i, hs, rfl⟩ | ⟨_, W', A', c', hs, rfl, rd⟩, bb⟩
  · exact absurd (show newE 2 = 0 from rfl) hn
  rotate_left
  · rw [sc2] at hs; cases congrArg Prod.fst hs
  obtain rfl : 0 = i := by rw [sc2] at hs; exact congrArg Prod.snd hs
  clear hs RU
  have HA := Lib.hid (HA.out.below bb)
  have RW := Lib.hid (RW.out.below bb)
  have BW := Lib.hid (BW.out.trans (bb.mono BW.out.size))
  clear bb
  go_wp2_with fail
  refine (load_nil 0 0 V20).mono ?_
  rintro r V21 ⟨rfl, hw⟩
  obtain rfl := hw.symm
  go_wp2_with fail
  refine (peek_nil 0 V20).mono ?_
  rintro r V22 ⟨rfl, hw⟩
  obtain rfl := hw.symm
  go_wp2_with fail
  refine (store_nil 0 0 0 V20).mono ?_
  rintro r V23 ⟨rfl, hw⟩
  obtain rfl := hw.symm
  go_wp2_with fail
  refine (len_nil V20).mono ?_
  rintro r V24 ⟨rfl, hw⟩
  obtain rfl := hw.symm
  go_wp2_with fail
  refine (log_nil 0 V20).mono ?_
  rintro r V25 ⟨rfl, hw⟩
  obtain rfl := hw.symm
  go_wp2_with fail
  refine (words_nil V20).mono ?_
  rintro r V26 ⟨rfl, hw⟩
  obtain rfl := hw.symm
  go_wp2
  go_ret
  exact ⟨rfl, BW.out⟩
end Wk
end Go.Proofs.Ytpakolaegbccdaa
