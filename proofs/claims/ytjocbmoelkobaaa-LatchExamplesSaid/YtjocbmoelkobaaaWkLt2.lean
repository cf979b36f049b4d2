/- The walk of the law LatchExamples, from the contracts of package latch. Conditions: none. (Written by tools/mk13ex.py.) -/
import Derived.Test.YtjocbmoelkobaaaLtT
import Derived.Test.YtjocbmoelkobaaaWkLt1
namespace Go.Proofs.Ytjocbmoelkobaaa
open Go.RowKit Go.Sort
set_option linter.unusedVariables false
set_option linter.unusedSimpArgs false
namespace Wk
open Wd Lt
open Dm (addr_lit info_parts spot_none RdK flatU infoU bel_alloc bel_trans own_keep below_drewN)
def eM0 : Wm := ⟨[0], []⟩
def eM1 : Wm := ⟨[1], [⟨0, 0, 4, 0, 1, true⟩]⟩
def eM2 : Wm := ⟨[1], [⟨0, 0, 4, 0, 1, true⟩, ⟨1, 0, 4, 1, 1, false⟩]⟩
def eM3 : Wm := ⟨[1], [⟨0, 0, 4, 0, 1, true⟩, ⟨1, 0, 4, 1, 1, false⟩, ⟨1, 0, 4, 1, 1, false⟩]⟩
def eM4 : Wm := ⟨[0], [⟨0, 0, 4, 0, 1, true⟩, ⟨1, 0, 4, 1, 1, false⟩, ⟨1, 0, 4, 1, 1, false⟩, ⟨0, 0, 2, 1, 0, false⟩]⟩
def eA0 : Lk := ⟨0, 0, 0, 0, false, 0⟩
def eA1 : Lk := ⟨0, 0, 0, 0, true, 0⟩
def eB0 : Lk := ⟨1, 0, 2, 0, false, 0⟩
def eB1 : Lk := ⟨1, 0, 2, 1, false, 0⟩
def eB2 : Lk := ⟨1, 0, 2, 2, true, 11⟩
theorem eq1 : eA0.mem eM0 = eM1 ∧ eA0.step eM0 = eA1 ∧ eA0.fin eM0 = true ∧ eA0.pc = 2 := by refine ⟨?_, ?_, ?_, ?_⟩ <;> kernel_rfl
theorem eq2 : eB0.mem eM1 = eM2 ∧ eB0.step eM1 = eB1 ∧ eB0.fin eM1 = false ∧ eB0.pc = 2 := by refine ⟨?_, ?_, ?_, ?_⟩ <;> kernel_rfl
theorem eq3 : eB1.mem eM2 = eM3 ∧ eB1.step eM2 = eB2 ∧ eB1.fin eM2 = true ∧ eB1.pc = 2 := by refine ⟨?_, ?_, ?_, ?_⟩ <;> kernel_rfl
theorem eq4 : eB2.mem eM3 = eM3 ∧ eB2.step eM3 = eB2 ∧ eB2.fin eM3 = false ∧ eB2.pc = 0 := by refine ⟨?_, ?_, ?_, ?_⟩ <;> kernel_rfl
theorem eq5 : unE eM3 1 0 = 8 ∧ unM eM3 1 0 = eM3 := by refine ⟨?_, ?_⟩ <;> kernel_rfl
theorem eq6 : unE eM3 0 0 = 0 ∧ unM eM3 0 0 = eM4 := by refine ⟨?_, ?_⟩ <;> kernel_rfl
theorem eq7 : unE eM4 0 0 = 8 ∧ unM eM4 0 0 = eM4 := by refine ⟨?_, ?_⟩ <;> kernel_rfl
theorem ne_of {X : Nat → Option Lk} {x y : Nat} {L : Lk} (h : X x = some L) (hy : X y = none) : x ≠ y := fun e => by rw [e, hy] at h; cases h
set_option maxRecDepth 100000 in
set_option maxHeartbeats 8000000 in
theorem walk_latchExamples  (w : World) :
    Calls Try.prog 4 #[] w fun e w' => e = .returned (.bool true) ∧ Below w.heap.size w w' := by
  have CN := Lib.hid (new_any (some ⟨w.heap.size, 0, none⟩) 1 1 [0] _ rfl (by unfold maxLen; omega) (lit_u w [0] #[.int .u64 0] rfl) (fun x hx => by simp at hx; omega))
  have BB := Lib.hid (show Below w.heap.size w (w.alloc (.cells #[.int .u64 0] 55)) from bel_alloc (Below.refl _ _) _)
  go_enter Try.func4, Try.ntmps4
  go_wp2_with fail
  refine CN.out.mono ?_
  rintro r V0 (⟨he, _⟩ | ⟨_, b, p, rfl, ha, hbs, hps, b1⟩)
  · exact absurd (show newE 1 = 0 from rfl) he
  have BW := Lib.hid (BB.out.trans (b1.mono BB.out.size))
  have HS := Lib.hid (show SB w.heap.size V0 b eM0 (fun _ => none) 0 from startB ha (Nat.le_trans BB.out.size hbs) (Nat.le_trans BB.out.size hps) BW.out.size)
  clear ha hbs hps b1 BB CN
  go_wp2_with fail
  refine (newB HS.out (by decide) 0 0 0 (by kernel_rfl)).mono ?_
  rintro r V1 ⟨xa, rfl, _, hs, bb⟩
  have HS := Lib.hid hs
  have BW := Lib.hid (BW.out.trans bb)
  have XA := Lib.hid (show upd (fun _ => none) xa (Lk.new 0 0 0) xa = some eA0 from upd_same ..)
  clear hs bb
  generalize upd (fun _ => none) xa (Lk.new 0 0 0) = X1 at *
  go_wp2_with fail
  refine (newB HS.out (by decide) 1 0 2 (by kernel_rfl)).mono ?_
  rintro r V2 ⟨xb, rfl, hn, hs, bb⟩
  have HS := Lib.hid hs
  have BW := Lib.hid (BW.out.trans bb)
  have NE := Lib.hid (ne_of XA.out hn)
  have XA := Lib.hid (show upd X1 xb (Lk.new 1 0 2) xa = some eA0 from (upd_other NE.out).trans XA.out)
  have XB := Lib.hid (show upd X1 xb (Lk.new 1 0 2) xb = some eB0 from upd_same ..)
  clear hs bb hn
  generalize upd X1 xb (Lk.new 1 0 2) = X2 at *
  go_wp2_with fail
  refine (show Calls Try.prog 15 #[.pointer (some ⟨xa, 0, none⟩)] V2 fun e w' => e = .returned (.int .u8 2) ∧ w' = V2 from nextB HS.out XA.out).mono ?_
  rintro r W ⟨rfl, e⟩
  obtain rfl := e.symm
  go_wp2_with fail
  refine (show Calls Try.prog 18 #[.pointer (some ⟨xa, 0, none⟩)] V2 fun e w' => e = .returned (.tuple #[.int .i64 0, .int .i64 8]) ∧ SB w.heap.size w' b eM0 X2 0 ∧ Below w.heap.size V2 w' from resultB HS.out XA.out).mono ?_
  rintro r V3 ⟨rfl, hs, bb⟩
  have HS := Lib.hid hs
  have BW := Lib.hid (BW.out.trans bb)
  clear hs bb
  go_wp2_with fail
  refine (show Calls Try.prog 16 #[.pointer (some ⟨xa, 0, none⟩)] V3 fun e w' => e = .returned (.tuple #[.int .u8 2, .bool true]) ∧ SB w.heap.size w' b eM1 (upd X2 xa eA1) 1 ∧ Below w.heap.size V3 w' from by
    have h := stepB HS.out XA.out (by decide) (by decide)
    rw [eq1.1, eq1.2.1, eq1.2.2.1, eq1.2.2.2] at h
    exact h).mono ?_
  rintro r V4 ⟨rfl, hs, bb⟩
  have HS := Lib.hid hs
  have BW := Lib.hid (BW.out.trans bb)
  have XB := Lib.hid (show upd X2 xa eA1 xb = some _ from (upd_other NE.out.symm).trans XB.out)
  have XA := Lib.hid (show upd X2 xa eA1 xa = some eA1 from upd_same ..)
  clear hs bb
  generalize upd X2 xa eA1 = X3 at *
  go_wp2_with fail
  refine (show Calls Try.prog 18 #[.pointer (some ⟨xa, 0, none⟩)] V4 fun e w' => e = .returned (.tuple #[.int .i64 0, .int .i64 0]) ∧ SB w.heap.size w' b eM1 X3 1 ∧ Below w.heap.size V4 w' from resultB HS.out XA.out).mono ?_
  rintro r V5 ⟨rfl, hs, bb⟩
  have HS := Lib.hid hs
  have BW := Lib.hid (BW.out.trans bb)
  clear hs bb
  go_wp2_with fail
  refine (show Calls Try.prog 15 #[.pointer (some ⟨xa, 0, none⟩)] V5 fun e w' => e = .returned (.int .u8 0) ∧ w' = V5 from nextB HS.out XA.out).mono ?_
  rintro r W ⟨rfl, e⟩
  obtain rfl := e.symm
  go_wp2_with fail
  refine (show Calls Try.prog 16 #[.pointer (some ⟨xb, 0, none⟩)] V5 fun e w' => e = .returned (.tuple #[.int .u8 2, .bool false]) ∧ SB w.heap.size w' b eM2 (upd X3 xb eB1) 2 ∧ Below w.heap.size V5 w' from by
    have h := stepB HS.out XB.out (by decide) (by decide)
    rw [eq2.1, eq2.2.1, eq2.2.2.1, eq2.2.2.2] at h
    exact h).mono ?_
  rintro r V6 ⟨rfl, hs, bb⟩
  have HS := Lib.hid hs
  have BW := Lib.hid (BW.out.trans bb)
  have XA := Lib.hid (show upd X3 xb eB1 xa = some _ from (upd_other NE.out).trans XA.out)
  have XB := Lib.hid (show upd X3 xb eB1 xb = some eB1 from upd_same ..)
  clear hs bb
  generalize upd X3 xb eB1 = X4 at *
  go_wp2_with fail
  refine (show Calls Try.prog 16 #[.pointer (some ⟨xb, 0, none⟩)] V6 fun e w' => e = .returned (.tuple #[.int .u8 2, .bool true]) ∧ SB w.heap.size w' b eM3 (upd X4 xb eB2) 3 ∧ Below w.heap.size V6 w' from by
    have h := stepB HS.out XB.out (by decide) (by decide)
    rw [eq3.1, eq3.2.1, eq3.2.2.1, eq3.2.2.2] at h
    exact h).mono ?_
  rintro r V7 ⟨rfl, hs, bb⟩
  have HS := Lib.hid hs
  have BW := Lib.hid (BW.out.trans bb)
  have XA := Lib.hid (show upd X4 xb eB2 xa = some _ from (upd_other NE.out).trans XA.out)
  have XB := Lib.hid (show upd X4 xb eB2 xb = some eB2 from upd_same ..)
  clear hs bb
  generalize upd X4 xb eB2 = X5 at *
  go_wp2_with fail
  refine (show Calls Try.prog 18 #[.pointer (some ⟨xb, 0, none⟩)] V7 fun e w' => e = .returned (.tuple #[.int .i64 2, .int .i64 11]) ∧ SB w.heap.size w' b eM3 X5 3 ∧ Below w.heap.size V7 w' from resultB HS.out XB.out).mono ?_
  rintro r V8 ⟨rfl, hs, bb⟩
  have HS := Lib.hid hs
  have BW := Lib.hid (BW.out.trans bb)
  clear hs bb
  go_wp2_with fail
  refine (show Calls Try.prog 16 #[.pointer (some ⟨xb, 0, none⟩)] V8 fun e w' => e = .returned (.tuple #[.int .u8 0, .bool false]) ∧ SB w.heap.size w' b eM3 (upd X5 xb eB2) 4 ∧ Below w.heap.size V8 w' from by
    have h := stepB HS.out XB.out (by decide) (by decide)
    rw [eq4.1, eq4.2.1, eq4.2.2.1, eq4.2.2.2] at h
    exact h).mono ?_
  rintro r V9 ⟨rfl, hs, bb⟩
  have HS := Lib.hid hs
  have BW := Lib.hid (BW.out.trans bb)
  have XA := Lib.hid (show upd X5 xb eB2 xa = some _ from (upd_other NE.out).trans XA.out)
  have XB := Lib.hid (show upd X5 xb eB2 xb = some eB2 from upd_same ..)
  clear hs bb
  generalize upd X5 xb eB2 = X6 at *
  go_wp2_with fail
  refine (show Calls Try.prog 11 #[.pointer (some ⟨b, 0, none⟩), .int .i64 1, .int .i64 0] V9 fun e w' => e = .returned (.int .i64 8) ∧ SB w.heap.size w' b eM3 X6 4 ∧ Below w.heap.size V9 w' from by
    have h := unlockB HS.out (by decide) 1 0
    rw [eq5.1, eq5.2] at h
    exact h).mono ?_
  rintro r V10 ⟨rfl, hs, bb⟩
  have HS := Lib.hid hs
  have BW := Lib.hid (BW.out.trans bb)
  clear hs bb
  go_wp2_with fail
  refine (show Calls Try.prog 11 #[.pointer (some ⟨b, 0, none⟩), .int .i64 0, .int .i64 0] V10 fun e w' => e = .returned (.int .i64 0) ∧ SB w.heap.size w' b eM4 X6 4 ∧ Below w.heap.size V10 w' from by
    have h := unlockB HS.out (by decide) 0 0
    rw [eq6.1, eq6.2] at h
    exact h).mono ?_
  rintro r V11 ⟨rfl, hs, bb⟩
  have HS := Lib.hid hs
  have BW := Lib.hid (BW.out.trans bb)
  clear hs bb
  go_wp2_with fail
  refine (show Calls Try.prog 11 #[.pointer (some ⟨b, 0, none⟩), .int .i64 0, .int .i64 0] V11 fun e w' => e = .returned (.int .i64 8) ∧ SB w.heap.size w' b eM4 X6 4 ∧ Below w.heap.size V11 w' from by
    have h := unlockB HS.out (by decide) 0 0
    rw [eq7.1, eq7.2] at h
    exact h).mono ?_
  rintro r V12 ⟨rfl, hs, bb⟩
  have HS := Lib.hid hs
  have BW := Lib.hid (BW.out.trans bb)
  clear hs bb
  go_wp2_with fail
  refine (step_nil _).mono ?_
  rintro r W ⟨rfl, e⟩
  obtain rfl := e.symm
  go_wp2_with fail
  refine (result_nil _).mono ?_
  rintro r W ⟨rfl, e⟩
  obtain rfl := e.symm
  go_wp2_with fail
  refine (new_nil (-1) 0 0 _).mono ?_
  rintro r W ⟨rfl, e⟩
  obtain rfl := e.symm
  go_wp2_with fail
  refine (unlock_nil 0 0 _).mono ?_
  rintro r W ⟨rfl, e⟩
  obtain rfl := e.symm
  go_wp2_with fail
  refine (next_nil _).mono ?_
  rintro r W ⟨rfl, e⟩
  obtain rfl := e.symm
  go_wp2
  go_ret
  exact ⟨rfl, BW.out⟩
end Wk
end Go.Proofs.Ytjocbmoelkobaaa
