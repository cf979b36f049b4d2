/- MergeExamples (written by tools/mk7ex.py): the walk. Conditions: the table of the library's bits lies in memory (what the card says). -/
import Derived.Test.YtncjdgijnipfkaaDoorMgX
namespace Go.Proofs.YtncjdgijnipfkaaDoor
open Go.RowKit Go.Sort
set_option linter.unusedVariables false
set_option linter.unusedSimpArgs false
namespace Wk
open Hq
open Om (bel_alloc)
open Mg (popT)
open Dm (cell_lt)
def E0 : Mg.Mg := Mg.Mg.new fun v => (37 : Nat).testBit v
def E1 := E0.put 2 (3, 30)
def E2 := E1.put 0 (7, 70)
def E3 := E2.done 5
def E4 := E3.popped 2
def E5 := E4.put 2 (8, 80)
def E6 := E5.skipped 8
def E7 := E6.done 0
def E8 := E7.popped 2
def E9 := E8.done 2
def F0 : Mg.Mg := Mg.Mg.new fun v => (1 : Nat).testBit v
def F1 := F0.put 0 (18446744073709551615, 0)
def F2 := F1.popped 0
def F3 := F2.done 0
theorem q0 : E0.missN 64 = [0, 2, 5] := by decide +kernel
theorem q1 : E3.missN 64 = [] := by decide +kernel
theorem q2 : E4.missN 64 = [2] := by decide +kernel
theorem q3 : E6.missN 64 = [0] := by decide +kernel
theorem q4 : E8.missN 64 = [2] := by decide +kernel
theorem o0 : E0.offE 1 (3, 0) = 3 := by rw [offE_c]; decide +kernel
theorem o1 : E0.offE 2 (3, 30) = 0 := by rw [offE_c]; decide +kernel
theorem o2 : E1.offE 2 (4, 0) = 8 := by rw [offE_c]; decide +kernel
theorem o3 : E1.offE 0 (3, 9) = 9 := by rw [offE_c]; decide +kernel
theorem o4 : E1.offE 0 (7, 70) = 0 := by rw [offE_c]; decide +kernel
theorem o5 : E4.offE 2 (3, 1) = 2 := by rw [offE_c]; decide +kernel
theorem o6 : E4.offE 2 (8, 80) = 0 := by rw [offE_c]; decide +kernel
theorem n3 : E2.err 5 = 0 := by decide +kernel
theorem n7 : E6.err 0 = 0 := by decide +kernel
theorem n8 : E7.err 0 = 8 := by decide +kernel
theorem n9 : E8.err 2 = 0 := by decide +kernel
theorem l1 : E3.list = [(3, 30), (7, 70)] := by decide +kernel
theorem s6 : (E5.skN 8 64 : Int) = 1 := by decide +kernel
theorem p4 : ∀ r N, E3.pops r N → r = popT (E3.p 2) 2 true 0 ∧ N = E4 := pops_least q1 2 (by omega) (by decide +kernel) (by decide +kernel)
theorem p8 : ∀ r N, E7.pops r N → r = popT (E7.p 2) 2 true 0 ∧ N = E8 := pops_least (by decide +kernel) 2 (by omega) (by decide +kernel) (by decide +kernel)
theorem p9 : ∀ r N, E9.pops r N → r = popT (0, 0) 0 false 0 ∧ N = E9 := pops_none (by decide +kernel) (by decide +kernel)
theorem f1 : F0.offE 0 (18446744073709551615, 0) = 0 := by rw [offE_c]; decide +kernel
theorem f2 : ∀ r N, F1.pops r N → r = popT (F1.p 0) 0 true 0 ∧ N = F2 := pops_least (by decide +kernel) 0 (by omega) (by decide +kernel) (by decide +kernel)
theorem f3 : F2.offE 0 (18446744073709551615, 0) = 2 := by rw [offE_c]; decide +kernel
theorem f4 : F2.err 0 = 0 := by decide +kernel
set_option maxRecDepth 100000 in
set_option maxHeartbeats 8000000 in
theorem walk_mergeExamples (w : World) (hT : Dm.Tz w) :
    Calls Tryd.prog 4 #[] w fun e w' => e = .returned (.bool true) ∧ Below w.heap.size w w' := by
  have hw0 : (fun i => i < w.heap.size) 0 := by have := cell_lt (hT 0 (by decide)); exact this
  have T0 := Lib.hid hT
  clear hT
  have BW := Lib.hid (Below.refl w.heap.size w)
  go_enter Tryd.func4, Tryd.ntmps4
  go_wp2_with fail
  refine (newS (fun i => i < w.heap.size) 37 w (by omega) (fun i h => h)).mono ?_
  rintro r V1 ⟨rfl, sm, bb⟩
  have HS := Lib.hid (show Sm (fun i => i < w.heap.size) _ _ E0 from sm)
  clear sm
  have T0 := Lib.hid (T0.out.below bb)
  have BW := Lib.hid bb
  clear bb
  go_wp2_with fail
  refine (missE HS.out (by repeat (first | exact Below.refl _ _ | apply bel_alloc)) T0.out [0, 2, 5] 3 q0 rfl).mono ?_
  rintro r V2 ⟨MA, MC, rfl, mr, bb⟩
  have RM := Lib.hid mr
  clear mr
  have T0 := Lib.hid (T0.out.below bb)
  have HS := Lib.hid (HS.out.below bb)
  have BW := Lib.hid (BW.out.trans (bb.mono BW.out.size))
  clear bb
  go_wp2_with fail
  have RL := Lib.hid (lit_i V2 [0, 2, 5] #[.int .i64 0, .int .i64 2, .int .i64 5] rfl)
  have bb : Below V2.heap.size V2 (V2.alloc (.cells #[.int .i64 0, .int .i64 2, .int .i64 5] 3)) := bel_alloc (Below.refl _ _) _
  have RM := Lib.hid (RM.out.below bb)
  have T0 := Lib.hid (T0.out.below bb)
  have HS := Lib.hid (HS.out.below bb)
  have BW := Lib.hid (BW.out.trans (bb.mono BW.out.size))
  clear bb
  generalize V2.alloc (.cells #[.int .i64 0, .int .i64 2, .int .i64 5] 3) = V3 at *
  refine (same_i (A := MA) (B := some ⟨V2.heap.size, 0, none⟩) (l := [0, 2, 5]) (r := [0, 2, 5]) 3 MC 3 3 true rfl rfl (by omega) (by omega) RM.out RL.out (by decide +kernel)).mono ?_
  rintro r V4 ⟨rfl, bb⟩
  have T0 := Lib.hid (T0.out.below bb)
  have HS := Lib.hid (HS.out.below bb)
  have BW := Lib.hid (BW.out.trans (bb.mono BW.out.size))
  clear bb
  clear RL RM
  go_wp2_with fail
  refine (popE HS.out (by repeat (first | exact Below.refl _ _ | apply bel_alloc)) (.tuple #[.agg #[.int .u64 0, .int .u64 0], .int .i64 0, .bool false, .int .i64 8]) E0 (pops_state (by rw [q0]; decide))).mono ?_
  rintro r V5 ⟨rfl, sm, kx⟩
  have T0 := Lib.hid (kx.tz hw0 T0.out)
  have BW := Lib.hid (BW.out.trans (kx.below fun _ h => h))
  have HS := Lib.hid sm
  clear sm kx
  go_wp2_with fail
  refine (offerE HS.out (by repeat (first | exact Below.refl _ _ | apply bel_alloc)) 1 (3, 0) 3 E0 o0 rfl (by omega) (by omega) (by simp) (by simp)).mono ?_
  rintro r V6 ⟨rfl, sm, kx⟩
  have T0 := Lib.hid (kx.tz hw0 T0.out)
  have BW := Lib.hid (BW.out.trans (kx.below fun _ h => h))
  have HS := Lib.hid sm
  clear sm kx
  go_wp2_with fail
  refine (offerE HS.out (by repeat (first | exact Below.refl _ _ | apply bel_alloc)) 2 (3, 30) 0 E1 o1 rfl (by omega) (by omega) (by simp) (by simp)).mono ?_
  rintro r V7 ⟨rfl, sm, kx⟩
  have T0 := Lib.hid (kx.tz hw0 T0.out)
  have BW := Lib.hid (BW.out.trans (kx.below fun _ h => h))
  have HS := Lib.hid sm
  clear sm kx
  go_wp2_with fail
  refine (offerE HS.out (by repeat (first | exact Below.refl _ _ | apply bel_alloc)) 2 (4, 0) 8 E1 o2 rfl (by omega) (by omega) (by simp) (by simp)).mono ?_
  rintro r V8 ⟨rfl, sm, kx⟩
  have T0 := Lib.hid (kx.tz hw0 T0.out)
  have BW := Lib.hid (BW.out.trans (kx.below fun _ h => h))
  have HS := Lib.hid sm
  clear sm kx
  go_wp2_with fail
  refine (offerE HS.out (by repeat (first | exact Below.refl _ _ | apply bel_alloc)) 0 (3, 9) 9 E1 o3 rfl (by omega) (by omega) (by simp) (by simp)).mono ?_
  rintro r V9 ⟨rfl, sm, kx⟩
  have T0 := Lib.hid (kx.tz hw0 T0.out)
  have BW := Lib.hid (BW.out.trans (kx.below fun _ h => h))
  have HS := Lib.hid sm
  clear sm kx
  go_wp2_with fail
  refine (offerE HS.out (by repeat (first | exact Below.refl _ _ | apply bel_alloc)) 0 (7, 70) 0 E2 o4 rfl (by omega) (by omega) (by simp) (by simp)).mono ?_
  rintro r V10 ⟨rfl, sm, kx⟩
  have T0 := Lib.hid (kx.tz hw0 T0.out)
  have BW := Lib.hid (BW.out.trans (kx.below fun _ h => h))
  have HS := Lib.hid sm
  clear sm kx
  go_wp2_with fail
  refine (endE HS.out (by repeat (first | exact Below.refl _ _ | apply bel_alloc)) 5 0 E3 n3 rfl (by omega) (by omega)).mono ?_
  rintro r V11 ⟨rfl, sm, kx⟩
  have T0 := Lib.hid (kx.tz hw0 T0.out)
  have BW := Lib.hid (BW.out.trans (kx.below fun _ h => h))
  have HS := Lib.hid sm
  clear sm kx
  go_wp2_with fail
  refine (missE HS.out (by repeat (first | exact Below.refl _ _ | apply bel_alloc)) T0.out [] 0 q1 rfl).mono ?_
  rintro r V12 ⟨MA, MC, rfl, mr, bb⟩
  clear mr
  have T0 := Lib.hid (T0.out.below bb)
  have HS := Lib.hid (HS.out.below bb)
  have BW := Lib.hid (BW.out.trans (bb.mono BW.out.size))
  clear bb
  go_wp2_with fail
  refine (listE HS.out (by repeat (first | exact Below.refl _ _ | apply bel_alloc)) [(3, 30), (7, 70)] 2 l1 rfl).mono ?_
  rintro r V13 ⟨LA, LC, rfl, mr, bb⟩
  have RM := Lib.hid mr
  clear mr
  have T0 := Lib.hid (T0.out.below bb)
  have HS := Lib.hid (HS.out.below bb)
  have BW := Lib.hid (BW.out.trans (bb.mono BW.out.size))
  clear bb
  go_wp2_with fail
  have RL := Lib.hid (lit_p V13 [(3, 30), (7, 70)] #[.int .u64 3, .int .u64 30, .int .u64 7, .int .u64 70] rfl)
  have bb : Below V13.heap.size V13 (V13.alloc (.cells #[.int .u64 3, .int .u64 30, .int .u64 7, .int .u64 70] 39)) := bel_alloc (Below.refl _ _) _
  have RM := Lib.hid (RM.out.below bb)
  have T0 := Lib.hid (T0.out.below bb)
  have HS := Lib.hid (HS.out.below bb)
  have BW := Lib.hid (BW.out.trans (bb.mono BW.out.size))
  clear bb
  generalize V13.alloc (.cells #[.int .u64 3, .int .u64 30, .int .u64 7, .int .u64 70] 39) = V14 at *
  refine (same_p (A := LA) (B := some ⟨V13.heap.size, 0, none⟩) (l := [(3, 30), (7, 70)]) (r := [(3, 30), (7, 70)]) 2 LC 2 2 true rfl rfl (by omega) (by omega) RM.out RL.out (by decide +kernel)).mono ?_
  rintro r V15 ⟨rfl, bb⟩
  have T0 := Lib.hid (T0.out.below bb)
  have HS := Lib.hid (HS.out.below bb)
  have BW := Lib.hid (BW.out.trans (bb.mono BW.out.size))
  clear bb
  clear RL RM
  go_wp2_with fail
  refine (popE HS.out (by repeat (first | exact Below.refl _ _ | apply bel_alloc)) (.tuple #[.agg #[.int .u64 3, .int .u64 30], .int .i64 2, .bool true, .int .i64 0]) E4 p4).mono ?_
  rintro r V16 ⟨rfl, sm, kx⟩
  have T0 := Lib.hid (kx.tz hw0 T0.out)
  have BW := Lib.hid (BW.out.trans (kx.below fun _ h => h))
  have HS := Lib.hid sm
  clear sm kx
  go_wp2_with fail
  obtain ⟨PB, hPB⟩ : ∃ PB, PB = V16.heap.size := ⟨_, rfl⟩
  have PBle : w.heap.size ≤ PB := by rw [hPB]; exact BW.out.size
  have ba : Below V16.heap.size V16 (V16.alloc (.cells #[.int .u64 3, .int .u64 30] 39)) := bel_alloc (Below.refl _ _) _
  have HS := Lib.hid (HS.out.more (Y := (fun i => i < w.heap.size ∨ i = PB)) ba (fun i hi => by rcases hi with hi | hi; exact .inl hi; subst hi; rw [hPB]; exact .inr ⟨Nat.le_refl _, by simp⟩))
  have T0 := Lib.hid (T0.out.below ba)
  have BW := Lib.hid (BW.out.trans (ba.mono BW.out.size))
  have c0 : (V16.alloc (.cells #[.int .u64 3, .int .u64 30] 39)).cell? ⟨PB, 0, none⟩ = some (.int .u64 3) := by rw [hPB]; simp
  have c1 : (V16.alloc (.cells #[.int .u64 3, .int .u64 30] 39)).cell? ⟨PB, 1, none⟩ = some (.int .u64 30) := by rw [hPB]; simp
  have z0 : (V16.alloc (.cells #[.int .u64 3, .int .u64 30] 39)).frozen? ⟨PB, 0, none⟩ = false := by rw [hPB]; simp
  have z1 : (V16.alloc (.cells #[.int .u64 3, .int .u64 30] 39)).frozen? ⟨PB, 1, none⟩ = false := by rw [hPB]; simp
  clear ba
  rw [← hPB]
  generalize V16.alloc (.cells #[.int .u64 3, .int .u64 30] 39) = V17 at *
  clear hPB
  go_wp2_with fail
  refine (missE HS.out (by repeat (first | exact Below.refl _ _ | apply bel_alloc)) T0.out [2] 1 q2 rfl).mono ?_
  rintro r V18 ⟨MA, MC, rfl, mr, bb⟩
  have RM := Lib.hid mr
  clear mr
  have hPB := HS.out.lt PB (.inr rfl)
  replace c0 := (bb.cell (p := ⟨PB, _, none⟩) hPB).trans c0
  replace c1 := (bb.cell (p := ⟨PB, _, none⟩) hPB).trans c1
  replace z0 := (bb.frozen (p := ⟨PB, _, none⟩) hPB).trans z0
  replace z1 := (bb.frozen (p := ⟨PB, _, none⟩) hPB).trans z1
  clear hPB
  have T0 := Lib.hid (T0.out.below bb)
  have HS := Lib.hid (HS.out.below bb)
  have BW := Lib.hid (BW.out.trans (bb.mono BW.out.size))
  clear bb
  go_wp2_with fail
  have RL := Lib.hid (lit_i V18 [2] #[.int .i64 2] rfl)
  have bb : Below V18.heap.size V18 (V18.alloc (.cells #[.int .i64 2] 3)) := bel_alloc (Below.refl _ _) _
  have RM := Lib.hid (RM.out.below bb)
  have hPB := HS.out.lt PB (.inr rfl)
  replace c0 := (bb.cell (p := ⟨PB, _, none⟩) hPB).trans c0
  replace c1 := (bb.cell (p := ⟨PB, _, none⟩) hPB).trans c1
  replace z0 := (bb.frozen (p := ⟨PB, _, none⟩) hPB).trans z0
  replace z1 := (bb.frozen (p := ⟨PB, _, none⟩) hPB).trans z1
  clear hPB
  have T0 := Lib.hid (T0.out.below bb)
  have HS := Lib.hid (HS.out.below bb)
  have BW := Lib.hid (BW.out.trans (bb.mono BW.out.size))
  clear bb
  generalize V18.alloc (.cells #[.int .i64 2] 3) = V19 at *
  refine (same_i (A := MA) (B := some ⟨V18.heap.size, 0, none⟩) (l := [2]) (r := [2]) 1 MC 1 1 true rfl rfl (by omega) (by omega) RM.out RL.out (by decide +kernel)).mono ?_
  rintro r V20 ⟨rfl, bb⟩
  have hPB := HS.out.lt PB (.inr rfl)
  replace c0 := (bb.cell (p := ⟨PB, _, none⟩) hPB).trans c0
  replace c1 := (bb.cell (p := ⟨PB, _, none⟩) hPB).trans c1
  replace z0 := (bb.frozen (p := ⟨PB, _, none⟩) hPB).trans z0
  replace z1 := (bb.frozen (p := ⟨PB, _, none⟩) hPB).trans z1
  clear hPB
  have T0 := Lib.hid (T0.out.below bb)
  have HS := Lib.hid (HS.out.below bb)
  have BW := Lib.hid (BW.out.trans (bb.mono BW.out.size))
  clear bb
  clear RL RM
  go_wp2_with fail
  refine (offerE HS.out (by repeat (first | exact Below.refl _ _ | apply bel_alloc)) 2 (3, 1) 2 E4 o5 rfl (by omega) (by omega) (by simp) (by simp)).mono ?_
  rintro r V21 ⟨rfl, sm, kx⟩
  have T0 := Lib.hid (kx.tz (.inl hw0) T0.out)
  have BW := Lib.hid (BW.out.trans (kx.below fun _ h => .inl h))
  replace c0 := kx.cell (.inr rfl) c0
  replace c1 := kx.cell (.inr rfl) c1
  replace z0 := kx.frozen (.inr rfl) z0
  replace z1 := kx.frozen (.inr rfl) z1
  have HS := Lib.hid sm
  clear sm kx
  go_wp2_with fail
  refine (offerE HS.out (by repeat (first | exact Below.refl _ _ | apply bel_alloc)) 2 (8, 80) 0 E5 o6 rfl (by omega) (by omega) (by simp) (by simp)).mono ?_
  rintro r V22 ⟨rfl, sm, kx⟩
  have T0 := Lib.hid (kx.tz (.inl hw0) T0.out)
  have BW := Lib.hid (BW.out.trans (kx.below fun _ h => .inl h))
  replace c0 := kx.cell (.inr rfl) c0
  replace c1 := kx.cell (.inr rfl) c1
  replace z0 := kx.frozen (.inr rfl) z0
  replace z1 := kx.frozen (.inr rfl) z1
  have HS := Lib.hid sm
  clear sm kx
  go_wp2_with fail
  refine (skipE HS.out (by repeat (first | exact Below.refl _ _ | apply bel_alloc)) 8 1 s6).mono ?_
  rintro r V23 ⟨rfl, sm, kx⟩
  have sm : Sm _ _ _ E6 := sm
  have T0 := Lib.hid (kx.tz (.inl hw0) T0.out)
  have BW := Lib.hid (BW.out.trans (kx.below fun _ h => .inl h))
  replace c0 := kx.cell (.inr rfl) c0
  replace c1 := kx.cell (.inr rfl) c1
  replace z0 := kx.frozen (.inr rfl) z0
  replace z1 := kx.frozen (.inr rfl) z1
  have HS := Lib.hid sm
  clear sm kx
  go_wp2_with fail
  refine (missE HS.out (by repeat (first | exact Below.refl _ _ | apply bel_alloc)) T0.out [0] 1 q3 rfl).mono ?_
  rintro r V24 ⟨MA, MC, rfl, mr, bb⟩
  have RM := Lib.hid mr
  clear mr
  have hPB := HS.out.lt PB (.inr rfl)
  replace c0 := (bb.cell (p := ⟨PB, _, none⟩) hPB).trans c0
  replace c1 := (bb.cell (p := ⟨PB, _, none⟩) hPB).trans c1
  replace z0 := (bb.frozen (p := ⟨PB, _, none⟩) hPB).trans z0
  replace z1 := (bb.frozen (p := ⟨PB, _, none⟩) hPB).trans z1
  clear hPB
  have T0 := Lib.hid (T0.out.below bb)
  have HS := Lib.hid (HS.out.below bb)
  have BW := Lib.hid (BW.out.trans (bb.mono BW.out.size))
  clear bb
  go_wp2_with fail
  have RL := Lib.hid (lit_i V24 [0] #[.int .i64 0] rfl)
  have bb : Below V24.heap.size V24 (V24.alloc (.cells #[.int .i64 0] 3)) := bel_alloc (Below.refl _ _) _
  have RM := Lib.hid (RM.out.below bb)
  have hPB := HS.out.lt PB (.inr rfl)
  replace c0 := (bb.cell (p := ⟨PB, _, none⟩) hPB).trans c0
  replace c1 := (bb.cell (p := ⟨PB, _, none⟩) hPB).trans c1
  replace z0 := (bb.frozen (p := ⟨PB, _, none⟩) hPB).trans z0
  replace z1 := (bb.frozen (p := ⟨PB, _, none⟩) hPB).trans z1
  clear hPB
  have T0 := Lib.hid (T0.out.below bb)
  have HS := Lib.hid (HS.out.below bb)
  have BW := Lib.hid (BW.out.trans (bb.mono BW.out.size))
  clear bb
  generalize V24.alloc (.cells #[.int .i64 0] 3) = V25 at *
  refine (same_i (A := MA) (B := some ⟨V24.heap.size, 0, none⟩) (l := [0]) (r := [0]) 1 MC 1 1 true rfl rfl (by omega) (by omega) RM.out RL.out (by decide +kernel)).mono ?_
  rintro r V26 ⟨rfl, bb⟩
  have hPB := HS.out.lt PB (.inr rfl)
  replace c0 := (bb.cell (p := ⟨PB, _, none⟩) hPB).trans c0
  replace c1 := (bb.cell (p := ⟨PB, _, none⟩) hPB).trans c1
  replace z0 := (bb.frozen (p := ⟨PB, _, none⟩) hPB).trans z0
  replace z1 := (bb.frozen (p := ⟨PB, _, none⟩) hPB).trans z1
  clear hPB
  have T0 := Lib.hid (T0.out.below bb)
  have HS := Lib.hid (HS.out.below bb)
  have BW := Lib.hid (BW.out.trans (bb.mono BW.out.size))
  clear bb
  clear RL RM
  go_wp2_with fail
  refine (endE HS.out (by repeat (first | exact Below.refl _ _ | apply bel_alloc)) 0 0 E7 n7 rfl (by omega) (by omega)).mono ?_
  rintro r V27 ⟨rfl, sm, kx⟩
  have T0 := Lib.hid (kx.tz (.inl hw0) T0.out)
  have BW := Lib.hid (BW.out.trans (kx.below fun _ h => .inl h))
  replace c0 := kx.cell (.inr rfl) c0
  replace c1 := kx.cell (.inr rfl) c1
  replace z0 := kx.frozen (.inr rfl) z0
  replace z1 := kx.frozen (.inr rfl) z1
  have HS := Lib.hid sm
  clear sm kx
  go_wp2_with fail
  refine (endE HS.out (by repeat (first | exact Below.refl _ _ | apply bel_alloc)) 0 8 E7 n8 rfl (by omega) (by omega)).mono ?_
  rintro r V28 ⟨rfl, sm, kx⟩
  have T0 := Lib.hid (kx.tz (.inl hw0) T0.out)
  have BW := Lib.hid (BW.out.trans (kx.below fun _ h => .inl h))
  replace c0 := kx.cell (.inr rfl) c0
  replace c1 := kx.cell (.inr rfl) c1
  replace z0 := kx.frozen (.inr rfl) z0
  replace z1 := kx.frozen (.inr rfl) z1
  have HS := Lib.hid sm
  clear sm kx
  go_wp2_with fail
  refine (popE HS.out (by repeat (first | exact Below.refl _ _ | apply bel_alloc)) (.tuple #[.agg #[.int .u64 8, .int .u64 80], .int .i64 2, .bool true, .int .i64 0]) E8 p8).mono ?_
  rintro r V29 ⟨rfl, sm, kx⟩
  have T0 := Lib.hid (kx.tz (.inl hw0) T0.out)
  have BW := Lib.hid (BW.out.trans (kx.below fun _ h => .inl h))
  replace c0 := kx.cell (.inr rfl) c0
  replace c1 := kx.cell (.inr rfl) c1
  replace z0 := kx.frozen (.inr rfl) z0
  replace z1 := kx.frozen (.inr rfl) z1
  have HS := Lib.hid sm
  clear sm kx
  go_wp2_with fail
  have cg : Mg.Chg PB V29 ((V29.setCell ⟨PB, 0, none⟩ (.int .u64 8)).setCell ⟨PB, 1, none⟩ (.int .u64 80)) := Mg.Chg.set (Mg.Chg.set (Mg.Chg.of_below (Below.refl _ _)) 0 _) 1 _
  have HS := Lib.hid (HS.out.other (.inr rfl) cg)
  have T0 := Lib.hid (show Dm.Tz ((V29.setCell ⟨PB, 0, none⟩ (.int .u64 8)).setCell ⟨PB, 1, none⟩ (.int .u64 80)) from fun j hj => (World.cell?_of_block (a := ⟨0, j, none⟩) (cg.block 0 (Nat.lt_of_lt_of_le hw0 BW.out.size) (fun e => by injection e with e; have := PBle; have := hw0; omega))).trans (T0.out j hj))
  have BW := Lib.hid (BW.out.trans (cg.below PBle BW.out.size))
  have d0 : ((V29.setCell ⟨PB, 0, none⟩ (.int .u64 8)).setCell ⟨PB, 1, none⟩ (.int .u64 80)).cell? ⟨PB, 0, none⟩ = some (.int .u64 8) := by go_simp
  have d1 : ((V29.setCell ⟨PB, 0, none⟩ (.int .u64 8)).setCell ⟨PB, 1, none⟩ (.int .u64 80)).cell? ⟨PB, 1, none⟩ = some (.int .u64 80) := by go_simp
  have y0 : ((V29.setCell ⟨PB, 0, none⟩ (.int .u64 8)).setCell ⟨PB, 1, none⟩ (.int .u64 80)).frozen? ⟨PB, 0, none⟩ = false := by go_simp
  have y1 : ((V29.setCell ⟨PB, 0, none⟩ (.int .u64 8)).setCell ⟨PB, 1, none⟩ (.int .u64 80)).frozen? ⟨PB, 1, none⟩ = false := by go_simp
  clear cg c0 c1 z0 z1
  generalize (V29.setCell ⟨PB, 0, none⟩ (.int .u64 8)).setCell ⟨PB, 1, none⟩ (.int .u64 80) = V30 at *
  have c0 := d0; have c1 := d1; have z0 := y0; have z1 := y1; clear d0 d1 y0 y1
  go_wp2_with fail
  refine (popE HS.out (by repeat (first | exact Below.refl _ _ | apply bel_alloc)) (.tuple #[.agg #[.int .u64 0, .int .u64 0], .int .i64 0, .bool false, .int .i64 8]) E8 (pops_state (by rw [q4]; decide))).mono ?_
  rintro r V31 ⟨rfl, sm, kx⟩
  have T0 := Lib.hid (kx.tz (.inl hw0) T0.out)
  have BW := Lib.hid (BW.out.trans (kx.below fun _ h => .inl h))
  replace c0 := kx.cell (.inr rfl) c0
  replace c1 := kx.cell (.inr rfl) c1
  replace z0 := kx.frozen (.inr rfl) z0
  replace z1 := kx.frozen (.inr rfl) z1
  have HS := Lib.hid sm
  clear sm kx
  have hPB := HS.out.lt PB (.inr rfl)
  have g0 := fun o => (World.cell?_alloc_lt V31 o ⟨PB, 0, none⟩ hPB).trans c0
  have g1 := fun o => (World.cell?_alloc_lt V31 o ⟨PB, 1, none⟩ hPB).trans c1
  go_wp2_with fail
  clear g0 g1 hPB
  go_wp2_with fail
  refine (endE HS.out (by repeat (first | exact Below.refl _ _ | apply bel_alloc)) 2 0 E9 n9 rfl (by omega) (by omega)).mono ?_
  rintro r V32 ⟨rfl, sm, kx⟩
  have T0 := Lib.hid (kx.tz (.inl hw0) T0.out)
  have BW := Lib.hid (BW.out.trans (kx.below fun _ h => .inl h))
  replace c0 := kx.cell (.inr rfl) c0
  replace c1 := kx.cell (.inr rfl) c1
  replace z0 := kx.frozen (.inr rfl) z0
  replace z1 := kx.frozen (.inr rfl) z1
  have HS := Lib.hid sm
  clear sm kx
  go_wp2_with fail
  refine (popE HS.out (by repeat (first | exact Below.refl _ _ | apply bel_alloc)) (.tuple #[.agg #[.int .u64 0, .int .u64 0], .int .i64 0, .bool false, .int .i64 0]) E9 p9).mono ?_
  rintro r V33 ⟨rfl, sm, kx⟩
  have T0 := Lib.hid (kx.tz (.inl hw0) T0.out)
  have BW := Lib.hid (BW.out.trans (kx.below fun _ h => .inl h))
  replace c0 := kx.cell (.inr rfl) c0
  replace c1 := kx.cell (.inr rfl) c1
  replace z0 := kx.frozen (.inr rfl) z0
  replace z1 := kx.frozen (.inr rfl) z1
  have HS := Lib.hid sm
  clear sm kx
  go_wp2_with fail
  have hPB := HS.out.lt PB (.inr rfl)
  refine (newS (fun i => i < w.heap.size ∨ i = PB) 1 _ (by omega) (fun i h => by rcases h with h | h; exact Nat.lt_of_lt_of_le h BW.out.size; subst h; exact hPB)).mono ?_
  clear HS
  rintro r V34 ⟨rfl, sm, bb⟩
  have HS := Lib.hid (show Sm (fun i => i < w.heap.size ∨ i = PB) _ _ F0 from sm)
  clear sm
  have T0 := Lib.hid (T0.out.below bb)
  have BW := Lib.hid (BW.out.trans (bb.mono BW.out.size))
  replace c0 := (bb.cell (p := ⟨PB, _, none⟩) hPB).trans c0
  replace c1 := (bb.cell (p := ⟨PB, _, none⟩) hPB).trans c1
  replace z0 := (bb.frozen (p := ⟨PB, _, none⟩) hPB).trans z0
  replace z1 := (bb.frozen (p := ⟨PB, _, none⟩) hPB).trans z1
  clear hPB bb
  go_wp2_with fail
  refine (offerE HS.out (by repeat (first | exact Below.refl _ _ | apply bel_alloc)) 0 (18446744073709551615, 0) 0 F1 f1 rfl (by omega) (by omega) (by simp) (by simp)).mono ?_
  rintro r V35 ⟨rfl, sm, kx⟩
  have T0 := Lib.hid (kx.tz (.inl hw0) T0.out)
  have BW := Lib.hid (BW.out.trans (kx.below fun _ h => .inl h))
  replace c0 := kx.cell (.inr rfl) c0
  replace c1 := kx.cell (.inr rfl) c1
  replace z0 := kx.frozen (.inr rfl) z0
  replace z1 := kx.frozen (.inr rfl) z1
  have HS := Lib.hid sm
  clear sm kx
  go_wp2_with fail
  refine (popE HS.out (by repeat (first | exact Below.refl _ _ | apply bel_alloc)) (.tuple #[.agg #[.int .u64 18446744073709551615, .int .u64 0], .int .i64 0, .bool true, .int .i64 0]) F2 f2).mono ?_
  rintro r V36 ⟨rfl, sm, kx⟩
  have T0 := Lib.hid (kx.tz (.inl hw0) T0.out)
  have BW := Lib.hid (BW.out.trans (kx.below fun _ h => .inl h))
  replace c0 := kx.cell (.inr rfl) c0
  replace c1 := kx.cell (.inr rfl) c1
  replace z0 := kx.frozen (.inr rfl) z0
  replace z1 := kx.frozen (.inr rfl) z1
  have HS := Lib.hid sm
  clear sm kx
  go_wp2_with fail
  have cg : Mg.Chg PB V36 ((V36.setCell ⟨PB, 0, none⟩ (.int .u64 18446744073709551615)).setCell ⟨PB, 1, none⟩ (.int .u64 0)) := Mg.Chg.set (Mg.Chg.set (Mg.Chg.of_below (Below.refl _ _)) 0 _) 1 _
  have HS := Lib.hid (HS.out.other (.inr rfl) cg)
  have T0 := Lib.hid (show Dm.Tz ((V36.setCell ⟨PB, 0, none⟩ (.int .u64 18446744073709551615)).setCell ⟨PB, 1, none⟩ (.int .u64 0)) from fun j hj => (World.cell?_of_block (a := ⟨0, j, none⟩) (cg.block 0 (Nat.lt_of_lt_of_le hw0 BW.out.size) (fun e => by injection e with e; have := PBle; have := hw0; omega))).trans (T0.out j hj))
  have BW := Lib.hid (BW.out.trans (cg.below PBle BW.out.size))
  have d0 : ((V36.setCell ⟨PB, 0, none⟩ (.int .u64 18446744073709551615)).setCell ⟨PB, 1, none⟩ (.int .u64 0)).cell? ⟨PB, 0, none⟩ = some (.int .u64 18446744073709551615) := by go_simp
  have d1 : ((V36.setCell ⟨PB, 0, none⟩ (.int .u64 18446744073709551615)).setCell ⟨PB, 1, none⟩ (.int .u64 0)).cell? ⟨PB, 1, none⟩ = some (.int .u64 0) := by go_simp
  have y0 : ((V36.setCell ⟨PB, 0, none⟩ (.int .u64 18446744073709551615)).setCell ⟨PB, 1, none⟩ (.int .u64 0)).frozen? ⟨PB, 0, none⟩ = false := by go_simp
  have y1 : ((V36.setCell ⟨PB, 0, none⟩ (.int .u64 18446744073709551615)).setCell ⟨PB, 1, none⟩ (.int .u64 0)).frozen? ⟨PB, 1, none⟩ = false := by go_simp
  clear cg c0 c1 z0 z1
  generalize (V36.setCell ⟨PB, 0, none⟩ (.int .u64 18446744073709551615)).setCell ⟨PB, 1, none⟩ (.int .u64 0) = V37 at *
  have c0 := d0; have c1 := d1; have z0 := y0; have z1 := y1; clear d0 d1 y0 y1
  go_wp2_with fail
  refine (offerE HS.out (by repeat (first | exact Below.refl _ _ | apply bel_alloc)) 0 (18446744073709551615, 0) 2 F2 f3 rfl (by omega) (by omega) (by simp) (by simp)).mono ?_
  rintro r V38 ⟨rfl, sm, kx⟩
  have T0 := Lib.hid (kx.tz (.inl hw0) T0.out)
  have BW := Lib.hid (BW.out.trans (kx.below fun _ h => .inl h))
  replace c0 := kx.cell (.inr rfl) c0
  replace c1 := kx.cell (.inr rfl) c1
  replace z0 := kx.frozen (.inr rfl) z0
  replace z1 := kx.frozen (.inr rfl) z1
  have HS := Lib.hid sm
  clear sm kx
  go_wp2_with fail
  refine (endE HS.out (by repeat (first | exact Below.refl _ _ | apply bel_alloc)) 0 0 F3 f4 rfl (by omega) (by omega)).mono ?_
  rintro r V39 ⟨rfl, sm, kx⟩
  have T0 := Lib.hid (kx.tz (.inl hw0) T0.out)
  have BW := Lib.hid (BW.out.trans (kx.below fun _ h => .inl h))
  replace c0 := kx.cell (.inr rfl) c0
  replace c1 := kx.cell (.inr rfl) c1
  replace z0 := kx.frozen (.inr rfl) z0
  replace z1 := kx.frozen (.inr rfl) z1
  have HS := Lib.hid sm
  clear sm kx
  clear HS
  have PN := fun W => Lib.hid (pop_nil W)
  simp only [popT] at PN
  go_wp2_with fail
  refine ((PN _).out).mono ?_
  rintro r V40 ⟨rfl, bb⟩
  have BW := Lib.hid (BW.out.trans (bb.mono BW.out.size))
  clear bb
  go_wp2_with fail
  refine (skip_nil 0 _).mono ?_
  rintro r V41 ⟨rfl, rfl⟩
  go_wp2_with fail
  refine (offer_nil 0 (0, 0) _).mono ?_
  rintro r V41 ⟨rfl, bb⟩
  have BW := Lib.hid (BW.out.trans (bb.mono BW.out.size))
  clear bb
  go_wp2_with fail
  refine (end_nil 0 _).mono ?_
  rintro r V42 ⟨rfl, rfl⟩
  go_wp2_with fail
  refine (missing_nil _).mono ?_
  rintro r V42 ⟨rfl, rfl⟩
  go_wp2_with fail
  refine (list_nil _).mono ?_
  rintro r V42 ⟨rfl, rfl⟩
  go_wp2_with fail
  go_ret
  exact ⟨rfl, BW.out⟩
end Wk
end Go.Proofs.YtncjdgijnipfkaaDoor
