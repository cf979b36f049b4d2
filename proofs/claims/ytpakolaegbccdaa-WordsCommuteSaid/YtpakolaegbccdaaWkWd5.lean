/- The walk of the law WordsCommute, from the contracts of the memory. Conditions: those of the contracts. -/
import Derived.Test.YtpakolaegbccdaaWdJ
import Derived.Deep.RegionHeld3
import Derived.Deep.CutRange
namespace Go.Proofs.Ytpakolaegbccdaa
open Go.RowKit Go.Sort
set_option linter.unusedVariables false
set_option linter.unusedSimpArgs false
namespace Wk
open Wd
open Dm (addr_lit info_parts spot_none RdK flatU infoU bel_alloc bel_trans own_keep below_drewN)
theorem bd_two {x y : Dd} (hx : BdD1 x) (hy : BdD1 y) : BdD [x, y] := fun z hz => by
  rcases List.mem_cons.1 hz with h | h
  · subst h; exact hx
  · obtain rfl := List.mem_singleton.1 h; exact hy
theorem _root_.Go.Proofs.Ytpakolaegbccdaa.Wd.RdD.drew' {w : World} {A : Option Addr} {l : List Dd} (h : RdD w A l) : RdD w.drew A l := fun i x hx => by
  obtain ⟨b, o, e, c⟩ := h i x hx
  exact ⟨b, o, e, c.c0, c.c1, c.c2, c.c3, c.c4⟩
theorem _root_.Go.Proofs.Ytpakolaegbccdaa.Wd.D5.drewN {w : World} {b o : Nat} {x : Dd} (h : D5 w b o x) (n : Nat) : D5 (w.drewN n) b o x := ⟨h.c0, h.c1, h.c2, h.c3, h.c4⟩
theorem _root_.Go.Proofs.Ytpakolaegbccdaa.Wd.D5.below' {w w' : World} {b : Nat} {x : Dd} (h : D5 w b 0 x) (hb : Below w.heap.size w w') : w'.cell? ⟨b, 0, none⟩ = some (.int .u8 x.d) ∧ w'.cell? ⟨b, 1, none⟩ = some (.int .i64 x.t) ∧ w'.cell? ⟨b, 2, none⟩ = some (.int .i64 x.a) ∧ w'.cell? ⟨b, 3, none⟩ = some (.int .u64 x.o) ∧ w'.cell? ⟨b, 4, none⟩ = some (.int .u64 x.v) := by
  have k := h.keep (hb.block b (World.block_lt_of_cell? w _ h.c0))
  have c1 := k.c1
  have c2 := k.c2
  have c3 := k.c3
  have c4 := k.c4
  simp only [Nat.zero_add] at c1 c2 c3 c4
  exact ⟨k.c0, c1, c2, c3, c4⟩
theorem d5_new (W : World) (X Y : Dd) : D5 (W.alloc (.cells #[.int .u8 X.d, .int .i64 X.t, .int .i64 X.a, .int .u64 X.o, .int .u64 X.v, .int .u8 Y.d, .int .i64 Y.t, .int .i64 Y.a, .int .u64 Y.o, .int .u64 Y.v] 33)) W.heap.size 0 X ∧ D5 (W.alloc (.cells #[.int .u8 X.d, .int .i64 X.t, .int .i64 X.a, .int .u64 X.o, .int .u64 X.v, .int .u8 Y.d, .int .i64 Y.t, .int .i64 Y.a, .int .u64 Y.o, .int .u64 Y.v] 33)) W.heap.size 5 Y := ⟨⟨by simp, by simp, by simp, by simp, by simp⟩, ⟨by simp, by simp, by simp, by simp, by simp⟩⟩
theorem rd_two (W : World) (n : Nat) (X Y : Dd) (hn : n = W.heap.size) : RdD (W.alloc (.cells #[.int .u8 X.d, .int .i64 X.t, .int .i64 X.a, .int .u64 X.o, .int .u64 X.v, .int .u8 Y.d, .int .i64 Y.t, .int .i64 Y.a, .int .u64 Y.o, .int .u64 Y.v] 33)) (some ⟨n, 0, none⟩) [X, Y] := fun i x hx => by
  subst hn
  have h := d5_new W X Y
  match i with
  | 0 => obtain rfl : X = x := by simpa using hx
         exact ⟨_, 0, rfl, h.1⟩
  | 1 => obtain rfl : Y = x := by simpa using hx
         exact ⟨_, 0, rfl, h.2⟩
  | i + 2 => simp at hx
theorem rd_two_b (W : World) (n : Nat) (X Y : Dd) (hn : n = W.heap.size) (o : Obj) : RdD ((W.alloc (.cells #[.int .u8 X.d, .int .i64 X.t, .int .i64 X.a, .int .u64 X.o, .int .u64 X.v, .int .u8 Y.d, .int .i64 Y.t, .int .i64 Y.a, .int .u64 Y.o, .int .u64 Y.v] 33)).alloc o).drew (some ⟨n, 0, none⟩) [X, Y] := ((rd_two W n X Y hn).below (bel_alloc (Below.refl _ _) _)).drew'
theorem rd_two_c (W : World) (n : Nat) (X Y : Dd) (o : Obj) (hn : n = (W.alloc o).heap.size) : RdD ((W.alloc o).alloc (.cells #[.int .u8 X.d, .int .i64 X.t, .int .i64 X.a, .int .u64 X.o, .int .u64 X.v, .int .u8 Y.d, .int .i64 Y.t, .int .i64 Y.a, .int .u64 Y.o, .int .u64 Y.v] 33)).drew (some ⟨n, 0, none⟩) [X, Y] := (rd_two (W.alloc o) n X Y hn).drew'
set_option maxRecDepth 100000 in
set_option maxHeartbeats 8000000 in
theorem walk_wordsCommute (a0 : Option Addr) (a0n a0c : Nat) (a0v : List Int) (a1What : Int) (a1Thread : Int) (a1Addr : Int) (a1Old : Int) (a1V : Int) (a2What : Int) (a2Thread : Int) (a2Addr : Int) (a2Old : Int) (a2V : Int) (w : World) (a0e : a0v.length = a0n) (a0m : a0n ≤ maxLen) (a0r : Dm.RdK .u64 w a0 a0v) (a0b : Dm.BdU a0v) (a0z : a0 = none → a0c = 0) (a1Whatl : 0 ≤ a1What) (a1Whath : a1What ≤ 255) (a1Threadl : (-9223372036854775808) ≤ a1Thread) (a1Threadh : a1Thread ≤ 9223372036854775807) (a1Addrl : (-9223372036854775808) ≤ a1Addr) (a1Addrh : a1Addr ≤ 9223372036854775807) (a1Oldl : 0 ≤ a1Old) (a1Oldh : a1Old ≤ 18446744073709551615) (a1Vl : 0 ≤ a1V) (a1Vh : a1V ≤ 18446744073709551615) (a2Whatl : 0 ≤ a2What) (a2Whath : a2What ≤ 255) (a2Threadl : (-9223372036854775808) ≤ a2Thread) (a2Threadh : a2Thread ≤ 9223372036854775807) (a2Addrl : (-9223372036854775808) ≤ a2Addr) (a2Addrh : a2Addr ≤ 9223372036854775807) (a2Oldl : 0 ≤ a2Old) (a2Oldh : a2Old ≤ 18446744073709551615) (a2Vl : 0 ≤ a2V) (a2Vh : a2V ≤ 18446744073709551615) :
    Calls Try.prog 8 #[.slice a0 a0n a0c, .agg #[.int .u8 a1What, .int .i64 a1Thread, .int .i64 a1Addr, .int .u64 a1Old, .int .u64 a1V], .agg #[.int .u8 a2What, .int .i64 a2Thread, .int .i64 a2Addr, .int .u64 a2Old, .int .u64 a2V]] w fun e w' => e = .returned (.bool true) ∧ Below w.heap.size w w' := by
  have hpre : (a0n < 2 ∨ 300 < a0n) → Calls Try.prog 8 #[.slice a0 a0n a0c, .agg #[.int .u8 a1What, .int .i64 a1Thread, .int .i64 a1Addr, .int .u64 a1Old, .int .u64 a1V], .agg #[.int .u8 a2What, .int .i64 a2Thread, .int .i64 a2Addr, .int .u64 a2Old, .int .u64 a2V]] w fun e w' => e = .returned (.bool true) ∧ Below w.heap.size w w' := fun h => by
    by_cases g0 : a0n < 2
    · have t0 : decide ((a0n : Int) < 2) = true := decide_eq_true (by omega)
      go_enter Try.func8, Try.ntmps8
      go_wp2
      go_ret
      exact ⟨rfl, bel_alloc (bel_alloc (Below.refl _ _) _) _⟩
    have t0 : decide ((a0n : Int) < 2) = false := decide_eq_false (by omega)
    have t1 : decide ((300 : Int) < a0n) = true := decide_eq_true (by omega)
    go_enter Try.func8, Try.ntmps8
    go_wp2
    go_ret
    exact ⟨rfl, bel_alloc (bel_alloc (Below.refl _ _) _) _⟩
  by_cases hp : a0n < 2 ∨ 300 < a0n
  · exact hpre hp
  clear hpre
  have t0 : decide ((a0n : Int) < 2) = false := decide_eq_false (by omega)
  have t1 : decide ((300 : Int) < a0n) = false := decide_eq_false (by omega)
  have p0 : 2 ≤ a0n := by omega
  have p1 : a0n ≤ 300 := by omega
  clear hp
  have CW1 := Lib.hid (fun W' => within_any a1Addr a0n W' a1Addrl a1Addrh (by omega) (by omega))
  have CW2 := Lib.hid (fun W' => within_any a2Addr a0n W' a2Addrl a2Addrh (by omega) (by omega))
  go_enter Try.func8, Try.ntmps8
  go_wp2_with fail
  have BX := bel_alloc (bel_alloc (Below.refl w.heap.size w) (.cells #[.int .u8 a1What, .int .i64 a1Thread, .int .i64 a1Addr, .int .u64 a1Old, .int .u64 a1V] 33)) (.cells #[.int .u8 a2What, .int .i64 a2Thread, .int .i64 a2Addr, .int .u64 a2Old, .int .u64 a2V] 33)
  have DX : D5 ((w.alloc (.cells #[.int .u8 a1What, .int .i64 a1Thread, .int .i64 a1Addr, .int .u64 a1Old, .int .u64 a1V] 33)).alloc (.cells #[.int .u8 a2What, .int .i64 a2Thread, .int .i64 a2Addr, .int .u64 a2Old, .int .u64 a2V] 33)) w.heap.size 0 ⟨a1What, a1Thread, a1Addr, a1Old, a1V⟩ := ⟨by simp, by simp, by simp, by simp, by simp⟩
  have hsz : (w.alloc (.cells #[.int .u8 a1What, .int .i64 a1Thread, .int .i64 a1Addr, .int .u64 a1Old, .int .u64 a1V] 33)).heap.size = w.heap.size + 1 := by simp
  have DY : D5 ((w.alloc (.cells #[.int .u8 a1What, .int .i64 a1Thread, .int .i64 a1Addr, .int .u64 a1Old, .int .u64 a1V] 33)).alloc (.cells #[.int .u8 a2What, .int .i64 a2Thread, .int .i64 a2Addr, .int .u64 a2Old, .int .u64 a2V] 33)) (w.heap.size + 1) 0 ⟨a2What, a2Thread, a2Addr, a2Old, a2V⟩ := by
    rw [← hsz]; exact ⟨by simp, by simp, by simp, by simp, by simp⟩
  have FY : ((w.alloc (.cells #[.int .u8 a1What, .int .i64 a1Thread, .int .i64 a1Addr, .int .u64 a1Old, .int .u64 a1V] 33)).alloc (.cells #[.int .u8 a2What, .int .i64 a2Thread, .int .i64 a2Addr, .int .u64 a2Old, .int .u64 a2V] 33)).frozen? ⟨w.heap.size + 1, 2, none⟩ = false := by
    rw [← hsz]; simp
  have hsz2 : ((w.alloc (.cells #[.int .u8 a1What, .int .i64 a1Thread, .int .i64 a1Addr, .int .u64 a1Old, .int .u64 a1V] 33)).alloc (.cells #[.int .u8 a2What, .int .i64 a2Thread, .int .i64 a2Addr, .int .u64 a2Old, .int .u64 a2V] 33)).heap.size = w.heap.size + 2 := by simp
  generalize (w.alloc (.cells #[.int .u8 a1What, .int .i64 a1Thread, .int .i64 a1Addr, .int .u64 a1Old, .int .u64 a1V] 33)).alloc (.cells #[.int .u8 a2What, .int .i64 a2Thread, .int .i64 a2Addr, .int .u64 a2Old, .int .u64 a2V] 33) = w1 at *
  have x0 := DX.c0
  have x1 := DX.c1
  have x2 := DX.c2
  have x3 := DX.c3
  have x4 := DX.c4
  have y0 := DY.c0
  have y1 := DY.c1
  have y2 := DY.c2
  have y3 := DY.c3
  have y4 := DY.c4
  simp only [Nat.zero_add] at x1 x2 x3 x4 y1 y2 y3 y4
  clear hsz
  by_cases heq : a1Addr % (a0n : Int) = a2Addr % (a0n : Int)
  · have e1 : (a1Addr % (a0n : Int) == a2Addr % (a0n : Int)) = true := by simp [heq]
    have hne := next_mod a1Addr p0
    have hmod0 := Int.emod_nonneg a1Addr (show (a0n : Int) ≠ 0 by omega)
    have hmod1 := Int.emod_lt_of_pos a1Addr (show (0 : Int) < a0n by omega)
    clear heq
    go_quiet ((go_at_call 29; first | (with_reducible exact qL (CW1.out _)) | (with_reducible exact qA (CW1.out _)) | (with_reducible exact qL (CW2.out _)) | (with_reducible exact qA (CW2.out _))))
    go_wp2_with fail
    refine (CW1.out _).mono ?_
    rintro r w2 ⟨rfl, rfl⟩
    have hwr : wrap64 (a1Addr % (a0n : Int) + 1) = a1Addr % (a0n : Int) + 1 := IntWalk.wrap64_in _ (by omega)
    have yl : -9223372036854775808 ≤ wrap64 (a1Addr % (a0n : Int) + 1) := by rw [hwr]; omega
    have yh : wrap64 (a1Addr % (a0n : Int) + 1) ≤ 9223372036854775807 := by rw [hwr]; omega
    have HCOMM := Lib.hid (comm_run a0v ⟨a1What, a1Thread, a1Addr, a1Old, a1V⟩ ⟨a2What, a2Thread, wrap64 (a1Addr % (a0n : Int) + 1), a2Old, a2V⟩ (by omega) (by rw [a0e]; show _ ≠ wrap64 (a1Addr % (a0n : Int) + 1) % (a0n : Int); rw [hwr]; exact fun h => hne h.symm))
    clear hne hmod0 hmod1 hwr
    go_wp2_with fail
    generalize wrap64 (a1Addr % (a0n : Int) + 1) = YA at *
    have y2' : (w1.drewN nq).cell? ⟨w.heap.size + 1, 2, none⟩ = some (.int .i64 a2Addr) := y2
    have BW1 : Below w.heap.size w ((w1.drewN nq).setCell ⟨w.heap.size + 1, 2, none⟩ (.int .i64 YA)) := (below_drewN BX nq).setCell (by show _ ≤ w.heap.size + 1; omega) _
    have DXX : D5 ((w1.drewN nq).setCell ⟨w.heap.size + 1, 2, none⟩ (.int .i64 YA)) w.heap.size 0 ⟨a1What, a1Thread, a1Addr, a1Old, a1V⟩ := (DX.drewN nq).keep (Go.heap_setCell_other _ _ _ _ (by show w.heap.size ≠ w.heap.size + 1; omega))
    have DYY : D5 ((w1.drewN nq).setCell ⟨w.heap.size + 1, 2, none⟩ (.int .i64 YA)) (w.heap.size + 1) 0 ⟨a2What, a2Thread, YA, a2Old, a2V⟩ := ⟨by rw [World.cell?_setCell_other _ _ _ _ (by simp)]; exact y0, by rw [World.cell?_setCell_other _ _ _ _ (by simp)]; exact y1, World.cell?_setCell_same _ _ _ y2', by rw [World.cell?_setCell_other _ _ _ _ (by simp)]; exact y3, by rw [World.cell?_setCell_other _ _ _ _ (by simp)]; exact y4⟩
    have hszW : ((w1.drewN nq).setCell ⟨w.heap.size + 1, 2, none⟩ (.int .i64 YA)).heap.size = w.heap.size + 2 := by simp; exact hsz2
    clear y2'
    clear x0 x1 x2 x3 x4 y0 y1 y2 y3 y4 DX DY FY BX hsz2
    generalize (w1.drewN nq).setCell ⟨w.heap.size + 1, 2, none⟩ (.int .i64 YA) = W1 at *
    have hbx : BdD1 ⟨a1What, a1Thread, a1Addr, a1Old, a1V⟩ := ⟨a1Whatl, a1Whath, a1Threadl, a1Threadh, a1Addrl, a1Addrh, a1Oldl, a1Oldh, a1Vl, a1Vh⟩
    have hby : BdD1 ⟨a2What, a2Thread, YA, a2Old, a2V⟩ := ⟨a2Whatl, a2Whath, a2Threadl, a2Threadh, yl, yh, a2Oldl, a2Oldh, a2Vl, a2Vh⟩
    have HBD := Lib.hid (show BdD [⟨a1What, a1Thread, a1Addr, a1Old, a1V⟩, ⟨a2What, a2Thread, YA, a2Old, a2V⟩] from bd_two hbx hby)
    have HBD2 := Lib.hid (show BdD [⟨a2What, a2Thread, YA, a2Old, a2V⟩, ⟨a1What, a1Thread, a1Addr, a1Old, a1V⟩] from bd_two hby hbx)
    have HL1 := Lib.hid (run_good a0v (by omega) [⟨a1What, a1Thread, a1Addr, a1Old, a1V⟩, ⟨a2What, a2Thread, YA, a2Old, a2V⟩])
    have HL2 := Lib.hid (run_good a0v (by omega) [⟨a2What, a2Thread, YA, a2Old, a2V⟩, ⟨a1What, a1Thread, a1Addr, a1Old, a1V⟩])
    have HW := Lib.hid (bdU_bdW a0b)
    clear hbx hby a0b
    have HRW := Lib.hid (a0r.below BW1)
    have HBW1 := Lib.hid BW1
    clear hszW
    have RUN1 := fun W (b : Below W1.heap.size W1 W) A2 (rd : RdD W A2 [⟨a1What, a1Thread, a1Addr, a1Old, a1V⟩, ⟨a2What, a2Thread, YA, a2Old, a2V⟩]) => Lib.hid (run_any a0 a0n a0c a0v A2 2 2 _ W a0e (by omega) p1 (HRW.out.below b) a0z HW.out rfl (by omega) rd HBD.out)
    have RUN2 := fun W (b : Below W1.heap.size W1 W) A2 (rd : RdD W A2 [⟨a2What, a2Thread, YA, a2Old, a2V⟩, ⟨a1What, a1Thread, a1Addr, a1Old, a1V⟩]) => Lib.hid (run_any a0 a0n a0c a0v A2 2 2 _ W a0e (by omega) p1 (HRW.out.below b) a0z HW.out rfl (by omega) rd HBD2.out)
    obtain ⟨M1, hM1⟩ : ∃ M, runM a0v [⟨a1What, a1Thread, a1Addr, a1Old, a1V⟩, ⟨a2What, a2Thread, YA, a2Old, a2V⟩] = M := ⟨_, rfl⟩
    obtain ⟨M2, hM2⟩ : ∃ M, runM a0v [⟨a2What, a2Thread, YA, a2Old, a2V⟩, ⟨a1What, a1Thread, a1Addr, a1Old, a1V⟩] = M := ⟨_, rfl⟩
    have l1 := HL1.out
    have l2 := HL2.out
    have hcomm := HCOMM.out
    rw [hM1] at RUN1 l1 hcomm
    rw [hM2] at RUN2 l2 hcomm
    obtain ⟨hcw, hcl, hcs⟩ := hcomm
    have tl : ((M1.L.length : Int) != M2.L.length) = false := by simp [hcl]
    clear hcl
    have HCW := Lib.hid hcw
    have HCS := Lib.hid hcs
    have x0 := DXX.c0
    have x1 := DXX.c1
    have x2 := DXX.c2
    have x3 := DXX.c3
    have x4 := DXX.c4
    have y0 := DYY.c0
    have y1 := DYY.c1
    have y2 := DYY.c2
    have y3 := DYY.c3
    have y4 := DYY.c4
    simp only [Nat.zero_add] at x1 x2 x3 x4 y1 y2 y3 y4
    have DXH := Lib.hid DXX
    have DYH := Lib.hid DYY
    clear hcw hcs hM1 hM2 DXX DYY BW1
    have S0 := Lib.hid (show W1.drew.cell? ⟨w.heap.size, 0, none⟩ = some (.int .u8 a1What) ∧ W1.drew.cell? ⟨w.heap.size, 1, none⟩ = some (.int .i64 a1Thread) ∧ W1.drew.cell? ⟨w.heap.size, 2, none⟩ = some (.int .i64 a1Addr) ∧ W1.drew.cell? ⟨w.heap.size, 3, none⟩ = some (.int .u64 a1Old) ∧ W1.drew.cell? ⟨w.heap.size, 4, none⟩ = some (.int .u64 a1V) ∧ W1.drew.cell? ⟨w.heap.size + 1, 0, none⟩ = some (.int .u8 a2What) ∧ W1.drew.cell? ⟨w.heap.size + 1, 1, none⟩ = some (.int .i64 a2Thread) ∧ W1.drew.cell? ⟨w.heap.size + 1, 2, none⟩ = some (.int .i64 YA) ∧ W1.drew.cell? ⟨w.heap.size + 1, 3, none⟩ = some (.int .u64 a2Old) ∧ W1.drew.cell? ⟨w.heap.size + 1, 4, none⟩ = some (.int .u64 a2V) from ⟨x0, x1, x2, x3, x4, y0, y1, y2, y3, y4⟩)
    go_wp2_with fail
    go_cut [7, 8] from 37 to 46 (fun s7 s8 wc => ∃ b1 p1' q1 b2 p2 q2, s7 = .pointer (some ⟨b1, 0, none⟩) ∧ s8 = .pointer (some ⟨b2, 0, none⟩) ∧ At 75 wc b1 p1' q1 M1 ∧ At 75 wc b2 p2 q2 M2 ∧ Below w.heap.size w wc)
    case first =>
      go_region_held3 (fun w' => w'.cell? ⟨w.heap.size, 0, none⟩ = some (.int .u8 a1What) ∧ w'.cell? ⟨w.heap.size, 1, none⟩ = some (.int .i64 a1Thread) ∧ w'.cell? ⟨w.heap.size, 2, none⟩ = some (.int .i64 a1Addr) ∧ w'.cell? ⟨w.heap.size, 3, none⟩ = some (.int .u64 a1Old) ∧ w'.cell? ⟨w.heap.size, 4, none⟩ = some (.int .u64 a1V) ∧ w'.cell? ⟨w.heap.size + 1, 0, none⟩ = some (.int .u8 a2What) ∧ w'.cell? ⟨w.heap.size + 1, 1, none⟩ = some (.int .i64 a2Thread) ∧ w'.cell? ⟨w.heap.size + 1, 2, none⟩ = some (.int .i64 YA) ∧ w'.cell? ⟨w.heap.size + 1, 3, none⟩ = some (.int .u64 a2Old) ∧ w'.cell? ⟨w.heap.size + 1, 4, none⟩ = some (.int .u64 a2V)) (first | exact m0 | exact S0.out | go_keep) (first
        | (go_at_call 28; refine (RUN1 _ (by first | exact below_drewN (bel_alloc (Below.refl _ _) _) 1 | exact below_drewN (bel_alloc (bel_alloc (Below.refl _ _) _) _) 1) _ (by first | exact (rd_two W1 _ ⟨a1What, a1Thread, a1Addr, a1Old, a1V⟩ ⟨a2What, a2Thread, YA, a2Old, a2V⟩ rfl).drew' | exact rd_two_b W1 _ ⟨a1What, a1Thread, a1Addr, a1Old, a1V⟩ ⟨a2What, a2Thread, YA, a2Old, a2V⟩ rfl _ | exact rd_two_c W1 _ ⟨a1What, a1Thread, a1Addr, a1Old, a1V⟩ ⟨a2What, a2Thread, YA, a2Old, a2V⟩ _ (by simp))).out.mono ?_; rintro r w3 ⟨b1, p1', q1, rfl, hat1, hO1, b3⟩; have B3 := Lib.hid (bel_trans (W := W1) (by first | exact below_drewN (bel_alloc (Below.refl _ _) _) 1 | exact below_drewN (bel_alloc (bel_alloc (Below.refl _ _) _) _) 1) b3); have AT1 := Lib.hid hat1; have m0 := And.intro ((DXH.out.below' B3.out).1) (And.intro ((DXH.out.below' B3.out).2.1) (And.intro ((DXH.out.below' B3.out).2.2.1) (And.intro ((DXH.out.below' B3.out).2.2.2.1) (And.intro ((DXH.out.below' B3.out).2.2.2.2) (DYH.out.below' B3.out))))); clear hat1 hO1)
        | (go_at_call 28; refine (RUN2 _ (by first | exact B3.out | exact bel_alloc B3.out _) _ (by first | exact rd_two _ _ ⟨a2What, a2Thread, YA, a2Old, a2V⟩ ⟨a1What, a1Thread, a1Addr, a1Old, a1V⟩ rfl | exact (rd_two_c W1 _ ⟨a2What, a2Thread, YA, a2Old, a2V⟩ ⟨a1What, a1Thread, a1Addr, a1Old, a1V⟩ _ (by simp)).below b3 | exact (rd_two_b W1 _ ⟨a2What, a2Thread, YA, a2Old, a2V⟩ ⟨a1What, a1Thread, a1Addr, a1Old, a1V⟩ rfl _).below b3)).out.mono ?_; rintro r w4 ⟨b2, p2, q2, rfl, hat2, hO2, b4⟩; have B4 := Lib.hid (bel_trans (W := W1) (by first | exact B3.out | exact bel_alloc B3.out _) b4); have m0 := And.intro ((DXH.out.below' B4.out).1) (And.intro ((DXH.out.below' B4.out).2.1) (And.intro ((DXH.out.below' B4.out).2.2.1) (And.intro ((DXH.out.below' B4.out).2.2.2.1) (And.intro ((DXH.out.below' B4.out).2.2.2.2) (DYH.out.below' B4.out))))); have AT2 := Lib.hid hat2; have AT1b := Lib.hid (by first | exact AT1.out.below b4 | exact (AT1.out.below (bel_alloc (Below.refl _ _) _)).below b4); clear hat2 hO2))
      all_goals (go_wp2_with fail)
      all_goals (go_meet)
      all_goals (exact ⟨b1, p1', q1, b2, p2, q2, rfl, rfl, AT1b.out, AT2.out, HBW1.out.trans (B4.out.mono HBW1.out.size)⟩)
    case rest =>
      obtain ⟨b1, p1', q1, b2, p2, q2, rfl, rfl, at1, at2, bw4⟩ := hcut
      have AT1b := Lib.hid at1
      have AT2 := Lib.hid at2
      have BW4 := Lib.hid bw4
      clear at1 at2 bw4
      generalize wc = w4 at *
      have CL1 := log_any b1 p1' q1 M1 0 w4 AT1b.out (by have := l1.2; simp at this; omega)
      rw [from_zero] at CL1
      replace CL1 := Lib.hid CL1
      have L1m := l1.2
      have L2m := l2.2
      simp only [List.length_cons, List.length_nil] at L1m L2m
      have W1l : M1.W.length ≤ 300 := by rw [l1.1.len, a0e]; exact p1
      have W2l : M2.W.length ≤ 300 := by rw [l2.1.len, a0e]; exact p1
      clear RUN1 RUN2 HBD HBD2 l1 l2 S0
      go_wp2_with fail
      refine CL1.out.mono ?_
      rintro r w5 ⟨⟨v, rfl, ho⟩, b5⟩
      obtain ⟨_, A5, c5, rfl, _, rd5, _⟩ := rowA ho
      have RD5 := Lib.hid rd5
      have AT15 := Lib.hid (AT1b.out.below b5)
      have AT25 := Lib.hid (AT2.out.below b5)
      have BW5 := Lib.hid (BW4.out.trans (b5.mono BW4.out.size))
      have CL2 := log_any b2 p2 q2 M2 0 w5 AT25.out (by omega)
      rw [from_zero] at CL2
      replace CL2 := Lib.hid CL2
      clear CL1 b5 rd5 ho AT1b AT2 BW4
      go_wp2_with fail
      refine CL2.out.mono ?_
      rintro r w6 ⟨⟨v, rfl, ho⟩, b6⟩
      obtain ⟨_, A6', c6, rfl, _, rd6, _⟩ := rowA ho
      have RD6 := Lib.hid rd6
      have RD56 := Lib.hid (RD5.out.below b6)
      have AT16 := Lib.hid (AT15.out.below b6)
      have AT26 := Lib.hid (AT25.out.below b6)
      have BW6 := Lib.hid (BW5.out.trans (b6.mono BW5.out.size))
      have CWA := Lib.hid (words_any b1 p1' q1 M1 w6 AT16.out)
      clear CL2 b6 rd6 ho AT15 AT25 BW5 RD5
      go_wp2_with fail
      refine CWA.out.mono ?_
      rintro r w7 ⟨⟨v, rfl, ho⟩, b7⟩
      obtain ⟨_, A7, c7, rfl, rd7⟩ := Dm.row_rd ho
      have RD7 := Lib.hid rd7
      have AT27 := Lib.hid (AT26.out.below b7)
      have CWB := Lib.hid (words_any b2 p2 q2 M2 w7 AT27.out)
      have B67 := Lib.hid b7
      have BW7 := Lib.hid (BW6.out.trans (b7.mono BW6.out.size))
      clear CWA b7 rd7 ho AT16 AT26
      go_wp2_with fail
      refine CWB.out.mono ?_
      rintro r w8 ⟨⟨v, rfl, ho⟩, b8⟩
      obtain ⟨_, A8, c8, rfl, rd8⟩ := Dm.row_rd ho
      have CQ := equ_any A7 A8 M1.W.length c7 M2.W.length c8 M1.W M2.W w8 rfl rfl (by omega) (by omega) (RD7.out.below b8) rd8
      rw [decide_eq_true HCW.out] at CQ
      replace CQ := Lib.hid CQ
      have B68 := Lib.hid (bel_trans B67.out b8)
      have BW8 := Lib.hid (BW7.out.trans (b8.mono BW7.out.size))
      clear CWB b8 rd8 ho RD7 AT27 B67 BW7
      go_wp2_with fail
      refine CQ.out.mono ?_
      rintro r w9 ⟨rfl, b9⟩
      have B69 := bel_trans B68.out b9
      have BW9 := Lib.hid (BW8.out.trans (b9.mono BW8.out.size))
      have R5 := RD56.out.below B69
      have R6 := RD6.out.below B69
      clear CQ b9 B69 B68 BW8
      rcases HCS.out with hs | ⟨X, Y, hX, hY⟩
      · have t2' : decide ((M1.L.length : Int) < 2) = true := decide_eq_true (by omega)
        clear R5 R6
        go_wp2
        go_quiet (fail)
        go_wp2
        go_ret
        first | exact ⟨rfl, BW9.out⟩ | exact ⟨rfl, below_drewN BW9.out _⟩
      · have t2' : decide ((M1.L.length : Int) < 2) = false := decide_eq_false (by rw [hX]; simp)
        obtain ⟨g5, o5, e5, d5⟩ := R5 0 X (by rw [hX]; rfl)
        obtain ⟨_, _, e5', d5'⟩ := R5 1 Y (by rw [hX]; rfl)
        obtain ⟨g6, o6, e6, d6⟩ := R6 0 Y (by rw [hY]; rfl)
        obtain ⟨_, _, e6', d6'⟩ := R6 1 X (by rw [hY]; rfl)
        subst e5 e6
        cases e5'
        cases e6'
        have hl1 : M1.L.length = 2 := by rw [hX]; rfl
        have hl2 : M2.L.length = 2 := by rw [hY]; rfl
        have EX := fun W => eqA X X W
        have EY := fun W => eqA Y Y W
        rw [decide_eq_true rfl] at EX EY
        obtain ⟨k0, k1, k2, k3, k4, k5⟩ := d5
        obtain ⟨k0', k1', k2', k3', k4', k5'⟩ := d5'
        obtain ⟨j0, j1, j2, j3, j4, j5⟩ := d6
        obtain ⟨j0', j1', j2', j3', j4', j5'⟩ := d6'
        simp only [Nat.zero_mul, Nat.add_zero, Nat.one_mul] at k0 k1 k2 k3 k4 k5 k0' k1' k2' k3' k4' k5' j0 j1 j2 j3 j4 j5 j0' j1' j2' j3' j4' j5'
        clear R5 R6 hX hY
        go_wp2
        go_quiet (fail)
        go_wp2
        go_ret
        first | exact ⟨rfl, BW9.out⟩ | exact ⟨rfl, below_drewN BW9.out _⟩
  · have e1 : (a1Addr % (a0n : Int) == a2Addr % (a0n : Int)) = false := by simp [heq]
    have HCOMM := Lib.hid (comm_run a0v ⟨a1What, a1Thread, a1Addr, a1Old, a1V⟩ ⟨a2What, a2Thread, a2Addr, a2Old, a2V⟩ (by omega) (by rw [a0e]; exact heq))
    clear heq
    go_quiet ((go_at_call 29; first | (with_reducible exact qL (CW1.out _)) | (with_reducible exact qA (CW1.out _)) | (with_reducible exact qL (CW2.out _)) | (with_reducible exact qA (CW2.out _))))
    have BW1 := below_drewN BX nq
    have DXX := DX.drewN nq
    have DYY := DY.drewN nq
    have hszW : (w1.drewN nq).heap.size = w.heap.size + 2 := hsz2
    clear x0 x1 x2 x3 x4 y0 y1 y2 y3 y4 DX DY FY BX hsz2
    generalize w1.drewN nq = W1 at *
    have hbx : BdD1 ⟨a1What, a1Thread, a1Addr, a1Old, a1V⟩ := ⟨a1Whatl, a1Whath, a1Threadl, a1Threadh, a1Addrl, a1Addrh, a1Oldl, a1Oldh, a1Vl, a1Vh⟩
    have hby : BdD1 ⟨a2What, a2Thread, a2Addr, a2Old, a2V⟩ := ⟨a2Whatl, a2Whath, a2Threadl, a2Threadh, a2Addrl, a2Addrh, a2Oldl, a2Oldh, a2Vl, a2Vh⟩
    have HBD := Lib.hid (show BdD [⟨a1What, a1Thread, a1Addr, a1Old, a1V⟩, ⟨a2What, a2Thread, a2Addr, a2Old, a2V⟩] from bd_two hbx hby)
    have HBD2 := Lib.hid (show BdD [⟨a2What, a2Thread, a2Addr, a2Old, a2V⟩, ⟨a1What, a1Thread, a1Addr, a1Old, a1V⟩] from bd_two hby hbx)
    have HL1 := Lib.hid (run_good a0v (by omega) [⟨a1What, a1Thread, a1Addr, a1Old, a1V⟩, ⟨a2What, a2Thread, a2Addr, a2Old, a2V⟩])
    have HL2 := Lib.hid (run_good a0v (by omega) [⟨a2What, a2Thread, a2Addr, a2Old, a2V⟩, ⟨a1What, a1Thread, a1Addr, a1Old, a1V⟩])
    have HW := Lib.hid (bdU_bdW a0b)
    clear hbx hby a0b
    have HRW := Lib.hid (a0r.below BW1)
    have HBW1 := Lib.hid BW1
    clear hszW
    have RUN1 := fun W (b : Below W1.heap.size W1 W) A2 (rd : RdD W A2 [⟨a1What, a1Thread, a1Addr, a1Old, a1V⟩, ⟨a2What, a2Thread, a2Addr, a2Old, a2V⟩]) => Lib.hid (run_any a0 a0n a0c a0v A2 2 2 _ W a0e (by omega) p1 (HRW.out.below b) a0z HW.out rfl (by omega) rd HBD.out)
    have RUN2 := fun W (b : Below W1.heap.size W1 W) A2 (rd : RdD W A2 [⟨a2What, a2Thread, a2Addr, a2Old, a2V⟩, ⟨a1What, a1Thread, a1Addr, a1Old, a1V⟩]) => Lib.hid (run_any a0 a0n a0c a0v A2 2 2 _ W a0e (by omega) p1 (HRW.out.below b) a0z HW.out rfl (by omega) rd HBD2.out)
    obtain ⟨M1, hM1⟩ : ∃ M, runM a0v [⟨a1What, a1Thread, a1Addr, a1Old, a1V⟩, ⟨a2What, a2Thread, a2Addr, a2Old, a2V⟩] = M := ⟨_, rfl⟩
    obtain ⟨M2, hM2⟩ : ∃ M, runM a0v [⟨a2What, a2Thread, a2Addr, a2Old, a2V⟩, ⟨a1What, a1Thread, a1Addr, a1Old, a1V⟩] = M := ⟨_, rfl⟩
    have l1 := HL1.out
    have l2 := HL2.out
    have hcomm := HCOMM.out
    rw [hM1] at RUN1 l1 hcomm
    rw [hM2] at RUN2 l2 hcomm
    obtain ⟨hcw, hcl, hcs⟩ := hcomm
    have tl : ((M1.L.length : Int) != M2.L.length) = false := by simp [hcl]
    clear hcl
    have HCW := Lib.hid hcw
    have HCS := Lib.hid hcs
    have x0 := DXX.c0
    have x1 := DXX.c1
    have x2 := DXX.c2
    have x3 := DXX.c3
    have x4 := DXX.c4
    have y0 := DYY.c0
    have y1 := DYY.c1
    have y2 := DYY.c2
    have y3 := DYY.c3
    have y4 := DYY.c4
    simp only [Nat.zero_add] at x1 x2 x3 x4 y1 y2 y3 y4
    have DXH := Lib.hid DXX
    have DYH := Lib.hid DYY
    clear hcw hcs hM1 hM2 DXX DYY BW1
    have S0 := Lib.hid (show W1.drew.cell? ⟨w.heap.size, 0, none⟩ = some (.int .u8 a1What) ∧ W1.drew.cell? ⟨w.heap.size, 1, none⟩ = some (.int .i64 a1Thread) ∧ W1.drew.cell? ⟨w.heap.size, 2, none⟩ = some (.int .i64 a1Addr) ∧ W1.drew.cell? ⟨w.heap.size, 3, none⟩ = some (.int .u64 a1Old) ∧ W1.drew.cell? ⟨w.heap.size, 4, none⟩ = some (.int .u64 a1V) ∧ W1.drew.cell? ⟨w.heap.size + 1, 0, none⟩ = some (.int .u8 a2What) ∧ W1.drew.cell? ⟨w.heap.size + 1, 1, none⟩ = some (.int .i64 a2Thread) ∧ W1.drew.cell? ⟨w.heap.size + 1, 2, none⟩ = some (.int .i64 a2Addr) ∧ W1.drew.cell? ⟨w.heap.size + 1, 3, none⟩ = some (.int .u64 a2Old) ∧ W1.drew.cell? ⟨w.heap.size + 1, 4, none⟩ = some (.int .u64 a2V) from ⟨x0, x1, x2, x3, x4, y0, y1, y2, y3, y4⟩)
    go_wp2_with fail
    go_cut [7, 8] from 37 to 46 (fun s7 s8 wc => ∃ b1 p1' q1 b2 p2 q2, s7 = .pointer (some ⟨b1, 0, none⟩) ∧ s8 = .pointer (some ⟨b2, 0, none⟩) ∧ At 75 wc b1 p1' q1 M1 ∧ At 75 wc b2 p2 q2 M2 ∧ Below w.heap.size w wc)
    case first =>
      go_region_held3 (fun w' => w'.cell? ⟨w.heap.size, 0, none⟩ = some (.int .u8 a1What) ∧ w'.cell? ⟨w.heap.size, 1, none⟩ = some (.int .i64 a1Thread) ∧ w'.cell? ⟨w.heap.size, 2, none⟩ = some (.int .i64 a1Addr) ∧ w'.cell? ⟨w.heap.size, 3, none⟩ = some (.int .u64 a1Old) ∧ w'.cell? ⟨w.heap.size, 4, none⟩ = some (.int .u64 a1V) ∧ w'.cell? ⟨w.heap.size + 1, 0, none⟩ = some (.int .u8 a2What) ∧ w'.cell? ⟨w.heap.size + 1, 1, none⟩ = some (.int .i64 a2Thread) ∧ w'.cell? ⟨w.heap.size + 1, 2, none⟩ = some (.int .i64 a2Addr) ∧ w'.cell? ⟨w.heap.size + 1, 3, none⟩ = some (.int .u64 a2Old) ∧ w'.cell? ⟨w.heap.size + 1, 4, none⟩ = some (.int .u64 a2V)) (first | exact m0 | exact S0.out | go_keep) (first
        | (go_at_call 28; refine (RUN1 _ (by first | exact below_drewN (bel_alloc (Below.refl _ _) _) 1 | exact below_drewN (bel_alloc (bel_alloc (Below.refl _ _) _) _) 1) _ (by first | exact (rd_two W1 _ ⟨a1What, a1Thread, a1Addr, a1Old, a1V⟩ ⟨a2What, a2Thread, a2Addr, a2Old, a2V⟩ rfl).drew' | exact rd_two_b W1 _ ⟨a1What, a1Thread, a1Addr, a1Old, a1V⟩ ⟨a2What, a2Thread, a2Addr, a2Old, a2V⟩ rfl _ | exact rd_two_c W1 _ ⟨a1What, a1Thread, a1Addr, a1Old, a1V⟩ ⟨a2What, a2Thread, a2Addr, a2Old, a2V⟩ _ (by simp))).out.mono ?_; rintro r w3 ⟨b1, p1', q1, rfl, hat1, hO1, b3⟩; have B3 := Lib.hid (bel_trans (W := W1) (by first | exact below_drewN (bel_alloc (Below.refl _ _) _) 1 | exact below_drewN (bel_alloc (bel_alloc (Below.refl _ _) _) _) 1) b3); have AT1 := Lib.hid hat1; have m0 := And.intro ((DXH.out.below' B3.out).1) (And.intro ((DXH.out.below' B3.out).2.1) (And.intro ((DXH.out.below' B3.out).2.2.1) (And.intro ((DXH.out.below' B3.out).2.2.2.1) (And.intro ((DXH.out.below' B3.out).2.2.2.2) (DYH.out.below' B3.out))))); clear hat1 hO1)
        | (go_at_call 28; refine (RUN2 _ (by first | exact B3.out | exact bel_alloc B3.out _) _ (by first | exact rd_two _ _ ⟨a2What, a2Thread, a2Addr, a2Old, a2V⟩ ⟨a1What, a1Thread, a1Addr, a1Old, a1V⟩ rfl | exact (rd_two_c W1 _ ⟨a2What, a2Thread, a2Addr, a2Old, a2V⟩ ⟨a1What, a1Thread, a1Addr, a1Old, a1V⟩ _ (by simp)).below b3 | exact (rd_two_b W1 _ ⟨a2What, a2Thread, a2Addr, a2Old, a2V⟩ ⟨a1What, a1Thread, a1Addr, a1Old, a1V⟩ rfl _).below b3)).out.mono ?_; rintro r w4 ⟨b2, p2, q2, rfl, hat2, hO2, b4⟩; have B4 := Lib.hid (bel_trans (W := W1) (by first | exact B3.out | exact bel_alloc B3.out _) b4); have m0 := And.intro ((DXH.out.below' B4.out).1) (And.intro ((DXH.out.below' B4.out).2.1) (And.intro ((DXH.out.below' B4.out).2.2.1) (And.intro ((DXH.out.below' B4.out).2.2.2.1) (And.intro ((DXH.out.below' B4.out).2.2.2.2) (DYH.out.below' B4.out))))); have AT2 := Lib.hid hat2; have AT1b := Lib.hid (by first | exact AT1.out.below b4 | exact (AT1.out.below (bel_alloc (Below.refl _ _) _)).below b4); clear hat2 hO2))
      all_goals (go_wp2_with fail)
      all_goals (go_meet)
      all_goals (exact ⟨b1, p1', q1, b2, p2, q2, rfl, rfl, AT1b.out, AT2.out, HBW1.out.trans (B4.out.mono HBW1.out.size)⟩)
    case rest =>
      obtain ⟨b1, p1', q1, b2, p2, q2, rfl, rfl, at1, at2, bw4⟩ := hcut
      have AT1b := Lib.hid at1
      have AT2 := Lib.hid at2
      have BW4 := Lib.hid bw4
      clear at1 at2 bw4
      generalize wc = w4 at *
      have CL1 := log_any b1 p1' q1 M1 0 w4 AT1b.out (by have := l1.2; simp at this; omega)
      rw [from_zero] at CL1
      replace CL1 := Lib.hid CL1
      have L1m := l1.2
      have L2m := l2.2
      simp only [List.length_cons, List.length_nil] at L1m L2m
      have W1l : M1.W.length ≤ 300 := by rw [l1.1.len, a0e]; exact p1
      have W2l : M2.W.length ≤ 300 := by rw [l2.1.len, a0e]; exact p1
      clear RUN1 RUN2 HBD HBD2 l1 l2 S0
      go_wp2_with fail
      refine CL1.out.mono ?_
      rintro r w5 ⟨⟨v, rfl, ho⟩, b5⟩
      obtain ⟨_, A5, c5, rfl, _, rd5, _⟩ := rowA ho
      have RD5 := Lib.hid rd5
      have AT15 := Lib.hid (AT1b.out.below b5)
      have AT25 := Lib.hid (AT2.out.below b5)
      have BW5 := Lib.hid (BW4.out.trans (b5.mono BW4.out.size))
      have CL2 := log_any b2 p2 q2 M2 0 w5 AT25.out (by omega)
      rw [from_zero] at CL2
      replace CL2 := Lib.hid CL2
      clear CL1 b5 rd5 ho AT1b AT2 BW4
      go_wp2_with fail
      refine CL2.out.mono ?_
      rintro r w6 ⟨⟨v, rfl, ho⟩, b6⟩
      obtain ⟨_, A6', c6, rfl, _, rd6, _⟩ := rowA ho
      have RD6 := Lib.hid rd6
      have RD56 := Lib.hid (RD5.out.below b6)
      have AT16 := Lib.hid (AT15.out.below b6)
      have AT26 := Lib.hid (AT25.out.below b6)
      have BW6 := Lib.hid (BW5.out.trans (b6.mono BW5.out.size))
      have CWA := Lib.hid (words_any b1 p1' q1 M1 w6 AT16.out)
      clear CL2 b6 rd6 ho AT15 AT25 BW5 RD5
      go_wp2_with fail
      refine CWA.out.mono ?_
      rintro r w7 ⟨⟨v, rfl, ho⟩, b7⟩
      obtain ⟨_, A7, c7, rfl, rd7⟩ := Dm.row_rd ho
      have RD7 := Lib.hid rd7
      have AT27 := Lib.hid (AT26.out.below b7)
      have CWB := Lib.hid (words_any b2 p2 q2 M2 w7 AT27.out)
      have B67 := Lib.hid b7
      have BW7 := Lib.hid (BW6.out.trans (b7.mono BW6.out.size))
      clear CWA b7 rd7 ho AT16 AT26
      go_wp2_with fail
      refine CWB.out.mono ?_
      rintro r w8 ⟨⟨v, rfl, ho⟩, b8⟩
      obtain ⟨_, A8, c8, rfl, rd8⟩ := Dm.row_rd ho
      have CQ := equ_any A7 A8 M1.W.length c7 M2.W.length c8 M1.W M2.W w8 rfl rfl (by omega) (by omega) (RD7.out.below b8) rd8
      rw [decide_eq_true HCW.out] at CQ
      replace CQ := Lib.hid CQ
      have B68 := Lib.hid (bel_trans B67.out b8)
      have BW8 := Lib.hid (BW7.out.trans (b8.mono BW7.out.size))
      clear CWB b8 rd8 ho RD7 AT27 B67 BW7
      go_wp2_with fail
      refine CQ.out.mono ?_
      rintro r w9 ⟨rfl, b9⟩
      have B69 := bel_trans B68.out b9
      have BW9 := Lib.hid (BW8.out.trans (b9.mono BW8.out.size))
      have R5 := RD56.out.below B69
      have R6 := RD6.out.below B69
      clear CQ b9 B69 B68 BW8
      rcases HCS.out with hs | ⟨X, Y, hX, hY⟩
      · have t2' : decide ((M1.L.length : Int) < 2) = true := decide_eq_true (by omega)
        clear R5 R6
        go_wp2
        go_quiet (fail)
        go_wp2
        go_ret
        first | exact ⟨rfl, BW9.out⟩ | exact ⟨rfl, below_drewN BW9.out _⟩
      · have t2' : decide ((M1.L.length : Int) < 2) = false := decide_eq_false (by rw [hX]; simp)
        obtain ⟨g5, o5, e5, d5⟩ := R5 0 X (by rw [hX]; rfl)
        obtain ⟨_, _, e5', d5'⟩ := R5 1 Y (by rw [hX]; rfl)
        obtain ⟨g6, o6, e6, d6⟩ := R6 0 Y (by rw [hY]; rfl)
        obtain ⟨_, _, e6', d6'⟩ := R6 1 X (by rw [hY]; rfl)
        subst e5 e6
        cases e5'
        cases e6'
        have hl1 : M1.L.length = 2 := by rw [hX]; rfl
        have hl2 : M2.L.length = 2 := by rw [hY]; rfl
        have EX := fun W => eqA X X W
        have EY := fun W => eqA Y Y W
        rw [decide_eq_true rfl] at EX EY
        obtain ⟨k0, k1, k2, k3, k4, k5⟩ := d5
        obtain ⟨k0', k1', k2', k3', k4', k5'⟩ := d5'
        obtain ⟨j0, j1, j2, j3, j4, j5⟩ := d6
        obtain ⟨j0', j1', j2', j3', j4', j5'⟩ := d6'
        simp only [Nat.zero_mul, Nat.add_zero, Nat.one_mul] at k0 k1 k2 k3 k4 k5 k0' k1' k2' k3' k4' k5' j0 j1 j2 j3 j4 j5 j0' j1' j2' j3' j4' j5'
        clear R5 R6 hX hY
        go_wp2
        go_quiet (fail)
        go_wp2
        go_ret
        first | exact ⟨rfl, BW9.out⟩ | exact ⟨rfl, below_drewN BW9.out _⟩
end Wk
end Go.Proofs.Ytpakolaegbccdaa
