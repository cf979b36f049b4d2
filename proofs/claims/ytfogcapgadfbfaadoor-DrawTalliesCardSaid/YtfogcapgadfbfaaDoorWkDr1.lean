/- The walks of the laws DrawHeights, DrawMany and DrawTallies, from the contracts of XDrw, XDrwH and XDrwT. Conditions: those of the contracts. -/
import Derived.Test.YtfogcapgadfbfaaDoorDrwT
import Derived.Laws.StructEq
namespace Go.Proofs.YtfogcapgadfbfaaDoor
open Go.RowKit Go.Sort
set_option linter.unusedVariables false
set_option linter.unusedSimpArgs false
namespace Dr
open Dm
/-- what Heights returns: the list, the error -/
def hL (s : Nat) (n : Int) : List Int := if n < 0 ∨ 1024 < n then [] else hgL s n.toNat
def hE (n : Int) : Int := if n < 0 then 2 else if 1024 < n then 5 else 0
theorem hL_len (s : Nat) (n : Int) : (hL s n).length ≤ 1024 := by
  unfold hL
  split
  · simp
  · rw [hgL_len]; omega
/-- the cells of a row that may be written -/
def Fr (w : World) (base : Nat) (A : Option Addr) (m : Nat) : Prop := ∀ k, k < m → ∃ g, A = some ⟨g, 0, none⟩ ∧ base ≤ g ∧ w.frozen? ⟨g, k, none⟩ = false
def HG (s : Nat) (n : Int) (w : World) (e : Ending) (w' : World) : Prop :=
  ∃ A c, e = .returned (.tuple #[.slice A (hL s n).length c, .int .i64 (hE n)]) ∧ RdK .i64 w' A (hL s n) ∧ Fr w' w.heap.size A (hL s n).length ∧ (hL s n).length ≤ c ∧ Below w.heap.size w w'
theorem own_free {w : World} {base n : Nat} {v : Value} {l : List Int} (h : w.ownsRow base 3 1 v n (flatI l)) : ∃ A c, v = .slice A l.length c ∧ RdK .i64 w A l ∧ Fr w base A l.length ∧ l.length ≤ c := by
  obtain ⟨hl, A, c, rfl, rd⟩ := row_rd h
  subst hl
  have hc : l.length ≤ c := by
    rcases h.2 with ⟨e, e2⟩ | ⟨g, cap, cur, e, hbase, hh, hnc, _⟩
    · injection e; omega
    · cases e; exact hnc
  refine ⟨A, c, rfl, rd, fun k hk => ?_, hc⟩
  rcases h.2 with ⟨e, e2⟩ | ⟨g, cap, cur, e, hbase, hh, hnc, _⟩
  · have : l = [] := by simpa [flatI] using e2
    subst this
    simp at hk
  · cases e
    exact ⟨g, rfl, hbase, h.frozenAt k⟩
theorem hpost_g {s : Nat} {n : Int} {w w' : World} {e : Ending} (h : HPost s n w e w') : HG s n w e w' := by
  unfold HPost at h
  unfold HG
  by_cases h0 : n < 0
  · rw [if_pos h0] at h
    obtain ⟨rfl, rfl⟩ := h
    have e1 : hL s n = [] := if_pos (.inl h0)
    have e2 : hE n = 2 := if_pos h0
    rw [e1, e2]
    exact ⟨none, 0, rfl, fun k hk => by simp at hk, fun k hk => by simp at hk, Nat.le_refl _, Below.refl _ _⟩
  rw [if_neg h0] at h
  by_cases h1 : 1024 < n
  · rw [if_pos h1] at h
    obtain ⟨rfl, rfl⟩ := h
    have e1 : hL s n = [] := if_pos (.inr h1)
    have e2 : hE n = 5 := by unfold hE; rw [if_neg h0, if_pos h1]
    rw [e1, e2]
    exact ⟨none, 0, rfl, fun k hk => by simp at hk, fun k hk => by simp at hk, Nat.le_refl _, Below.refl _ _⟩
  rw [if_neg h1] at h
  obtain ⟨⟨v, rfl, ow⟩, bel⟩ := h
  have e1 : hL s n = hgL s n.toNat := if_neg (by omega)
  have e2 : hE n = 0 := by unfold hE; rw [if_neg h0, if_neg h1]
  rw [e1, e2]
  obtain ⟨A, c, rfl, rd, fr, hc⟩ := own_free ow
  exact ⟨A, c, rfl, rd, fr, hc, bel⟩
theorem heights_g (s : Nat) (n : Int) (hs : s < M64) (nl : -9223372036854775808 ≤ n) (nh : n ≤ 9223372036854775807) (w : World) (hT : Tz w) :
    Calls Tryd.prog 14 #[.int .u64 s, .int .i64 n] w (HG s n w) := (heights_any s n hs nl nh w hT).mono fun _ _ h => hpost_g h
theorem heightsR_g (s : Nat) (n : Int) (hs : s < M64) (nl : -9223372036854775808 ≤ n) (nh : n ≤ 9223372036854775807) (w : World) :
    Calls Tryd.prog 15 #[.int .u64 s, .int .i64 n] w (HG s n w) := (heightsR_any s n hs nl nh w).mono fun _ _ h => hpost_g h
/-- while the first list is overwritten: its cells may be written, the other one stays -/
def MR (w : World) (A B : Option Addr) (L : List Int) (wr : World) : Prop :=
  (∀ k, k < L.length → ∃ ga gb, A = some ⟨ga, 0, none⟩ ∧ B = some ⟨gb, 0, none⟩ ∧ w.heap.size ≤ ga ∧ ga < gb ∧ wr.frozen? ⟨ga, k, none⟩ = false ∧ ∃ v, wr.cell? ⟨ga, k, none⟩ = some (.int .i64 v)) ∧ RdK .i64 wr B L ∧ Below w.heap.size w wr
theorem MR.start {w w1 w2 : World} {A B : Option Addr} {L : List Int} (r1 : RdK .i64 w1 A L) (f1 : Fr w1 w.heap.size A L.length) (b1 : Below w.heap.size w w1) (r2 : RdK .i64 w2 B L) (f2 : Fr w2 w1.heap.size B L.length) (b2 : Below w1.heap.size w1 w2) : MR w A B L w2 := by
  refine ⟨fun k hk => ?_, r2, bel_trans b1 b2⟩
  obtain ⟨ga, rfl, hga, fa⟩ := f1 k hk
  obtain ⟨gb, rfl, hgb, fb⟩ := f2 k hk
  obtain ⟨b, o, e, c⟩ := r1 k hk
  cases e
  rw [Nat.zero_add] at c
  have hlt := cell_lt c
  exact ⟨ga, gb, rfl, rfl, hga, by omega, (b2.frozen (p := ⟨ga, k, none⟩) hlt).trans fa, _, (b2.cell (p := ⟨ga, k, none⟩) hlt).trans c⟩
theorem MR.step {w wr : World} {ga : Nat} {B : Option Addr} {L : List Int} (h : MR w (some ⟨ga, 0, none⟩) B L wr) {j : Nat} (hj : j < L.length) (x : Int) : MR w (some ⟨ga, 0, none⟩) B L (wr.setCell ⟨ga, j, none⟩ (.int .i64 x)) := by
  obtain ⟨h1, h2, h3⟩ := h
  obtain ⟨_, gb, e, rfl, hga, hlt, fj, vj, cj⟩ := h1 j hj
  cases e
  refine ⟨fun k hk => ?_, fun k hk => ?_, h3.setCell (p := ⟨ga, j, none⟩) hga _⟩
  · obtain ⟨_, gb', e, e', _, _, f, v, c⟩ := h1 k hk
    cases e
    cases e'
    refine ⟨ga, gb, rfl, rfl, hga, hlt, by rw [World.frozen?_setCell]; exact f, ?_⟩
    by_cases ek : k = j
    · subst ek; exact ⟨x, World.cell?_setCell_same _ _ _ c⟩
    · exact ⟨v, by rw [World.cell?_setCell_other _ _ _ _ (fun e' => ek (by cases e'; rfl))]; exact c⟩
  · obtain ⟨b, o, e, c⟩ := h2 k hk
    cases e
    exact ⟨_, _, rfl, by rw [World.cell?_setCell_other _ _ _ _ (fun e' => by cases e'; omega)]; exact c⟩
theorem tlV_form (l : List Int) : ∃ q0 q1 q2 q3 q4 q5 E : Int, tlV l = .tuple #[.agg #[.int .i64 q0, .int .i64 q1, .int .i64 q2, .int .i64 q3, .int .i64 q4, .int .i64 q5], .int .i64 E] := by
  unfold tlV
  split <;> exact ⟨_, _, _, _, _, _, _, rfl⟩
/-- '==' of two values of [6]int -/
theorem eq6 (a0 a1 a2 a3 a4 a5 b0 b1 b2 b3 b4 b5 : Int) (w : World) : (Op.equalIn 10000 32 (.agg #[.int .i64 a0, .int .i64 a1, .int .i64 a2, .int .i64 a3, .int .i64 a4, .int .i64 a5]) (.agg #[.int .i64 b0, .int .i64 b1, .int .i64 b2, .int .i64 b3, .int .i64 b4, .int .i64 b5])).run Tryd.prog w = .ok (a0 == b0 && (a1 == b1 && (a2 == b2 && (a3 == b3 && (a4 == b4 && a5 == b5))))) w := by
  have u3 := Tryd.underlying3
  have a3' := Tryd.isAgg3
  have z3 := Tryd.sizeOf3
  rw [show (10000 : Nat) = 9999 + 1 from rfl, Op.equalIn]
  simp only [Sem.run_bind, run_underlying Tryd.underlying32, Result.andThen_ok]
  simp only [Std.Legacy.Range.forIn_eq_forIn_range', Std.Legacy.Range.size, Nat.sub_zero, Nat.add_sub_cancel, Nat.div_one, List.range'_succ, List.range'_zero, List.forIn_cons, List.forIn_nil]
  go_simp
  by_cases h0 : a0 = b0
  · by_cases h1 : a1 = b1
    · by_cases h2 : a2 = b2
      · by_cases h3 : a3 = b3
        · by_cases h4 : a4 = b4
          · by_cases h5 : a5 = b5 <;> simp [h0, h1, h2, h3, h4, h5]
          · simp [h0, h1, h2, h3, h4]
        · simp [h0, h1, h2, h3]
      · simp [h0, h1, h2]
    · simp [h0, h1]
  · simp [h0]
theorem guard6 : Tryd.prog.eqGuardType Tryd.prog.depth 32 = false := by kernel_rfl
end Dr
attribute [local go_sem] Dr.eq6 Dr.guard6
namespace Wk
open Dm Dr
theorem walk_drawHeights (a0 : Int) (a1 : Int) (w : World) (a0l : 0 ≤ a0) (a0h : a0 ≤ 18446744073709551615) (a1l : (-9223372036854775808) ≤ a1) (a1h : a1 ≤ 9223372036854775807) (hT : Dm.Tz w) :
    Calls Tryd.prog 3 #[.int .u64 a0, .int .i64 a1] w fun e w' => e = .returned (.bool true) ∧ Below w.heap.size w w' := by
  obtain ⟨s, rfl⟩ := Int.eq_ofNat_of_zero_le a0l
  have hs : s < M64 := by show s < 18446744073709551616; omega
  have C1 := Lib.hid (height_any s hs w hT)
  have C2 := Lib.hid (heightR_any s hs w)
  have C3 := Lib.hid (mix_any s a1 hs a1l a1h w)
  have C4 := Lib.hid (mixR_any s a1 hs a1l a1h w)
  clear hs hT
  go_enter Tryd.func3, Tryd.ntmps3
  go_wp2_with fail
  refine C1.out.mono ?_
  rintro r w1 ⟨rfl, rfl⟩
  go_wp2_with fail
  refine C2.out.mono ?_
  rintro r w1 ⟨rfl, rfl⟩
  go_wp2_with fail
  refine C3.out.mono ?_
  rintro r w1 ⟨rfl, rfl⟩
  go_wp2_with fail
  refine C4.out.mono ?_
  rintro r w1 ⟨rfl, rfl⟩
  go_wp2
  go_ret
  exact ⟨ret_eq (by simp), Below.refl _ _⟩
set_option maxHeartbeats 1000000 in
theorem walk_drawMany (a0 : Int) (a1 : Int) (w : World) (a0l : 0 ≤ a0) (a0h : a0 ≤ 18446744073709551615) (a1l : (-9223372036854775808) ≤ a1) (a1h : a1 ≤ 9223372036854775807) (hT : Dm.Tz w) :
    Calls Tryd.prog 4 #[.int .u64 a0, .int .i64 a1] w fun e w' => e = .returned (.bool true) ∧ Below w.heap.size w w' := by
  obtain ⟨s, rfl⟩ := Int.eq_ofNat_of_zero_le a0l
  have hs : s < M64 := by show s < 18446744073709551616; omega
  have HT := Lib.hid hT; clear hT
  have C1 := fun W h => Lib.hid (heights_g s a1 hs a1l a1h W h)
  have C2 := fun W => Lib.hid (heightsR_g s a1 hs a1l a1h W)
  have CS := fun A B c d w h1 h2 => Lib.hid (same_any A B _ c _ d (hL s a1) (hL s a1) w rfl rfl (by have := hL_len s a1; unfold maxLen; omega) (by have := hL_len s a1; unfold maxLen; omega) h1 h2)
  have hl := hL_len s a1
  unfold HG at C1 C2
  generalize hL s a1 = L at *
  generalize hE a1 = E at *
  have HLL := Lib.hid (show decide (L = L) = true from decide_eq_true rfl)
  clear hs
  go_enter Tryd.func4, Tryd.ntmps4
  go_wp2_with fail
  refine (C1 _ HT.out).out.mono ?_
  rintro r w1 ⟨A, c, rfl, r1, f1, _, b1⟩
  have R1 := Lib.hid r1; have F1 := Lib.hid f1; clear r1 f1
  go_wp2_with fail
  refine (C2 _).out.mono ?_
  rintro r w2 ⟨B, d, rfl, r2, f2, _, b2⟩
  have M0 := Lib.hid (MR.start R1.out F1.out b1 r2 f2 b2)
  have R2 := Lib.hid r2; clear r2 f2
  have bw2 := bel_trans b1 b2
  have R1' := Lib.hid (R1.out.below b2)
  go_wp2_with fail
  refine (CS _ _ _ _ _ R1'.out R2.out).out.mono ?_
  rw [HLL.out]
  rintro r w3 ⟨rfl, b3⟩
  have M3 := Lib.hid (show MR w A B L w3 from ⟨fun k hk => by
    obtain ⟨ga, gb, e1, e2, h1, h2, f, v, c⟩ := M0.out.1 k hk
    exact ⟨ga, gb, e1, e2, h1, h2, (b3.frozen (p := ⟨ga, k, none⟩) (cell_lt c)).trans f, v, (b3.cell (p := ⟨ga, k, none⟩) (cell_lt c)).trans c⟩, R2.out.below b3, bel_trans bw2 b3⟩)
  clear M0 R1 F1 R1' R2
  go_wp2
  have hli : (L.length : Int) ≤ 1024 := by omega
  generalize hm : L.length = m at *
  have HM := Lib.hid hm; clear hm
  go_loopw [9] (fun i wr => ∃ j : Nat, j ≤ m ∧ i = .int .i64 j ∧ MR w A B L wr) (fun i _ => (m - intOf i).toNat)
  case atStart => exact ⟨0, Nat.zero_le _, rfl, M3.out⟩
  case round =>
    clear M3
    obtain ⟨j, hj, rfl, hM⟩ := hrel
    by_cases hlt : j < m
    · have t0 : decide ((j : Int) < m) = true := decide_eq_true (by omega)
      obtain ⟨ga, gb, rfl, rfl, hga, hlt2, f0, v, c0⟩ := hM.1 j (by have := HM.out; omega)
      have HMM := Lib.hid hM; clear hM
      go_wp2
      go_roundw
      case rel => exact ⟨j + 1, by omega, by go_num, HMM.out.step (by have := HM.out; omega) 0⟩
      case measure => simp [intOf]; omega
    · obtain rfl : j = m := by omega
      have t0 : decide ((j : Int) < j) = false := decide_eq_false (by omega)
      have HMM := Lib.hid hM; clear hM
      have bwr := HMM.out.2.2
      go_wp2_with fail
      refine (C1 _ (HT.out.below bwr)).out.mono ?_
      rintro r w5 ⟨A5, c5, rfl, r5, f5, _, b5⟩
      have R5 := Lib.hid r5; clear r5 f5
      have HB := Lib.hid (HMM.out.2.1.below b5)
      go_wp2_with fail
      refine (CS _ _ _ _ _ R5.out HB.out).out.mono ?_
      rw [HLL.out]
      rintro r w6 ⟨rfl, b6⟩
      go_wp2
      go_ret
      exact ⟨ret_eq (by simp), bel_trans (bel_trans bwr b5) b6⟩
set_option maxHeartbeats 1000000 in
theorem walk_drawTallies (a0 : Option Addr) (a0n a0c : Nat) (a0v : List Int) (w : World) (a0e : a0v.length = a0n) (a0m : a0n ≤ maxLen) (a0r : Dm.RdK .i64 w a0 a0v) (a0b : Dm.BdI a0v) (a0z : a0 = none → a0c = 0) (hT : Dm.Tz w) :
    Calls Tryd.prog 5 #[.slice a0 a0n a0c] w fun e w' => e = .returned (.bool true) ∧ Below w.heap.size w w' := by
  have HT := Lib.hid hT; clear hT
  have HR := Lib.hid a0r; clear a0r
  by_cases hlong : 2000 < a0n
  · have t0 : decide (2000 < (a0n : Int)) = true := decide_eq_true (by omega)
    go_enter Tryd.func5, Tryd.ntmps5
    go_wp2_with fail
    refine (known_any _ HT.out).mono ?_
    rintro r w1 ⟨rfl, b1⟩
    go_wp2
    go_ret
    exact ⟨rfl, b1⟩
  · have t0 : decide (2000 < (a0n : Int)) = false := decide_eq_false (by omega)
    have C1 := fun W h => Lib.hid (tally_any a0 a0n a0c a0v W a0e a0m h a0b)
    have C2 := fun W h => Lib.hid (tallyR_any a0 a0n a0c a0v W a0e a0m h a0b)
    obtain ⟨q0, q1, q2, q3, q4, q5, E, hq⟩ := tlV_form a0v
    rw [hq] at C1 C2
    clear hq a0e
    go_enter Tryd.func5, Tryd.ntmps5
    go_wp2_with fail
    refine (C1 _ HR.out).out.mono ?_
    rintro r w1 ⟨rfl, b1⟩
    have b2 := bel_alloc b1 (.cells #[.int .i64 q0, .int .i64 q1, .int .i64 q2, .int .i64 q3, .int .i64 q4, .int .i64 q5] 32)
    have Y1 := ar_new w1 32 q0 q1 q2 q3 q4 q5 (fun k => if k = 0 then q0 else if k = 1 then q1 else if k = 2 then q2 else if k = 3 then q3 else if k = 4 then q4 else q5) rfl rfl rfl rfl rfl rfl
    have Y1 := Lib.hid Y1
    go_wp2_with fail
    refine (C2 _ (HR.out.below b2)).out.mono ?_
    rintro r w2 ⟨rfl, b3⟩
    have Y2 := Y1.out.below b3 (by simp)
    obtain ⟨e0, e1, e2, e3, e4, e5⟩ := Y2.cells
    simp at e0 e1 e2 e3 e4 e5
    have hsz : w1.heap.size < w2.heap.size := by have := b3.size; simp at this; omega
    clear Y1 Y2
    go_wp2
    go_ret
    exact ⟨ret_eq (by simp), bel_trans b2 (bel_alloc b3 _)⟩
end Wk
end Go.Proofs.YtfogcapgadfbfaaDoor
