/- The library's slices.Repeat of one int: contract of the translated code. Conditions: at most 65,536 copies. -/
import Derived.Test.YtnoggggbghkgkaaPkP
import Derived.Deep.RegionLaw
import Derived.IntWalk
namespace Go.Proofs.Ytnoggggbghkgkaa
open Go.RowKit Go.Sort Go.Lib
set_option linter.unusedVariables false
set_option linter.unusedSimpArgs false
namespace Pk
open Dm (RdK BdI bel_alloc bel_trans cell_lt flatI info info_parts row_rd app1 addr_lit)
theorem drop_row (g q i : Nat) (h1 : i < q) : ∀ w : World, (Instr.sliceAt 22 (.slice (some ⟨g, 0, none⟩) q q) (some (.int .i64 (i : Nat))) none none).run Try.prog w = .ok (.slice (some ⟨g, i, none⟩) (q - i) (q - i)) w := fun w => by
  have := drop_run g 0 q q i h1 (Nat.le_refl _) w
  rw [Nat.zero_add] at this
  exact this
theorem take_row (g q i : Nat) (h1 : i ≤ q) : ∀ w : World, (Instr.sliceAt 22 (.slice (some ⟨g, 0, none⟩) q q) none (some (.int .i64 (i : Nat))) none).run Try.prog w = .ok (.slice (some ⟨g, 0, none⟩) i q) w := fun w => by
  have u : Try.prog.underlying 22 = some (.slice (Try.prog.elem 22)) := by kernel_rfl
  have hmc : (i : Int) ≤ q := by omega
  simp [go_sem, Instr.sliceBounds, hmc, sliced]
theorem step_copyI {ops : Array Oper} {o : Oper} {a : Act} {w : World} {K : Act → World → Prop} {Q : Exit → Act → World → Prop} {E : Prop}
    (hg : o.guard = none) (d x : Operand) (hop : o.op = Op.call { callee := Callee.builtin Builtin.copy, args := #[d, x], argTypes := #[22, 22] })
    (v u : Value) (hd : a.eval d = v) (hx : a.eval x = u) {v' : Value} {w' : World} (hr : (Builtin.copy_ #[22, 22] o.type #[v, u]).run Try.prog w = .ok v' w') (hK : K (a.put o.dst v') w') :
    if Region.wanted o (yielded ops a.tmps) = true then Oper.wp Try.prog o a w K Q else E :=
  step_copy_runI (P := Try.prog) hg d x 22 22 hop v u hd hx hr hK
theorem rep_in (q k c : Nat) (p : Int) (hc : c ≤ k) (W : World) (g : Nat) (h : Blk W g (repL q p k)) : ∀ j v, (List.replicate c (Value.int .i64 p))[j]? = some v → W.cell? (Addr.add ⟨g, 0, none⟩ j) = some v := fun j v hj => by
  have hjc : j < c := by have := (List.getElem?_eq_some_iff.1 hj).1; simpa using this
  rw [addr_lit, Nat.zero_add, h.cell, rep_get (by omega)]
  rw [List.getElem?_replicate, if_pos hjc] at hj
  exact hj
theorem repeat_zero (b o cc : Nat) (w : World) :
    Calls Try.prog 47 #[.slice (some ⟨b, o, none⟩) 1 cc, .int .i64 0] w fun e w' => e = .returned (.slice (some ⟨w.heap.size, 0, none⟩) 0 0) ∧ w'.ownsRow w.heap.size 3 1 (.slice (some ⟨w.heap.size, 0, none⟩) 0 0) 0 (flatI []) ∧ Below w.heap.size w w' := by
  obtain ⟨i0, hi, hz0, hz1, hz2⟩ := info_parts info
  have CM := fun W => Lib.hid (show Calls Try.prog 51 #[.int .u64 1, .int .u64 0] W fun e w' => e = .returned (.tuple #[.int .u64 0, .int .u64 0]) ∧ W = w' from mul_one_any 0 (by omega) W)
  have R0 : ∀ W ty, (Builtin.copy_ #[22, 22] ty #[.slice (some ⟨w.heap.size, 0, none⟩) 0 0, .slice (some ⟨b, o, none⟩) 1 cc]).run Try.prog W = .ok (.int .i64 0) W := fun W ty => run_copyI_none W ty _ _ _ _ _ _ rfl
  have R1 := Lib.hid R0
  clear R0
  go_enter Try.func47, Try.ntmps47
  go_wp2_with fail
  refine (CM _).out.mono ?_
  rintro r w2 ⟨rfl, rfl⟩
  go_wp2_with (at_make; refine wpList_make_full _ rfl _ _ 22 rfl w.heap.size 3 i0 (.int .i64 0) 1 Try.underlying22 hi hz0 hz1 .i64 .i64 _ _ 0 rfl rfl rfl rfl (by rw [hz2]; omega) (by unfold maxLen; omega) (Nat.le_refl _) ?_; intro w1 hown hgrow)
  rw [made_flat] at hown
  have b1 : Below w.heap.size w w1 := (Below.refl _ w).grown hgrow (Nat.le_refl _) fun g h => by cases h
  have OW := Lib.hid (show w1.ownsRow w.heap.size 3 1 (.slice (some ⟨w.heap.size, 0, none⟩) 0 0) 0 (flatI []) from hown)
  have B1 := Lib.hid b1
  clear hgrow hi hz0 hz1 hz2 hown b1
  go_wp2_with fail
  rw [R1.out]
  go_simp
  rename_i hK
  refine hK _ _ ?_
  clear hK
  go_wp2
  go_loop [8] (fun i => i = .int .i64 0) (fun _ => 0)
  case atStart => rfl
  case round =>
    obtain rfl := hrel
    go_wp2
    go_ret
    exact ⟨rfl, OW.out, B1.out⟩
set_option maxRecDepth 100000 in
set_option maxHeartbeats 2000000 in
theorem repeat_pos (b o cc q : Nat) (p : Int) (hq1 : 1 ≤ q) (hq : q ≤ 65536) (w : World) (hx : w.cell? ⟨b, o, none⟩ = some (.int .i64 p)) :
    Calls Try.prog 47 #[.slice (some ⟨b, o, none⟩) 1 cc, .int .i64 q] w fun e w' => e = .returned (.slice (some ⟨w.heap.size, 0, none⟩) q q) ∧ w'.ownsRow w.heap.size 3 1 (.slice (some ⟨w.heap.size, 0, none⟩) q q) q (flatI (List.replicate q p)) ∧ Below w.heap.size w w' := by
  obtain ⟨i0, hi, hz0, hz1, hz2⟩ := info_parts info
  have CM := fun W => Lib.hid (mul_one_any q hq W)
  have HX := Lib.hid hx
  have hb := cell_lt hx
  have q0 : (1 : Int) ≤ q := by omega
  have q1 : (q : Int) ≤ 65536 := by omega
  have q2 : decide ((q : Int) < 0) = false := decide_eq_false (by omega)
  have q3 : decide ((9223372036854775807 : Int) < q) = false := decide_eq_false (by omega)
  clear hx
  go_enter Try.func47, Try.ntmps47
  go_wp2_with fail
  refine (CM _).out.mono ?_
  rintro r w2 ⟨rfl, rfl⟩
  go_wp2_with (at_make; refine wpList_make_full _ rfl _ _ 22 rfl w.heap.size 3 i0 (.int .i64 0) 1 Try.underlying22 hi hz0 hz1 .i64 .i64 _ _ q rfl rfl rfl rfl (by rw [hz2]; omega) (by unfold maxLen; omega) (Nat.le_refl _) ?_; intro w1 hown hgrow)
  rw [made_flat] at hown
  have b1 : Below w.heap.size w w1 := (Below.refl _ w).grown hgrow (Nat.le_refl _) fun g h => by cases h
  have bk : Blk w1 w.heap.size (repL q p 0) := by
    have := (row_blk hown).1
    unfold repL
    simpa using this
  have x1 : w1.cell? ⟨b, o, none⟩ = some (.int .i64 p) := (b1.cell (p := ⟨b, o, none⟩) hb).trans HX.out
  clear hgrow hi hz0 hz1 hz2 hown
  have hs : ∀ j v, [Value.int .i64 p][j]? = some v → w1.cell? (Addr.add ⟨b, o, none⟩ j) = some v := fun j v hj => by
    have h0 : j = 0 := by have := (List.getElem?_eq_some_iff.1 hj).1; simp at this; omega
    subst h0
    rw [addr_lit, Nat.add_zero, x1]
    simpa using hj
  have R0 := fun ty => run_copyI w1 ty w.heap.size 0 q q ⟨b, o, none⟩ 1 cc [.int .i64 p] (by rw [show Nat.min 1 q = 1 by show min 1 q = 1; omega]; rfl) hs (fun j hj => bk.some (by rw [repL_len p (by omega)]; simp at hj; omega)) (fun j hj => bk.frozen _) (by simp; rfl)
  have bk1 := bk.fill (c := 1) (by omega)
  rw [show Nat.min 1 q = 1 by show min 1 q = 1; omega] at R0
  have R1 := Lib.hid R0
  have BK := Lib.hid bk1
  have B1 := Lib.hid (bel_setCells (g := w.heap.size) (o := 0) [.int .i64 p] b1 (Nat.le_refl _))
  clear bk bk1 b1 hs R0
  go_wp2_with fail
  rw [R1.out]
  go_simp
  rename_i hK
  refine hK _ _ ?_
  clear hK
  go_wp2
  go_loopw [8] (fun i wr => ∃ k : Nat, 1 ≤ k ∧ k ≤ q ∧ i = .int .i64 k ∧ Blk wr w.heap.size (repL q p k) ∧ Below w.heap.size w wr) (fun i _ => q - (RowKit.intOf i).toNat)
  case atStart => exact ⟨1, Nat.le_refl _, hq1, rfl, BK.out, B1.out⟩
  case round =>
    clear BK B1 R1 x1
    obtain ⟨k, hk1, hk, rfl, bk, bel⟩ := hrel
    by_cases hlt : k < q
    · have d0 : decide ((k : Int) < q) = true := decide_eq_true (by omega)
      obtain ⟨c, hc⟩ : ∃ c, min k (q - k) = c := ⟨_, rfl⟩
      have hcm : Nat.min k (q - k) = c := hc
      have R1 := drop_row w.heap.size q k hlt
      have R2 := take_row w.heap.size q k (by omega)
      have R3 := fun ty => run_copyI wr.drew ty w.heap.size k (q - k) (q - k) ⟨w.heap.size, 0, none⟩ k q (List.replicate c (.int .i64 p)) (by rw [hcm]; simp) (rep_in q k c p (by omega) wr.drew _ bk) (fun j hj => Blk.some (w := wr.drew) bk (by rw [repL_len p (by omega)]; simp at hj; omega)) (fun j hj => Blk.frozen (w := wr.drew) bk _) (by intro v hv; rw [List.mem_replicate] at hv; rw [hv.2]; rfl)
      rw [hcm] at R3
      have R4 := Lib.hid R3
      have BK := Lib.hid (Blk.fill (w := wr.drew) (c := c) bk (by omega))
      have B1 := Lib.hid (bel_setCells (g := w.heap.size) (o := k) (List.replicate c (.int .i64 p)) bel.drew (Nat.le_refl _))
      have hc1 : 1 ≤ c := by omega
      have hkc : k + c ≤ q := by omega
      have k1 : (k : Int) + c ≤ q := by omega
      have k2 : IntKind.i64.wrap ((k : Int) + c) = ((k + c : Nat) : Int) := by rw [IntWalk.i64_in _ (by omega)]; omega
      clear R3 hc hcm bk bel
      go_wp2
      go_region_law (refine step_copyI rfl _ _ rfl _ _ (by simp [Act.eval, Act.put]) (by simp [Act.eval, Act.put]) (R4.out _) ?_)
      simp only [List.getElem_toArray, List.getElem_cons_succ, List.getElem_cons_zero]
      go_frame
      go_roundw
      case rel =>
        repeat apply Exists.intro
        refine ⟨⟨k + c, by omega, hkc, ?e, BK.out, B1.out⟩, rfl⟩
        case e => go_num
      case measure => simp [RowKit.intOf]; omega
    · obtain rfl : k = q := by omega
      have d0 : decide ((k : Int) < k) = false := by simp
      have OW := Lib.hid (blk_row (B := w.heap.size) bk (repL_len p (Nat.le_refl _)) (by unfold maxLen; omega) (Nat.le_refl _))
      clear bk
      go_wp2
      go_ret
      refine ⟨rfl, ?_, bel⟩
      have := OW.out
      unfold repL at this
      simpa using this
theorem repeat_any (b o cc q : Nat) (p : Int) (hq : q ≤ 65536) (w : World) (hx : w.cell? ⟨b, o, none⟩ = some (.int .i64 p)) :
    Calls Try.prog 47 #[.slice (some ⟨b, o, none⟩) 1 cc, .int .i64 q] w fun e w' => e = .returned (.slice (some ⟨w.heap.size, 0, none⟩) q q) ∧ w'.ownsRow w.heap.size 3 1 (.slice (some ⟨w.heap.size, 0, none⟩) q q) q (flatI (List.replicate q p)) ∧ Below w.heap.size w w' := by
  by_cases h : q = 0
  · subst h; exact repeat_zero b o cc w
  · exact repeat_pos b o cc q p (by omega) hq w hx
end Pk
end Go.Proofs.Ytnoggggbghkgkaa
