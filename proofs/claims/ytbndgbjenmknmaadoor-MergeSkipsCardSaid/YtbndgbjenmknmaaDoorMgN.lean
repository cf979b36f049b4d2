/- New of leapfrogref07: contract of the translated code. Conditions: the bounds of each number's kind. -/
import Derived.Test.YtbndgbjenmknmaaDoorMgY
import Derived.Deep.RegionLaw
namespace Go.Proofs.YtbndgbjenmknmaaDoor
open Go.RowKit Go.Sort Go.ChangeShapes Go.WideShapes Go.Deep Go.Joins
set_option linter.unusedVariables false
set_option linter.unusedSimpArgs false
namespace Mg
open Om (Pr below_drewN bel_alloc)
def zsL : List Value := List.replicate 192 (.bool false) ++ (List.replicate 129 (.int .u64 0) ++ [.bool false])
theorem zs_run (w : World) : (zeroValue 69).run Tryd.prog w = .ok (.agg zsL.toArray) w := by kernel_rfl
theorem zs_bool {v : Nat} (h : v < 192) : zsL[v]? = some (.bool false) := by
  unfold zsL; rw [List.getElem?_append_left (by rw [List.length_replicate]; exact h), List.getElem?_replicate, if_pos h]
theorem zs_int {v : Nat} (h : 192 ≤ v) (h2 : v < 321) : zsL[v]? = some (.int .u64 0) := by
  unfold zsL; rw [List.getElem?_append_right (by rw [List.length_replicate]; exact h), List.length_replicate, List.getElem?_append_left (by rw [List.length_replicate]; omega), List.getElem?_replicate, if_pos (by omega)]
theorem zs_last : zsL[321]? = some (.bool false) := by
  unfold zsL; rw [List.getElem?_append_right (by rw [List.length_replicate]; omega), List.length_replicate, List.getElem?_append_right (by rw [List.length_replicate]; omega), List.length_replicate]; rfl
theorem zs_cell (w : World) (t : TypeId) {v : Nat} {x : Value} (h : zsL[v]? = some x) : (w.alloc (.cells zsL.toArray t)).cell? ⟨w.heap.size, v, none⟩ = some x := by
  rw [World.cell?_alloc_at _ _ _ _ rfl]
  simpa using h
theorem new_at (w : World) (t : TypeId) : MrAt (w.alloc (.cells zsL.toArray t)) w.heap.size (Mg.new fun _ => false) :=
  ⟨fun v hv => zs_cell w t (zs_bool (by omega)), fun v hv => zs_cell w t (zs_bool (by omega)), fun v hv => zs_cell w t (zs_bool (by omega)), fun v hv => zs_cell w t (zs_int (by omega) (by omega)), fun v hv => zs_cell w t (zs_int (by omega) (by omega)), zs_cell w t (zs_int (by omega) (by omega)), zs_cell w t zs_last, fun k hk => by simp⟩
def nwS (S n v : Nat) : Bool := decide (v < n) && S.testBit v
theorem nw_step {w : World} {b S n : Nat} {x : Bool} (h : MrAt w b (Mg.new (nwS S n))) (hn : n < 64) (hx : x = S.testBit n) : MrAt (w.setCell ⟨b, n, none⟩ (.bool x)) b (Mg.new (nwS S (n + 1))) := by
  refine h.upd n _ (fun u hu => ?_) (fun u hu => .inl ⟨by omega, rfl⟩) (fun u hu => .inl ⟨by omega, rfl⟩) (fun u hu => .inl ⟨by omega, rfl⟩) (fun u hu => .inl ⟨by omega, rfl⟩) (.inl ⟨by omega, rfl⟩) (.inl ⟨by omega, rfl⟩)
  show u ≠ n ∧ nwS S (n + 1) u = nwS S n u ∨ n = u ∧ Value.bool x = .bool (nwS S (n + 1) u)
  by_cases e : u = n
  · subst e; exact .inr ⟨rfl, by rw [hx, nwS, decide_eq_true (by omega), Bool.true_and]⟩
  · exact .inl ⟨e, by unfold nwS; congr 1; exact decide_eq_decide.2 (by omega)⟩
theorem nw_all {w : World} {b S : Nat} (h : MrAt w b (Mg.new (nwS S 64))) : MrAt w b (Mg.new fun v => S.testBit v) :=
  h.congr (fun u hu => by show S.testBit u = nwS S 64 u; rw [nwS, decide_eq_true hu, Bool.true_and]) (fun _ _ => rfl) (fun _ _ => rfl) (fun _ _ => rfl) rfl rfl
set_option maxRecDepth 100000 in
set_option maxHeartbeats 4000000 in
theorem newR (S : Nat) (w : World) (hi : ∀ (p : Nat) (W : World), p < 64 → Calls Tryd.prog 25 #[.int .u64 S, .int .i64 p] W fun e w' => e = .returned (.bool (S.testBit p)) ∧ W = w') :
    Calls Tryd.prog 10 #[.int .u64 S] w fun e w' => e = .returned (.pointer (some ⟨w.heap.size, 0, none⟩)) ∧ MrAt w' w.heap.size (Mg.new fun v => S.testBit v) ∧ Below w.heap.size w w' := by
  have HZ := new_at w 69
  have hz := zs_run
  have hne : ¬ zsL.toArray = #[] := fun e => by have := congrArg Array.size e; revert this; decide
  have hsz : zsL.toArray.size = 322 := by decide
  generalize zsL.toArray = zs at *
  go_enter Tryd.func10, Tryd.ntmps10
  go_wp2
  have BB := Lib.hid (show Below w.heap.size w (w.alloc (.cells zs 69)) from bel_alloc (Below.refl _ _) _)
  have AA := Lib.hid (show MrAt (w.alloc (.cells zs 69)) w.heap.size (Mg.new (nwS S 0)) from HZ)
  clear HZ
  have HI := Lib.hid hi; clear hi
  go_loopw [4] (fun i wr => ∃ n : Nat, n ≤ 64 ∧ i = .int .i64 n ∧ MrAt wr w.heap.size (Mg.new (nwS S n)) ∧ Below w.heap.size w wr) (fun i _ => (64 - intOf i).toNat)
  case atStart => exact ⟨0, Nat.zero_le _, rfl, AA.out, BB.out⟩
  case round =>
    obtain ⟨n, hn, rfl, hm, bel⟩ := hrel
    have HM := Lib.hid hm
    by_cases hlt : n < 64
    · have t0 : decide ((n : Int) < 64) = true := decide_eq_true (by omega)
      have C := fun W => Lib.hid (HI.out n W hlt)
      have g := hm.ls n hlt
      have f := hm.fz n (by omega)
      have NX := fun x hx => Lib.hid (nw_step (x := x) HM.out hlt hx)
      have g' : wr.drew.cell? ⟨w.heap.size, n, none⟩ = _ := g
      have f' : wr.drew.frozen? ⟨w.heap.size, n, none⟩ = false := f
      have i1 : (n : Int) < 64 := by omega
      have i0 : 0 ≤ (n : Int) := by omega
      clear hm
      generalize hx : S.testBit n = x at C
      go_wp2
      go_region_law ((go_simp; go_at_call 25; refine (C _).out.mono ?_; rintro r w1 ⟨rfl, rfl⟩))
      go_wp2
      go_roundw
      case rel => exact ⟨n + 1, by omega, by go_num, (NX x hx.symm).out.keep rfl, ⟨bel.os, bel.tape, bel.output, Nat.le_trans bel.size (Nat.le_of_eq (by simp)), fun k hk => (Below.heap_setCell wr ⟨w.heap.size, n, none⟩ (.bool x) k (Nat.ne_of_lt hk)).trans (bel.block k hk)⟩⟩
      case measure => simp [intOf]; omega
    · have t0 : decide ((n : Int) < 64) = false := decide_eq_false (by omega)
      obtain rfl : n = 64 := by omega
      go_wp2
      go_ret
      exact ⟨rfl, nw_all HM.out, bel⟩
end Mg
end Go.Proofs.YtbndgbjenmknmaaDoor
