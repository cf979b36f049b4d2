/- The iterator over the members of a set (members, its closure), Members and Buckets of package domain: contracts of the translated code. 'Tz w': the library's table of math/bits lies as its initialiser lays it. Conditions: Tz; a set below 2^64. -/
import Derived.Test.YtnjgolbghcjijaaDoorDomT
import Derived.Test.YtnjgolbghcjijaaDoorDomB
import Derived.Test.YtnjgolbghcjijaaDoorDomG
import Derived.Test.YtnjgolbghcjijaaDoorLay3
import Derived.RangeFuncNested
import Derived.RangeFuncBound
import Derived.RangeFuncCalls
import Derived.RangeFuncLeaves
import Derived.RangeFuncBox
import Derived.Shelf.Abstract
import Derived.Shelf.RegionOpen
import Derived.WalkKit
import Derived.OwnWalkIn
import Derived.TacticsInMore
import Derived.LoopNIn
import Derived.LoopIn
import Derived.Maps.AppendAt
namespace Go.Proofs.YtnjgolbghcjijaaDoor
open Go.RowKit Go.Shelf Go.Sort
set_option linter.unusedVariables false
set_option linter.unusedSimpArgs false
attribute [local go_sem] Oper.semAt_some
namespace Dm
/-- the table of math/bits.TrailingZeros64 -/
def Tz (w : World) : Prop := TabAt 0 Lib.deBruijn64tab w
theorem Tz.below {w w' : World} (h : Tz w) (hb : Below w.heap.size w w') : Tz w' := fun j hj => (hb.cell (p := ⟨0, j, none⟩) (cell_lt (h j hj))).trans (h j hj)
theorem tz_any (x : Nat) (hx : x < 18446744073709551616) (w : World) (hT : Tz w) : Calls Tryd.prog 51 #[.int .u64 x] w fun e w' => e = .returned (.int .i64 (Lib.ctz 64 x)) ∧ w' = w :=
  Any7.bits_TrailingZeros64 Tryd.tz64 x hx w fun _ => hT
def enc (x : Fin 64) : Array Value := #[.int .i64 (x.val : Int)]
theorem enc_def (x : Fin 64) : enc x = #[.int .i64 (x.val : Int)] := rfl
theorem below_le {n₀ : Nat} {w w' : World} (h : Below n₀ w w') (hw : n₀ ≤ w.heap.size) : n₀ ≤ w'.heap.size := Nat.le_trans hw h.size
theorem Tz.belowN {n₀ : Nat} {w w' : World} (h : Tz w) (h0 : 0 < n₀) (hb : Below n₀ w w') : Tz w' := fun j hj => (hb.cell (p := ⟨0, j, none⟩) h0).trans (h j hj)
set_option maxRecDepth 100000 in
set_option maxHeartbeats 2000000 in
theorem members1_in (F : Fence) (n : Nat) (h7 : F.fn 50) (h8 : F.fn 51) (hro : F.round = none) (hwide : ∀ {g : Nat} {args : Array Value} {w : World} {R : Ending → World → Prop}, Calls Tryd.prog g args w R → CallsIn F (n - 1) Tryd.prog g args w R) (hn : 1 ≤ n) (l Bs n₀ S : Nat) (hS : S < 18446744073709551616) (hn0 : 0 < n₀) (J Jx : List (Fin 64) → World → Prop)
    (hY : ∀ pre x W, J pre W → pre.length < (memF S).length → YieldAt F (n - 1) Tryd.prog l #[.int .i64 (x.val : Int)] W fun e W' =>
      (e = .returned (.bool true) ∧ J (pre ++ [x]) W' ∧ Below n₀ W W') ∨ (e = .returned (.bool false) ∧ Jx (pre ++ [x]) W'))
    (W : World) (hBs : W.cell? ⟨Bs, 0, none⟩ = some (.int .u64 S)) (hT : Tz W) (h0 : J [] W) :
    CallsIn F n Tryd.prog 50 #[.func (.yield l) #[] #[], .pointer (some ⟨Bs, 0, none⟩)] W fun e W' => (∃ v, e = .returned v) ∧
      ((∃ ys, ys = memF S ∧ J ys W') ∨ (∃ pre, pre <+: memF S ∧ Jx pre W')) := by
  refine callsIn_of_wp Tryd.func50 rfl h7 ?_ hro
  simp only [Tryd.ntmps50, List.size_toArray, List.length_cons, List.length_nil, Nat.reduceAdd, Nat.reduceSub, Array.replicate_succ, Array.replicate_zero, List.push_toArray, List.append_toArray, List.nil_append, List.cons_append]
  have HT := Lib.hid hT; clear hT
  gi_wp2
  gi_loopw [3] (fun r wr => ∃ (pre rest : List (Fin 64)) (R : Nat), r = .int .u64 R ∧ R < 18446744073709551616 ∧ memF S = pre ++ rest ∧ memF R = rest ∧ J pre wr ∧ Below n₀ W wr)
    (fun r _ => (intOf r).toNat)
  case atStart => exact ⟨[], memF S, S, rfl, hS, rfl, rfl, h0, Below.refl _ _⟩
  case round =>
    obtain ⟨pre, rest, R, rfl, hR, hx, hm, hJs, hbl⟩ := hrel
    by_cases hz : R = 0
    · subst hz
      have HX := Lib.hid (show memF S = pre by rw [hx, ← hm, memF_zero, List.append_nil])
      clear hx hm
      gi_wp2
      go_end0
      exact ⟨⟨_, rfl⟩, .inl ⟨pre, HX.out.symm, hJs⟩⟩
    · obtain ⟨hk, hst⟩ := memF_step hz hR
      rw [hst] at hm
      have HX := Lib.hid (show memF S = (pre ++ [⟨Lib.ctz 64 R, hk⟩]) ++ memF (R &&& (R - 1)) by rw [hx, ← hm]; simp)
      obtain ⟨fn, tmps, assign, body, hy, hRd⟩ := hY pre ⟨Lib.ctz 64 R, hk⟩ wr hJs (by rw [HX.out]; simp)
      dsimp only at hy
      have hTw := HT.out.belowN hn0 hbl
      have HC := Lib.hid (hwide (tz_any R hR wr hTw))
      have hlow := low_lt hz
      have HA := Lib.hid (show bits .and .u64 (R : Int) ((R : Int) - 1) = ((R &&& (R - 1) : Nat) : Int) by
        rw [show (R : Int) - 1 = ((R - 1 : Nat) : Int) by omega, and_nat hR (by omega)])
      clear hx hm hst hTw
      have t0 : ((R : Int) != 0) = true := by simp; omega
      have r1 : 1 ≤ (R : Int) := by omega
      have r2 : (R : Int) ≤ 18446744073709551615 := by omega
      generalize Lib.ctz 64 R = k at *
      gi_wp2_with (gi_at_call 51; refine HC.out.mono ?_; rintro e w' ⟨rfl, rfl⟩)
      refine hRd.mono ?_
      rintro e W3 (⟨rfl, hJ3, hk3⟩ | ⟨rfl, hJx3⟩)
      · gi_wp2
        go_roundw
        case rel => exact ⟨pre ++ [⟨k, hk⟩], memF (R &&& (R - 1)), R &&& (R - 1), congrArg (Value.int .u64) HA.out, by omega, HX.out, rfl, hJ3, hbl.trans hk3⟩
        case measure => rw [HA.out]; simp [intOf]; omega
      · gi_wp2
        refine bodyPost_ret (results_none rfl _ _ _) rfl ?_
        exact ⟨⟨_, rfl⟩, .inr ⟨pre ++ [⟨k, hk⟩], ⟨_, HX.out.symm⟩, hJx3⟩⟩
end Dm
end Go.Proofs.YtnjgolbghcjijaaDoor
