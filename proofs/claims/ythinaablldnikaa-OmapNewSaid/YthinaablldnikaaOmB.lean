/- The calls on nil that write a map: Put, PutIfAbsent, Delete and CompareAndSwap of package omap and of leapfrogref05. No conditions. -/
import Derived.Test.YthinaablldnikaaOmCb
namespace Go.Proofs.Ythinaablldnikaa
open Go.RowKit Go.Sort
set_option linter.unusedVariables false
set_option linter.unusedSimpArgs false
namespace Om
theorem putC_nil (key x : Int) (w : World) : Calls Try.prog 21 #[.pointer none, .int .u64 key, .int .u64 x] w fun e w' => e = .returned (.tuple #[.int .u64 0, .bool false, .int .i64 1]) ∧ Below w.heap.size w w' := by
  go_enter Try.func21, Try.ntmps21
  go_wp2
  first | go_ret3 | refine bodyPost_ret (results_tmp4 rfl _ _ _) rfl ?_
  first | exact ⟨rfl, Below.refl _ _⟩ | trace_state
theorem putR_nil (key x : Int) (w : World) : Calls Try.prog 41 #[.pointer none, .int .u64 key, .int .u64 x] w fun e w' => e = .returned (.tuple #[.int .u64 0, .bool false, .int .i64 1]) ∧ Below w.heap.size w w' := by
  go_enter Try.func41, Try.ntmps41
  go_wp2
  first | go_ret3 | refine bodyPost_ret (results_tmp4 rfl _ _ _) rfl ?_
  first | exact ⟨rfl, Below.refl _ _⟩ | trace_state
theorem putAbsC_nil (key x : Int) (w : World) : Calls Try.prog 22 #[.pointer none, .int .u64 key, .int .u64 x] w fun e w' => e = .returned (.tuple #[.int .u64 0, .bool false, .int .i64 1]) ∧ Below w.heap.size w w' := by
  go_enter Try.func22, Try.ntmps22
  go_wp2
  first | go_ret3 | refine bodyPost_ret (results_tmp4 rfl _ _ _) rfl ?_
  first | exact ⟨rfl, Below.refl _ _⟩ | trace_state
theorem putAbsR_nil (key x : Int) (w : World) : Calls Try.prog 42 #[.pointer none, .int .u64 key, .int .u64 x] w fun e w' => e = .returned (.tuple #[.int .u64 0, .bool false, .int .i64 1]) ∧ Below w.heap.size w w' := by
  go_enter Try.func42, Try.ntmps42
  go_wp2
  first | go_ret3 | refine bodyPost_ret (results_tmp4 rfl _ _ _) rfl ?_
  first | exact ⟨rfl, Below.refl _ _⟩ | trace_state
theorem delC_nil (key : Int) (w : World) : Calls Try.prog 33 #[.pointer none, .int .u64 key] w fun e w' => e = .returned (.tuple #[.int .u64 0, .bool false, .int .i64 1]) ∧ Below w.heap.size w w' := by
  go_enter Try.func33, Try.ntmps33
  go_wp2
  first | go_ret3 | refine bodyPost_ret (results_tmp4 rfl _ _ _) rfl ?_
  first | exact ⟨rfl, Below.refl _ _⟩ | trace_state
theorem delR_nil (key : Int) (w : World) : Calls Try.prog 43 #[.pointer none, .int .u64 key] w fun e w' => e = .returned (.tuple #[.int .u64 0, .bool false, .int .i64 1]) ∧ Below w.heap.size w w' := by
  go_enter Try.func43, Try.ntmps43
  go_wp2
  first | go_ret3 | refine bodyPost_ret (results_tmp4 rfl _ _ _) rfl ?_
  first | exact ⟨rfl, Below.refl _ _⟩ | trace_state
theorem casC_nil (key old x : Int) (w : World) : Calls Try.prog 24 #[.pointer none, .int .u64 key, .int .u64 old, .int .u64 x] w fun e w' => e = .returned (.tuple #[.int .u64 0, .bool false, .bool false, .int .i64 1]) ∧ Below w.heap.size w w' := by
  go_enter Try.func24, Try.ntmps24
  go_wp2
  first | go_ret3 | refine bodyPost_ret (results_tmp4 rfl _ _ _) rfl ?_
  first | exact ⟨rfl, Below.refl _ _⟩ | trace_state
theorem casR_nil (key old x : Int) (w : World) : Calls Try.prog 44 #[.pointer none, .int .u64 key, .int .u64 old, .int .u64 x] w fun e w' => e = .returned (.tuple #[.int .u64 0, .bool false, .bool false, .int .i64 1]) ∧ Below w.heap.size w w' := by
  go_enter Try.func44, Try.ntmps44
  go_wp2
  first | go_ret3 | refine bodyPost_ret (results_tmp4 rfl _ _ _) rfl ?_
  first | exact ⟨rfl, Below.refl _ _⟩ | trace_state
theorem nextR_nil (lo hi : Int) (w : World) : Calls Try.prog 47 #[.pointer none, .agg #[.int .u64 lo, .int .u64 hi]] w fun e w' => e = .returned (nxT [] 1) ∧ Below w.heap.size w w' :=
  nextR_of _ [] 1 lo hi w (by simp) (fun W _ => rangeR_nil lo hi W) ⟨_, rfl⟩
theorem nextR_any (bm : Nat) (v : Value) (l : List Pr) (lo hi : Int) (w : World) (hm : MapAt w bm v l) (hs : l.length ≤ 1000) (hd : Bd l) (ll : 0 ≤ lo) (lh : lo ≤ 18446744073709551615) (hl : 0 ≤ hi) (hh : hi ≤ 18446744073709551615) :
    Calls Try.prog 47 #[.pointer (some ⟨bm, 0, none⟩), .agg #[.int .u64 lo, .int .u64 hi]] w fun e w' => e = .returned (nxT (rgL l lo hi) (rgE lo hi)) ∧ Below w.heap.size w w' :=
  nextR_of _ _ _ lo hi w (by unfold rgL; split <;> first | (have := inL_len l lo hi; omega) | simp) (fun W b => rangeR_any bm v l lo hi W (hm.below b) hs hd ll lh hl hh) ⟨_, rfl⟩
end Om
end Go.Proofs.Ythinaablldnikaa
