/- Members and Buckets of package domain, over the iterator of XDomW: contracts of the translated code. Conditions: Tz; a set below 2^64. -/
import Derived.Test.YtnjgolbghcjijaaDoorDomW
namespace Go.Proofs.YtnjgolbghcjijaaDoor
open Go.RowKit Go.Shelf Go.Sort
set_option linter.unusedVariables false
set_option linter.unusedSimpArgs false
attribute [local go_sem] Oper.semAt_some
namespace Dm
def lst (l : List (Fin 64)) : List Int := l.map fun x => (x.val : Int)
theorem lst_snoc (l : List (Fin 64)) (x : Fin 64) : lst (l ++ [x]) = lst l ++ [(x.val : Int)] := by simp [lst]
theorem memL_filter (S : Nat) : ∀ n, memL S n = ((List.range n).filter fun i => S.testBit i).map fun (i : Nat) => (i : Int)
  | 0 => rfl
  | n + 1 => by
    rw [memL, memL_filter S n, List.range_succ, List.filter_append, List.map_append]
    by_cases h : S.testBit n = true
    · rw [if_pos h]; simp [List.filter_cons, h]
    · rw [if_neg h]; simp [List.filter_cons, h]
theorem lst_mem (S : Nat) : lst (memF S) = memL S 64 := by
  rw [memL_filter, ← memF_val, List.map_map]; rfl
theorem members_in (F : Fence) (n : Nat) (h : F.fn 45) (hro : F.round = none) (S : Nat) (w : World) :
    CallsIn F n Tryd.prog 45 #[.int .u64 S] w fun e w' => e = .returned (.func (.func 50) #[] #[.pointer (some ⟨w.heap.size, 0, none⟩)]) ∧ w' = w.alloc (.cells #[.int .u64 S] 25) := by
  refine callsIn_of_wp Tryd.func45 rfl h ?_ hro
  simp only [Tryd.ntmps45, List.size_toArray, List.length_cons, List.length_nil, Nat.reduceAdd, Nat.reduceSub, Array.replicate_succ, Array.replicate_zero, List.push_toArray, List.append_toArray, List.nil_append, List.cons_append]
  gi_wp2
  go_ret
  exact ⟨rfl, rfl⟩
theorem members_stops (F : Fence) (hF : ∀ f, F.fn f) (hro : F.round = none) (hwide : ∀ {n g : Nat} {args : Array Value} {w : World} {R : Ending → World → Prop}, Calls Tryd.prog g args w R → CallsIn F n Tryd.prog g args w R) (n : Nat) (hn : 1 ≤ n) (Bs n₀ S : Nat) (hS : S < 18446744073709551616) (hn0 : 0 < n₀) (w : World) (hBs : Bs < w.heap.size) (hn₀ : n₀ ≤ w.heap.size) (hT : Tz w) (hc : w.cell? ⟨Bs, 0, none⟩ = some (.int .u64 S)) :
    SeqStopsK F n Tryd.prog 50 #[.pointer (some ⟨Bs, 0, none⟩)] (fun x : Fin 64 => #[Value.int .i64 (x.val : Int)]) (Below n₀) (fun ys => ys = memF S) (fun pre => pre <+: memF S) (memF S).length w := fun l J Jx W hW _ _ hY h0 =>
  members1_in F n (hF _) (hF _) hro (fun h => hwide h) hn l Bs n₀ S hS hn0 J Jx hY W ((hW.cell (p := ⟨Bs, 0, none⟩) hBs).trans hc) (hT.below hW) h0
set_option maxRecDepth 100000 in
set_option maxHeartbeats 2000000 in
theorem membersP_in (F : Fence) (hF : ∀ f, F.fn f) (hro : F.round = none) (hwide : ∀ {n g : Nat} {args : Array Value} {w : World} {R : Ending → World → Prop}, Calls Tryd.prog g args w R → CallsIn F n Tryd.prog g args w R) (n : Nat) (hn : 3 ≤ n) (S : Nat) (hS : S < 18446744073709551616) (w : World) (hT : Tz w) (hw : 0 < w.heap.size) :
    CallsIn F n Tryd.prog 33 #[.int .u64 S] w fun e W' => (∃ v, e = .returned v ∧ W'.ownsRow w.heap.size 3 1 v (lst (memF S)).length (flatI (lst (memF S)))) ∧ Below w.heap.size w W' := by
  have h1 : 1 ≤ n := by omega
  have hlen := memF_len S
  have hf1 := hF 45
  obtain ⟨i0, hi, hz0, hz1, hz2⟩ := info_parts info
  refine callsIn_of_wp_marks Tryd.func33 rfl (hF _) ?_ hro
  simp only [Tryd.ntmps33, List.size_toArray, List.length_cons, List.length_nil, Nat.reduceAdd, Nat.reduceSub, Array.replicate_succ, Array.replicate_zero, List.push_toArray, List.append_toArray, List.nil_append, List.cons_append]
  gi_wp2_with (gi_at_call 45; refine (members_in F (n - 1) hf1 hro S _).mono ?_; rintro e w' ⟨rfl, rfl⟩)
  have bO := Boxed.new w 43 (.slice none 0 0)
  have bN := Boxed.new (w.alloc (.cells #[.slice none 0 0] 43)) 25 (.int .u64 S)
  rw [World.size_alloc] at bN
  have hB0 : Below w.heap.size w ((w.alloc (.cells #[.slice none 0 0] 43)).alloc (.cells #[.int .u64 S] 25)) := ((Below.refl _ w).alloc (Nat.le_refl _) _).alloc (by simp) _
  refine wpIn_rangeFunc_ownG hro h1 (gf := 50) (lb := #[.pointer (some ⟨w.heap.size + 1, 0, none⟩)]) rfl (hF _) (enters_of Tryd.func50 (by kernel_rfl) rfl)
    (members_stops F hF hro (fun h => hwide h) (n - 1) (by omega) (w.heap.size + 1) w.heap.size S hS hw _ (by simp) (by simp; omega) (hT.below hB0) bN.cell) belowK_t (belowK_b (by simp; omega)) (Below.refl _ _) (fun _ => rfl)
    (fun pre W => (∃ v, Boxed W w.heap.size 43 v ∧ W.ownsRow w.heap.size 3 1 v (lst pre).length ((lst pre).map (Value.int .i64)) ∧ (v = .slice none 0 0 ↔ lst pre = [])) ∧ Below w.heap.size w W)
    (fun _ _ _ => False)
    (OwnFrom.and (Own.from (holdsRow_own w.heap.size w.heap.size 43 3 1 (fun pre => (lst pre).length) (fun pre => (lst pre).map (Value.int .i64)) (fun pre v => v = .slice none 0 0 ↔ lst pre = [])) _) (ownFrom_below (Nat.le_refl _) (by simp; omega)))
    (fun _ _ _ _ _ hs _ _ => hs)
    ⟨⟨_, bO.alloc _, World.ownsRow_nil _ _ _ _, by simp [lst]⟩, hB0⟩
    (fun x => { tmps := #[.int .u64 S, undef, .slice none 0 0, .pointer (some ⟨w.heap.size, 0, none⟩), .int .i64 (x.val : Int), .int .u64 S, .func (.func 50) #[] #[.pointer (some ⟨w.heap.size + 1, 0, none⟩)], .int .i64 (x.val : Int), undef, undef, undef, undef, undef], defers := [] }) ?assign ?body ?done ?stop
  case assign =>
    intro l x W K hK
    gi_wp2
    exact hK
  case body =>
    rintro l pre x W ⟨⟨v, hv, hrow, hnil⟩, hB⟩ hlt
    have hc := hv.cell
    have hpl : (lst pre).length ≤ 64 := by simp [lst]; omega
    gi_wp2_with (gi_at_builtin; refine wpListIn_append_own _ rfl _ _ 43 rfl w.heap.size 3 i0 (.int .i64 0) 1 8 Tryd.underlying43 hi hz0 hz1 hz2 rfl (by decide) _ _ _ rfl (hrow.alloc _) ⟨W.heap.size, 0, none⟩ 1 1 [.int .i64 (x.val : Int)] rfl rfl (cell_one_new _ _ _) (by simp [Value.oneCell']) (by unfold maxLen; omega) (by omega) (by have := hB.size; simp; omega) ?_; intro v' w1 hown' hgrow _; obtain ⟨g', cap', rfl⟩ := ownsRow_succ hown'; obtain ⟨hv1, hv2, hr2, hk2, hb2⟩ := hv.appended (by decide) hrow hB.size (Nat.le_refl _) hown' hgrow; have hc1 := hv1.cell; have hf1 := hv1.frozen)
    exact ⟨hk2.from _, hb2, ⟨_, hv2, by rw [lst_snoc]; simpa using hr2, by rw [lst_snoc]; simp⟩, hB.trans hb2⟩
  case done =>
    rintro D ys W hD rfl ⟨⟨v, hv, hrow, hnil⟩, hB⟩ hK
    have hc := hv.cell
    gi_wp2
    refine ⟨by simp, .inl ⟨_, _, rfl, run_takeDeferred hK, ?_⟩⟩
    exact ⟨_, results_tmp rfl _ _ _, ⟨v, rfl, ownsRow_putObj hrow _ hK rfl⟩, hB.trans (belowK_b (w := w) (Nat.le_refl _) W D _ _ (by simp at hD; omega) hK rfl rfl)⟩
  case stop =>
    rintro D c pre W _ _ h _
    exact h.elim
theorem membersP_any (S : Nat) (hS : S < 18446744073709551616) (w : World) (hT : Tz w) (hw : 0 < w.heap.size) :
    Calls Tryd.prog 33 #[.int .u64 S] w fun e w' => (∃ v, e = .returned v ∧ w'.ownsRow w.heap.size 3 1 v (memL S 64).length (flatI (memL S 64))) ∧ Below w.heap.size w w' := by
  rw [← lst_mem]
  exact callsIn_wide.1 (membersP_in Fence.wide (fun _ => trivial) rfl (fun h => callsIn_wide.2 h) 3 (Nat.le_refl _) S hS w hT hw)
end Dm
end Go.Proofs.YtnjgolbghcjijaaDoor
