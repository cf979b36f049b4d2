/- WordsCommute: for every input the law returns true, and each argument reads behind the call as it read before. The conditions are those of the given row: none beside it. (The frame was written by program; the walk lies in YtpakolaegbccdaaWkWd5.) -/
import Derived.Test.YtpakolaegbccdaaRows
import Derived.Test.YtpakolaegbccdaaWkWd5
import Derived.WalkKit
import Derived.ProofKit
import Derived.OpenShut
import Derived.ShutString
import Derived.ChangeOld
import Derived.Below
import Derived.Lib.SmallJoins
import Derived.Test.YtpakolaegbccdaaWdO
namespace Go.Proofs.Ytpakolaegbccdaa.PWordsCommute
open Go.ChangeShapes Go.WideShapes Go.ChangeAt Go.RowKit Go.Joins
open Go.ChangeMaps (open_string shut_string)
set_option linter.unusedVariables false

theorem own : ownKnob Try.prog.godebug = none := by kernel_rfl
theorem laidOut : laidOutB Try.prog = true := by kernel_rfl
theorem Try.cells33 : Try.prog.cellsOf 33 = 5 := by kernel_rfl

set_option maxRecDepth 100000 in
theorem lifted (os : Os) (started : os.Started) (H : Type) (enc : TypeId × Value → H) :
    ReturnsInHanded {} Try.checked os 8 .any (Rows.wordsCommuteSpec.pre6 enc Try.prog Try.f8 Rows.wordsCommuteRow.domain false) (Rows.wordsCommuteSpec.post enc Try.prog Try.f8 false true false false) := by
  refine returnsInHanded_of_change (C := Try.checked) own started (by kernel_rfl) Try.func8
    (ChangeSpec.witness6 (enc := enc) (C := Try.checked) false ⟨#[], #[.slice none 0 0, .agg #[.int .u8 0, .int .i64 0, .int .i64 0, .int .u64 0, .int .u64 0], .agg #[.int .u8 0, .int .i64 0, .int .i64 0, .int .u64 0, .int .u64 0]], []⟩ 8 (by kernel_rfl) (by kernel_rfl) (by kernel_rfl) (by kernel_rfl)) ?_
  intro W base args ds gs before hval0 hW hcnd _
  have hval : ∀ (j : Nat) t v, Try.f8.params[j]? = some t → args[j]? = some v → Value.okWide Try.prog W .any base t v := hval0
  have hW' := hW
  obtain ⟨p, q, hA0, hV, rfl, hfz, hnd⟩ := hW
  have hA : DataW.TrodAll enc Try.prog W 0 (fun _ => true) true Try.f8.params.toList args.toList ds p := hA0
  rw [Try.params8] at hA hval
  obtain ⟨v0, vs0, d0, ds0, p0, q0, hargs, rfl, rfl, h0, r0⟩ := trodAll_cons hA
  obtain ⟨v1, vs1, d1, ds1, p1, q1, rfl, rfl, rfl, h1, r1⟩ := trodAll_cons r0
  obtain ⟨v2, vs2, d2, ds2, p2, q2, rfl, rfl, rfl, h2, r2⟩ := trodAll_cons r1
  obtain ⟨rfl, rfl, rfl⟩ := trodAll_nil r2
  obtain rfl : args = #[v0, v1, v2] := by cases args; simp_all
  obtain ⟨rfl, rfl⟩ := trodVars_none hV
  have k0 := h0
  have lt0 : ∀ x ∈ p0, x.block < W.heap.size := by obtain ⟨m, hm⟩ := k0; exact DataW.trod_lt m _ _ _ hm
  obtain ⟨a0, a0n, a0c, a0v, rfl, a0e, a0m, a0r, a0b, a0z⟩ := Ytpakolaegbccdaa.Dm.open_u64s (hval 0 22 v0 rfl rfl) h0
  have k1 := h1
  have lt1 : ∀ x ∈ p1, x.block < W.heap.size := by obtain ⟨m, hm⟩ := k1; exact DataW.trod_lt m _ _ _ hm
  obtain ⟨c1_0, c1_1, c1_2, c1_3, c1_4, y1_0, y1_1, y1_2, y1_3, y1_4, m1, rfl, hd1, hp1, hy1_0, hy1_1, hy1_2, hy1_3, hy1_4⟩ := Ytpakolaegbccdaa.Wd.open_agg5 Try.underlying33 (by kernel_rfl) Try.cells33 (hval 1 33 v1 rfl rfl) h1
  obtain ⟨a1What, e1_0, _, wa1What⟩ := DataW.trod_int Try.underlying5 hy1_0
  obtain ⟨a1Thread, e1_1, _, wa1Thread⟩ := DataW.trod_int Try.underlying3 hy1_1
  obtain ⟨a1Addr, e1_2, _, wa1Addr⟩ := DataW.trod_int Try.underlying3 hy1_2
  obtain ⟨a1Old, e1_3, _, wa1Old⟩ := DataW.trod_int Try.underlying31 hy1_3
  obtain ⟨a1V, e1_4, _, wa1V⟩ := DataW.trod_int Try.underlying31 hy1_4
  simp at e1_0 e1_1 e1_2 e1_3 e1_4
  subst e1_0 e1_1 e1_2 e1_3 e1_4
  have k2 := h2
  have lt2 : ∀ x ∈ p2, x.block < W.heap.size := by obtain ⟨m, hm⟩ := k2; exact DataW.trod_lt m _ _ _ hm
  obtain ⟨c2_0, c2_1, c2_2, c2_3, c2_4, y2_0, y2_1, y2_2, y2_3, y2_4, m2, rfl, hd2, hp2, hy2_0, hy2_1, hy2_2, hy2_3, hy2_4⟩ := Ytpakolaegbccdaa.Wd.open_agg5 Try.underlying33 (by kernel_rfl) Try.cells33 (hval 2 33 v2 rfl rfl) h2
  obtain ⟨a2What, e2_0, _, wa2What⟩ := DataW.trod_int Try.underlying5 hy2_0
  obtain ⟨a2Thread, e2_1, _, wa2Thread⟩ := DataW.trod_int Try.underlying3 hy2_1
  obtain ⟨a2Addr, e2_2, _, wa2Addr⟩ := DataW.trod_int Try.underlying3 hy2_2
  obtain ⟨a2Old, e2_3, _, wa2Old⟩ := DataW.trod_int Try.underlying31 hy2_3
  obtain ⟨a2V, e2_4, _, wa2V⟩ := DataW.trod_int Try.underlying31 hy2_4
  simp at e2_0 e2_1 e2_2 e2_3 e2_4
  subst e2_0 e2_1 e2_2 e2_3 e2_4
  clear hA0 hval0
  refine (Ytpakolaegbccdaa.Wk.walk_wordsCommute a0 a0n a0c a0v a1What a1Thread a1Addr a1Old a1V a2What a2Thread a2Addr a2Old a2V W a0e a0m a0r a0b a0z (bounds_u8 wa1What).1 (bounds_u8 wa1What).2 (bounds_i64 wa1Thread).1 (bounds_i64 wa1Thread).2 (bounds_i64 wa1Addr).1 (bounds_i64 wa1Addr).2 (bounds_u64 wa1Old).1 (bounds_u64 wa1Old).2 (bounds_u64 wa1V).1 (bounds_u64 wa1V).2 (bounds_u8 wa2What).1 (bounds_u8 wa2What).2 (bounds_i64 wa2Thread).1 (bounds_i64 wa2Thread).2 (bounds_i64 wa2Addr).1 (bounds_i64 wa2Addr).2 (bounds_u64 wa2Old).1 (bounds_u64 wa2Old).2 (bounds_u64 wa2V).1 (bounds_u64 wa2V).2).mono fun e W' ⟨he, bel⟩ => ?_
  subst he
  exact ⟨_, rfl, _, _, _, [], _, [], hW', trodAll_mk1 (shut_bool Try.underlying4 _), (trodAll_cons_mk (Below.trod laidOut (by kernel_rfl) (of_decide_eq_true (by kernel_rfl)) k0 bel lt0) (trodAll_cons_mk (Below.trod laidOut (by kernel_rfl) (of_decide_eq_true (by kernel_rfl)) k1 bel lt1) (trodAll_cons_mk (Below.trod laidOut (by kernel_rfl) (of_decide_eq_true (by kernel_rfl)) k2 bel lt2) trodAll_mk0))), rfl, bel.frame _, fun h => by cases h⟩

theorem over : Rows.wordsCommuteRow.holds Try.pinned (OpenSpec.ofChange Rows.wordsCommuteSpec) :=
  OpenClaim.holds_of_wide 8 Try.f8 rfl rfl rfl rfl rfl rfl rfl ⟨rfl, rfl, rfl, rfl, rfl⟩ rfl rfl rfl rfl rfl (by kernel_rfl) Try.func8 (by kernel_rfl)
    (of_decide_eq_true (by kernel_rfl)) (by unfold Func.isWrapper; first | (rw [if_pos (by decide +kernel)]; kernel_rfl) | (rw [if_neg (by decide +kernel)]; exact ⟨rfl, rfl⟩))
    (fun os started H enc _ => lifted os started H enc)

theorem proved : Rows.WordsCommuteSaid := over
#print axioms proved
end Go.Proofs.Ytpakolaegbccdaa.PWordsCommute
