/- PlanCancels: for every input the law returns true, and each argument reads behind the call as it read before. The conditions are those of the given row: none beside it. (The frame was written by program; the walk lies in YtbdllakbkienoaaWkPl4.) -/
import Derived.Test.YtbdllakbkienoaaRows
import Derived.Test.YtbdllakbkienoaaWkPl4
import Derived.WalkKit
import Derived.ProofKit
import Derived.OpenShut
import Derived.ShutString
import Derived.ChangeOld
import Derived.Below
import Derived.Lib.SmallJoins
import Derived.SizedLaws
namespace Go.Proofs.Ytbdllakbkienoaa.PPlanCancels
open Go.ChangeShapes Go.WideShapes Go.ChangeAt Go.RowKit Go.Joins
open Go.ChangeMaps (open_string shut_string)
set_option linter.unusedVariables false

theorem own : ownKnob Try.prog.godebug = none := by kernel_rfl
theorem laidOut : laidOutB Try.prog = true := by kernel_rfl

set_option maxRecDepth 100000 in
theorem lifted (os : Os) (started : os.Started) (H : Type) (enc : TypeId × Value → H) :
    ReturnsInHanded {} Try.checked os 10 .any (Rows.planCancelsSpec.pre6 enc Try.prog Try.f10 Rows.planCancelsRow.domain false) (Rows.planCancelsSpec.post enc Try.prog Try.f10 false true false false) := by
  refine returnsInHanded_of_change_sized (C := Try.checked) own started (by kernel_rfl) Try.func10
    (ChangeSpec.witness6 (enc := enc) (C := Try.checked) false ⟨#[], #[.slice none 0 0], []⟩ 8 (by kernel_rfl) (by kernel_rfl) (by kernel_rfl) (by kernel_rfl)) ?_
  intro W base args ds gs before hval0 hW hcnd hsz0 _
  have hval : ∀ (j : Nat) t v, Try.f10.params[j]? = some t → args[j]? = some v → Value.okWide Try.prog W .any base t v := hval0
  have hW' := hW
  obtain ⟨p, q, hA0, hV, rfl, hfz, hnd⟩ := hW
  have hA : DataW.TrodAll enc Try.prog W 0 (fun _ => true) true Try.f10.params.toList args.toList ds p := hA0
  have hsz : (DataW.weightsEach Try.prog (Try.f10.params.toList ++ (Rows.planCancelsSpec).plain.varTypes Try.prog) (ds ++ gs)).all (· ≤ reachBytes) = true := hsz0
  clear hsz0
  rw [Try.params10] at hA hval hsz
  obtain ⟨v0, vs0, d0, ds0, p0, q0, hargs, rfl, rfl, h0, r0⟩ := trodAll_cons hA
  obtain ⟨rfl, rfl, rfl⟩ := trodAll_nil r0
  obtain rfl : args = #[v0] := by cases args; simp_all
  obtain ⟨rfl, rfl⟩ := trodVars_none hV
  have k0 := h0
  have lt0 : ∀ x ∈ p0, x.block < W.heap.size := by obtain ⟨m, hm⟩ := k0; exact DataW.trod_lt m _ _ _ hm
  obtain ⟨a0, a0n, a0c, a0v, rfl, a0e, a0m, a0r, a0b, a0z, a0x⟩ := Ytbdllakbkienoaa.Pl.open_changes (hval 0 27 v0 rfl rfl) h0
  have a0s : a0n * 40 ≤ 140737488351232 := by
    rcases a0x with h0 | ⟨el, sp, hd, hl⟩
    · omega
    · subst hd
      have q := sized_slice hsz (j := 0) (t := 27) (e := 45) rfl rfl Try.underlying27
      rw [show Try.prog.bytesOf 45 = 40 by kernel_rfl] at q
      simp only [reachBytes] at q
      omega
  have a0y : a0n ≤ a0c := Ytbdllakbkienoaa.Pl.cap_changes k0
  clear hA0 hval0
  refine (Ytbdllakbkienoaa.Wk.walk_planCancels a0 a0n a0c a0v W a0e a0m a0r a0b a0z a0s a0y).mono fun e W' ⟨he, bel⟩ => ?_
  subst he
  exact ⟨_, rfl, _, _, _, [], _, [], hW', trodAll_mk1 (shut_bool Try.underlying4 _), (trodAll_cons_mk (Below.trod laidOut (by kernel_rfl) (of_decide_eq_true (by kernel_rfl)) k0 bel lt0) trodAll_mk0), rfl, bel.frame _, fun h => by cases h⟩

theorem over : Rows.planCancelsRow.holds Try.pinned (OpenSpec.ofChange Rows.planCancelsSpec) :=
  OpenClaim.holds_of_wide 10 Try.f10 rfl rfl rfl rfl rfl rfl rfl ⟨rfl, rfl, rfl, rfl, rfl⟩ rfl rfl rfl rfl rfl (by kernel_rfl) Try.func10 (by kernel_rfl)
    (of_decide_eq_true (by kernel_rfl)) (by unfold Func.isWrapper; first | (rw [if_pos (by decide +kernel)]; kernel_rfl) | (rw [if_neg (by decide +kernel)]; exact ⟨rfl, rfl⟩))
    (fun os started H enc _ => lifted os started H enc)

theorem proved : Rows.PlanCancelsSaid := over
#print axioms proved
end Go.Proofs.Ytbdllakbkienoaa.PPlanCancels
