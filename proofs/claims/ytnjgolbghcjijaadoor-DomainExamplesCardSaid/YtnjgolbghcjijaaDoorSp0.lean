/- The functions of package span that package domain calls (Check, Has, Meet), each as a plain function on integers: contracts of the translated code. Conditions: the bounds of each argument's kind. -/
import Derived.Test.YtnjgolbghcjijaaDoorRows
import Derived.WalkKit
import Derived.ProofKit
import Derived.OpenShut
import Derived.Outline
import Derived.WalkLawsBesides
import Derived.Deep.QuietTactic
import Derived.BigQuiet
import Derived.Lib.QuietBelow
import Derived.Lib.Hide
namespace Go.Proofs.YtnjgolbghcjijaaDoor
open Go.RowKit Go.Sort
set_option linter.unusedVariables false
set_option linter.unusedSimpArgs false
namespace Sp
def ckE (a b : Int) : Int := if a ≤ b then 0 else 13
def hasB (a b k : Int) : Bool := decide (a ≤ k ∧ k ≤ b)
def mtB (a b c d : Int) : Bool := decide (a ≤ b ∧ c ≤ d ∧ a ≤ d ∧ c ≤ b)
def mtL (a b c d : Int) : Int := if mtB a b c d = true then max a c else 0
def mtH (a b c d : Int) : Int := if mtB a b c d = true then min b d else 0
def huB (a b c d : Int) : Bool := decide (a ≤ b ∧ c ≤ d)
def huL (a b c d : Int) : Int := if huB a b c d = true then min a c else 0
def huH (a b c d : Int) : Int := if huB a b c d = true then max b d else 0
def huE (a b c d : Int) : Int := if huB a b c d = true then 0 else 13
def shB (a b n : Int) : Bool := decide (a ≤ b ∧ n + b ≤ 18446744073709551615)
def shL (a b n : Int) : Int := if shB a b n = true then a + n else 0
def shH (a b n : Int) : Int := if shB a b n = true then b + n else 0
def shE (a b n : Int) : Int := if shB a b n = true then 0 else if a ≤ b then 12 else 13
def szA (a b : Int) : Bool := decide (a = 0 ∧ b = 18446744073709551615)
def szN (a b : Int) : Int := if a ≤ b then if szA a b = true then 0 else b - a + 1 else 0
def toB (a b c d : Int) : Bool := decide (c ≤ b + 1 ∧ a ≤ d + 1)
def cmpI (a b : Int) : Int := if a < b then -1 else if b < a then 1 else 0

theorem ret_eq {a b : Value} (h : a = b) : Ending.returned a = Ending.returned b := by rw [h]
theorem bcell {W w1 : World} (hb : Below W.heap.size W w1) : (∀ b o, b < W.heap.size → w1.cell? ⟨b, o, none⟩ = W.cell? ⟨b, o, none⟩) ∧ (∀ b o, b < W.heap.size → w1.frozen? ⟨b, o, none⟩ = W.frozen? ⟨b, o, none⟩) :=
  ⟨fun b o h => hb.cell (p := ⟨b, o, none⟩) h, fun b o h => hb.frozen (p := ⟨b, o, none⟩) h⟩

theorem bel_alloc {W w : World} (h : Below W.heap.size W w) (o : Obj) : Below W.heap.size W (w.alloc o) := h.alloc h.size o
theorem bel_trans {W w w1 : World} (h : Below W.heap.size W w) (h1 : Below w.heap.size w w1) : Below W.heap.size W w1 := h.trans (h1.mono h.size)
theorem wrap_top : IntKind.u64.wrap 18446744073709551616 = 0 := by decide +kernel
theorem bel_set {W w : World} {p : Addr} (h : Below W.heap.size W w) (hp : W.heap.size ≤ p.block) (v : Value) : Below W.heap.size W (w.setCell p v) := h.setCell hp v

theorem check_any (a b : Int) (al : 0 ≤ a) (ah : a ≤ 18446744073709551615) (bl : 0 ≤ b) (bh : b ≤ 18446744073709551615) (w : World) :
    Calls Tryd.prog 39 #[.agg #[.int .u64 a, .int .u64 b]] w fun e w' => e = .returned (.int .i64 (ckE a b)) ∧ Below w.heap.size w w' := by
  unfold ckE
  go_enter Tryd.func39, Tryd.ntmps39
  go_wp2
  all_goals (go_ret; exact ⟨rfl, (bel_alloc (Below.refl _ _) _)⟩)

theorem has_any (a b k : Int) (al : 0 ≤ a) (ah : a ≤ 18446744073709551615) (bl : 0 ≤ b) (bh : b ≤ 18446744073709551615) (kl : 0 ≤ k) (kh : k ≤ 18446744073709551615) (w : World) :
    Calls Tryd.prog 41 #[.agg #[.int .u64 a, .int .u64 b], .int .u64 k] w fun e w' => e = .returned (.bool (hasB a b k)) ∧ Below w.heap.size w w' := by
  go_enter Tryd.func41, Tryd.ntmps41
  go_wp2
  all_goals (go_ret; refine ⟨ret_eq ?_, (bel_alloc (Below.refl _ _) _)⟩; simp [hasB]; try omega)

theorem meet_any (a b c d : Int) (al : 0 ≤ a) (ah : a ≤ 18446744073709551615) (bl : 0 ≤ b) (bh : b ≤ 18446744073709551615) (cl : 0 ≤ c) (ch : c ≤ 18446744073709551615) (dl : 0 ≤ d) (dh : d ≤ 18446744073709551615) (w : World) :
    Calls Tryd.prog 48 #[.agg #[.int .u64 a, .int .u64 b], .agg #[.int .u64 c, .int .u64 d]] w fun e w' => e = .returned (.tuple #[.agg #[.int .u64 (mtL a b c d), .int .u64 (mtH a b c d)], .bool (mtB a b c d)]) ∧ Below w.heap.size w w' := by
  go_enter Tryd.func48, Tryd.ntmps48
  go_wp2
  all_goals (refine bodyPost_ret ?_ rfl ⟨rfl, ?_⟩)
  all_goals (first | exact (bel_alloc (bel_alloc (bel_alloc (bel_alloc (Below.refl _ _) _) _) _) _) | (simp [results, Tryd.results48, go_sem] <;> (try and_intros) <;> (try simp only [mtL, mtH, mtB]) <;> (try simp only [decide_eq_true_eq]) <;> (repeat split) <;> (first | omega | (symm; rw [decide_eq_false_iff_not]; omega) | (symm; rw [decide_eq_true_eq]; omega) | (rw [decide_eq_false_iff_not]; omega) | (rw [decide_eq_true_eq]; omega) | (rw [decide_eq_decide]; omega))))

end Sp
end Go.Proofs.YtnjgolbghcjijaaDoor
