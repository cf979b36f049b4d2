/- Step of leapfrogref14, whatever the step counter; the numbers of an operation. Conditions: those of XPoS. (Made ahead in round 13.) -/
import Derived.Test.YtdkkpaofodicjaaGreatPoS6
import Derived.Test.YtdkkpaofodicjaaGreatPoS8
import Derived.Test.YtdkkpaofodicjaaGreatPoN
namespace Go.Proofs.YtdkkpaofodicjaaGreat
open Go.RowKit Go.Sort
set_option linter.unusedVariables false
set_option linter.unusedSimpArgs false
set_option maxRecDepth 100000
namespace Po
open Wd
section
variable {w : World} {y x bm p : Nat} {q : Option Nat} {bl ta ga na n pp : Nat} {ht : Nat → Nat} {S : Pm} {stk : Nat → List Nat} {sw : Nat → Nat} {r : Op}
theorem stepR_any (h : Cx w y x bm p q bl ta ga na n pp ht S stk sw r) (hb : HdB r) (hp : r.pc ≠ 0) : Calls Tryz.prog 58 #[.pointer (some ⟨y, 0, none⟩)] w (StR y x bm p q bl ta ga na n (step pp S r).1 r (step pp S r).2 w) := by
  rcases h.k.p with e | e | ⟨e, _⟩ | ⟨e, _⟩ | ⟨e, _⟩ | ⟨e, _⟩
  · exact absurd e hp
  · exact step4_any h e hb.1 hb.2
  · exact step5_any h e hb.1 hb.2
  · exact step6_any h e hb.1 hb.2
  · exact step7_any h e hb.1 hb.2
  · exact step8_any h e hb.1 hb.2
end
end Po
end Go.Proofs.YtdkkpaofodicjaaGreat
