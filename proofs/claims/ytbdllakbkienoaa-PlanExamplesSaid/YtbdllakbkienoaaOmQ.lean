/- Range, Next, DeleteRange and Move of leapfrogref05: contracts of the translated code. Conditions: at most 1000 pairs with increasing keys; the bounds of each number's kind. -/
import Derived.Test.YtbdllakbkienoaaOmN
namespace Go.Proofs.Ytbdllakbkienoaa
open Go.RowKit Go.Sort
set_option linter.unusedVariables false
set_option linter.unusedSimpArgs false
namespace Om
/-- what Range shows, and its error -/
def rgL (l : List Pr) (lo hi : Int) : List Pr := if lo ≤ hi then inL l lo hi else []
def rgE (lo hi : Int) : Int := if lo ≤ hi then 0 else 13
def RgPost (w : World) (m : List Pr) (E : Int) (e : Ending) (w' : World) : Prop :=
  ∃ v, e = .returned (.tuple #[v, .int .i64 E]) ∧ w'.ownsRow w.heap.size 43 2 v m.length (flat m) ∧ Below w.heap.size w w'
/-! ### DeleteRange and Move -/
def deL (l : List Pr) (lo hi : Int) : List Pr := if lo ≤ hi then outL l lo hi else l
def deT (l : List Pr) (lo hi : Int) : Value := .tuple #[.int .i64 ((rgL l lo hi).length : Int), .int .i64 (rgE lo hi)]
theorem deR_nil (lo hi : Int) (w : World) : Calls Try.prog 49 #[.pointer none, .agg #[.int .u64 lo, .int .u64 hi]] w fun e w' => e = .returned (.tuple #[.int .i64 0, .int .i64 1]) ∧ Below w.heap.size w w' := by
  go_enter Try.func49, Try.ntmps49
  go_wp2
  go_ret2
  exact ⟨rfl, bel_alloc (Below.refl _ _) _⟩
theorem row_len {w : World} {B n : Nat} {t : TypeId} {v : Value} {l : List Pr} (h : w.ownsRow B t 2 v n (flat l)) : ∃ A c, v = .slice A n c := by
  obtain ⟨_, A, c, e, _⟩ := row_form h
  exact ⟨A, c, e⟩
set_option maxHeartbeats 1000000 in
theorem deR_any (bm : Nat) (v : Value) (l : List Pr) (lo hi : Int) (w : World) (hm : MapAt w bm v l) (hs : l.length ≤ 1000) (hd : Bd l) (ll : 0 ≤ lo) (lh : lo ≤ 18446744073709551615) (hl : 0 ≤ hi) (hh : hi ≤ 18446744073709551615) :
    Calls Try.prog 49 #[.pointer (some ⟨bm, 0, none⟩), .agg #[.int .u64 lo, .int .u64 hi]] w (Opn w bm v (deL l lo hi) (deT l lo hi)) := by
  have HM := Lib.hid hm; clear hm
  have b0 : Below w.heap.size w (w.alloc (.cells #[.int .u64 lo, .int .u64 hi] 25)) := bel_alloc (Below.refl _ _) _
  by_cases hle : lo ≤ hi
  · have HL := Lib.hid (show deL l lo hi = outL l lo hi from if_pos hle)
    have HT := Lib.hid (show deT l lo hi = .tuple #[.int .i64 ((inL l lo hi).length : Int), .int .i64 0] by unfold deT rgL rgE; rw [if_pos hle, if_pos hle])
    have t0 : decide (hi < lo) = false := decide_eq_false (by omega)
    have CX := fun W h => Lib.hid (cut_any bm v l lo hi W h hs hd ll lh hl hh)
    clear hle
    go_enter Try.func49, Try.ntmps49
    go_wp2_with fail
    refine (CX _ (HM.out.below b0)).out.mono ?_
    rintro r w2 ⟨q, v', rfl, hq, hm2, hf2, ho2⟩
    obtain ⟨A, c, rfl⟩ := row_len hq
    have HS := Lib.hid (show Opn _ bm v (outL l lo hi) (.tuple #[]) (.returned (.tuple #[])) w2 from ⟨v', rfl, hm2, Nx.fresh hf2, Chg.of_only ho2⟩)
    clear hq hm2 hf2 ho2
    go_wp2
    go_ret2
    rw [HL.out]
    exact HS.out.behind b0 (by rw [HT.out]; rfl)
  · have HL := Lib.hid (show deL l lo hi = l from if_neg hle)
    have HT := Lib.hid (show deT l lo hi = .tuple #[.int .i64 0, .int .i64 13] by unfold deT rgL rgE; rw [if_neg hle, if_neg hle]; rfl)
    have t0 : decide (hi < lo) = true := decide_eq_true (by omega)
    go_enter Try.func49, Try.ntmps49
    go_wp2
    go_ret2
    rw [HL.out]
    exact ⟨v, by rw [HT.out]; rfl, HM.out.below b0, Nx.refl _ _, Chg.of_below b0⟩
end Om
end Go.Proofs.Ytbdllakbkienoaa
