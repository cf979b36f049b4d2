/- What the laws want of runs and logs: bounds, the words on the way, a log that is spoilt. No conditions. -/
import Derived.Test.YtjocbmoelkobaaaWdO
namespace Go.Proofs.Ytjocbmoelkobaaa
open Go.RowKit Go.Sort
set_option linter.unusedVariables false
set_option linter.unusedSimpArgs false
namespace Wd
open Dm (addr_lit info_parts spot_none RdK flatU infoU bel_alloc bel_trans own_keep below_drewN)
structure Mb (M : Wm) : Prop where
  w : BdW M.W
  l : BdA M.L
theorem Mb.put {M : Wm} {t a k n : Int} {s : Bool} (h : Mb M) (ht : 0 ≤ t ∧ t < 64) (ha : 0 ≤ a ∧ a < 65536) (hk : 0 ≤ k ∧ k ≤ 4) (hn : 0 ≤ n ∧ n ≤ 18446744073709551615) : Mb (M.put t a k n s) := by
  refine ⟨Wm.bd_put h.w t a k s hn.1 hn.2, fun x hx => ?_⟩
  rcases List.mem_append.1 (show x ∈ M.L ++ [⟨t, a, k, M.get a, n, s⟩] from hx) with h1 | h1
  · exact h.l x h1
  · obtain rfl := List.mem_singleton.1 h1
    have hg := Wm.get_bd h.w a
    exact ⟨by show _ ≤ t; omega, by show t ≤ _; omega, by show _ ≤ a; omega, by show a ≤ _; omega, hk.1, by show k ≤ _; omega, hg.1, hg.2, hn.1, hn.2⟩
theorem Mb.step {W : List Int} {M : Wm} (h : Mb M) (hg : Gd W M) (h0 : 0 < W.length) (h1 : W.length ≤ 65536) {x : Dd} (bx : BdD1 x) : Mb (step W.length M x) := by
  have ht : 0 ≤ x.t % 64 ∧ x.t % 64 < 64 := by omega
  have ha : 0 ≤ x.a % (W.length : Int) ∧ x.a % (W.length : Int) < 65536 := by
    have h2 := Int.emod_nonneg x.a (show (W.length : Int) ≠ 0 by omega)
    have h3 := Int.emod_lt_of_pos x.a (show (0 : Int) < W.length by omega)
    omega
  unfold Wd.step Wm.deed nrm
  simp only
  by_cases c0 : x.d % 5 = 0
  · rw [if_pos c0]; exact h.put ht ha ⟨by omega, by omega⟩ (Wm.get_bd h.w _)
  rw [if_neg c0]
  by_cases c1 : x.d % 5 = 1
  · rw [if_pos c1]; exact h.put ht ha ⟨by omega, by omega⟩ ⟨bx.v0, bx.v1⟩
  rw [if_neg c1]
  by_cases c2 : x.d % 5 = 2
  · rw [if_pos c2]; exact h.put ht ha ⟨by omega, by omega⟩ (M.sum_bd _ _)
  rw [if_neg c2]
  by_cases c3 : x.d % 5 = 3
  · rw [if_pos c3]
    unfold Wm.cas
    split
    · exact h.put ht ha ⟨by omega, by omega⟩ ⟨bx.v0, bx.v1⟩
    · exact h.put ht ha ⟨by omega, by omega⟩ (Wm.get_bd h.w _)
  · rw [if_neg c3]; exact h
theorem run_bd (W : List Int) (h0 : 0 < W.length) (h1 : W.length ≤ 65536) (hW : BdW W) : ∀ l : List Dd, BdD l → Mb (runM W l) := fun l hl => by
  have key : ∀ (l : List Dd) (M : Wm), Gd W M → Mb M → BdD l → Mb (l.foldl (step W.length) M) := by
    intro l
    induction l with
    | nil => intro M _ h _; exact h
    | cons x l ih =>
      intro M hg h hl
      exact ih _ (hg.step h0 x).1 (h.step hg h0 h1 (hl x (.head _))) fun y hy => hl y (.tail _ hy)
  exact key l ⟨W, []⟩ ⟨rfl, fun i x hx => by simp at hx⟩ ⟨hW, fun x hx => by cases hx⟩ hl
/-- the words on the way -/
theorem lead_next {W : List Int} {L : List Ac} {k i : Nat} {y : Ac} (hy : L[k]? = some y) (ha : 0 ≤ y.a) (hi : i < W.length) :
    (lead W (L.take (k + 1))).getD i 0 = if y.a = (i : Int) then y.n else (lead W (L.take k)).getD i 0 := by
  rw [List.take_add_one, hy]
  show (lead W (L.take k ++ [y])).getD i 0 = _
  rw [lead_snoc, List.getD_eq_getElem?_getD, List.getElem?_set]
  by_cases e : y.a = (i : Int)
  · rw [if_pos e, if_pos (by omega), if_pos (by rw [lead_len]; omega)]; rfl
  · rw [if_neg e, if_neg (by omega), List.getD_eq_getElem?_getD]
theorem good_at {W : List Int} {L : List Ac} (h : Good W L) {i : Nat} {x : Ac} (hx : L[i]? = some x) : ∃ a : Nat, x.a = (a : Int) ∧ a < W.length ∧ x.o = (lead W (L.take i)).getD a 0 := by
  have ho := h i x hx
  obtain ⟨a, ea, la⟩ := ok_addr ho
  rw [lead_len] at la
  refine ⟨a, ea, la, ?_⟩
  have := ho.2.2.1
  rw [ea, Int.toNat_natCast] at this
  exact this
/-- one access saw another number -/
def spoil (L : List Ac) (k : Nat) (y : Int) : List Ac := match L[k]? with
  | some x => L.set k { x with o := y }
  | none => L
theorem spoil_eq {L : List Ac} {k : Nat} {x : Ac} (hx : L[k]? = some x) (y : Int) : spoil L k y = L.set k { x with o := y } := by unfold spoil; rw [hx]
theorem spoilt {W : List Int} {L : List Ac} {k : Nat} {x : Ac} {y : Int} (h : Good W L) (hx : L[k]? = some x) (hy : y ≠ x.o) : scan W (L.set k { x with o := y }) 0 = (none, k) := by
  have hk := (List.getElem?_eq_some_iff.1 hx).1
  have := scan_spoilt (L.set k { x with o := y }) W 0 k (fun j z hj hz => ?_) (fun z hz ho => ?_) (by simpa using hk)
  · rw [this, Nat.zero_add]
  · rw [List.getElem?_set_ne (by omega)] at hz
    rw [List.take_set_of_le (by omega)]
    exact h j z hz
  · rw [List.getElem?_set_self hk] at hz
    injection hz with hz
    rw [List.take_set_of_le (Nat.le_refl _)] at ho
    have h1 := (h k x hx).2.2.1
    have h2 := ho.2.2.1
    subst hz
    exact hy (h2.trans h1.symm)
theorem flatA_set : ∀ (L : List Ac) (k : Nat) (x : Ac) (y : Int), L[k]? = some x → (flatA L).set (k * 6 + 3) (.int .u64 y) = flatA (L.set k { x with o := y })
  | [], k, x, y, h => by simp at h
  | z :: L, 0, x, y, h => by
    have : z = x := by simpa using h
    subst this
    rfl
  | z :: L, k + 1, x, y, h => by
    have ih := flatA_set L k x y (by simpa using h)
    show (encA z ++ flatA L).set ((k + 1) * 6 + 3) _ = encA z ++ flatA (L.set k { x with o := y })
    rw [← ih, List.set_append_right _ _ (by simp [encA]; omega)]
    congr 2
    simp [encA]; omega
theorem from_zero (L : List Ac) : from_ L 0 = L := by
  unfold from_
  by_cases h : 0 < L.length
  · rw [if_pos ⟨Int.le_refl _, by omega⟩]; rfl
  · rw [if_neg (by omega)]
    exact (List.length_eq_zero_iff.1 (by omega)).symm
/-- a call's outcome, for a memory of the call's own -/
theorem after_own {ty : TypeId} {w w' : World} {B b p : Nat} {q : Option Nat} {N : Wm} (hO : ∀ i, Of b p q i → B ≤ i) (hB : B ≤ w.heap.size) (ha : After ty b p q N w w') : ∃ q', At ty w' b p q' N ∧ (∀ i, Of b p q' i → B ≤ i) ∧ Below B w w' := by
  obtain ⟨q', h1, h2, h3⟩ := ha
  refine ⟨q', h1, fun i hi => ?_, h3.below hB fun i hi e => by have := hO i e; omega⟩
  rcases hi with e | e | e
  · exact hO i (.inl e)
  · exact hO i (.inr (.inl e))
  · rcases h2 i e with h | h
    · exact hO i (.inr (.inr h))
    · omega
end Wd
end Go.Proofs.Ytjocbmoelkobaaa
