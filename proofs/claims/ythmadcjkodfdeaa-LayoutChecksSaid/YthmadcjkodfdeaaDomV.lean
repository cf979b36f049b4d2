/- Values and Of of leapfrogref03: contracts of the translated code. Conditions: those of XDom. -/
import Derived.Test.YthmadcjkodfdeaaDom
namespace Go.Proofs.Ythmadcjkodfdeaa
open Go.RowKit Go.Sort
set_option linter.unusedVariables false
set_option linter.unusedSimpArgs false
namespace Dm
theorem dmE_yes {k n : Int} {l : List Int} (h : dmB k n l = true) : dmE k n l = 0 := by rw [dmE, if_pos h]
theorem dmE_no {k n : Int} {l : List Int} (h : dmB k n l = false) : dmE k n l = 2 := by rw [dmE, h]; rfl
theorem dmN_no {k n : Int} {l : List Int} (h : dmB k n l = false) : dmN k n l = 0 := by rw [dmN, h]; rfl
theorem dmV_no {k n : Int} {l : List Int} (h : dmB k n l = false) (key : Int) : dmV k n l key = 0 := by rw [dmV, h]; rfl
/-- the three forms of a valid map -/
theorem dm_forms {k n : Int} {l : List Int} (h : dmB k n l = true) :
    (k = 1 ∧ n = 0 ∧ l = [] ∧ dmN k n l = 1 ∧ ∀ key, dmV k n l key = 0) ∨
    (k = 2 ∧ 1 ≤ n ∧ n ≤ 64 ∧ l = [] ∧ dmN k n l = n ∧ ∀ key, dmV k n l key = key % n) ∨
    (k = 3 ∧ n = 0 ∧ 1 ≤ l.length ∧ l.length ≤ 63 ∧ upTo l l.length ∧ dmN k n l = l.length + 1 ∧ ∀ key, dmV k n l key = cnt l key l.length) := by
  have h' := h
  unfold dmB at h'
  by_cases h1 : k = 1
  · subst h1
    rw [if_pos rfl, decide_eq_true_eq] at h'
    refine .inl ⟨rfl, h'.1, List.eq_nil_of_length_eq_zero h'.2, ?_, fun key => ?_⟩
    · rw [dmN, if_pos h]; simp
    · rw [dmV, if_pos h]; simp
  rw [if_neg h1] at h'
  by_cases h2 : k = 2
  · subst h2
    rw [if_pos rfl, decide_eq_true_eq] at h'
    refine .inr (.inl ⟨rfl, h'.1, h'.2.1, List.eq_nil_of_length_eq_zero h'.2.2, ?_, fun key => ?_⟩)
    · rw [dmN, if_pos h]; simp
    · rw [dmV, if_pos h]; simp
  rw [if_neg h2] at h'
  by_cases h3 : k = 3
  · subst h3
    rw [if_pos rfl, Bool.and_eq_true, decide_eq_true_eq, okC_iff] at h'
    refine .inr (.inr ⟨rfl, h'.1, h'.2.1, h'.2.2.1, h'.2.2.2.2, ?_, fun key => ?_⟩)
    · rw [dmN, if_pos h]; simp
    · rw [dmV, if_pos h]; simp
  · rw [if_neg h3] at h'; cases h'

theorem valuesR_any (k n : Int) (A : Option Addr) (m c : Nat) (l : List Int) (w : World) (kl : 0 ≤ k) (kh : k ≤ 255) (nl : -9223372036854775808 ≤ n) (nh : n ≤ 9223372036854775807) (hm : l.length = m) (hx : m ≤ maxLen) (hr : RdK .u64 w A l) (hd : BdU l) :
    Calls Try.prog 37 #[.agg #[.int .u8 k, .int .i64 n, .slice A m c]] w fun e w' => e = .returned (.tuple #[.int .i64 (dmN k n l), .int .i64 (dmE k n l)]) ∧ Below w.heap.size w w' := by
  have HR := Lib.hid hr; clear hr
  have HD := Lib.hid hd; clear hd
  have HM := Lib.hid hm; clear hm
  have b0 : Below w.heap.size w (w.alloc (Obj.cells #[.int .u8 k, .int .i64 n, .slice A m c] 24)) := bel_alloc (Below.refl _ _) _
  have C := fun W h => Lib.hid (checkR_any k n A m c l W kl kh nl nh HM.out hx h HD.out)
  cases hb : dmB k n l with
  | false =>
    have HE := Lib.hid (dmE_no hb)
    have HN := Lib.hid (dmN_no hb)
    go_enter Try.func37, Try.ntmps37
    go_wp2_with fail
    refine (C _ (HR.out.below b0)).out.mono ?_
    rw [HE.out]
    rintro r w1 ⟨rfl, b1⟩
    go_wp2
    go_ret2
    exact ⟨by rw [HN.out, HE.out]; rfl, bel_trans b0 b1⟩
  | true =>
    have HE := Lib.hid (dmE_yes hb)
    rcases dm_forms hb with ⟨rfl, rfl, rfl, hN, hV⟩ | ⟨rfl, n1, n2, rfl, hN, hV⟩ | ⟨rfl, rfl, l1, l2, hu, hN, hV⟩
    · have HN := Lib.hid hN
      clear hV hN hb
      go_enter Try.func37, Try.ntmps37
      go_wp2_with fail
      refine (C _ (HR.out.below b0)).out.mono ?_
      rw [HE.out]
      rintro r w1 ⟨rfl, b1⟩
      obtain ⟨kc, kf⟩ := bcell b1
      have e0 : w1.cell? ⟨w.heap.size, 0, none⟩ = some (.int .u8 1) := by rw [kc _ _ (by simp)]; simp
      clear kc kf
      go_wp2
      go_ret2
      exact ⟨by rw [HN.out, HE.out]; rfl, bel_trans b0 b1⟩
    · have HN := Lib.hid hN
      clear hV hN hb
      go_enter Try.func37, Try.ntmps37
      go_wp2_with fail
      refine (C _ (HR.out.below b0)).out.mono ?_
      rw [HE.out]
      rintro r w1 ⟨rfl, b1⟩
      obtain ⟨kc, kf⟩ := bcell b1
      have e0 : w1.cell? ⟨w.heap.size, 0, none⟩ = some (.int .u8 2) := by rw [kc _ _ (by simp)]; simp
      have e1 : w1.cell? ⟨w.heap.size, 1, none⟩ = some (.int .i64 n) := by rw [kc _ _ (by simp)]; simp
      clear kc kf
      go_wp2
      go_ret2
      exact ⟨by rw [HN.out, HE.out]; rfl, bel_trans b0 b1⟩
    · have HN := Lib.hid hN
      clear hV hN hb
      have hl1 : (m : Int) ≤ 63 := by have := HM.out; omega
      go_enter Try.func37, Try.ntmps37
      go_wp2_with fail
      refine (C _ (HR.out.below b0)).out.mono ?_
      rw [HE.out]
      rintro r w1 ⟨rfl, b1⟩
      obtain ⟨kc, kf⟩ := bcell b1
      have e0 : w1.cell? ⟨w.heap.size, 0, none⟩ = some (.int .u8 3) := by rw [kc _ _ (by simp)]; simp
      have e2 : w1.cell? ⟨w.heap.size, 2, none⟩ = some (.slice A m c) := by rw [kc _ _ (by simp)]; simp
      clear kc kf
      go_wp2
      go_ret2
      exact ⟨by rw [HN.out, HM.out, HE.out]; rfl, bel_trans b0 b1⟩

end Dm
end Go.Proofs.Ythmadcjkodfdeaa
