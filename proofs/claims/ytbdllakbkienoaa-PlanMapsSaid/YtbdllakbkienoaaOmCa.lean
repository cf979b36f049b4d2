/- span.Check, and take, Range, Next and DeleteRange of package omap: contracts of the translated code. Conditions: at most 1000 pairs with increasing keys; the bounds of each number's kind. -/
import Derived.Test.YtbdllakbkienoaaOmC1
namespace Go.Proofs.Ytbdllakbkienoaa
open Go.RowKit Go.Sort Go.Lib
set_option linter.unusedVariables false
set_option linter.unusedSimpArgs false
namespace Om
theorem checkS_any (a b : Int) (w : World) :
    Calls Try.prog 46 #[.agg #[.int .u64 a, .int .u64 b]] w fun e w' => e = .returned (.int .i64 (rgE a b)) ∧ Below w.heap.size w w' := by
  by_cases h : a ≤ b
  · have HE := Lib.hid (show rgE a b = 0 from if_pos h)
    have t0 : decide (b < a) = false := decide_eq_false (by omega)
    go_enter Try.func46, Try.ntmps46
    go_wp2
    go_ret
    exact ⟨by rw [HE.out]; rfl, (bel_alloc (Below.refl _ _) _)⟩
  · have HE := Lib.hid (show rgE a b = 13 from if_neg h)
    have t0 : decide (b < a) = true := decide_eq_true (by omega)
    go_enter Try.func46, Try.ntmps46
    go_wp2
    go_ret
    exact ⟨by rw [HE.out]; rfl, (bel_alloc (Below.refl _ _) _)⟩
theorem sub_rd {w : World} {g : Nat} {l : List Pr} (h : Rd w (some ⟨g, 0, none⟩) l) (a b : Nat) : Rd w (some ⟨g, a * 2, none⟩) ((l.take b).drop a) := by
  intro k x hk
  rw [List.getElem?_drop, List.getElem?_take] at hk
  split at hk
  · obtain ⟨b', o, e, c0, c1⟩ := h _ _ hk
    cases e
    refine ⟨g, a * 2, rfl, ?_, ?_⟩
    · rw [show a * 2 + k * 2 = 0 + (a + k) * 2 by omega]; exact c0
    · rw [show a * 2 + k * 2 + 1 = 0 + (a + k) * 2 + 1 by omega]; exact c1
  · cases hk
theorem rd_nil (w : World) (A : Option Addr) : Rd w A [] := fun k x hk => by simp at hk
theorem low_le (l : List Pr) {lo hi : Int} (h : lo ≤ hi) : lowN l lo ≤ lowN l (hi + 1) := lowN_mono l (by omega)
theorem in_len {l : List Pr} (ha : Asc l) {lo hi : Int} (h : lo ≤ hi) : (inL l lo hi).length = lowN l (hi + 1) - lowN l lo := by
  rw [in_cut ha h, List.length_drop, List.length_take]
  have := lowN_le l (hi + 1)
  omega
theorem delete_nil (c : Nat) (w : World) : Calls Try.prog 73 #[.slice none 0 0, .int .i64 0, .int .i64 0] w fun e w' => e = .returned (.slice none 0 0) ∧ w = w' := by
  go_enter Try.func73, Try.ntmps73
  go_wp2
  go_ret
  exact ⟨rfl, rfl⟩
/-- the pairs of a map, from one place to another, as a slice: three forms -/
inductive Cut (A : Option Addr) (n c a b : Nat) : Option Addr → Nat → Nat → Prop
  | nil : A = none → n = 0 → c = 0 → a = 0 → b = 0 → Cut A n c a b none 0 0
  | tip (g : Nat) : A = some ⟨g, 0, none⟩ → a = c → b = c → n = c → Cut A n c a b (some ⟨g, 0, none⟩) 0 0
  | mid (g : Nat) : A = some ⟨g, 0, none⟩ → a ≤ b → b ≤ n → n ≤ c → ¬ c = a → Cut A n c a b (some ⟨g, a * 2, none⟩) (b - a) (c - a)
theorem Cut.of {w : World} {bm n c : Nat} {A : Option Addr} {l : List Pr} (hm : MapAt w bm (.slice A n c) l) (hn : l.length = n) {a b : Nat} (hab : a ≤ b) (hb : b ≤ n) : ∃ A' n' c', Cut A n c a b A' n' c' := by
  rcases hm.2.2.1.2 with ⟨e, h⟩ | ⟨g, cap, cur, e, _, _, hnc, hcm, _⟩
  · injection e with e1 e2 e3
    exact ⟨none, 0, 0, .nil e1 (by omega) e3 (by omega) (by omega)⟩
  · injection e with e1 e2 e3
    subst e1 e3
    by_cases h : c = a
    · exact ⟨_, _, _, .tip g rfl h.symm (by omega) (by omega)⟩
    · exact ⟨_, _, _, .mid g rfl hab hb (by omega) h⟩
theorem Cut.rd {w : World} {n c a b n' c' : Nat} {A A' : Option Addr} {l : List Pr} (h : Cut A n c a b A' n' c') (hn : l.length = n) (hr : Rd w A l) : Rd w A' ((l.take b).drop a) ∧ ((l.take b).drop a).length = n' ∧ n' ≤ c' := by
  cases h with
  | nil h1 h2 h3 h4 h5 =>
    obtain rfl : l = [] := List.eq_nil_of_length_eq_zero (by omega)
    simp [rd_nil]
  | tip g h1 h2 h3 h4 =>
    have : (l.take b).drop a = [] := List.drop_eq_nil_of_le (by rw [List.length_take]; omega)
    rw [this]
    exact ⟨rd_nil _ _, rfl, Nat.le_refl _⟩
  | mid g h1 h2 h3 h4 h5 =>
    subst h1
    exact ⟨sub_rd hr a b, by rw [List.length_drop, List.length_take]; omega, by omega⟩
def TakePost (w : World) (bm : Nat) (A : Option Addr) (n c : Nat) (l : List Pr) (lo hi : Int) (e : Ending) (w' : World) : Prop :=
  ∃ q, e = .returned q ∧ w'.ownsRow w.heap.size 43 2 q (inL l lo hi).length (flat (inL l lo hi)) ∧ MapAt w' bm (.slice A (outL l lo hi).length c) (outL l lo hi) ∧ Chg bm (.slice A n c) w w'
set_option maxRecDepth 100000 in
set_option maxHeartbeats 2000000 in
theorem take_any (bm n c : Nat) (A : Option Addr) (l : List Pr) (lo hi : Int) (w : World) (hm : MapAt w bm (.slice A n c) l) (hn : l.length = n) (ha : Asc l) (hs : n ≤ 1000) (hle : lo ≤ hi) :
    Calls Try.prog 61 #[.pointer (some ⟨bm, 0, none⟩), .agg #[.int .u64 lo, .int .u64 hi]] w (TakePost w bm A n c l lo hi) := by
  have b0 : Below w.heap.size w (w.alloc (.cells #[.int .u64 lo, .int .u64 hi] 25)) := bel_alloc (Below.refl _ _) _
  have CW := Lib.hid (within_any bm _ l lo hi _ (hm.below b0) ha (by omega))
  unfold wT at CW
  have HI := Lib.hid (in_cut ha hle)
  have HIL := Lib.hid (in_len ha hle)
  have HO := Lib.hid (out_cut ha hle)
  have hab := low_le l hle
  have hbn := lowN_le l (hi + 1)
  rw [hn] at hbn
  have HOL := Lib.hid (show (outL l lo hi).length = n - (lowN l (hi + 1) - lowN l lo) by rw [HO.out, List.length_append, List.length_take, List.length_drop]; omega)
  obtain ⟨A', n', c', hcut⟩ := Cut.of hm hn hab hbn
  have HM := Lib.hid hm
  have HN := Lib.hid hn
  have CC := fun W (h : Rd W A' ((l.take (lowN l (hi + 1))).drop (lowN l lo))) (h2 : ((l.take (lowN l (hi + 1))).drop (lowN l lo)).length = n') => Lib.hid (clone_any A' n' c' _ W h2 (by rw [← h2, List.length_drop, List.length_take]; omega) h)
  have HR := Lib.hid (show ∀ W, Below w.heap.size w W → Rd W A' ((l.take (lowN l (hi + 1))).drop (lowN l lo)) ∧ ((l.take (lowN l (hi + 1))).drop (lowN l lo)).length = n' ∧ n' ≤ c' from fun W hb => by
    obtain ⟨_, A2, c2, e, _, rd, _⟩ := row_form (hm.below hb).2.2.1
    injection e with e1 e2 e3
    subst e1
    exact hcut.rd hn rd)
  rw [← HI.out] at CC HR
  have hsi : (n : Int) ≤ 1000 := by omega
  have hci : n ≤ c ∧ c ≤ 9223372036854775807 := by
    rcases hm.2.2.1.2 with ⟨e, h⟩ | ⟨g, cap, cur, e, _, _, hnc, hcm, _⟩
    · injection e with e1 e2 e3; omega
    · injection e with e1 e2 e3
      simp only [maxLen] at hcm
      omega
  obtain ⟨hnc, hc63⟩ := hci
  clear hm hn ha
  generalize lowN l lo = fr at *
  generalize lowN l (hi + 1) = to at *
  cases hcut with
  | nil h1 h2 h3 h4 h5 =>
    subst h1 h2 h3 h4 h5
    have CD := fun W => Lib.hid (delete_nil 0 W)
    go_enter Try.func61, Try.ntmps61
    go_wp2_with fail
    refine CW.out.mono ?_
    rintro r w1 ⟨rfl, b1⟩
    have bw := bel_trans b0 b1
    have m1 := (HM.out.below bw).1
    have R1 := Lib.hid (HR.out _ bw)
    go_wp2_with fail
    refine (CC _ R1.out.1 R1.out.2.1).out.mono ?_
    rintro r w2 ⟨q, rfl, hq, b2⟩
    have bw2 := bel_trans bw b2
    have HM2 := Lib.hid (HM.out.below bw2)
    have m2 := HM2.out.1
    have HQ := Lib.hid hq
    obtain ⟨A9, c9, e9⟩ := row_slice hq
    clear hq
    have BS := Lib.hid bw.size
    go_wp2_with fail
    refine (CD _).out.mono ?_
    rintro r w3 ⟨rfl, rfl⟩
    have hl0 : l = [] := List.eq_nil_of_length_eq_zero HN.out
    have HO0 := Lib.hid (show outL l lo hi = [] by rw [hl0]; rfl)
    have HM0 := Lib.hid (show MapAt w2 bm (.slice none 0 0) [] by have := HM2.out; rwa [hl0] at this)
    obtain ⟨k1, k2, k3, k4, k5⟩ := HM0.out.store (l' := []) (v' := .slice none 0 0) (grown_refl _ _) HM0.out.2.2.1 (.inl rfl)
    have K := Lib.hid (And.intro k3 k5)
    clear k3 k4 k5 hl0
    subst e9
    go_wp2
    go_ret
    refine ⟨_, rfl, ?_, by rw [HO0.out]; exact K.out.1, (Chg.of_below bw2).trans K.out.2 (Nx.refl _ _)⟩
    exact row_base (row_keep HQ.out fun k hk => Below.heap_setCell _ ⟨bm, 0, none⟩ _ k (fun e => by have h1 := (HQ.out.lt k hk).1; have h2 := HM.out.lt; have := BS.out; simp at e; omega)) BS.out
  | tip g h1 h2 h3 h4 =>
    subst h1 h2 h3 h4
    have CD := fun W h => Lib.hid (delete_any 0 g n n n n l W h (Nat.le_refl _) (Nat.le_refl _))
    go_enter Try.func61, Try.ntmps61
    go_wp2_with fail
    refine CW.out.mono ?_
    rintro r w1 ⟨rfl, b1⟩
    have bw := bel_trans b0 b1
    have m1 := (HM.out.below bw).1
    have R1 := Lib.hid (HR.out _ bw)
    go_wp2_with fail
    refine (CC _ R1.out.1 R1.out.2.1).out.mono ?_
    rintro r w2 ⟨q, rfl, hq, b2⟩
    have bw2 := bel_trans bw b2
    have HM2 := Lib.hid (HM.out.below bw2)
    have m2 := HM2.out.1
    have HQ := Lib.hid hq
    obtain ⟨A9, c9, e9⟩ := row_slice hq
    clear hq
    have BS := Lib.hid bw.size
    have hr2 := HM2.out.2.2.1
    rw [HN.out] at hr2
    go_wp2_with fail
    refine (CD _ hr2).out.mono ?_
    rintro r w3 ⟨rfl, hr3, hg3⟩
    have HL3 := Lib.hid (show (l.take n ++ l.drop n).length = n - (n - n) by rw [List.length_append, List.length_take, List.length_drop, HN.out]; omega)
    obtain ⟨k1, k2, k3, k4, k5⟩ := HM2.out.store (l' := l.take n ++ l.drop n) (v' := .slice (some ⟨g, 0, none⟩) (n - (n - n)) n) hg3 (by rw [HL3.out]; exact hr3) (.inl rfl)
    rw [← HO.out] at k3
    have K := Lib.hid (And.intro k3 k5)
    have HG := Lib.hid hg3
    have HOg := Lib.hid (show (outL l lo hi).length = n - (n - n) from HOL.out)
    clear k3 k4 k5 hr2 hr3 hg3 HL3
    subst e9
    generalize n - (n - n) = nq at *
    go_wp2
    go_ret
    refine ⟨_, rfl, ?_, by rw [HOg.out]; exact K.out.1, (Chg.of_below bw2).trans K.out.2 (Nx.refl _ _)⟩
    have hgl := HM2.out.row_lt g rfl
    have hgw := HM.out.row_lt g rfl
    exact row_base (row_keep HQ.out fun k hk => (Below.heap_setCell _ ⟨bm, 0, none⟩ _ k (fun e => by have h1 := (HQ.out.lt k hk).1; have h2 := HM.out.lt; have := BS.out; simp at e; omega)).trans (HG.out.block k (HQ.out.lt k hk).2 fun e => by have h1 := (HQ.out.lt k hk).1; have := BS.out; injection e with e; omega)) BS.out
  | mid g h1 h2 h3 h4 h5 =>
    subst h1
    have CD := fun W h => Lib.hid (delete_any 0 g n c fr to l W h h2 h3)
    have z1 : (fr : Int) ≤ to := by omega
    have z2 : (to : Int) ≤ n := by omega
    have z3 : (to : Int) ≤ c := by omega
    have z4 : to ≤ c := by omega
    go_enter Try.func61, Try.ntmps61
    go_wp2_with fail
    refine CW.out.mono ?_
    rintro r w1 ⟨rfl, b1⟩
    have bw := bel_trans b0 b1
    have m1 := (HM.out.below bw).1
    have R1 := Lib.hid (HR.out _ bw)
    go_wp2_with fail
    refine (CC _ R1.out.1 R1.out.2.1).out.mono ?_
    rintro r w2 ⟨q, rfl, hq, b2⟩
    have bw2 := bel_trans bw b2
    have HM2 := Lib.hid (HM.out.below bw2)
    have m2 := HM2.out.1
    have HQ := Lib.hid hq
    obtain ⟨A9, c9, e9⟩ := row_slice hq
    clear hq
    have BS := Lib.hid bw.size
    have hr2 := HM2.out.2.2.1
    rw [HN.out] at hr2
    go_wp2_with fail
    refine (CD _ hr2).out.mono ?_
    rintro r w3 ⟨rfl, hr3, hg3⟩
    have HL3 := Lib.hid (show (l.take fr ++ l.drop to).length = n - (to - fr) by rw [List.length_append, List.length_take, List.length_drop, HN.out]; omega)
    obtain ⟨k1, k2, k3, k4, k5⟩ := HM2.out.store (l' := l.take fr ++ l.drop to) (v' := .slice (some ⟨g, 0, none⟩) (n - (to - fr)) c) hg3 (by rw [HL3.out]; exact hr3) (.inl rfl)
    rw [← HO.out] at k3
    have K := Lib.hid (And.intro k3 k5)
    have HG := Lib.hid hg3
    have HOg := Lib.hid (show (outL l lo hi).length = n - (to - fr) from HOL.out)
    clear k3 k4 k5 hr2 hr3 hg3 HL3
    subst e9
    generalize n - (to - fr) = nq at *
    go_wp2
    go_ret
    refine ⟨_, rfl, ?_, by rw [HOg.out]; exact K.out.1, (Chg.of_below bw2).trans K.out.2 (Nx.refl _ _)⟩
    have hgl := HM2.out.row_lt g rfl
    have hgw := HM.out.row_lt g rfl
    exact row_base (row_keep HQ.out fun k hk => (Below.heap_setCell _ ⟨bm, 0, none⟩ _ k (fun e => by have h1 := (HQ.out.lt k hk).1; have h2 := HM.out.lt; have := BS.out; simp at e; omega)).trans (HG.out.block k (HQ.out.lt k hk).2 fun e => by have h1 := (HQ.out.lt k hk).1; have := BS.out; injection e with e; omega)) BS.out
/-! ### DeleteRange -/
theorem deC_nil (lo hi : Int) (w : World) : Calls Try.prog 35 #[.pointer none, .agg #[.int .u64 lo, .int .u64 hi]] w fun e w' => e = .returned (.tuple #[.int .i64 0, .int .i64 1]) ∧ Below w.heap.size w w' := by
  go_enter Try.func35, Try.ntmps35
  go_wp2
  go_ret2
  exact ⟨rfl, bel_alloc (Below.refl _ _) _⟩
theorem TakePost.opn {w w' : World} {bm n c : Nat} {A : Option Addr} {l : List Pr} {lo hi : Int} {e : Ending} (r : Value) (h : TakePost w bm A n c l lo hi e w') : Opn w bm (.slice A n c) (outL l lo hi) r (.returned r) w' := by
  obtain ⟨q, _, _, hm, hc⟩ := h
  refine ⟨_, rfl, hm, fun k hk => .inl ?_, hc⟩
  cases A with
  | none => simp [Value.ownBlock] at hk
  | some a => exact hk
set_option maxRecDepth 100000 in
set_option maxHeartbeats 2000000 in
theorem deC_any (bm : Nat) (v : Value) (l : List Pr) (lo hi : Int) (w : World) (hm : MapAt w bm v l) (ha : Asc l) (hs : l.length ≤ 1000) (hd : Bd l) (ll : 0 ≤ lo) (lh : lo ≤ 18446744073709551615) (hl : 0 ≤ hi) (hh : hi ≤ 18446744073709551615) :
    Calls Try.prog 35 #[.pointer (some ⟨bm, 0, none⟩), .agg #[.int .u64 lo, .int .u64 hi]] w (Opn w bm v (deL l lo hi) (deT l lo hi)) := by
  have b0 : Below w.heap.size w (w.alloc (.cells #[.int .u64 lo, .int .u64 hi] 25)) := bel_alloc (Below.refl _ _) _
  have CK := fun W => Lib.hid (checkS_any lo hi W)
  have HM := Lib.hid hm
  by_cases hle : lo ≤ hi
  · have HL := Lib.hid (show deL l lo hi = outL l lo hi from if_pos hle)
    have HT := Lib.hid (show deT l lo hi = .tuple #[.int .i64 ((inL l lo hi).length : Int), .int .i64 0] by unfold deT rgL rgE; rw [if_pos hle, if_pos hle])
    rw [show rgE lo hi = 0 from if_pos hle] at CK
    obtain ⟨A, c, rfl, hc, rd, hz⟩ := hm.rd
    have CX := fun W h => Lib.hid (take_any bm l.length c A l lo hi W h rfl ha hs hle)
    clear hm rd hz hle hd
    go_enter Try.func35, Try.ntmps35
    go_wp2_with fail
    refine (CK _).out.mono ?_
    rintro r w1 ⟨rfl, b1⟩
    have bw := bel_trans b0 b1
    have e0 : w1.cell? ⟨w.heap.size, 0, none⟩ = some (.int .u64 lo) := by rw [b1.cell (p := ⟨w.heap.size, 0, none⟩) (by simp)]; simp
    have e1 : w1.cell? ⟨w.heap.size, 1, none⟩ = some (.int .u64 hi) := by rw [b1.cell (p := ⟨w.heap.size, 1, none⟩) (by simp)]; simp
    go_wp2_with fail
    refine (CX _ (HM.out.below bw)).out.mono ?_
    intro r w2 hT
    have HS := Lib.hid (hT.opn (.tuple #[]))
    obtain ⟨q, rfl, hq, _⟩ := hT
    obtain ⟨A2, c2, rfl⟩ := row_slice hq
    clear hq
    go_wp2
    go_ret2
    rw [HL.out]
    exact HS.out.behind bw (by rw [HT.out]; rfl)
  · have HL := Lib.hid (show deL l lo hi = l from if_neg hle)
    have HT := Lib.hid (show deT l lo hi = .tuple #[.int .i64 0, .int .i64 13] by unfold deT rgL rgE; rw [if_neg hle, if_neg hle]; rfl)
    rw [show rgE lo hi = 13 from if_neg hle] at CK
    clear hm ha hd hle
    go_enter Try.func35, Try.ntmps35
    go_wp2_with fail
    refine (CK _).out.mono ?_
    rintro r w1 ⟨rfl, b1⟩
    have bw := bel_trans b0 b1
    go_wp2
    go_ret2
    rw [HL.out]
    exact ⟨v, by rw [HT.out]; rfl, HM.out.below bw, Nx.refl _ _, Chg.of_below bw⟩
end Om
end Go.Proofs.Ytbdllakbkienoaa
