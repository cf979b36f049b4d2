/- merged of leapfrogref06 (written by tools/mk6mrg.py): contract of the translated code. Conditions: at most 500 keys each. -/
import Derived.Test.YtbdllakbkienoaaPlC
namespace Go.Proofs.Ytbdllakbkienoaa
open Go.RowKit Go.Sort
set_option linter.unusedVariables false
set_option linter.unusedSimpArgs false
namespace Pl
open Om (addr_lit bel_alloc bel_trans below_drewN ret_eq)
theorem drop_at {l : List Int} {i : Nat} {x : Int} (h : l[i]? = some x) : l.drop i = x :: l.drop (i + 1) := by
  obtain ⟨hi, e⟩ := List.getElem?_eq_some_iff.1 h
  rw [List.drop_eq_getElem_cons hi, e]
theorem mrg_a {a b : List Int} {i k : Nat} {x : Int} (hx : a[i]? = some x) (hk : b.length ≤ k) : mergeK (a.drop i) (b.drop k) = x :: mergeK (a.drop (i + 1)) (b.drop k) := by
  rw [List.drop_eq_nil_of_le hk, mergeK_nil, mergeK_nil, drop_at hx]
theorem mrg_b {a b : List Int} {i k : Nat} {x y : Int} (hx : a[i]? = some x) (hy : b[k]? = some y) (h : x < y) : mergeK (a.drop i) (b.drop k) = x :: mergeK (a.drop (i + 1)) (b.drop k) := by
  rw [drop_at hx, drop_at hy, mergeK_cons, if_pos h]
theorem mrg_c {a b : List Int} {i k : Nat} {x y : Int} (hx : a[i]? = some x) (hy : b[k]? = some y) (h : x = y) : mergeK (a.drop i) (b.drop k) = y :: mergeK (a.drop (i + 1)) (b.drop (k + 1)) := by
  rw [drop_at hx, drop_at hy, mergeK_cons, if_neg (by omega), if_pos h]
theorem mrg_d {a b : List Int} {i k : Nat} {x y : Int} (hx : a[i]? = some x) (hy : b[k]? = some y) (h : y < x) : mergeK (a.drop i) (b.drop k) = y :: mergeK (a.drop i) (b.drop (k + 1)) := by
  rw [drop_at hx, drop_at hy, mergeK_cons, if_neg (by omega), if_neg (by omega)]
theorem mrg_e {a b : List Int} {i k : Nat} {y : Int} (hi : a.length ≤ i) (hy : b[k]? = some y) : mergeK (a.drop i) (b.drop k) = y :: mergeK (a.drop i) (b.drop (k + 1)) := by
  rw [List.drop_eq_nil_of_le hi, drop_at hy]; rfl
theorem snoc_eq {o r t : List Int} {z : Int} {m : List Int} (h : o ++ m = t) (e : m = z :: r) : (o ++ [z]) ++ r = t := by rw [← h, e]; simp
theorem getI_lt {l : List Int} {k n : Nat} (hn : l.length = n) (h : k < n) : ∃ x, l[k]? = some x := ⟨l[k]'(by omega), List.getElem?_eq_getElem (by omega)⟩
set_option maxRecDepth 100000 in
set_option maxHeartbeats 4000000 in
theorem mergedR_any (A B : Option Addr) (n c m d : Nat) (la lb : List Int) (w : World) (hn : la.length = n) (hm : lb.length = m) (hs : n ≤ 500) (hs2 : m ≤ 500) (hr : RdU w A la) (hr2 : RdU w B lb) :
    Calls Try.prog 45 #[.slice A n c, .slice B m d] w fun e w' => ∃ v, e = .returned v ∧ w'.ownsRow w.heap.size 23 1 v (mergeK la lb).length (flatU (mergeK la lb)) ∧ Below w.heap.size w w' := by
  have HA := Lib.hid hr; clear hr
  have HB := Lib.hid hr2; clear hr2
  have LA := Lib.hid hn; clear hn
  have LB := Lib.hid hm; clear hm
  have hz1 : (n : Int) ≤ 500 := by omega
  have hz2 : (m : Int) ≤ 500 := by omega
  go_enter Try.func45, Try.ntmps45
  go_wp2
  go_loopw [5, 6, 7] (fun q i k wr => ∃ (o : List Int) (oi ok p : Nat), oi ≤ n ∧ ok ≤ m ∧ o.length = p ∧ p ≤ oi + ok ∧ i = .int .i64 (oi : Int) ∧ k = .int .i64 (ok : Int) ∧ o ++ mergeK (la.drop oi) (lb.drop ok) = mergeK la lb ∧ wr.ownsRow w.heap.size 23 1 q p (flatU o) ∧ Below w.heap.size w wr) (fun q i k _ => (n + m - (intOf i).toNat - (intOf k).toNat))
  case atStart => exact ⟨[], 0, 0, 0, Nat.zero_le _, Nat.zero_le _, rfl, Nat.zero_le _, rfl, rfl, rfl, World.ownsRow_nil _ _ _ _, Below.refl _ _⟩
  case round =>
    obtain ⟨o, i, k, p, hi, hk, hp, hpi, rfl, rfl, hE, hq, bel⟩ := hrel
    have HE := Lib.hid hE; clear hE
    have HQ := Lib.hid hq
    have HP := Lib.hid hp; clear hp
    obtain ⟨_, A', c', rfl, _⟩ := rowU_rd hq
    clear hq
    by_cases hin : i < n
    · by_cases hkm : k < m
      · skip
        obtain ⟨x, hx⟩ := getI_lt LA.out hin
        obtain ⟨b1, o1, rfl, g0⟩ := (HA.out.below bel) i x hx
        have u1 : decide ((i : Int) < n) = true := decide_eq_true (by omega)
        have hii : (i : Int) < n := by omega
        obtain ⟨y, hy⟩ := getI_lt LB.out hkm
        obtain ⟨b2, o2, rfl, k0⟩ := (HB.out.below bel) k y hy
        have u2 : decide ((k : Int) < m) = true := decide_eq_true (by omega)
        have u3 : ((k : Int) == m) = false := by simp; omega
        have hki : (k : Int) < m := by omega
        rcases Int.lt_trichotomy x y with hxy | hxy | hxy
        · have v1 : decide (x < y) = true := decide_eq_true hxy
          have HN := Lib.hid (snoc_eq HE.out (mrg_b hx hy hxy))
          clear hx hy hxy
          go_wp2
          go_quiet (fail)
          go_wp2_with (at_builtin; refine app1U rfl (.tmp 39) (.tmp 44) rfl _ w.heap.size _ _ o x rfl rfl HQ.out (by omega) bel.size ?_; intro v8 w8 h1 b8; have HW8 := Lib.hid h1; clear h1)
          go_roundw
          case rel => exact ⟨_, i + 1, k, p + 1, by omega, by omega, by rw [List.length_append, HP.out]; rfl, by omega, by go_num, by go_num, HN.out, HW8.out, (below_drewN bel _).trans b8⟩
          case measure => simp [intOf]; omega
        · have v1 : decide (x < y) = false := decide_eq_false (by omega)
          have v2 : (x == y) = true := by simp [hxy]
          have HN := Lib.hid (snoc_eq HE.out (mrg_c hx hy hxy))
          clear hx hy hxy
          go_wp2
          go_quiet (fail)
          go_wp2
          go_quiet (fail)
          go_wp2_with (at_builtin; refine app1U rfl (.tmp 65) (.tmp 70) rfl _ w.heap.size _ _ o y rfl rfl HQ.out (by omega) bel.size ?_; intro v8 w8 h1 b8; have HW8 := Lib.hid h1; clear h1)
          go_roundw
          case rel => exact ⟨_, i + 1, k + 1, p + 1, by omega, by omega, by rw [List.length_append, HP.out]; rfl, by omega, by go_num, by go_num, HN.out, HW8.out, (below_drewN bel _).trans b8⟩
          case measure => simp [intOf]; omega
        · have v1 : decide (x < y) = false := decide_eq_false (by omega)
          have v2 : (x == y) = false := by simp; omega
          have HN := Lib.hid (snoc_eq HE.out (mrg_d hx hy hxy))
          clear hx hy hxy
          go_wp2
          go_quiet (fail)
          go_wp2
          go_quiet (fail)
          go_wp2_with (at_builtin; refine app1U rfl (.tmp 65) (.tmp 70) rfl _ w.heap.size _ _ o y rfl rfl HQ.out (by omega) bel.size ?_; intro v8 w8 h1 b8; have HW8 := Lib.hid h1; clear h1)
          go_roundw
          case rel => exact ⟨_, i, k + 1, p + 1, by omega, by omega, by rw [List.length_append, HP.out]; rfl, by omega, by go_num, by go_num, HN.out, HW8.out, (below_drewN bel _).trans b8⟩
          case measure => simp [intOf]; omega
      · obtain rfl : k = m := by omega
        obtain ⟨x, hx⟩ := getI_lt LA.out hin
        obtain ⟨b1, o1, rfl, g0⟩ := (HA.out.below bel) i x hx
        have u1 : decide ((i : Int) < n) = true := decide_eq_true (by omega)
        have hii : (i : Int) < n := by omega
        have HN := Lib.hid (snoc_eq HE.out (mrg_a hx (by rw [LB.out]; omega)))
        clear hx
        go_wp2
        go_quiet (fail)
        go_wp2_with (at_builtin; refine app1U rfl (.tmp 39) (.tmp 44) rfl _ w.heap.size _ _ o x rfl rfl HQ.out (by omega) bel.size ?_; intro v8 w8 h1 b8; have HW8 := Lib.hid h1; clear h1)
        go_roundw
        case rel => exact ⟨_, i + 1, k, p + 1, by omega, by omega, by rw [List.length_append, HP.out]; rfl, by omega, by go_num, by go_num, HN.out, HW8.out, (below_drewN bel _).trans b8⟩
        case measure => simp [intOf]; omega
    · obtain rfl : i = n := by omega
      have u1 : decide ((i : Int) < i) = false := decide_eq_false (by omega)
      by_cases hkm : k < m
      · skip
        obtain ⟨y, hy⟩ := getI_lt LB.out hkm
        obtain ⟨b2, o2, rfl, k0⟩ := (HB.out.below bel) k y hy
        have u2 : decide ((k : Int) < m) = true := decide_eq_true (by omega)
        have u3 : ((k : Int) == m) = false := by simp; omega
        have hki : (k : Int) < m := by omega
        have HN := Lib.hid (snoc_eq HE.out (mrg_e (a := la) (by rw [LA.out]; omega) hy))
        clear hy
        go_wp2
        go_quiet (fail)
        go_wp2
        go_quiet (fail)
        go_wp2_with (at_builtin; refine app1U rfl (.tmp 65) (.tmp 70) rfl _ w.heap.size _ _ o y rfl rfl HQ.out (by omega) bel.size ?_; intro v8 w8 h1 b8; have HW8 := Lib.hid h1; clear h1)
        go_roundw
        case rel => exact ⟨_, i, k + 1, p + 1, by omega, by omega, by rw [List.length_append, HP.out]; rfl, by omega, by go_num, by go_num, HN.out, HW8.out, (below_drewN bel _).trans b8⟩
        case measure => simp [intOf]; omega
      · obtain rfl : k = m := by omega
        have u2 : decide ((k : Int) < k) = false := decide_eq_false (by omega)
        have HO := Lib.hid (show o = mergeK la lb by
          have h := HE.out
          rw [List.drop_eq_nil_of_le (by rw [LA.out]; omega), List.drop_eq_nil_of_le (by rw [LB.out]; omega)] at h
          simpa [mergeK] using h)
        go_wp2
        go_ret
        exact ⟨_, rfl, by have h := HQ.out; rw [← HP.out, HO.out] at h; exact (by rw [← HO.out, HP.out]; rw [← HO.out, HP.out] at h; exact h), bel⟩
end Pl
end Go.Proofs.Ytbdllakbkienoaa
