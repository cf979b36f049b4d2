/- Of of package domain (with the library's sort.Search): contract of the translated code. Conditions: those of XDom. -/
import Derived.Test.YtnjgolbghcjijaaDoorDomQ
import Derived.Test.YtnjgolbghcjijaaDoorLay3
import Derived.RegionTactic
namespace Go.Proofs.YtnjgolbghcjijaaDoor
open Go.RowKit Go.Sort
set_option linter.unusedVariables false
set_option linter.unusedSimpArgs false
namespace Dm
theorem cnt_range (l : List Int) (key : Int) : ∀ n, (List.range n).countP (fun i => !decide (key < l.getD i 0)) = cnt l key n
  | 0 => rfl
  | n + 1 => by
    rw [List.range_succ, List.countP_append, cnt_range l key n, cnt]
    congr 1
    rw [List.countP_singleton]
    by_cases h : l.getD n 0 ≤ key
    · rw [if_pos h, decide_eq_false (by omega)]; rfl
    · rw [if_neg h, decide_eq_true (by omega)]; rfl
theorem ofCl_any (bd bk : Nat) (key : Int) (A : Option Addr) (m c i : Nat) (l : List Int) (W : World) (yl : 0 ≤ key) (yh : key ≤ 18446744073709551615) (hm : l.length = m) (hx : m ≤ 63) (hi : i < m) (hd : BdU l)
    (h2 : W.cell? ⟨bd, 2, none⟩ = some (.slice A m c)) (h3 : W.cell? ⟨bk, 0, none⟩ = some (.int .u64 key)) (hr : RdK .u64 W A l) :
    Calls Tryd.prog 36 (#[.int .i64 i] ++ #[.pointer (some ⟨bd, 0, none⟩), .pointer (some ⟨bk, 0, none⟩)]) W fun e w' => e = .returned (.bool (decide (key < l.getD i 0))) ∧ ∃ q, w' = W.drewN q := by
  obtain ⟨x0, x1⟩ := hd i (by omega)
  obtain ⟨b, o, rfl, g0⟩ := hr i (by omega)
  clear hr hd hm
  generalize l.getD i 0 = y at x0 x1 g0 ⊢
  have hiz : (i : Int) < (m : Int) := by omega
  have hmi : (m : Int) ≤ 63 := by omega
  by_cases h : key < y
  · have t0 : decide (key < y) = true := decide_eq_true h
    rw [t0]
    go_enter Tryd.func36, Tryd.ntmps36
    go_wp2
    go_quiet (fail)
    go_wp2
    go_ret
    exact ⟨rfl, _, rfl⟩
  · have t0 : decide (key < y) = false := decide_eq_false h
    rw [t0]
    go_enter Tryd.func36, Tryd.ntmps36
    go_wp2
    go_quiet (fail)
    go_wp2
    go_ret
    exact ⟨rfl, _, rfl⟩
set_option maxHeartbeats 1000000 in
theorem of_any (k n key : Int) (A : Option Addr) (m c : Nat) (l : List Int) (w : World) (kl : 0 ≤ k) (kh : k ≤ 255) (nl : -9223372036854775808 ≤ n) (nh : n ≤ 9223372036854775807) (yl : 0 ≤ key) (yh : key ≤ 18446744073709551615) (hm : l.length = m) (hx : m ≤ maxLen) (hr : RdK .u64 w A l) (hd : BdU l) :
    Calls Tryd.prog 16 #[.agg #[.int .u8 k, .int .i64 n, .slice A m c], .int .u64 key] w fun e w' => e = .returned (.tuple #[.int .i64 (dmV k n l key), .int .i64 (dmE k n l)]) ∧ Below w.heap.size w w' := by
  have HR := Lib.hid hr; clear hr
  have HD := Lib.hid hd; clear hd
  have HM := Lib.hid hm; clear hm
  have b0 : Below w.heap.size w ((w.alloc (Obj.cells #[.int .u8 k, .int .i64 n, .slice A m c] 24)).alloc (Obj.cells #[.int .u64 key] 25)) := bel_alloc (bel_alloc (Below.refl _ _) _) _
  have C := fun W h => Lib.hid (check_any k n A m c l W kl kh nl nh HM.out hx h HD.out)
  cases hb : dmB k n l with
  | false =>
    have HE := Lib.hid (dmE_no hb)
    have HV := Lib.hid (dmV_no hb key)
    go_enter Tryd.func16, Tryd.ntmps16
    go_wp2_with fail
    refine (C _ (HR.out.below b0)).out.mono ?_
    rw [HE.out]
    rintro r w1 ⟨rfl, b1⟩
    go_wp2
    go_ret2
    exact ⟨by rw [HV.out, HE.out]; rfl, bel_trans b0 b1⟩
  | true =>
    have HE := Lib.hid (dmE_yes hb)
    rcases dm_forms hb with ⟨rfl, rfl, rfl, hN, hV⟩ | ⟨rfl, n1, n2, rfl, hN, hV⟩ | ⟨rfl, rfl, l1, l2, hu, hN, hV⟩
    · have HV := Lib.hid (hV key)
      clear hV hN hb
      go_enter Tryd.func16, Tryd.ntmps16
      go_wp2_with fail
      refine (C _ (HR.out.below b0)).out.mono ?_
      rw [HE.out]
      rintro r w1 ⟨rfl, b1⟩
      obtain ⟨kc, kf⟩ := bcell b1
      have e0 : w1.cell? ⟨w.heap.size, 0, none⟩ = some (.int .u8 1) := by rw [kc _ _ (by simp; omega)]; simp
      clear kc kf
      go_wp2
      go_ret2
      exact ⟨by rw [HV.out, HE.out]; rfl, bel_trans b0 b1⟩
    · have HV := Lib.hid (hV key)
      clear hV hN hb
      have hq0 : 0 ≤ key % n := Int.emod_nonneg _ (by omega)
      have hq1 : key % n < n := Int.emod_lt_of_pos _ (by omega)
      go_enter Tryd.func16, Tryd.ntmps16
      go_wp2_with fail
      refine (C _ (HR.out.below b0)).out.mono ?_
      rw [HE.out]
      rintro r w1 ⟨rfl, b1⟩
      obtain ⟨kc, kf⟩ := bcell b1
      have e0 : w1.cell? ⟨w.heap.size, 0, none⟩ = some (.int .u8 2) := by rw [kc _ _ (by simp; omega)]; simp
      have e1 : w1.cell? ⟨w.heap.size, 1, none⟩ = some (.int .i64 n) := by rw [kc _ _ (by simp; omega)]; simp
      have e3 : w1.cell? ⟨w.heap.size + 1, 0, none⟩ = some (.int .u64 key) := by rw [kc _ _ (by simp)]; simp
      clear kc kf
      go_wp2
      go_ret2
      exact ⟨by rw [HV.out, HE.out]; rfl, bel_trans b0 b1⟩
    · have HV := Lib.hid (hV key)
      have HU := Lib.hid hu
      clear hV hN hb hu
      have hl1 : (m : Int) ≤ 63 := by have := HM.out; omega
      have hm63 : m ≤ 63 := by have := HM.out; omega
      go_enter Tryd.func16, Tryd.ntmps16
      go_wp2_with fail
      refine (C _ (HR.out.below b0)).out.mono ?_
      rw [HE.out]
      rintro r w1 ⟨rfl, b1⟩
      obtain ⟨kc, kf⟩ := bcell b1
      have e0 : w1.cell? ⟨w.heap.size, 0, none⟩ = some (.int .u8 3) := by rw [kc _ _ (by simp; omega)]; simp
      have e2 : w1.cell? ⟨w.heap.size, 2, none⟩ = some (.slice A m c) := by rw [kc _ _ (by simp; omega)]; simp
      have e3 : w1.cell? ⟨w.heap.size + 1, 0, none⟩ = some (.int .u64 key) := by rw [kc _ _ (by simp)]; simp
      have hws : w.heap.size + 1 < w1.heap.size := by have := b1.size; simp at this; omega
      have bw := bel_trans b0 b1
      clear kc kf
      have eg : ∀ args w, (callFunc 36 args).run Tryd.prog w = .ok (.enter 36 args) w := enters_of Tryd.func36 (by kernel_rfl) rfl
      have hR := HR.out.below bw
      have hS := Any.sort_Search Tryd.search 36 #[.pointer (some ⟨w.heap.size, 0, none⟩), .pointer (some ⟨w.heap.size + 1, 0, none⟩)] m (fun i => decide (key < l.getD i 0)) w1 eg (by omega)
        (fun q os i hi => (ofCl_any w.heap.size (w.heap.size + 1) key A m c i l _ yl yh HM.out hm63 hi HD.out (cell_grown (by simp; omega) e2 q os) (cell_grown (by simp; omega) e3 q os)
          (hR.below (below_grown_sl w1.heap.size w1 q os (Nat.le_refl _)))).mono fun _ _ ⟨he, q', hq⟩ => ⟨he, q', #[], by rw [hq, grow_empty]⟩)
        (fun a b hab hb h => by
          have h' : key < l.getD a 0 := of_decide_eq_true h
          by_cases e : a = b
          · subst e; exact h
          · have := upTo_lt HU.out a b (by omega) (by have := HM.out; omega)
            exact decide_eq_true (show key < l.getD b 0 by omega))
      rw [cnt_range] at hS
      change Calls Tryd.prog 35 _ _ _ at hS
      have HS := Lib.hid hS
      clear hS hR eg
      have HV' := Lib.hid (show dmV 3 0 l key = cnt l key m by rw [HV.out, HM.out])
      have hc := cnt_le l key m
      generalize cnt l key m = q at hc HS HV'
      go_wp2_with fail
      refine HS.out.mono ?_
      rintro r w2 ⟨rfl, nq, os, rfl⟩
      go_wp2
      go_ret2
      exact ⟨by rw [HV'.out, HE.out]; rfl, bw.trans (below_grown_sl w.heap.size w1 nq os (by omega))⟩
end Dm
end Go.Proofs.YtnjgolbghcjijaaDoor
