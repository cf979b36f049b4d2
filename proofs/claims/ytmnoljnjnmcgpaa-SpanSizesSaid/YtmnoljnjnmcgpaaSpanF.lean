/- span.fold: the merging of ranges in ascending order, in place. Conditions: the row is the call's own (it may be written to), the bounds of each end's kind. -/
import Derived.Test.YtmnoljnjnmcgpaaSpanB
import Derived.StillTailTactics
import Derived.RegionTactic
import Derived.BigRegion
import Derived.IntWalk
namespace Go.Proofs.Ytmnoljnjnmcgpaa
open Go.RowKit Go.Sort
set_option linter.unusedVariables false
set_option linter.unusedSimpArgs false
namespace Sp
/-- after k ranges: the first m of S are the result so far; the ranges from k on are as they were -/
structure St (c : List Sp) (k m : Nat) (S : List Sp) : Prop where
  len : S.length = c.length
  le : m ≤ k
  front : S.take m = fold (c.take k)
  back : S.drop k = c.drop k
theorem St.start (c : List Sp) : St c 0 0 c := ⟨rfl, Nat.le_refl _, rfl, rfl⟩
theorem fold_succ {c : List Sp} {k : Nat} {x : Sp} (h : c[k]? = some x) : fold (c.take (k + 1)) = push (fold (c.take k)) x := by
  rw [take_succ' h, fold, List.foldl_append]; rfl
theorem St.cur {c S : List Sp} {k m : Nat} {x : Sp} (h : St c k m S) (hx : c[k]? = some x) : S[k]? = some x := by
  have e : (S.drop k)[0]? = (c.drop k)[0]? := by rw [h.back]
  simpa [List.getElem?_drop, hx] using e
theorem St.back_set {c S : List Sp} {k m i : Nat} (y : Sp) (h : St c k m S) (hi : i ≤ k) : (S.set i y).drop (k + 1) = c.drop (k + 1) := by
  rw [List.drop_set_of_lt (by omega)]
  simpa [List.drop_drop, Nat.add_comm] using congrArg (List.drop 1) h.back
theorem St.first {c S : List Sp} {k : Nat} {x : Sp} (h : St c k 0 S) (hx : c[k]? = some x) : St c (k + 1) 1 (S.set 0 x) := by
  have hk : k < c.length := (List.getElem?_eq_some_iff.1 hx).1
  have hf : fold (c.take k) = [] := by rw [← h.front]; rfl
  refine ⟨by simpa using h.len, by omega, ?_, h.back_set x (by omega)⟩
  rw [fold_succ hx, hf, push_nil]
  have : 0 < S.length := by have := h.len; omega
  match S, this with
  | y :: l, _ => rfl
theorem St.last {c S : List Sp} {k p : Nat} {a : Sp} (h : St c k (p + 1) S) (ha : S[p]? = some a) : fold (c.take k) = S.take p ++ [a] := by
  rw [← h.front, List.take_add_one, ha]; rfl
theorem St.merge {c S : List Sp} {k p : Nat} {x a : Sp} (h : St c k (p + 1) S) (hx : c[k]? = some x) (ha : S[p]? = some a) (hr : reach a x = true) : St c (k + 1) (p + 1) (S.set p (a.1, max a.2 x.2)) := by
  have hp : p < S.length := (List.getElem?_eq_some_iff.1 ha).1
  refine ⟨by simpa using h.len, by have := h.le; omega, ?_, h.back_set _ (by have := h.le; omega)⟩
  rw [fold_succ hx, h.last ha, push_snoc, if_pos hr, List.take_add_one, List.getElem?_set_self hp, List.take_set_of_le (by omega)]; rfl
theorem St.more {c S : List Sp} {k p : Nat} {x a : Sp} (h : St c k (p + 1) S) (hx : c[k]? = some x) (ha : S[p]? = some a) (hr : reach a x = false) : St c (k + 1) (p + 1 + 1) (S.set (p + 1) x) := by
  have hk : k < c.length := (List.getElem?_eq_some_iff.1 hx).1
  have hp : p + 1 < S.length := by have := h.le; have := h.len; omega
  refine ⟨by simpa using h.len, by have := h.le; omega, ?_, h.back_set _ (by have := h.le; omega)⟩
  rw [fold_succ hx, h.last ha, push_snoc, if_neg (by rw [hr]; decide), List.take_add_one, List.getElem?_set_self hp, List.take_set_of_le (by omega), List.take_add_one, ha]; rfl

theorem Own.alloc {w : World} {b o : Nat} {l : List Sp} (h : Own w b o l) (hb : b < w.heap.size) (x : Obj) : Own (w.alloc x) b o l := h.keep (Below.heap_alloc w x b hb)
theorem Own.below {w w' : World} {b o B : Nat} {l : List Sp} (h : Own w b o l) (hb : b < B) (hbe : Below B w w') : Own w' b o l := h.keep (hbe.block b hb)
theorem frozen_set (w : World) (p q : Addr) (v : Value) : (w.setCell p v).frozen? q = w.frozen? q := by
  simp [go_sem]
theorem Own.setHi {w : World} {b o p : Nat} {l : List Sp} {a : Sp} (h : Own w b o l) (ha : l[p]? = some a) (v : Int) : Own (w.setCell ⟨b, o + p * 2 + 1, none⟩ (.int .u64 v)) b o (l.set p (a.1, v)) := by
  intro k x hk
  by_cases e : k = p
  · subst e
    have hp := (List.getElem?_eq_some_iff.1 ha).1
    rw [List.getElem?_set_self hp] at hk
    injection hk with hk
    subst hk
    obtain ⟨c0, c1, f0, f1⟩ := h k a ha
    refine ⟨?_, ?_, by rw [frozen_set]; exact f0, by rw [frozen_set]; exact f1⟩
    · rw [World.cell?_setCell_other _ _ _ _ (by intro e; injection e with e1 e2; omega)]; exact c0
    · exact World.cell?_setCell_same _ _ _ c1
  · rw [List.getElem?_set_ne (by omega)] at hk
    obtain ⟨c0, c1, f0, f1⟩ := h k x hk
    refine ⟨?_, ?_, by rw [frozen_set]; exact f0, by rw [frozen_set]; exact f1⟩
    · rw [World.cell?_setCell_other _ _ _ _ (by intro e; injection e with e1 e2; omega)]; exact c0
    · rw [World.cell?_setCell_other _ _ _ _ (by intro e; injection e with e1 e2; omega)]; exact c1
theorem Own.put2 {w : World} {b o p : Nat} {l : List Sp} {y x : Sp} (h : Own w b o l) (hy : l[p]? = some y) : Own ((w.setCell ⟨b, o + p * 2, none⟩ (.int .u64 x.1)).setCell ⟨b, o + p * 2 + 1, none⟩ (.int .u64 x.2)) b o (l.set p x) := by
  have h1 : Own (w.setCell ⟨b, o + p * 2, none⟩ (.int .u64 x.1)) b o (l.set p (x.1, y.2)) := by
    intro k z hk
    by_cases e : k = p
    · subst e
      have hp := (List.getElem?_eq_some_iff.1 hy).1
      rw [List.getElem?_set_self hp] at hk
      injection hk with hk
      subst hk
      obtain ⟨c0, c1, f0, f1⟩ := h k y hy
      refine ⟨World.cell?_setCell_same _ _ _ c0, ?_, by rw [frozen_set]; exact f0, by rw [frozen_set]; exact f1⟩
      rw [World.cell?_setCell_other _ _ _ _ (by intro e; injection e with e1 e2; omega)]; exact c1
    · rw [List.getElem?_set_ne (by omega)] at hk
      obtain ⟨c0, c1, f0, f1⟩ := h k z hk
      refine ⟨?_, ?_, by rw [frozen_set]; exact f0, by rw [frozen_set]; exact f1⟩
      · rw [World.cell?_setCell_other _ _ _ _ (by intro e; injection e with e1 e2; omega)]; exact c0
      · rw [World.cell?_setCell_other _ _ _ _ (by intro e; injection e with e1 e2; omega)]; exact c1
  have hp := (List.getElem?_eq_some_iff.1 hy).1
  have h2 := h1.setHi (a := (x.1, y.2)) (p := p) (List.getElem?_set_self hp) x.2
  rw [List.set_set] at h2
  exact h2

theorem bd_set {S : List Sp} (h : Bd S) (p : Nat) {y : Sp} (h0 : 0 ≤ y.1) (h1 : y.1 ≤ 18446744073709551615) (h2 : 0 ≤ y.2) (h3 : y.2 ≤ 18446744073709551615) : Bd (S.set p y) := fun x hx => by
  rcases List.mem_or_eq_of_mem_set hx with h' | rfl
  · exact h x h'
  · exact ⟨h0, h1, h2, h3⟩
theorem Own.drewN {w : World} {b o : Nat} {l : List Sp} (h : Own w b o l) (n : Nat) : Own (w.drewN n) b o l := h
theorem reaches_is {a x : Sp} {r : Bool} (q0 : 0 ≤ a.1) (q1 : a.1 ≤ 18446744073709551615) (q2 : 0 ≤ a.2) (q3 : a.2 ≤ 18446744073709551615) (d0 : 0 ≤ x.1) (d1 : x.1 ≤ 18446744073709551615) (d2 : 0 ≤ x.2) (d3 : x.2 ≤ 18446744073709551615) (hr : reach a x = r) :
    ∀ W : World, Calls Try.prog 47 #[.agg #[.int .u64 a.1, .int .u64 a.2], .agg #[.int .u64 x.1, .int .u64 x.2]] W fun e w' => e = .returned (.bool r) ∧ Below W.heap.size W w' := fun W => by
  have h := reaches_any a.1 a.2 x.1 x.2 q0 q1 q2 q3 d0 d1 d2 d3 W
  rw [show reach (a.1, a.2) (x.1, x.2) = r from hr] at h
  exact h
theorem fold_any (b o n c B : Nat) (l : List Sp) (w : World) (hn : l.length = n) (hm : n ≤ maxLen) (hb : b < w.heap.size) (hB : B ≤ b) (ho : Own w b o l) (hd : Bd l) :
    Calls Try.prog 40 #[.slice (some ⟨b, o, none⟩) n c] w fun e w' => e = .returned (.int .i64 ((fold l).length : Nat)) ∧ (∃ S : List Sp, S.length = n ∧ S.take (fold l).length = fold l ∧ Own w' b o S) ∧ Below B w w' := by
  unfold maxLen at hm
  have HD := Lib.hid hd; clear hd
  have HN := Lib.hid hn; clear hn
  have HO := Lib.hid ho; clear ho
  go_enter Try.func40, Try.ntmps40
  go_wp2
  go_loopw [2, 7] (fun r i wr => ∃ (k m : Nat) (S : List Sp), k ≤ n ∧ i = .int .i64 k ∧ r = .int .i64 m ∧ St l k m S ∧ Bd S ∧ Own wr b o S ∧ Below B w wr) (fun _ i _ => n - (intOf i).toNat)
  case atStart => exact ⟨0, 0, l, Nat.zero_le _, rfl, rfl, St.start l, HD.out, HO.out, Below.refl _ _⟩
  case round =>
    obtain ⟨k, m, S, hk, rfl, rfl, st, bd, own, bel⟩ := hrel
    have hbw : b < wr.heap.size := Nat.lt_of_lt_of_le hb bel.size
    by_cases hlt : k < n
    · obtain ⟨x, hx, hmem⟩ := getElem?_lt HN.out hlt
      obtain ⟨d0, d1, d2, d3⟩ := HD.out x hmem
      have HX := Lib.hid hx; clear hx
      obtain ⟨c0, c1, f0, f1⟩ := own k x (st.cur HX.out)
      have ST := Lib.hid st; clear st
      have ob := own.alloc hbw (.cells #[.int .u64 x.1, .int .u64 x.2] 24)
      have hS := ST.out.len
      have hmk := ST.out.le
      have hsz := bel.size
      have hN := HN.out
      rw [hN] at hS
      cases m with
      | zero =>
        obtain ⟨y, hy⟩ : ∃ y, S[0]? = some y := ⟨S[0]'(by omega), List.getElem?_eq_getElem _⟩
        have HY := Lib.hid hy; clear hy
        obtain ⟨e0, e1, g0, g1⟩ := ob 0 y HY.out
        rw [show ((0 : Nat) : Int) = 0 from rfl]
        simp only [Nat.zero_mul, Nat.add_zero] at e0 e1 g0 g1
        clear hS hN hmk
        go_wp2
        go_quiet (fail)
        go_wp2
        go_roundw
        case rel =>
          refine ⟨k + 1, 1, S.set 0 x, by omega, by go_num, rfl, ST.out.first HX.out, bd_set bd 0 d0 d1 d2 d3, ?_, ?_⟩
          · have := (Own.put2 (p := 0) (x := x) (ob.drewN nq) HY.out)
            simpa using this
          · exact ((below_drewN (bel.alloc (by omega) _) _).setCell hB _).setCell hB _
        case measure => simp [intOf]; omega
      | succ p =>
        have hp : p < S.length := by omega
        obtain ⟨a, ha⟩ : ∃ a, S[p]? = some a := ⟨S[p], List.getElem?_eq_getElem hp⟩
        obtain ⟨e0, e1, g0, g1⟩ := ob p a ha
        obtain ⟨q0, q1, q2, q3⟩ := bd a (List.mem_of_getElem? ha)
        have HA := Lib.hid ha; clear ha
        have hpn : (p : Int) < n := by omega
        have hp0 : (0 : Int) ≤ p := by omega
        have hpn1 : ((p : Int) + 1) < n := by omega
        have hp1 : p + 1 < S.length := by omega
        clear hS hN
        cases hr : reach a x with
        | true =>
          have HR := Lib.hid hr; clear hr
          have HC := Lib.hid (reaches_is q0 q1 q2 q3 d0 d1 d2 d3 HR.out)
          go_wp2
          have k0 := cell_regrown e0
          have k1 := cell_regrown e1
          have k2 : ∀ d os, (grow (redrawn (wr.alloc (.cells #[.int .u64 x.1, .int .u64 x.2] 24)) d) os).cell? ⟨wr.heap.size, 0, none⟩ = some (.int .u64 x.1) := cell_regrown (by simp)
          have k3 : ∀ d os, (grow (redrawn (wr.alloc (.cells #[.int .u64 x.1, .int .u64 x.2] 24)) d) os).cell? ⟨wr.heap.size, 1, none⟩ = some (.int .u64 x.2) := cell_regrown (by simp)
          have hW : IntKind.i64.wrap (p : Int) = p := IntWalk.i64_in _ (by omega)
          refine wp_region_quiet_below (by kernel_rfl) (by kernel_rfl) ?_
          repeat (quiet_step ((go_at_call 47; exact Calls.regrown_of (HC.out _))))
          refine wpQuiet_nil ?_
          intro _ hw'
          obtain ⟨⟨dq, osq⟩, hw''⟩ := hw'
          subst hw''
          clear hW k0 k1 e0 e1 g0 g1 c0 c1 f0 f1
          have b2 := below_regrown (wr.alloc (.cells #[.int .u64 x.1, .int .u64 x.2] 24)) dq osq
          replace k2 := k2 dq osq
          replace k3 := k3 dq osq
          show Exit.then _ _ Exit.normal _ (grow (redrawn (wr.alloc (.cells #[.int .u64 x.1, .int .u64 x.2] 24)) dq) osq)
          have own2 := ob.below (by simp; omega) b2
          have bel2 : Below B w (grow (redrawn (wr.alloc (.cells #[.int .u64 x.1, .int .u64 x.2] 24)) dq) osq) := (bel.alloc (by have := bel.size; omega) _).trans (b2.mono (by simp; omega))
          generalize grow (redrawn (wr.alloc (.cells #[.int .u64 x.1, .int .u64 x.2] 24)) dq) osq = w2 at k2 k3 own2 bel2 ⊢
          obtain ⟨e0, e1, g0, g1⟩ := own2 p a HA.out
          go_wp2
          go_region
          go_wp2
          go_roundw
          case rel =>
            refine ⟨k + 1, p + 1, S.set p (a.1, max a.2 x.2), by omega, by go_num, by go_num, ST.out.merge HX.out HA.out HR.out, bd_set bd p q0 q1 (by show 0 ≤ max a.2 x.2; omega) (by show max a.2 x.2 ≤ _; omega), ?_, ?_⟩
            · exact (own2.setHi HA.out (max a.2 x.2)).drewN 1
            · exact below_drewN (bel2.setCell hB _) 1
          case measure => simp [intOf]; omega
        | false =>
          obtain ⟨y, hy⟩ : ∃ y, S[p + 1]? = some y := ⟨S[p + 1], List.getElem?_eq_getElem hp1⟩
          have HY := Lib.hid hy; clear hy
          have HR := Lib.hid hr; clear hr
          have HC := Lib.hid (reaches_is q0 q1 q2 q3 d0 d1 d2 d3 HR.out)
          go_wp2
          have k0 := cell_regrown e0
          have k1 := cell_regrown e1
          have k2 : ∀ d os, (grow (redrawn (wr.alloc (.cells #[.int .u64 x.1, .int .u64 x.2] 24)) d) os).cell? ⟨wr.heap.size, 0, none⟩ = some (.int .u64 x.1) := cell_regrown (by simp)
          have k3 : ∀ d os, (grow (redrawn (wr.alloc (.cells #[.int .u64 x.1, .int .u64 x.2] 24)) d) os).cell? ⟨wr.heap.size, 1, none⟩ = some (.int .u64 x.2) := cell_regrown (by simp)
          have hW : IntKind.i64.wrap (p : Int) = p := IntWalk.i64_in _ (by omega)
          refine wp_region_quiet_below (by kernel_rfl) (by kernel_rfl) ?_
          repeat (quiet_step ((go_at_call 47; exact Calls.regrown_of (HC.out _))))
          refine wpQuiet_nil ?_
          intro _ hw'
          obtain ⟨⟨dq, osq⟩, hw''⟩ := hw'
          subst hw''
          clear hW k0 k1 e0 e1 g0 g1 c0 c1 f0 f1
          have b2 := below_regrown (wr.alloc (.cells #[.int .u64 x.1, .int .u64 x.2] 24)) dq osq
          replace k2 := k2 dq osq
          replace k3 := k3 dq osq
          show Exit.then _ _ Exit.normal _ (grow (redrawn (wr.alloc (.cells #[.int .u64 x.1, .int .u64 x.2] 24)) dq) osq)
          have own2 := ob.below (by simp; omega) b2
          have bel2 : Below B w (grow (redrawn (wr.alloc (.cells #[.int .u64 x.1, .int .u64 x.2] 24)) dq) osq) := (bel.alloc (by have := bel.size; omega) _).trans (b2.mono (by simp; omega))
          generalize grow (redrawn (wr.alloc (.cells #[.int .u64 x.1, .int .u64 x.2] 24)) dq) osq = w2 at k2 k3 own2 bel2 ⊢
          obtain ⟨e0, e1, g0, g1⟩ := own2 (p + 1) y HY.out
          go_wp2
          go_roundw
          case rel =>
            refine ⟨k + 1, p + 1 + 1, S.set (p + 1) x, by omega, by go_num, by go_num, ST.out.more HX.out HA.out HR.out, bd_set bd (p + 1) d0 d1 d2 d3, ?_, ?_⟩
            · exact own2.put2 HY.out
            · exact (bel2.setCell hB _).setCell hB _
          case measure => simp [intOf]; omega
    · go_wp2
      go_ret
      have hkn : k = n := by omega
      subst hkn
      have hf := st.front
      rw [List.take_of_length_le (l := l) (by have := HN.out; omega)] at hf
      have hm2 : m = (fold l).length := by
        rw [← hf, List.length_take]
        have := st.len; have := st.le; have := HN.out
        omega
      refine ⟨ret_eq (by rw [← hm2]; rfl), ⟨S, by rw [st.len]; exact HN.out, by rw [← hm2]; exact hf, own⟩, bel⟩
end Sp
end Go.Proofs.Ytmnoljnjnmcgpaa
