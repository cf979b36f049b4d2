/- Skip of leapfrogref07: contract of the translated code. Conditions: the bounds of each number's kind. -/
import Derived.Test.YtbndgbjenmknmaaDoorMgW
namespace Go.Proofs.YtbndgbjenmknmaaDoor
open Go.RowKit Go.Sort
set_option linter.unusedVariables false
set_option linter.unusedSimpArgs false
namespace Mg
open Om (Pr below_drewN bel_alloc)
/-- the merge after the first n lists were looked at -/
def Mg.skS (M : Mg) (k : Int) (n : Nat) : Mg := { M with fl := if M.fl < k then k else M.fl, hs := fun u => if u < n ∧ M.hs u = true ∧ (M.p u).1 < k then false else M.hs u }
def Mg.skN (M : Mg) (k : Int) (n : Nat) : Nat := ((List.range n).filter fun v => M.hs v && decide ((M.p v).1 < k)).length
theorem skN_yes {M : Mg} {k : Int} {n : Nat} (h : M.hs n = true) (h2 : (M.p n).1 < k) : M.skN k (n + 1) = M.skN k n + 1 := by simp [Mg.skN, List.range_succ, List.filter_append, List.filter_cons, h, h2]
theorem skN_no {M : Mg} {k : Int} {n : Nat} (h : ¬ (M.hs n = true ∧ (M.p n).1 < k)) : M.skN k (n + 1) = M.skN k n := by
  have : (M.hs n && decide ((M.p n).1 < k)) = false := by
    cases e : M.hs n
    · rfl
    · exact decide_eq_false fun e2 => h ⟨e, e2⟩
  simp [Mg.skN, List.range_succ, List.filter_append, List.filter_cons, this]
theorem skN_le (M : Mg) (k : Int) (n : Nat) : M.skN k n ≤ n := by
  unfold Mg.skN
  exact Nat.le_trans (List.length_filter_le _ _) (by simp)
theorem MrAt.congr {w : World} {b : Nat} {M M' : Mg} (h : MrAt w b M) (h1 : ∀ u, u < 64 → M'.ls u = M.ls u) (h2 : ∀ u, u < 64 → M'.hs u = M.hs u) (h3 : ∀ u, u < 64 → M'.en u = M.en u) (h4 : ∀ u, u < 64 → M'.p u = M.p u) (h5 : M'.fl = M.fl) (h6 : M'.fu = M.fu) : MrAt w b M' :=
  ⟨fun v hv => by rw [h1 v hv]; exact h.ls v hv, fun v hv => by rw [h2 v hv]; exact h.hs v hv, fun v hv => by rw [h3 v hv]; exact h.en v hv, fun v hv => by rw [h4 v hv]; exact h.pk v hv, fun v hv => by rw [h4 v hv]; exact h.pv v hv, by rw [h5]; exact h.fl, by rw [h6]; exact h.fu, h.fz⟩
theorem sk_zero {w : World} {b : Nat} {M : Mg} (k : Int) (h : MrAt w b { M with fl := if M.fl < k then k else M.fl }) : MrAt w b (M.skS k 0) :=
  h.congr (fun _ _ => rfl) (fun u _ => by show (if u < 0 ∧ M.hs u = true ∧ (M.p u).1 < k then false else M.hs u) = M.hs u; rw [if_neg fun q => absurd q.1 (Nat.not_lt_zero _)]) (fun _ _ => rfl) (fun _ _ => rfl) rfl rfl
theorem sk_no {w : World} {b n : Nat} {M : Mg} {k : Int} (h : MrAt w b (M.skS k n)) (hn : ¬ (M.hs n = true ∧ (M.p n).1 < k)) : MrAt w b (M.skS k (n + 1)) :=
  h.congr (fun _ _ => rfl) (fun u _ => by
    show (if u < n + 1 ∧ M.hs u = true ∧ (M.p u).1 < k then false else M.hs u) = (if u < n ∧ M.hs u = true ∧ (M.p u).1 < k then false else M.hs u)
    by_cases e : u = n
    · subst e; rw [if_neg fun q => hn q.2, if_neg fun q => hn q.2]
    · by_cases q : u < n ∧ M.hs u = true ∧ (M.p u).1 < k
      · rw [if_pos q, if_pos ⟨by omega, q.2⟩]
      · rw [if_neg q, if_neg fun q2 => q ⟨by omega, q2.2⟩]) (fun _ _ => rfl) (fun _ _ => rfl) rfl rfl
theorem sk_yes {w : World} {b n : Nat} {M : Mg} {k : Int} (h : MrAt w b (M.skS k n)) (hn64 : n < 64) (hn : M.hs n = true ∧ (M.p n).1 < k) : MrAt (w.setCell ⟨b, 64 + n, none⟩ (.bool false)) b (M.skS k (n + 1)) :=
  (h.drop hn64).congr (fun _ _ => rfl) (fun u _ => by
    show (if u < n + 1 ∧ M.hs u = true ∧ (M.p u).1 < k then false else M.hs u) = (if u = n then false else if u < n ∧ M.hs u = true ∧ (M.p u).1 < k then false else M.hs u)
    by_cases e : u = n
    · subst e; rw [if_pos ⟨by omega, hn⟩, if_pos rfl]
    · rw [if_neg e]
      by_cases q : u < n ∧ M.hs u = true ∧ (M.p u).1 < k
      · rw [if_pos q, if_pos ⟨by omega, q.2⟩]
      · rw [if_neg q, if_neg fun q2 => q ⟨by omega, q2.2⟩]) (fun _ _ => rfl) (fun _ _ => rfl) rfl rfl
theorem sk_all {w : World} {b : Nat} {M : Mg} {k : Int} (h : MrAt w b (M.skS k 64)) : MrAt w b (M.skipped k) :=
  h.congr (fun _ _ => rfl) (fun u hu => by
    show (if M.hs u = true ∧ (M.p u).1 < k then false else M.hs u) = (if u < 64 ∧ M.hs u = true ∧ (M.p u).1 < k then false else M.hs u)
    by_cases q : M.hs u = true ∧ (M.p u).1 < k
    · rw [if_pos q, if_pos ⟨hu, q⟩]
    · rw [if_neg q, if_neg fun q2 => q q2.2]) (fun _ _ => rfl) (fun _ _ => rfl) rfl rfl
theorem skS_hs {M : Mg} {k : Int} {n : Nat} : (M.skS k n).hs n = M.hs n := by
  show (if n < n ∧ M.hs n = true ∧ (M.p n).1 < k then false else M.hs n) = M.hs n
  rw [if_neg fun q => absurd q.1 (Nat.lt_irrefl _)]
theorem skipR_nil (k : Int) (w : World) :
    Calls Tryd.prog 28 #[.pointer none, .int .u64 k] w fun e w' => e = .returned (.tuple #[.int .i64 0, .int .i64 1]) ∧ w' = w := by
  go_enter Tryd.func28, Tryd.ntmps28
  go_wp2
  go_ret2
  exact ⟨rfl, rfl⟩
set_option maxHeartbeats 4000000 in
theorem skipR (M : Mg) (b : Nat) (k : Int) (w : World) (hm : MrAt w b M) :
    Calls Tryd.prog 28 #[.pointer (some ⟨b, 0, none⟩), .int .u64 k] w fun e w' => e = .returned (.tuple #[.int .i64 (M.skN k 64 : Nat), .int .i64 0]) ∧ MrAt w' b (M.skipped k) ∧ Chg b w w' := by
  have H := Lib.hid hm
  have q4 := hm.fl
  have f4 := hm.fz 320 (by omega)
  clear hm
  go_enter Tryd.func28, Tryd.ntmps28
  by_cases hlt : M.fl < k
  · have AA := Lib.hid (sk_zero k (show MrAt (w.setCell ⟨b, 320, none⟩ (.int .u64 k)) b { M with fl := if M.fl < k then k else M.fl } by rw [if_pos hlt]; exact H.out.setFl k))
    have BB := Lib.hid ((Chg.of_below (b := b) (Below.refl w.heap.size w)).set 320 (.int .u64 k))
    have t0 : decide (M.fl < k) = true := decide_eq_true hlt
    go_wp2
    generalize w.setCell ⟨b, 320, none⟩ (.int .u64 k) = wS at *
    go_loopw [6, 7] (fun q i wr => ∃ n : Nat, n ≤ 64 ∧ q = .int .i64 (M.skN k n : Nat) ∧ i = .int .i64 n ∧ MrAt wr b (M.skS k n) ∧ Chg b w wr) (fun q i _ => (64 - intOf i).toNat)
    case atStart => exact ⟨0, Nat.zero_le _, rfl, rfl, AA.out, BB.out⟩
    case round =>
      obtain ⟨n, hn, rfl, rfl, hm, hc⟩ := hrel
      have HM := Lib.hid hm
      have HC := Lib.hid hc
      clear hc
      by_cases hn64 : n < 64
      · have t1 : decide ((n : Int) < 64) = true := decide_eq_true (by omega)
        have hle := skN_le M k n
        have g1 := hm.hs n hn64
        rw [skS_hs] at g1
        have g2 : wr.cell? ⟨b, 192 + n * 2, none⟩ = some (.int .u64 (M.p n).1) := hm.pk n hn64
        have f1 := hm.fz (64 + n) (by omega)
        clear hm
        by_cases hh : M.hs n = true ∧ (M.p n).1 < k
        · have NX := Lib.hid (sk_yes HM.out hn64 hh)
          have NN := Lib.hid (skN_yes hh.1 hh.2)
          rw [hh.1] at g1
          have t2 : decide ((M.p n).1 < k) = true := decide_eq_true hh.2
          clear hh
          go_wp2
          go_roundw
          case rel => exact ⟨n + 1, by omega, by rw [NN.out]; go_num, by go_num, NX.out, HC.out.set (64 + n) (.bool false)⟩
          case measure => simp [intOf]; omega
        · have NX := Lib.hid (sk_no HM.out hh)
          have NN := Lib.hid (skN_no hh)
          cases e1 : M.hs n with
          | false =>
            rw [e1] at g1
            clear hh
            go_wp2
            go_roundw
            case rel => exact ⟨n + 1, by omega, by rw [NN.out], by go_num, NX.out, HC.out⟩
            case measure => simp [intOf]; omega
          | true =>
            rw [e1] at g1
            have t2 : decide ((M.p n).1 < k) = false := decide_eq_false fun e => hh ⟨e1, e⟩
            clear hh
            go_wp2
            go_roundw
            case rel => exact ⟨n + 1, by omega, by rw [NN.out], by go_num, NX.out, HC.out⟩
            case measure => simp [intOf]; omega
      · have t1 : decide ((n : Int) < 64) = false := decide_eq_false (by omega)
        obtain rfl : n = 64 := by omega
        clear hm
        go_wp2
        go_ret2
        exact ⟨rfl, sk_all HM.out, HC.out⟩
  · have AA := Lib.hid (sk_zero k (show MrAt (w.setCell ⟨b, 320, none⟩ (.int .u64 M.fl)) b { M with fl := if M.fl < k then k else M.fl } by rw [if_neg hlt]; exact H.out.setFl M.fl))
    have BB := Lib.hid ((Chg.of_below (b := b) (Below.refl w.heap.size w)).set 320 (.int .u64 M.fl))
    have t0 : k ≤ M.fl := by omega
    go_wp2
    generalize w.setCell ⟨b, 320, none⟩ (.int .u64 M.fl) = wS at *
    go_loopw [6, 7] (fun q i wr => ∃ n : Nat, n ≤ 64 ∧ q = .int .i64 (M.skN k n : Nat) ∧ i = .int .i64 n ∧ MrAt wr b (M.skS k n) ∧ Chg b w wr) (fun q i _ => (64 - intOf i).toNat)
    case atStart => exact ⟨0, Nat.zero_le _, rfl, rfl, AA.out, BB.out⟩
    case round =>
      obtain ⟨n, hn, rfl, rfl, hm, hc⟩ := hrel
      have HM := Lib.hid hm
      have HC := Lib.hid hc
      clear hc
      by_cases hn64 : n < 64
      · have t1 : decide ((n : Int) < 64) = true := decide_eq_true (by omega)
        have hle := skN_le M k n
        have g1 := hm.hs n hn64
        rw [skS_hs] at g1
        have g2 : wr.cell? ⟨b, 192 + n * 2, none⟩ = some (.int .u64 (M.p n).1) := hm.pk n hn64
        have f1 := hm.fz (64 + n) (by omega)
        clear hm
        by_cases hh : M.hs n = true ∧ (M.p n).1 < k
        · have NX := Lib.hid (sk_yes HM.out hn64 hh)
          have NN := Lib.hid (skN_yes hh.1 hh.2)
          rw [hh.1] at g1
          have t2 : decide ((M.p n).1 < k) = true := decide_eq_true hh.2
          clear hh
          go_wp2
          go_roundw
          case rel => exact ⟨n + 1, by omega, by rw [NN.out]; go_num, by go_num, NX.out, HC.out.set (64 + n) (.bool false)⟩
          case measure => simp [intOf]; omega
        · have NX := Lib.hid (sk_no HM.out hh)
          have NN := Lib.hid (skN_no hh)
          cases e1 : M.hs n with
          | false =>
            rw [e1] at g1
            clear hh
            go_wp2
            go_roundw
            case rel => exact ⟨n + 1, by omega, by rw [NN.out], by go_num, NX.out, HC.out⟩
            case measure => simp [intOf]; omega
          | true =>
            rw [e1] at g1
            have t2 : decide ((M.p n).1 < k) = false := decide_eq_false fun e => hh ⟨e1, e⟩
            clear hh
            go_wp2
            go_roundw
            case rel => exact ⟨n + 1, by omega, by rw [NN.out], by go_num, NX.out, HC.out⟩
            case measure => simp [intOf]; omega
      · have t1 : decide ((n : Int) < 64) = false := decide_eq_false (by omega)
        obtain rfl : n = 64 := by omega
        clear hm
        go_wp2
        go_ret2
        exact ⟨rfl, sk_all HM.out, HC.out⟩
end Mg
end Go.Proofs.YtbndgbjenmknmaaDoor
