/- leapfroglaw05.made and known, from the contracts of package omap (XOmC). Conditions: those of the contracts; the pairs of made are as many as the model lets a slice hold. -/
import Derived.Test.YthinaablldnikaaOmC2
namespace Go.Proofs.Ythinaablldnikaa
open Go.RowKit Go.Sort
set_option linter.unusedVariables false
set_option linter.unusedSimpArgs false
namespace Om
theorem okN_app {l : List Pr} {x : Pr} : ∀ n, n ≤ l.length → okN (l ++ [x]) n = okN l n
  | 0, _ => rfl
  | n + 1, h => by
    rw [okN, okN, okN_app n (by omega), List.take_append_of_le_length (by omega), List.getD_eq_getElem?_getD, List.getElem?_append_left (by omega), ← List.getD_eq_getElem?_getD]
theorem okN_snoc (l : List Pr) (x : Pr) : okN (l ++ [x]) (l ++ [x]).length = (okN l l.length && (getL l x.1).isNone) := by
  rw [List.length_append, show [x].length = 1 from rfl, okN, okN_app _ (Nat.le_refl _), List.take_left]
  have e : (l ++ [x]).getD l.length (0, 0) = x := by
    rw [List.getD_eq_getElem?_getD, List.getElem?_append_right (Nat.le_refl _)]; simp
  rw [e]
  congr 1
  have h := setA_none l (l := []) Asc.nil x.1
  cases hg : getL l x.1 with
  | none =>
    have : getL (nwL l) x.1 = none := h.2 ⟨rfl, hg⟩
    rw [this]
  | some u =>
    cases hn : getL (nwL l) x.1 with
    | none => have := (h.1 hn).2; rw [hg] at this; cases this
    | some _ => rfl
theorem mdL_ok : ∀ (k : Nat) (ps : List Pr), okN (mdL (ps.take k)) (mdL (ps.take k)).length = true
  | 0, ps => rfl
  | k + 1, ps => by
    by_cases hk : k < ps.length
    · rw [take_succ' (List.getElem?_eq_getElem hk), mdL_snoc]
      split
      · exact mdL_ok k ps
      · rename_i h
        rw [okN_snoc, mdL_ok k ps]
        cases hg : getL (mdL (ps.take k)) (ps[k]).1 with
        | none => rfl
        | some u => rw [hg] at h; simp at h
    · rw [List.take_of_length_le (by omega)]
      have := mdL_ok k ps
      rwa [List.take_of_length_le (by omega)] at this
def maL (ps : List Pr) : List Pr := nwL (mdL ps)
theorem maL_asc (ps : List Pr) : Asc (maL ps) := nwL_asc _
theorem maL_len (ps : List Pr) : (maL ps).length ≤ ps.length := Nat.le_trans (nwL_len _) (mdL_len ps)
theorem maL_bd {ps : List Pr} (h : Bd ps) : Bd (maL ps) := fun x hx => by
  rcases mem_setA (mdL ps) [] x hx with h' | h'
  · cases h'
  · rcases mdA_mem ps [] x h' with h'' | h''
    · cases h''
    · exact h x h''
/-- the outcome of made -/
def MdPost (w : World) (ps : List Pr) (e : Ending) (w' : World) : Prop :=
  if (mdL ps).length ≤ 60 then CpPost w (maL ps) e w' else e = .returned (.pointer none) ∧ Below w.heap.size w w'
set_option maxHeartbeats 1000000 in
theorem made_any (A : Option Addr) (n c : Nat) (ps : List Pr) (w : World) (hn : ps.length = n) (hs : n * 16 ≤ 140737488351232) (hr : Rd w A ps) :
    Calls Try.prog 30 #[.slice A n c] w (MdPost w ps) := by
  have HR := Lib.hid hr; clear hr
  have HN := Lib.hid hn; clear hn
  have HS := Lib.hid hs
  have hs0 : n ≤ 10000000000000 := by omega
  clear hs
  go_enter Try.func30, Try.ntmps30
  go_wp2
  go_loopw [3, 4] (fun q i wr => ∃ (k : Nat), k ≤ n ∧ i = .int .i64 k ∧ wr.ownsRow w.heap.size 45 2 q (mdL (ps.take k)).length (flat (mdL (ps.take k))) ∧ Below w.heap.size w wr) (fun q i _ => n - (intOf i).toNat)
  case atStart => exact ⟨0, Nat.zero_le _, rfl, World.ownsRow_nil _ _ _ _, Below.refl _ _⟩
  case round =>
    obtain ⟨k, hk, rfl, hq, bel⟩ := hrel
    obtain ⟨_, A', c', rfl, hc', rd, _⟩ := row_form hq
    have hml : (mdL (ps.take k)).length ≤ k := by have := mdL_len (ps.take k); rw [List.length_take] at this; omega
    have OQ := Lib.hid hq; clear hq
    have RD := Lib.hid rd; clear rd
    by_cases hlt : k < n
    · have u0 : decide ((k : Int) < n) = true := decide_eq_true (by omega)
      have hki : (k : Int) < n := by omega
      obtain ⟨x, hx, _⟩ := getElem?_lt HN.out hlt
      have HX := Lib.hid hx; clear hx
      obtain ⟨b, o, rfl, c0, c1⟩ := (HR.out.below bel) k x HX.out
      have CH := Lib.hid (has_any A' _ c' (mdL (ps.take k)) x.1 wr rfl (by omega) RD.out)
      cases hg : getL (mdL (ps.take k)) x.1 with
      | none =>
        have HE := Lib.hid (show mdL (ps.take (k + 1)) = mdL (ps.take k) ++ [x] by rw [take_succ' HX.out, mdL_snoc, hg]; rfl)
        rw [hg] at CH
        clear hg
        go_wp2_with fail
        refine CH.out.mono ?_
        rintro r w1 ⟨rfl, rfl⟩
        unfold gT
        go_wp2_with (at_builtin; refine app1 rfl (.tmp 27) (.tmp 32) rfl wr w.heap.size _ _ (mdL (ps.take k)) x rfl rfl OQ.out (by have := HS.out; omega) bel.size ?_; intro v1 w1 h1 b1; have H1 := Lib.hid h1; clear h1)
        go_roundw
        case rel => exact ⟨k + 1, by omega, by go_num, by rw [HE.out, List.length_append]; exact H1.out, bel.trans b1⟩
        case measure => simp [intOf]; omega
      | some u =>
        have HE := Lib.hid (show mdL (ps.take (k + 1)) = mdL (ps.take k) by rw [take_succ' HX.out, mdL_snoc, hg]; rfl)
        rw [hg] at CH
        clear hg
        go_wp2_with fail
        refine CH.out.mono ?_
        rintro r w1 ⟨rfl, rfl⟩
        unfold gT
        go_wp2
        go_roundw
        case rel => exact ⟨k + 1, by omega, by go_num, by rw [HE.out]; exact OQ.out, bel⟩
        case measure => simp [intOf]; omega
    · obtain rfl : k = n := by omega
      have u0 : decide ((k : Int) < k) = false := decide_eq_false (by omega)
      have ht : ps.take k = ps := List.take_of_length_le (by have := HN.out; omega)
      have HOK := Lib.hid (mdL_ok k ps)
      rw [ht] at OQ RD HOK
      by_cases h60 : (mdL ps).length ≤ 60
      · have HP := Lib.hid (show ∀ e w', MdPost w ps e w' ↔ CpPost w (maL ps) e w' from fun e w' => by unfold MdPost; rw [if_pos h60])
        have C := Lib.hid (newC_any A' _ c' (mdL ps) wr rfl (by omega) RD.out)
        have t0 : decide (60 < ((mdL ps).length : Int)) = false := decide_eq_false (by omega)
        rw [ht]
        go_wp2_with fail
        refine C.out.mono ?_
        intro r w1 hN
        unfold NPost at hN
        rw [if_pos HOK.out] at hN
        obtain ⟨bm, v, rfl, hm, hb, hf, b1⟩ := hN
        have HM := Lib.hid hm; clear hm
        go_wp2
        go_ret
        exact (HP.out _ _).2 ⟨bm, v, rfl, HM.out, Nat.le_trans bel.size hb, fun q hq => Nat.le_trans bel.size (hf q hq), bel_trans bel b1⟩
      · have HP := Lib.hid (show ∀ e w', MdPost w ps e w' ↔ (e = .returned (.pointer none) ∧ Below w.heap.size w w') from fun e w' => by unfold MdPost; rw [if_neg h60])
        have t0 : decide (60 < ((mdL ps).length : Int)) = true := decide_eq_true (by omega)
        rw [ht]
        go_wp2
        go_ret
        exact (HP.out _ _).2 ⟨rfl, bel⟩
theorem known_any (w : World) : Calls Try.prog 11 #[] w fun e w' => e = .returned (.bool true) ∧ Below w.heap.size w w' := by
  have b0 : Below w.heap.size w (w.alloc (.cells #[.int .u64 4, .int .u64 2] 45)) := bel_alloc (Below.refl _ _) _
  have rd : Rd (w.alloc (.cells #[.int .u64 4, .int .u64 2] 45)) (some ⟨w.heap.size, 0, none⟩) [((4 : Int), (2 : Int))] := fun k x hk => by
    rcases k with _ | k
    · simp at hk; subst hk; exact ⟨_, _, rfl, by simp, by simp⟩
    · simp at hk
  have C := Lib.hid (newC_any (some ⟨w.heap.size, 0, none⟩) 1 1 [((4 : Int), (2 : Int))] _ rfl (by omega) rd)
  have CM := fun bm v W h => Lib.hid (moC_any bm v [((4 : Int), (2 : Int))] 4 4 3 W h (by simp [Asc]) (by decide) (fun x hx => by simp at hx; subst hx; decide) (by omega) (by omega) (by omega) (by omega) (by omega) (by omega))
  have CG := fun bm v W h => Lib.hid (getC_any bm v [((7 : Int), (2 : Int))] 7 W h (by simp [Asc]) (by decide))
  have CL := fun bm v W h => Lib.hid (lenC_any bm v [((7 : Int), (2 : Int))] W h (by decide))
  rw [show moL [((4 : Int), (2 : Int))] 4 4 3 = [((7 : Int), (2 : Int))] by decide +kernel, show moT [((4 : Int), (2 : Int))] 4 4 3 = .tuple #[.int .i64 1, .int .i64 0] by unfold moT; congr 2 <;> decide +kernel] at CM
  rw [show getL [((7 : Int), (2 : Int))] 7 = some 2 by decide +kernel] at CG
  unfold gT at CG
  clear rd
  go_enter Try.func11, Try.ntmps11
  go_wp2_with fail
  refine C.out.mono ?_
  intro r w1 hN
  unfold NPost at hN
  rw [if_pos (by decide +kernel)] at hN
  obtain ⟨bm, v, rfl, hm, hb, hf, b1⟩ := hN
  rw [show nwL [((4 : Int), (2 : Int))] = [((4 : Int), (2 : Int))] by decide +kernel] at hm
  have HM := Lib.hid hm; clear hm
  have bw := bel_trans b0 b1
  have hbm : w.heap.size ≤ bm := Nat.le_trans b0.size hb
  have hfr : Fresh w.heap.size v := fun q hq => Nat.le_trans b0.size (hf q hq)
  go_wp2_with fail
  refine (CM bm v w1 HM.out).out.mono ?_
  rintro r w2 ⟨v2, rfl, hm2, hn2, hc2⟩
  have HM2 := Lib.hid hm2; clear hm2
  have b2 := hc2.below hbm hfr bw.size
  clear hn2 hc2
  go_wp2_with fail
  refine (CG bm v2 w2 HM2.out).out.mono ?_
  rintro r w3 ⟨rfl, b3⟩
  have HM3 := Lib.hid (HM2.out.below b3)
  have bw3 := bel_trans (bw.trans b2) b3
  go_wp2_with fail
  refine (CL bm v2 w3 HM3.out).out.mono ?_
  rintro r w4 ⟨rfl, b4⟩
  go_wp2
  go_ret
  exact ⟨rfl, bel_trans bw3 b4⟩
end Om
end Go.Proofs.Ythinaablldnikaa
