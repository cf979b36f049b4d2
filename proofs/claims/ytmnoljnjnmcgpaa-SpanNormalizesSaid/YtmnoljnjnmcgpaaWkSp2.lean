/- The walks of SpanCovers and SpanNormalizes (package leapfroglaw02), from the contracts. Conditions: the bounds of each argument's kind; what a list of ranges reads as. -/
import Derived.Test.YtmnoljnjnmcgpaaSpanA
import Derived.Laws.AppendOwnNone
namespace Go.Proofs.Ytmnoljnjnmcgpaa
open Go.RowKit Go.Sort
set_option linter.unusedVariables false
set_option linter.unusedSimpArgs false
namespace Wk
open Sp
theorem walk_spanCovers (a0Lo : Int) (a0Hi : Int) (a1 : Option Addr) (a1n a1c : Nat) (a1v : List Sp.Sp) (w : World) (a0Lol : 0 ≤ a0Lo) (a0Loh : a0Lo ≤ 18446744073709551615) (a0Hil : 0 ≤ a0Hi) (a0Hih : a0Hi ≤ 18446744073709551615) (a1e : a1v.length = a1n) (a1m : a1n ≤ maxLen) (a1r : Sp.Rd w a1 a1v) (a1b : Sp.Bd a1v) (a1z : a1 = none → a1c = 0) :
    Calls Try.prog 6 #[.agg #[.int .u64 a0Lo, .int .u64 a0Hi], .slice a1 a1n a1c] w fun e w' => e = .returned (.bool true) ∧ Below w.heap.size w w' := by
  have HR := Lib.hid a1r; clear a1r
  have HD := Lib.hid a1b; clear a1b
  have HN := Lib.hid a1e; clear a1e
  clear a1z
  unfold maxLen at a1m
  have b0 : Below w.heap.size w (w.alloc (.cells #[.int .u64 a0Lo, .int .u64 a0Hi] 24)) := bel_alloc (Below.refl _ _) _
  by_cases hn : 60 < a1n
  · have hn' : (60 : Int) < a1n := by omega
    go_enter Try.func6, Try.ntmps6
    go_wp2_with fail
    refine (known_any _).mono ?_
    rintro r w1 ⟨rfl, b1⟩
    go_wp2
    go_ret
    exact ⟨rfl, bel_trans b0 b1⟩
  · have hn' : (a1n : Int) ≤ 60 := by omega
    go_enter Try.func6, Try.ntmps6
    go_wp2_with fail
    refine (covers_any a1 a1n a1c (a0Lo, a0Hi) a1v _ HN.out (by omega) (HR.out.below b0) HD.out ⟨a0Lol, a0Loh, a0Hil, a0Hih⟩).mono ?_
    rintro r w1 ⟨rfl, b1⟩
    have c0 : w1.cell? ⟨w.heap.size, 0, none⟩ = some (.int .u64 a0Lo) := by rw [b1.cell (p := ⟨w.heap.size, 0, none⟩) (by simp)]; simp
    have c1 : w1.cell? ⟨w.heap.size, 1, none⟩ = some (.int .u64 a0Hi) := by rw [b1.cell (p := ⟨w.heap.size, 1, none⟩) (by simp)]; simp
    go_wp2_with fail
    refine (coversR_any a1 a1n a1c (a0Lo, a0Hi) a1v _ HN.out (by omega) (HR.out.below (bel_trans b0 b1)) HD.out).mono ?_
    rintro r w2 ⟨rfl, b2⟩
    go_wp2
    go_ret
    exact ⟨ret_eq (by simp), bel_trans (bel_trans b0 b1) b2⟩
theorem walk_spanNormalizes (a0 : Option Addr) (a0n a0c : Nat) (a0v : List Sp.Sp) (w : World) (a0e : a0v.length = a0n) (a0m : a0n ≤ maxLen) (a0r : Sp.Rd w a0 a0v) (a0b : Sp.Bd a0v) (a0z : a0 = none → a0c = 0) :
    Calls Try.prog 5 #[.slice a0 a0n a0c] w fun e w' => e = .returned (.bool true) ∧ Below w.heap.size w w' := by
  have HR := Lib.hid a0r; clear a0r
  have HD := Lib.hid a0b; clear a0b
  have HN := Lib.hid a0e; clear a0e
  have HZ := Lib.hid a0z; clear a0z
  unfold maxLen at a0m
  by_cases hn : 60 < a0n
  · have hn' : (60 : Int) < a0n := by omega
    go_enter Try.func5, Try.ntmps5
    go_wp2_with fail
    refine (known_any _).mono ?_
    rintro r w1 ⟨rfl, b1⟩
    go_wp2
    go_ret
    exact ⟨rfl, b1⟩
  · have hn' : (a0n : Int) ≤ 60 := by omega
    obtain ⟨i0, hi, hz0, hz1, hz2⟩ := info_parts info
    go_enter Try.func5, Try.ntmps5
    go_wp2_with (at_builtin; refine appAll rfl (.tmp 13) (.tmp 14) rfl _ a0 a0n a0c a0v rfl rfl HN.out (by omega) HR.out HZ.out ?_; intro v1 w1 h1 b1)
    obtain ⟨hl1, A1, c1, e1, hc1, rd1, _⟩ := row_form h1
    subst e1
    clear h1 hi hz0 hz1 hz2
    refine (normalize_any A1 a0n c1 a0v w1 HN.out (by omega) rd1 HD.out).mono ?_
    rintro r w2 ⟨A2, c2, rfl, rd2, own2, b2⟩
    have hN2 : (nrm a0v).length ≤ 1000 := by have := nrm_len a0v; have := HN.out; omega
    have hN1 : ((nrm a0v).length : Int) ≤ 1000 := by omega
    have hm : (nrm a0v).length ≤ maxLen := by unfold maxLen; omega
    have hmn : a0n ≤ maxLen := by unfold maxLen; omega
    have b12 := bel_trans b1 b2
    go_wp2_with fail
    refine (normalizeR_any a0 a0n a0c a0v w2 HN.out (by omega) (HR.out.below b12) HD.out).mono ?_
    rintro r w3 ⟨A3, c3, rfl, rd3, b3⟩
    have b13 := bel_trans b12 b3
    have x23 := bel_trans b2 b3
    go_wp2_with fail
    refine (sameR_any A2 A3 _ _ c2 c3 (nrm a0v) (nrm a0v) w3 rfl rfl hm hm (rd2.below b3) rd3).mono ?_
    rw [show sameB (nrm a0v) (nrm a0v) = true by simp [sameB]]
    rintro r w4 ⟨rfl, b4⟩
    have b14 := bel_trans b13 b4
    have x24 := bel_trans x23 b4
    go_wp2_with fail
    refine (sameR_any A1 a0 _ _ c1 a0c a0v a0v w4 HN.out HN.out hmn hmn (rd1.below x24) (HR.out.below b14)).mono ?_
    rw [show sameB a0v a0v = true by simp [sameB]]
    rintro r w5 ⟨rfl, b5⟩
    have b15 := bel_trans b14 b5
    have x25 := bel_trans x24 b5
    have own5 : ∀ a, A2 = some a → ∃ g, a = ⟨g, 0, none⟩ ∧ w1.heap.size ≤ g ∧ Own w5 g 0 (nrm a0v) := fun a ha => by
      obtain ⟨g, e, hg, o⟩ := own2 a ha
      refine ⟨g, e, hg, fun k x hk => ?_⟩
      obtain ⟨q0, q1, q2, q3⟩ := o k x hk
      have hb := World.block_lt_of_cell? w2 _ q0
      exact (o.below hb (bel_trans (bel_trans b3 b4) b5)) k x hk
    have OWN := Lib.hid own5; clear own5 own2
    have RD2 := Lib.hid rd2; clear rd2
    generalize nrm a0v = N at hN2 hN1 hm OWN RD2 ⊢
    go_wp2
    go_loopw [8] (fun i wr => ∃ (k : Nat) (S : List Sp.Sp), k ≤ N.length ∧ i = .int .i64 k ∧ S.length = N.length ∧ (∀ g, A2 = some ⟨g, 0, none⟩ → Own wr g 0 S) ∧ Below w1.heap.size w1 wr) (fun i _ => N.length - (intOf i).toNat)
    case atStart => exact ⟨0, N, Nat.zero_le _, rfl, rfl, fun g hg => (by obtain ⟨g', e, _, o⟩ := OWN.out _ hg; cases e; exact o), x25⟩
    case round =>
      obtain ⟨k, S, hk, rfl, hS, ho, bel⟩ := hrel
      have HO := Lib.hid ho; clear ho
      by_cases hlt : k < N.length
      · obtain ⟨x, hx, hmem⟩ := getElem?_lt rfl hlt
        have HX := Lib.hid hx; clear hx hmem
        obtain ⟨b, o, rfl, _, _⟩ := RD2.out k x HX.out
        obtain ⟨g, e, hg, _⟩ := OWN.out _ rfl
        cases e
        have hkS : k < S.length := by omega
        obtain ⟨y, hy⟩ : ∃ y, S[k]? = some y := ⟨S[k], List.getElem?_eq_getElem hkS⟩
        have HY := Lib.hid hy; clear hy
        have own := HO.out b rfl
        obtain ⟨e0, e1, f0, f1⟩ := own k y HY.out
        simp only [Nat.zero_add] at e0 e1 f0 f1
        have hl2 : S.length = N.length := hS
        have HS := Lib.hid hS; clear hS hl2
        go_wp2
        go_roundw
        case rel =>
          refine ⟨k + 1, S.set k (9, 1), by omega, by go_num, by simpa using HS.out, fun g' hg' => ?_, ?_⟩
          · cases hg'
            have := own.put2 (x := (9, 1)) HY.out
            simpa using this
          · exact (bel.setCell hg _).setCell hg _
        case measure => simp [intOf]; omega
      · go_wp2_with fail
        refine (sameR_any A1 a0 _ _ c1 a0c a0v a0v wr HN.out HN.out hmn hmn (rd1.below bel) (HR.out.below (bel_trans b1 bel))).mono ?_
        rw [show sameB a0v a0v = true by simp [sameB]]
        rintro r w6 ⟨rfl, b6⟩
        go_wp2
        go_ret
        exact ⟨rfl, bel_trans (bel_trans b1 bel) b6⟩
end Wk
end Go.Proofs.Ytmnoljnjnmcgpaa
