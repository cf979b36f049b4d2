/- slices.Clone and span.Normalize: contracts of the translated code. Conditions: at most 1000 ranges; the bounds of each end's kind. -/
import Derived.Test.YtmnoljnjnmcgpaaSpanF
import Derived.WalkSpells
namespace Go.Proofs.Ytmnoljnjnmcgpaa
open Go.RowKit Go.Sort
set_option linter.unusedVariables false
set_option linter.unusedSimpArgs false
namespace Sp
theorem info : (Try.prog.info? 24).map (fun i => (i.zero, i.size, i.bytes)) = some (some (.agg #[.int .u64 0, .int .u64 0]), 2, 16) := by kernel_rfl
theorem addr_lit (b o j : Nat) : (⟨b, o, none⟩ : Addr).add j = ⟨b, o + j, none⟩ := Addr.add_lit ..
/-- the cells of a list that is read, one behind the other -/
theorem Rd.flat_cells {w : World} {a : Addr} {l : List Sp} (h : Rd w (some a) l) : ∀ (j : Nat) (u : Value), (flat l)[j]? = some u → w.cell? (a.add j) = some u := by
  intro j u hj
  have hjl : j < l.length * 2 := by have := (List.getElem?_eq_some_iff.1 hj).1; rw [flat_len] at this; exact this
  have hk : j / 2 < l.length := by omega
  obtain ⟨b, o, e, c0, c1⟩ := h (j / 2) _ (List.getElem?_eq_getElem hk)
  injection e with e
  subst e
  obtain ⟨g0, g1⟩ := flat_get l (j / 2) _ (List.getElem?_eq_getElem hk)
  rw [addr_lit]
  rcases Nat.mod_two_eq_zero_or_one j with h0 | h0
  · have ej : j / 2 * 2 = j := by omega
    rw [ej] at g0 c0
    rw [hj] at g0
    injection g0 with g0
    rw [g0]; exact c0
  · have ej : j / 2 * 2 + 1 = j := by omega
    rw [ej] at g1
    rw [Nat.add_assoc, ej] at c1
    rw [hj] at g1
    injection g1 with g1
    rw [g1]; exact c1
theorem clone_any (A : Option Addr) (n c : Nat) (l : List Sp) (w : World) (hn : l.length = n) (hs : n ≤ 1000) (hr : Rd w A l) :
    Calls Try.prog 36 #[.slice A n c] w fun e w' => (∃ v, e = .returned v ∧ w'.ownsRow w.heap.size 24 2 v n (flat l)) ∧ Below w.heap.size w w' := by
  obtain ⟨i0, hi, hz0, hz1, hz2⟩ := info_parts info
  have q : ∀ (w : World) (a : Option Addr) (n c n' c' : Nat), (binOp .eql 37 (.slice a n c) (.slice none n' c')).run Try.prog w = .ok (.bool a.isNone) w := fun w a n c n' c' => Lib.run_eql_slice_nil w _ _ a n c n' c' Try.underlying37
  cases A with
  | none =>
    have hl : l = [] := by
      cases l with
      | nil => rfl
      | cons x l => obtain ⟨b, o, e, _⟩ := hr 0 x rfl; cases e
    subst hl
    obtain rfl : n = 0 := by simpa using hn.symm
    clear hr hn
    go_enter Try.func36, Try.ntmps36
    go_wp2
    go_ret
    exact ⟨⟨_, rfl, World.ownsRow_nil _ _ _ _⟩, Below.refl _ _⟩
  | some a =>
    have HF := Lib.hid hr.flat_cells; clear hr
    have HN := Lib.hid hn; clear hn
    go_enter Try.func36, Try.ntmps36
    go_wp2_with (at_builtin; refine wpList_append_own _ rfl _ _ 37 rfl w.heap.size 24 i0 _ 2 16 Try.underlying37 hi hz0 hz1 hz2 rfl (by omega) _ _ _ rfl (World.ownsRow_made w #[] 0 (Nat.le_refl _) (Nat.zero_le _) (by simp)) a n c (flat l) rfl ?qc1 ?qc2 ?qc3 ?qc4 ?qc5 ?qc6 ?_)
    case qc1 => rw [flat_len, HN.out]
    case qc2 =>
      intro j u hj
      have h := HF.out j u hj
      rw [World.cell?_alloc_lt w _ _ (World.block_lt_of_cell? w _ h)]
      exact h
    case qc3 => exact flat_one_cell l
    case qc4 => rw [Nat.zero_add]; unfold maxLen; omega
    case qc5 => rw [Nat.zero_add]; omega
    case qc6 => simp
    intro v' w1 hown hgrow hnil
    have HW := Lib.hid hown; clear hown hnil
    go_wp2
    go_ret
    refine ⟨⟨v', rfl, by simpa using HW.out⟩, ?_⟩
    exact ((Below.refl _ w).alloc (Nat.le_refl _) _).grown hgrow (by simp) (by intro k hk; simp [Value.ownBlock] at hk; omega)
/-- what Normalize returns for l -/
def nrm (l : List Sp) : List Sp := if okB l = true then norm l else []
theorem nrm_ok {l : List Sp} (h : okB l = true) : nrm l = norm l := by rw [nrm, if_pos h]
theorem nrm_no {l : List Sp} (h : okB l = false) : nrm l = [] := by rw [nrm, if_neg (by rw [h]; decide)]
def NPost (w : World) (l : List Sp) (e : Ending) (w' : World) : Prop :=
  ∃ A c, e = .returned (.tuple #[.slice A (nrm l).length c, .int .i64 (caE l)]) ∧ Rd w' A (nrm l) ∧ (∀ a, A = some a → ∃ g, a = ⟨g, 0, none⟩ ∧ w.heap.size ≤ g ∧ Own w' g 0 (nrm l)) ∧ Below w.heap.size w w'
theorem fold_none (A : Option Addr) (c : Nat) (w : World) : Calls Try.prog 40 #[.slice A 0 c] w fun e w' => e = .returned (.int .i64 0) ∧ w = w' := by
  go_enter Try.func40, Try.ntmps40
  go_wp2
  refine wp_loop_rounds 1 ?_
  rw [rounds_succ]
  go_wp2
  go_ret
  exact ⟨rfl, rfl⟩
theorem sort_none (A : Option Addr) (c : Nat) (fv : Value) (w : World) : Calls Try.prog 37 #[.slice A 0 c, fv] w fun e w' => e = .returned (.tuple #[]) ∧ w = w' := by
  have h := AnyF.slices_SortFunc_none Try.sortSp A c fv w
  exact Calls.mono (P := Try.prog) h fun _ _ ⟨he, hw⟩ => ⟨he, hw.symm⟩
theorem normalize_any (A : Option Addr) (n c : Nat) (l : List Sp) (w : World) (hn : l.length = n) (hs : n ≤ 1000) (hr : Rd w A l) (hd : Bd l) :
    Calls Try.prog 27 #[.slice A n c] w (NPost w l) := by
  have HR := Lib.hid hr; clear hr
  have HD := Lib.hid hd; clear hd
  have HN := Lib.hid hn; clear hn
  cases hok : okB l with
  | false =>
    have HE := Lib.hid (show caE l = 13 by rw [caE, hok]; rfl)
    have HO := Lib.hid hok; clear hok
    go_enter Try.func27, Try.ntmps27
    go_wp2_with fail
    refine (checkAll_any A n c l w HN.out (by unfold maxLen; omega) HR.out HD.out).mono ?_
    rw [HE.out]
    rintro r w1 ⟨rfl, b1⟩
    go_wp2
    go_ret2
    refine ⟨none, 0, ?_, ?_, ?_, b1⟩
    · rw [nrm_no HO.out, HE.out]; rfl
    · rw [nrm_no HO.out]; intro k x hk; simp at hk
    · intro a ha; cases ha
  | true =>
    have HE := Lib.hid (show caE l = 0 by rw [caE, hok]; rfl)
    have HO := Lib.hid hok; clear hok
    go_enter Try.func27, Try.ntmps27
    go_wp2_with fail
    refine (checkAll_any A n c l w HN.out (by unfold maxLen; omega) HR.out HD.out).mono ?_
    rw [HE.out]
    rintro r w1 ⟨rfl, b1⟩
    go_wp2_with fail
    refine (clone_any A n c l w1 HN.out hs (HR.out.below b1)).mono ?_
    rintro r w2 ⟨⟨v, rfl, hown⟩, b2⟩
    have b12 := bel_trans b1 b2
    rcases hown.2 with ⟨rfl, h0⟩ | ⟨g, cap, cur, rfl, hbase, hh, hnc, hcm, _⟩
    · subst h0
      obtain rfl : l = [] := List.eq_nil_of_length_eq_zero HN.out
      clear hown
      go_wp2_with fail
      refine (sort_none none 0 _ w2).mono ?_
      rintro r w3 ⟨rfl, rfl⟩
      go_wp2_with fail
      refine (fold_none none 0 w2).mono ?_
      rintro r w3 ⟨rfl, rfl⟩
      go_wp2
      go_ret2
      refine ⟨none, 0, ?_, ?_, ?_, b12⟩
      · rw [HE.out]; rfl
      · intro k x hk; cases hk
      · intro a ha; cases ha
    · have own := own_of_row hown
      have hlt := (hown.lt g rfl).2
      have hw1 := b1.size
      clear hown hh
      go_wp2_with fail
      refine (sort_any g n cap w.heap.size l w2 HN.out hlt (by omega) (by omega) own).mono ?_
      rintro r w3 ⟨rfl, m, hp, hso, own3, b3⟩
      have b13 := b12.trans b3
      have hl3 : m.length = n := by rw [hp.length_eq]; exact HN.out
      have hd3 : Bd m := fun x hx => HD.out x (hp.mem_iff.1 hx)
      have HP := Lib.hid (fold_eq ((okB_iff l).1 HO.out) hp hso)
      clear hp hso own
      go_wp2_with fail
      refine (fold_any g 0 n cap w.heap.size m w3 hl3 (by unfold maxLen; omega) (Nat.lt_of_lt_of_le hlt b3.size) (by omega) own3 hd3).mono ?_
      rintro r w4 ⟨rfl, ⟨S, hS, hSt, own4⟩, b4⟩
      have b14 := b13.trans b4
      have own5 := own4.take (fold m).length
      rw [hSt] at own5
      have hle : (fold m).length ≤ n := by rw [← hSt, List.length_take]; omega
      rw [HP.out] at own5 hle ⊢
      clear hSt own4 own3
      have hle' : ((norm l).length : Int) ≤ cap := by omega
      have hge' : (0 : Int) ≤ ((norm l).length : Int) := by omega
      go_wp2
      go_ret2
      trace_state
      refine ⟨some ⟨g, 0, none⟩, (norm l).length, ?_, ?_, ?_, b14⟩
      · rw [nrm_ok HO.out, HE.out]; rfl
      · rw [nrm_ok HO.out]; exact own5.rd
      · intro a ha; cases ha; exact ⟨g, rfl, by omega, by rw [nrm_ok HO.out]; exact own5⟩
end Sp
end Go.Proofs.Ytmnoljnjnmcgpaa
