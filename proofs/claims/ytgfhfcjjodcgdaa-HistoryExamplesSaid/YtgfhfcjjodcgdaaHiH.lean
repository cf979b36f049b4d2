/- Package history: Check: contract of the translated code. Conditions: numbers of their types, at most 1,000 calls. -/
import Derived.Test.YtgfhfcjjodcgdaaHiK
namespace Go.Proofs.Ytgfhfcjjodcgdaa
open Go.RowKit Go.Shelf Go.Sort
set_option linter.unusedVariables false
set_option linter.unusedSimpArgs false
namespace Hi
/-- what Check returns -/
def chkV (l : List C) : Value := match chk l with
  | some i => .tuple #[.int .i64 (i : Nat), .int .i64 15]
  | none => .tuple #[.int .i64 0, .int .i64 0]
theorem chkV_some {l : List C} {i : Nat} (h : chk l = some i) : chkV l = .tuple #[.int .i64 (i : Nat), .int .i64 15] := by unfold chkV; rw [h]
theorem chkV_none {l : List C} (h : chk l = none) : chkV l = .tuple #[.int .i64 0, .int .i64 0] := by unfold chkV; rw [h]
/-- what a round of Check knows -/
structure Ck (w : World) (Bl Bf B M : Nat) (l : List C) (j : Nat) (wr : World) : Prop where
  good : ∀ i, i < j → goodB (l.take i) (l.getD i c0) = true
  cn : Cn wr Bl Bf
  pa : Pa wr B M (l.take j)
  bel : Below w.heap.size w wr
theorem WF_of {l : List C} {j : Nat} (hj : j ≤ l.length) (h : ∀ i, i < j → goodB (l.take i) (l.getD i c0) = true) : WF (l.take j) := fun i hi => by
  have hij : i < j := by simp at hi; omega
  have := h i hij
  rw [List.take_take, Nat.min_eq_left (by omega)]
  rw [List.getD_eq_getElem?_getD, List.getElem?_take_of_lt hij, ← List.getD_eq_getElem?_getD]
  exact this
theorem ins_slot {b o : Nat} : (⟨b, o, none⟩ : Addr) = ⟨b, o, none⟩ := rfl
set_option maxRecDepth 100000 in
set_option maxHeartbeats 1000000 in
theorem check_any (A : Option Addr) (n c : Nat) (l : List C) (w : World) (hl : l.length = n) (hx : n ≤ 1000) (hr : KC.Rd w A l) (hb : Bd l) :
    Calls Try.prog 11 #[.slice A n c] w fun e w' => e = .returned (chkV l) ∧ Below w.heap.size w w' := by
  have HL := Lib.hid hl
  have HR := Lib.hid hr
  have HB := Lib.hid hb
  have CM := fun (W : World) => Lib.hid (conditions_any W)
  have CP := fun (W : World) => Lib.hid (newPast_any W)
  clear hl hr hb
  go_enter Try.func11, Try.ntmps11
  go_wp2_with fail
  refine (CM _).out.mono ?_
  rintro e w1 ⟨rfl, b1, cn1⟩
  have C1 := Lib.hid cn1
  have B1 := Lib.hid b1
  clear cn1 b1
  go_wp2_with fail
  refine (CP _).out.mono ?_
  rintro e w2 ⟨rfl, b2, pa2⟩
  obtain ⟨M, hM⟩ : ∃ M, w1.heap.size = M := ⟨_, rfl⟩
  have s1 := C1.out.lt.1
  have ck0 := Lib.hid (show Ck w (w.heap.size + 1) w.heap.size (w1.heap.size + 1) w1.heap.size l 0 w2 from ⟨fun i hi => by omega, C1.out.below b2, by rw [List.take_zero]; exact pa2, bel_trans B1.out b2⟩)
  rw [hM] at ck0 s1
  clear b2 pa2 C1 B1 CM CP
  rw [hM]
  clear hM
  go_wp2_with fail
  go_loopw [12] (fun i wr => ∃ k : Nat, k ≤ n ∧ i = .int .i64 k ∧ Ck w (w.heap.size + 1) w.heap.size (M + 1) M l k wr) (fun i _ => n - (intOf i).toNat)
  case atStart => exact ⟨0, Nat.zero_le _, rfl, ck0.out⟩
  case round =>
    clear ck0
    obtain ⟨j, hj, rfl, ck⟩ := hrel
    obtain ⟨wq, rfl⟩ : ∃ wq : World, wq = wr := ⟨_, rfl⟩
    have CK := Lib.hid ck
    by_cases hlt : j < n
    · have hjl : j < l.length := by have := HL.out; omega
      obtain ⟨b, o, rfl, at0⟩ := KC.at_ (HR.out.below ck.bel) hjl
      have HT := Lib.hid (take_get (d := c0) hjl)
      have HG := Lib.hid (fun h1 => chk_some hjl CK.out.good h1)
      have BX := Lib.hid (HB.out.get hjl)
      have HW := Lib.hid (WF_of (Nat.le_of_lt hjl) ck.good)
      obtain ⟨x, hx0⟩ : ∃ x, l.getD j c0 = x := ⟨_, rfl⟩
      rw [hx0] at at0 HT HG BX
      have HX := Lib.hid hx0
      have AT := Lib.hid at0
      have PA := Lib.hid ck.pa
      have CN := Lib.hid ck.cn
      have BE := Lib.hid ck.bel
      have hll := Lib.hid (show (l.take j).length ≤ 1000 by rw [List.length_take]; omega)
      have d0 : decide ((j : Int) < n) = true := decide_eq_true (by omega)
      have j1 : (j : Int) < n := by omega
      have AN := Lib.hid (KC.at_new wq x)
      have PN := Lib.hid (PA.out.alloc (.cells #[.int .i64 x.t, .int .i64 x.i, .int .u8 x.k, .int .u64 x.p0, .int .u64 x.p1, .int .u64 x.p2, .int .u64 x.p3, .int .u64 x.p4, .int .u64 x.p5, .int .i64 x.v, .int .i64 x.u, .int .i64 x.a, .int .i64 x.s, .int .i64 x.re, .bool x.rf, .int .u64 x.rk, .int .u64 x.rv, .int .i64 x.rc] 47))
      have CNN := Lib.hid (CN.out.below (bel_alloc (Below.refl wq.heap.size wq) (.cells #[.int .i64 x.t, .int .i64 x.i, .int .u8 x.k, .int .u64 x.p0, .int .u64 x.p1, .int .u64 x.p2, .int .u64 x.p3, .int .u64 x.p4, .int .u64 x.p5, .int .i64 x.v, .int .i64 x.u, .int .i64 x.a, .int .i64 x.s, .int .i64 x.re, .bool x.rf, .int .u64 x.rk, .int .u64 x.rv, .int .i64 x.rc] 47)))
      have HD := Lib.hid (hold_any x (w.heap.size + 1) w.heap.size (M + 1) M (l.take j) _ CNN.out PN.out HW.out hll.out BX.out)
      clear hx0 at0 ck
      have BN := Lib.hid (bel_alloc BE.out (.cells #[.int .i64 x.t, .int .i64 x.i, .int .u8 x.k, .int .u64 x.p0, .int .u64 x.p1, .int .u64 x.p2, .int .u64 x.p3, .int .u64 x.p4, .int .u64 x.p5, .int .i64 x.v, .int .i64 x.u, .int .i64 x.a, .int .i64 x.s, .int .i64 x.re, .bool x.rf, .int .u64 x.rk, .int .u64 x.rv, .int .i64 x.rc] 47))
      by_cases hg : goodB (l.take j) x = true
      · have hgd := goodB_iff.1 hg
        have HGN := Lib.hid (show ∀ i, i < j + 1 → goodB (l.take i) (l.getD i c0) = true from fun i hi => by
          by_cases e : i = j
          · subst e; rw [HX.out]; exact hg
          · exact CK.out.good i (by omega))
        have ht0 := Lib.hid hgd.t0
        have ht1 := Lib.hid hgd.t1
        rw [hg] at HD
        clear hg hgd CK HG
        go_wp2_with (first | (refine ld rfl (.tmp 15) rfl b (o + j * 18) rfl x AT.out ?_) | (refine st_new rfl (.tmp 7) (.tmp 16) rfl wq _ rfl rfl rfl x rfl ?_) | (refine ld rfl (.tmp 7) rfl _ _ rfl x AN.out ?_))
        refine HD.out.mono ?_
        rintro e w3 ⟨rfl, b3⟩
        have AN3 := Lib.hid (AN.out.bel b3 (by simp))
        have HA := Lib.hid (add_any x (M + 1) M (l.take j) w3 (PN.out.below b3) ht0.out ht1.out (by have := hll.out; omega) BX.out)
        have CN3 := Lib.hid (CNN.out.below b3)
        have BE3 := Lib.hid (bel_trans BN.out b3)
        clear HD AN PN CNN BN b3
        go_wp2_with (first | (refine ld rfl (.tmp 7) rfl _ _ rfl x AN3.out ?_))
        refine HA.out.mono ?_
        rintro e w4 ⟨rfl, aft, pa4⟩
        have CK4 := Lib.hid (show Ck w (w.heap.size + 1) w.heap.size (M + 1) M l (j + 1) w4 from ⟨HGN.out, CN3.out.same (aft.blk _ CN3.out.lt.1 (by omega) (by omega)) (aft.blk _ CN3.out.lt.2 (by omega) (by omega)), by rw [HT.out]; exact pa4, ⟨aft.os.trans BE3.out.os, aft.tape.trans BE3.out.tape, aft.output.trans BE3.out.output, Nat.le_trans BE3.out.size aft.size, fun k hk => (aft.blk k (Nat.lt_of_lt_of_le hk BE3.out.size) (by omega) (by omega)).trans (BE3.out.block k hk)⟩⟩)
        clear aft pa4 CN3 BE3 HA AN3
        go_wp2
        go_roundw
        case rel => exact ⟨j + 1, by omega, by go_num, CK4.out⟩
        case measure => simp [intOf]; omega
      · rw [Bool.not_eq_true] at hg
        have HV := Lib.hid (chkV_some (HG.out hg))
        rw [hg] at HD
        clear hg CK HG
        go_wp2_with (first | (refine ld rfl (.tmp 15) rfl b (o + j * 18) rfl x AT.out ?_) | (refine st_new rfl (.tmp 7) (.tmp 16) rfl wq _ rfl rfl rfl x rfl ?_) | (refine ld rfl (.tmp 7) rfl _ _ rfl x AN.out ?_))
        refine HD.out.mono ?_
        rintro e w3 ⟨rfl, b3⟩
        have BE3 := Lib.hid (bel_trans BN.out b3)
        clear HD b3
        go_wp2
        go_ret2
        exact ⟨by rw [HV.out]; first | done | rfl, BE3.out⟩
    · obtain rfl : j = n := by omega
      have HV := Lib.hid (show chkV l = .tuple #[.int .i64 0, .int .i64 0] from chkV_none (chk_none.2 (fun i hi => ck.good i (by have := HL.out; omega))))
      have BE := Lib.hid ck.bel
      have d0 : decide ((j : Int) < j) = false := by simp
      clear ck CK
      go_wp2
      go_ret2
      exact ⟨by rw [HV.out]; first | done | rfl, BE.out⟩
end Hi
end Go.Proofs.Ytgfhfcjjodcgdaa
