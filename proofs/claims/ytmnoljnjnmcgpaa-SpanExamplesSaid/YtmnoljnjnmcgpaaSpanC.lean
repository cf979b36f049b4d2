/- span.Covers, leapfrogref02.Covers and leapfroglaw02.known: contracts of the translated code. Conditions: at most 1000 ranges; the bounds of each end's kind. -/
import Derived.Test.YtmnoljnjnmcgpaaSpanRN
namespace Go.Proofs.Ytmnoljnjnmcgpaa
open Go.RowKit Go.Sort
set_option linter.unusedVariables false
set_option linter.unusedSimpArgs false
namespace Sp
def cvB (N : List Sp) (s : Sp) : Bool := N.any fun m => decide (m.1 ≤ s.1 ∧ s.2 ≤ m.2)
def cvV (s : Sp) (l : List Sp) : Bool := decide (s.1 ≤ s.2) && (okB l && cvB (norm l) s)
def cvE (s : Sp) (l : List Sp) : Int := if s.1 ≤ s.2 then caE l else 13
theorem cvB_yes {N : List Sp} {s m : Sp} {k : Nat} (h : N[k]? = some m) (h1 : m.1 ≤ s.1) (h2 : s.2 ≤ m.2) : cvB N s = true := by
  simp only [cvB, List.any_eq_true, decide_eq_true_eq]
  exact ⟨m, List.mem_of_getElem? h, h1, h2⟩
theorem cvB_step {N : List Sp} {s m : Sp} {k : Nat} (h : N[k]? = some m) (hk : cvB (N.take k) s = false) (hx : ¬ (m.1 ≤ s.1 ∧ s.2 ≤ m.2)) : cvB (N.take (k + 1)) s = false := by
  rw [take_succ' h, cvB, List.any_append, Bool.or_eq_false_iff]
  exact ⟨hk, by simpa using hx⟩
theorem cvB_all {N : List Sp} {s : Sp} {k : Nat} (hk : N.length ≤ k) (h : cvB (N.take k) s = false) : cvB N s = false := by
  rwa [List.take_of_length_le hk] at h
theorem norm_len (l : List Sp) : (norm l).length ≤ l.length := by
  have := nk_len l l.length (Nat.le_refl _)
  rwa [nk_all (Nat.le_refl _)] at this
theorem norm_bd {l : List Sp} (h : Bd l) : Bd (norm l) := by
  have := nk_bd h l.length (Nat.le_refl _)
  rwa [nk_all (Nat.le_refl _)] at this
theorem nrm_len (l : List Sp) : (nrm l).length ≤ l.length := by
  unfold nrm; split
  · exact norm_len l
  · simp
theorem nrm_bd {l : List Sp} (h : Bd l) : Bd (nrm l) := by
  unfold nrm; split
  · exact norm_bd h
  · intro x hx; cases hx
theorem cvV_nrm {s : Sp} {l : List Sp} (h : s.1 ≤ s.2) : cvV s l = cvB (nrm l) s := by
  unfold cvV nrm
  cases okB l <;> simp [h, cvB]
def CPost (w : World) (s : Sp) (l : List Sp) (e : Ending) (w' : World) : Prop := e = .returned (.tuple #[.bool (cvV s l), .int .i64 (cvE s l)]) ∧ Below w.heap.size w w'
theorem covers_any (A : Option Addr) (n c : Nat) (s : Sp) (l : List Sp) (w : World) (hn : l.length = n) (hs : n ≤ 1000) (hr : Rd w A l) (hd : Bd l) (hsb : B1 s) :
    Calls Try.prog 30 #[.agg #[.int .u64 s.1, .int .u64 s.2], .slice A n c] w (CPost w s l) := by
  obtain ⟨s0, s1, s2, s3⟩ := hsb
  have HR := Lib.hid hr; clear hr
  have HD := Lib.hid hd; clear hd
  have HN := Lib.hid hn; clear hn
  have hn1 : (n : Int) ≤ 1000 := by omega
  have b0 : Below w.heap.size w (w.alloc (.cells #[.int .u64 s.1, .int .u64 s.2] 24)) := bel_alloc (Below.refl _ _) _
  by_cases hv : s.1 ≤ s.2
  · have HE := Lib.hid (show ckE s.1 s.2 = 0 by rw [ckE, if_pos hv])
    go_enter Try.func30, Try.ntmps30
    go_wp2_with fail
    refine (check_any s.1 s.2 s0 s1 s2 s3 _).mono ?_
    rw [HE.out]
    rintro r w1 ⟨rfl, b1⟩
    have b01 := bel_trans b0 b1
    go_wp2_with fail
    refine (normalize_any A n c l w1 HN.out hs (HR.out.below b01) HD.out).mono ?_
    rintro r w2 ⟨A2, c2, rfl, rd2, _, b2⟩
    have bx := b1.trans (b2.mono b1.size)
    have hz := bx.size
    simp at hz
    have b02 := bel_trans b01 b2
    have hN2 : (nrm l).length ≤ 1000 := by have := nrm_len l; have := HN.out; omega
    have hN1 : ((nrm l).length : Int) ≤ 1000 := by omega
    cases hok : okB l with
    | false =>
      have HC := Lib.hid (show caE l = 13 by rw [caE, hok]; rfl)
      have HV := Lib.hid (show cvV s l = false by rw [cvV, hok]; simp)
      clear hok
      rw [HC.out]
      go_wp2
      go_ret2
      exact ⟨by rw [HV.out, show cvE s l = 13 by rw [cvE, if_pos hv, HC.out]]; rfl, b02⟩
    | true =>
      have HC := Lib.hid (show caE l = 0 by rw [caE, hok]; rfl)
      have HV := Lib.hid (cvV_nrm (l := l) hv)
      have HF := Lib.hid (show cvE s l = 0 by rw [cvE, if_pos hv, HC.out])
      clear hok
      rw [HC.out]
      have hbd := nrm_bd HD.out
      generalize nrm l = N at rd2 hN2 hN1 HV hbd ⊢
      have RD := Lib.hid rd2; clear rd2
      have BD := Lib.hid hbd; clear hbd
      go_wp2
      go_loopw [26] (fun i wr => ∃ k : Nat, k ≤ N.length ∧ i = .int .i64 k ∧ cvB (N.take k) s = false ∧ Below w2.heap.size w2 wr) (fun i _ => N.length - (intOf i).toNat)
      case atStart => exact ⟨0, Nat.zero_le _, rfl, rfl, Below.refl _ _⟩
      case round =>
        obtain ⟨k, hk, rfl, hq, bel⟩ := hrel
        have HQ := Lib.hid hq; clear hq
        by_cases hlt : k < N.length
        · obtain ⟨m, hx, hm⟩ := getElem?_lt rfl hlt
          obtain ⟨d0, d1, d2, d3⟩ := BD.out m hm
          have HX := Lib.hid hx; clear hx hm
          obtain ⟨b, o, rfl, c0, c1⟩ := (RD.out.below bel) k m HX.out
          have bt := bx.trans (bel.mono bx.size)
          have t0 : wr.cell? ⟨w.heap.size, 0, none⟩ = some (.int .u64 s.1) := by rw [bt.cell (p := ⟨w.heap.size, 0, none⟩) (by simp)]; simp
          have t1 : wr.cell? ⟨w.heap.size, 1, none⟩ = some (.int .u64 s.2) := by rw [bt.cell (p := ⟨w.heap.size, 1, none⟩) (by simp)]; simp
          have hzr := bel.size
          have hwr : w.heap.size < wr.heap.size := by omega
          by_cases h1 : m.1 ≤ s.1 ∧ s.1 ≤ m.2
          · have H1 := Lib.hid (show hasB m.1 m.2 s.1 = true from decide_eq_true h1)
            go_wp2_with fail
            refine (has_any m.1 m.2 s.1 d0 d1 d2 d3 s0 s1 _).mono ?_
            rw [H1.out]
            rintro r w3 ⟨rfl, b3⟩
            obtain ⟨kc, kf⟩ := bcell b3
            have hz3 := b3.size
            (try simp at hz3)
            have hw3 : w.heap.size < w3.heap.size := by omega
            have u0 : w3.cell? ⟨wr.heap.size, 0, none⟩ = some (.int .u64 m.1) := by rw [kc _ _ (by simp)]; simp
            have u1 : w3.cell? ⟨wr.heap.size, 1, none⟩ = some (.int .u64 m.2) := by rw [kc _ _ (by simp)]; simp
            have u2 : w3.cell? ⟨w.heap.size, 1, none⟩ = some (.int .u64 s.2) := by rw [kc _ _ (by simp; omega), World.cell?_alloc_past _ _ _ hwr]; exact t1
            have bel3 : Below w2.heap.size w2 w3 := (bel.alloc bel.size _).trans (b3.mono (by simp; omega))
            clear kc kf t0 t1 c0 c1
            by_cases h2 : m.1 ≤ s.2 ∧ s.2 ≤ m.2
            · have H2 := Lib.hid (show hasB m.1 m.2 s.2 = true from decide_eq_true h2)
              go_wp2_with fail
              refine (has_any m.1 m.2 s.2 d0 d1 d2 d3 s2 s3 _).mono ?_
              rw [H2.out]
              rintro r w4 ⟨rfl, b4⟩
              go_wp2
              go_ret2
              exact ⟨by rw [HV.out, cvB_yes HX.out h1.1 h2.2, HF.out]; rfl, b02.trans ((bel3.trans (b4.mono bel3.size)).mono b02.size)⟩
            · have H2 := Lib.hid (show hasB m.1 m.2 s.2 = false from decide_eq_false h2)
              go_wp2_with fail
              refine (has_any m.1 m.2 s.2 d0 d1 d2 d3 s2 s3 _).mono ?_
              rw [H2.out]
              rintro r w4 ⟨rfl, b4⟩
              go_wp2
              go_roundw
              case rel => exact ⟨k + 1, by omega, by go_num, cvB_step HX.out HQ.out (by omega), bel3.trans (b4.mono bel3.size)⟩
              case measure => simp [intOf]; omega
          · have H1 := Lib.hid (show hasB m.1 m.2 s.1 = false from decide_eq_false h1)
            go_wp2_with fail
            refine (has_any m.1 m.2 s.1 d0 d1 d2 d3 s0 s1 _).mono ?_
            rw [H1.out]
            rintro r w3 ⟨rfl, b3⟩
            have bel3 : Below w2.heap.size w2 w3 := (bel.alloc bel.size _).trans (b3.mono (by simp; omega))
            go_wp2
            go_roundw
            case rel => exact ⟨k + 1, by omega, by go_num, cvB_step HX.out HQ.out (by omega), bel3⟩
            case measure => simp [intOf]; omega
        · have hkn : N.length ≤ k := by omega
          go_wp2
          go_ret2
          exact ⟨by rw [HV.out, cvB_all hkn HQ.out, HF.out]; rfl, b02.trans (bel.mono b02.size)⟩
  · have HE := Lib.hid (show ckE s.1 s.2 = 13 by rw [ckE, if_neg hv])
    have HV := Lib.hid (show cvV s l = false by rw [cvV, decide_eq_false hv]; rfl)
    have HF := Lib.hid (show cvE s l = 13 by rw [cvE, if_neg hv])
    go_enter Try.func30, Try.ntmps30
    go_wp2_with fail
    refine (check_any s.1 s.2 s0 s1 s2 s3 _).mono ?_
    rw [HE.out]
    rintro r w1 ⟨rfl, b1⟩
    go_wp2
    go_ret2
    exact ⟨by rw [HV.out, HF.out]; rfl, bel_trans b0 b1⟩
theorem normalizeR_any (A : Option Addr) (n c : Nat) (l : List Sp) (w : World) (hn : l.length = n) (hs : n ≤ 1000) (hr : Rd w A l) (hd : Bd l) :
    Calls Try.prog 28 #[.slice A n c] w (RPost w l) := by
  cases h : okB l with
  | true => exact normalizeR_yes A n c l w hn hs hr hd h
  | false => exact normalizeR_no A n c l w hn hs hr h
theorem coversR_any (A : Option Addr) (n c : Nat) (s : Sp) (l : List Sp) (w : World) (hn : l.length = n) (hs : n ≤ 1000) (hr : Rd w A l) (hd : Bd l) :
    Calls Try.prog 31 #[.agg #[.int .u64 s.1, .int .u64 s.2], .slice A n c] w (CPost w s l) := by
  have HR := Lib.hid hr; clear hr
  have HD := Lib.hid hd; clear hd
  have HN := Lib.hid hn; clear hn
  have hn1 : (n : Int) ≤ 1000 := by omega
  have b0 : Below w.heap.size w (w.alloc (.cells #[.int .u64 s.1, .int .u64 s.2] 24)) := bel_alloc (Below.refl _ _) _
  by_cases hv : s.1 ≤ s.2
  · cases hok : okB l with
    | false =>
      have HO := Lib.hid hok
      have HC := Lib.hid (show caE l = 13 by rw [caE, hok]; rfl)
      have HV := Lib.hid (show cvV s l = false by rw [cvV, hok]; simp)
      have HF := Lib.hid (show cvE s l = 13 by rw [cvE, if_pos hv, HC.out])
      clear hok
      go_enter Try.func31, Try.ntmps31
      go_wp2_with fail
      refine (all_any A n c l _ HN.out (by unfold maxLen; omega) (HR.out.below b0)).mono ?_
      rw [HO.out]
      rintro r w1 ⟨rfl, b1⟩
      go_wp2
      go_ret2
      exact ⟨by rw [HV.out, HF.out]; rfl, bel_trans b0 b1⟩
    | true =>
      have HO := Lib.hid hok
      have HC := Lib.hid (show caE l = 0 by rw [caE, hok]; rfl)
      have HV := Lib.hid (cvV_nrm (l := l) hv)
      have HF := Lib.hid (show cvE s l = 0 by rw [cvE, if_pos hv, HC.out])
      clear hok
      go_enter Try.func31, Try.ntmps31
      go_wp2_with fail
      refine (all_any A n c l _ HN.out (by unfold maxLen; omega) (HR.out.below b0)).mono ?_
      rw [HO.out]
      rintro r w1 ⟨rfl, b1⟩
      have b01 := bel_trans b0 b1
      go_wp2_with fail
      refine (normalizeR_any A n c l w1 HN.out hs (HR.out.below b01) HD.out).mono ?_
      rintro r w2 ⟨A2, c2, rfl, rd2, b2⟩
      have bx := b1.trans (b2.mono b1.size)
      have hz := bx.size
      simp at hz
      have b02 := bel_trans b01 b2
      have hN2 : (nrm l).length ≤ 1000 := by have := nrm_len l; have := HN.out; omega
      have hN1 : ((nrm l).length : Int) ≤ 1000 := by omega
      generalize nrm l = N at rd2 hN2 hN1 HV ⊢
      have RD := Lib.hid rd2; clear rd2
      go_wp2
      go_loopw [8] (fun i wr => ∃ k : Nat, k ≤ N.length ∧ i = .int .i64 k ∧ cvB (N.take k) s = false ∧ Below w2.heap.size w2 wr) (fun i _ => N.length - (intOf i).toNat)
      case atStart => exact ⟨0, Nat.zero_le _, rfl, rfl, Below.refl _ _⟩
      case round =>
        obtain ⟨k, hk, rfl, hq, bel⟩ := hrel
        have HQ := Lib.hid hq; clear hq
        by_cases hlt : k < N.length
        · obtain ⟨m, hx, hm⟩ := getElem?_lt rfl hlt
          have HX := Lib.hid hx; clear hx hm
          obtain ⟨b, o, rfl, c0, c1⟩ := (RD.out.below bel) k m HX.out
          have bt := bx.trans (bel.mono bx.size)
          have t0 : wr.cell? ⟨w.heap.size, 0, none⟩ = some (.int .u64 s.1) := by rw [bt.cell (p := ⟨w.heap.size, 0, none⟩) (by simp)]; simp
          have t1 : wr.cell? ⟨w.heap.size, 1, none⟩ = some (.int .u64 s.2) := by rw [bt.cell (p := ⟨w.heap.size, 1, none⟩) (by simp)]; simp
          by_cases h1 : m.1 ≤ s.1
          · have g1 : decide (m.1 ≤ s.1) = true := decide_eq_true h1
            by_cases h2 : s.2 ≤ m.2
            · have g2 : decide (s.2 ≤ m.2) = true := decide_eq_true h2
              go_wp2
              go_quiet (fail)
              go_wp2
              go_ret2
              exact ⟨by rw [HV.out, cvB_yes HX.out h1 h2, HF.out]; rfl, below_drewN (b02.trans (bel.mono b02.size)) _⟩
            · have g2 : decide (s.2 ≤ m.2) = false := decide_eq_false h2
              go_wp2
              go_quiet (fail)
              go_wp2
              go_roundw
              case rel => exact ⟨k + 1, by omega, by go_num, cvB_step HX.out HQ.out (by omega), below_drewN bel _⟩
              case measure => simp [intOf]; omega
          · have g1 : decide (m.1 ≤ s.1) = false := decide_eq_false h1
            go_wp2
            go_quiet (fail)
            go_wp2
            go_roundw
            case rel => exact ⟨k + 1, by omega, by go_num, cvB_step HX.out HQ.out (by omega), below_drewN bel _⟩
            case measure => simp [intOf]; omega
        · have hkn : N.length ≤ k := by omega
          go_wp2
          go_ret2
          exact ⟨by rw [HV.out, cvB_all hkn HQ.out, HF.out]; rfl, b02.trans (bel.mono b02.size)⟩
  · have HV := Lib.hid (show cvV s l = false by rw [cvV, decide_eq_false hv]; rfl)
    have HF := Lib.hid (show cvE s l = 13 by rw [cvE, if_neg hv])
    go_enter Try.func31, Try.ntmps31
    go_wp2
    go_ret2
    exact ⟨by rw [HV.out, HF.out]; rfl, b0⟩

/-! ### known -/
theorem nrm_known : nrm [(5, 6), (1, 4)] = [(1, 6)] := by decide +kernel
theorem caE_known : caE [(5, 6), (1, 4)] = 0 := by decide +kernel
theorem known_any (w : World) : Calls Try.prog 26 #[] w fun e w' => e = .returned (.bool true) ∧ Below w.heap.size w w' := by
  go_enter Try.func26, Try.ntmps26
  go_wp2_with fail
  refine (normalize_any _ 2 2 [(5, 6), (1, 4)] _ rfl (by omega) ?_ ?_).mono ?_
  · exact rd_two (by simp) (by simp) (by simp) (by simp)
  · exact bd_two (by omega) (by omega) (by omega) (by omega) (by omega) (by omega) (by omega) (by omega)
  rintro r w2 ⟨A2, c2, rfl, rd2, _, b2⟩
  rw [nrm_known] at rd2 ⊢
  rw [caE_known]
  obtain ⟨b, o, rfl, c0, c1⟩ := rd2 0 (1, 6) rfl
  simp only [Nat.zero_mul, Nat.add_zero] at c0 c1
  clear rd2
  go_wp2_with fail
  refine (has_any 1 6 6 (by omega) (by omega) (by omega) (by omega) (by omega) (by omega) _).mono ?_
  rw [show hasB 1 6 6 = true from rfl]
  rintro r w3 ⟨rfl, b3⟩
  replace c0 := (b3.cell (World.block_lt_of_cell? _ _ c0)).trans c0
  replace c1 := (b3.cell (World.block_lt_of_cell? _ _ c1)).trans c1
  go_wp2_with fail
  refine (has_any 1 6 7 (by omega) (by omega) (by omega) (by omega) (by omega) (by omega) _).mono ?_
  rw [show hasB 1 6 7 = false from rfl]
  rintro r w4 ⟨rfl, b4⟩
  go_wp2
  go_ret
  exact ⟨rfl, bel_trans (bel_trans (bel_trans (bel_alloc (Below.refl _ _) _) b2) b3) b4⟩
end Sp
end Go.Proofs.Ytmnoljnjnmcgpaa
