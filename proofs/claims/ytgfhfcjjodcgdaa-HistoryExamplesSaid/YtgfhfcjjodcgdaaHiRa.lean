/- leapfrogref12: Agrees: contract of the translated code. Conditions: those of the lemma. -/
import Derived.Test.YtgfhfcjjodcgdaaHiX
namespace Go.Proofs.Ytgfhfcjjodcgdaa
open Go.RowKit Go.Shelf Go.Sort
set_option linter.unusedVariables false
set_option linter.unusedSimpArgs false
namespace Hi
theorem plc_mem {o : List Int} {i : Int} : 0 ≤ plc o i ↔ i ∈ o := by
  unfold plc
  by_cases h : i ∈ o
  · rw [if_pos h]; constructor
    · intro _; exact h
    · intro _; omega
  · rw [if_neg h]; constructor
    · intro h1; omega
    · intro h1; exact absurd h1 h
theorem plc_take {o : List Int} {i : Int} {k : Nat} : i ∈ o.take k ↔ 0 ≤ plc o i ∧ plc o i < k := by
  constructor
  · intro h
    have hm := List.mem_of_mem_take h
    refine ⟨plc_mem.2 hm, ?_⟩
    unfold plc
    rw [if_pos hm]
    obtain ⟨j, hj, he⟩ := List.mem_iff_getElem.1 h
    have hjk : j < k ∧ j < o.length := by rw [List.length_take] at hj; omega
    rw [List.getElem_take] at he
    have : o.idxOf i ≤ j := by
      apply Nat.le_of_not_lt
      intro hlt
      exact absurd (List.not_of_lt_findIdx (p := fun y => y == i) (xs := o) (i := j) hlt) (by simp [he])
    omega
  · rintro ⟨h0, h1⟩
    have hm := plc_mem.1 h0
    unfold plc at h1
    rw [if_pos hm] at h1
    have hlt : o.idxOf i < o.length := List.idxOf_lt_length_iff.2 hm
    rw [List.mem_iff_getElem?]
    refine ⟨o.idxOf i, ?_⟩
    rw [List.getElem?_take_of_lt (by omega), List.getElem?_eq_getElem hlt]
    rw [List.getElem_idxOf hlt]
theorem plc_get {o : List Int} {i : Int} (h : i ∈ o) : ∃ b : Nat, plc o i = (b : Int) ∧ b < o.length ∧ o.getD b 0 = i := by
  have hlt : o.idxOf i < o.length := List.idxOf_lt_length_iff.2 h
  refine ⟨o.idxOf i, by unfold plc; rw [if_pos h], hlt, ?_⟩
  rw [List.getD_eq_getElem?_getD, List.getElem?_eq_getElem hlt]
  simp [List.getElem_idxOf hlt]
/-- the reference's test of a pair -/
def badP (l : List C) (o : List Int) (i k : Nat) : Bool := bfr (l.getD i c0) (l.getD k c0) && (decide (0 ≤ plc o (k : Int)) && (decide (plc o (i : Int) < 0) || decide (plc o (k : Int) < plc o (i : Int))))
theorem agB_bad {l : List C} {o : List Int} {i k : Nat} (hi : i < l.length) (h : badP l o i k = true) : agB l o = false := by
  simp only [badP, Bool.and_eq_true, Bool.or_eq_true, decide_eq_true_eq] at h
  obtain ⟨h1, h2, h3⟩ := h
  obtain ⟨b, h4, h5, h6⟩ := plc_get (plc_mem.1 h2)
  cases ha : agB l o with
  | false => rfl
  | true =>
    have := agB_iff.1 ha b h5 i hi (by rw [h6]; exact h1)
    rw [plc_take] at this
    omega
theorem agB_good {l : List C} {o : List Int} (hl : WF l) (ho : ordE l.length o = 0) (h : ∀ i, i < l.length → ∀ k, k < l.length → badP l o i k = false) : agB l o = true := by
  rw [agB_iff]
  intro q hq i hi hb
  have h1 := ord_in ho hq
  obtain ⟨k, hk⟩ : ∃ k : Nat, o.getD q 0 = (k : Int) := ⟨(o.getD q 0).toNat, by omega⟩
  rw [hk] at hb h1
  simp only [Int.toNat_natCast] at hb
  have hkl : k < l.length := by omega
  have hmem : (k : Int) ∈ o.take (q + 1) := by
    rw [take_get (d := 0) hq, hk]; simp
  have hp := plc_take.1 hmem
  have hn := h i hi k hkl
  have hne : plc o (i : Int) ≠ plc o (k : Int) := fun e => by
    obtain ⟨b, e1, e2, e3⟩ := plc_get (plc_mem.1 hp.1)
    obtain ⟨b', e1', e2', e3'⟩ := plc_get (o := o) (i := (i : Int)) (plc_mem.1 (by rw [e]; exact hp.1))
    have : b = b' := by omega
    subst this
    have : i = k := by omega
    subst this
    rw [bfr_self (WF_one hl _ (mem_get hi))] at hb
    cases hb
  rw [plc_take]
  unfold badP at hn
  rw [hb, decide_eq_true hp.1] at hn
  simp only [Bool.true_and, Bool.or_eq_false_iff, decide_eq_false_iff_not] at hn
  omega
theorem ordAt_plc {n : Nat} {o : List Int} {k : Nat} (hk : k < o.length) : ordAt n o k = if (o.getD k 0 < 0 ∨ (n : Int) ≤ o.getD k 0) then 3 else if plc o (o.getD k 0) < k then 9 else 0 := by
  unfold ordAt
  have hm : o.getD k 0 ∈ o := by rw [List.getD_eq_getElem?_getD, List.getElem?_eq_getElem hk]; exact List.getElem_mem hk
  have := plc_mem.2 hm
  have e : (o.getD k 0 ∈ o.take k) = (plc o (o.getD k 0) < k) := by
    apply propext
    rw [plc_take]
    constructor
    · intro h; exact h.2
    · intro h; exact ⟨this, h⟩
  simp only [e]
set_option maxRecDepth 100000 in
set_option maxHeartbeats 4000000 in
theorem rAgrees_any (A : Option Addr) (mo co : Nat) (o : List Int) (hlo : o.length = mo) (hmo : mo ≤ 1000) (Al : Option Addr) (n cl : Nat) (l : List C) (hl : l.length = n) (hn : n ≤ 1000) (w : World) (hrd : KI.Rd w A o) (hrl : KC.Rd w Al l) (hbd : Bd l) :
    Calls Try.prog 26 #[.slice A mo co, .slice Al n cl] w (AgPost l o w) := by
  have CC := Lib.hid (rcheck_any Al n cl l w hl hn hrl hbd)
  rw [chkV_eq] at CC
  have HR := Lib.hid hrl
  have HO := Lib.hid hrd
  have HEA := Lib.hid (show erA l o = if erC l = 0 then ordE n o else erC l from by unfold erA; rw [hl])
  have CP := Lib.hid (fun (W : World) (h : KI.Rd W A o) (i : Int) => rplace_any A mo co o W hlo hmo h i)
  have HL := Lib.hid hl
  have HLO := Lib.hid hlo
  have mo1 : (mo : Int) ≤ 1000 := by omega
  have n1 : (n : Int) ≤ 1000 := by omega
  clear hl hlo hrl hrd hbd
  generalize chkAt l = at_ at *
  have HP := Lib.hid (show ∀ (b : Bool) (er : Int) w', agV l o = b → erA l o = er → Below w.heap.size w w' → AgPost l o w (.returned (.tuple #[.bool b, .int .i64 er])) w' from fun b er w' h1 h2 h3 => ⟨by rw [h1, h2], h3⟩)
  by_cases hwf : WF l
  · rw [erC_ok hwf] at CC
    have HW := Lib.hid hwf
    have HE := Lib.hid (show erA l o = ordE n o by rw [HEA.out, erC_ok hwf, if_pos rfl])
    have HBAD := Lib.hid (fun (h : ordE n o ≠ 0) => (show agV l o = false by unfold agV; rw [HE.out, decide_eq_false h]; rfl))
    have HGOOD := Lib.hid (fun (h : ordE n o = 0) => (show agV l o = agB l o by unfold agV; rw [HE.out, h]; simp))
    clear hwf HEA
    go_enter Try.func26, Try.ntmps26
    go_wp2_with fail
    refine CC.out.mono ?_
    rintro e w1 ⟨rfl, b1⟩
    have B1 := Lib.hid b1
    clear CC b1
    go_wp2_with fail
    go_loopw [8] (fun s wr => ∃ (k : Nat), k ≤ mo ∧ s = .int .i64 k ∧ (∀ j, j < k → ordAt n o j = 0) ∧ Below w1.heap.size w1 wr) (fun s _ => mo - (intOf s).toNat)
    case atStart => exact ⟨0, Nat.zero_le _, rfl, fun j hj => by omega, Below.refl _ _⟩
    case round =>
      obtain ⟨k, hk, rfl, hno, bel⟩ := hrel
      have NO := Lib.hid hno
      have BEL := Lib.hid (bel_bel B1.out bel)
      clear hno
      obtain ⟨wq, rfl⟩ : ∃ wq : World, wq = wr := ⟨_, rfl⟩
      by_cases hlt : k < mo
      · have hkl : k < o.length := by rw [HLO.out]; exact hlt
        have d0 : decide ((k : Int) < mo) = true := decide_eq_true (by omega)
        have j1 : (k : Int) < mo := by omega
        obtain ⟨b, oo, rfl, c0⟩ := KI.at_ (HO.out.below BEL.out) hkl
        have HOA := Lib.hid (ordAt_plc (n := n) hkl)
        have HEK := Lib.hid (fun h => ordE_at (n := n) hkl NO.out h)
        obtain ⟨x, hx⟩ : ∃ x, o.getD k 0 = x := ⟨_, rfl⟩
        rw [hx] at c0 HOA
        clear hx
        by_cases h1 : x < 0
        · have d1 := decide_eq_true h1
          have HK := Lib.hid (show ordE n o = 3 ∧ ordE n o ≠ 0 by
            have h2 : ordAt n o k = 3 := by rw [HOA.out, if_pos (.inl h1)]
            have := HEK.out (by omega)
            omega)
          clear h1
          go_wp2_with fail
          go_ret2
          exact HP.out _ _ _ (HBAD.out HK.out.2) (HE.out.trans HK.out.1) BEL.out
        · have d1 := decide_eq_false h1
          by_cases h2 : (n : Int) ≤ x
          · have d2 : decide (x ≥ (n : Int)) = true := decide_eq_true h2
            have HK := Lib.hid (show ordE n o = 3 ∧ ordE n o ≠ 0 by
              have h2 : ordAt n o k = 3 := by rw [HOA.out, if_pos (.inr h2)]
              have := HEK.out (by omega)
              omega)
            clear h1 h2
            go_wp2_with fail
            go_ret2
            exact HP.out _ _ _ (HBAD.out HK.out.2) (HE.out.trans HK.out.1) BEL.out
          · have d2 : decide (x ≥ (n : Int)) = false := decide_eq_false h2
            have HO2 := Lib.hid (show ordAt n o k = if plc o x < k then 9 else 0 by rw [HOA.out, if_neg (by omega)])
            have CPK := Lib.hid (CP.out wq (HO.out.below BEL.out) x)
            obtain ⟨z, hz⟩ : ∃ z, plc o x = z := ⟨_, rfl⟩
            rw [hz] at HO2 CPK
            clear h1 h2 hz HOA
            by_cases h3 : z < k
            · have d3 := decide_eq_true h3
              have HK := Lib.hid (show ordE n o = 9 ∧ ordE n o ≠ 0 by
                have h2 : ordAt n o k = 9 := by rw [HO2.out, if_pos h3]
                have := HEK.out (by omega)
                omega)
              clear h3
              go_wp2_with fail
              refine CPK.out.mono ?_
              rintro e w3 ⟨rfl, b3⟩
              go_wp2_with fail
              go_ret2
              exact HP.out _ _ _ (HBAD.out HK.out.2) (HE.out.trans HK.out.1) (bel_bel BEL.out b3)
            · have d3 := decide_eq_false h3
              have HK := Lib.hid (show ordAt n o k = 0 by rw [HO2.out, if_neg h3])
              clear h3
              go_wp2_with fail
              refine CPK.out.mono ?_
              rintro e w3 ⟨rfl, b3⟩
              go_wp2_with fail
              go_roundw
              case rel =>
                refine ⟨k + 1, by omega, by go_num, fun j hj => ?_, bel_bel bel b3⟩
                by_cases h : j < k
                · exact NO.out j h
                · rw [show j = k by omega]; exact HK.out
              case measure => simp [intOf]; omega
      · obtain rfl : k = mo := by omega
        have d0 : decide ((k : Int) < k) = false := by simp
        have h0 : ordE n o = 0 := ordE_no (by rw [HLO.out]; exact NO.out)
        have HV := Lib.hid (HGOOD.out h0)
        have HE0 := Lib.hid (HE.out.trans h0)
        have AB := Lib.hid (fun (i k : Nat) (hi : i < n) (h : badP l o i k = true) => agB_bad (o := o) (k := k) (show i < l.length by have := HL.out; omega) h)
        have AGD := Lib.hid (fun (h : ∀ i, i < n → ∀ k, k < n → badP l o i k = false) => agB_good (o := o) HW.out (by rw [HL.out]; exact h0) (fun i hi k hk => h i (by have := HL.out; omega) k (by have := HL.out; omega)))
        have HRQ := Lib.hid (HR.out.below BEL.out)
        have HOQ := Lib.hid (HO.out.below BEL.out)
        clear h0 HBAD HGOOD HE NO bel HR HO
        go_wp2_with fail
        go_loopw [9] (fun s wr => ∃ (i : Nat), i ≤ n ∧ s = .int .i64 i ∧ (∀ i', i' < i → ∀ k, k < n → badP l o i' k = false) ∧ Below wq.heap.size wq wr) (fun s _ => n - (intOf s).toNat)
        case atStart => exact ⟨0, Nat.zero_le _, rfl, fun j hj => by omega, Below.refl _ _⟩
        case round =>
          obtain ⟨i, hi, rfl, hno, bel⟩ := hrel
          have NO := Lib.hid hno
          clear hno
          obtain ⟨w4, rfl⟩ : ∃ w4 : World, w4 = wr := ⟨_, rfl⟩
          by_cases hin : i < n
          · have d1 : decide ((i : Int) < n) = true := decide_eq_true (by omega)
            have i1 : (i : Int) < n := by omega
            go_wp2_with fail
            go_loopw [10] (fun s wr => ∃ (j : Nat), j ≤ n ∧ s = .int .i64 j ∧ (∀ j', j' < j → badP l o i j' = false) ∧ Below wq.heap.size wq wr) (fun s _ => n - (intOf s).toNat)
            case atStart => exact ⟨0, Nat.zero_le _, rfl, fun j hj => by omega, bel⟩
            case round =>
              obtain ⟨j, hj, rfl, hno, bel⟩ := hrel
              have NJ := Lib.hid hno
              clear hno
              obtain ⟨w5, rfl⟩ : ∃ w5 : World, w5 = wr := ⟨_, rfl⟩
              by_cases hjn : j < n
              · have d2 : decide ((j : Int) < n) = true := decide_eq_true (by omega)
                have j1 : (j : Int) < n := by omega
                have CPI := Lib.hid (fun (W : World) (h : Below wq.heap.size wq W) => CP.out W (HOQ.out.below h) (i : Int))
                have CPJ := Lib.hid (fun (W : World) (h : Below wq.heap.size wq W) => CP.out W (HOQ.out.below h) (j : Int))
                obtain ⟨b, oo, rfl, hat⟩ := KC.at_ HRQ.out (show i < l.length by rw [HL.out]; exact hin)
                obtain ⟨b2, o2, eA, hat2⟩ := KC.at_ HRQ.out (show j < l.length by rw [HL.out]; exact hjn)
                injection eA with eA
                injection eA with g1 g2 g3
                subst g1 g2
                have CB := fun (W : World) => rbefore_any (l.getD i c0) (l.getD j c0) W
                have HBP := Lib.hid (show badP l o i j = (bfr (l.getD i c0) (l.getD j c0) && (decide (0 ≤ plc o (j : Int)) && (decide (plc o (i : Int) < 0) || decide (plc o (j : Int) < plc o (i : Int))))) from rfl)
                have ABJ := Lib.hid (AB.out i j hin)
                obtain ⟨bp, hbp⟩ : ∃ bp, badP l o i j = bp := ⟨_, rfl⟩
                have HBQ := Lib.hid hbp
                rw [hbp] at HBP ABJ
                obtain ⟨p, hp⟩ : ∃ p, l.getD i c0 = p := ⟨_, rfl⟩
                obtain ⟨y, hy⟩ : ∃ y, l.getD j c0 = y := ⟨_, rfl⟩
                rw [hp] at hat CB HBP
                rw [hy] at hat2 CB HBP
                obtain ⟨a, ha⟩ : ∃ a, plc o (i : Int) = a := ⟨_, rfl⟩
                obtain ⟨c, hc⟩ : ∃ c, plc o (j : Int) = c := ⟨_, rfl⟩
                rw [ha] at CPI HBP
                rw [hc] at CPJ HBP
                obtain ⟨g, hg⟩ : ∃ g, bfr p y = g := ⟨_, rfl⟩
                rw [hg] at CB HBP
                have AP := Lib.hid hat
                have AY := Lib.hid hat2
                clear hbp hp hy ha hc hg hat hat2
                go_wp2_with fail
                refine (CPI.out _ bel).mono ?_
                rintro e w6 ⟨rfl, b6⟩
                have bel6 := bel_bel bel b6
                clear b6
                go_wp2_with fail
                refine (CPJ.out _ bel6).mono ?_
                rintro e w7 ⟨rfl, b7⟩
                have bel7 := bel_bel bel6 b7
                have AP7 := Lib.hid (AP.out.bel bel7 AP.out.lt)
                have AY7 := Lib.hid (AY.out.bel bel7 AY.out.lt)
                clear b7 bel6
                go_wp2_with fail
                go_cut [88] from 67 to 87 (fun sx wx => sx = .bool bp ∧ Below w7.heap.size w7 wx)
                case first =>
                  cases g with
                  | false =>
                    have HVB := Lib.hid (show bp = false by rw [HBP.out]; simp)
                    clear HBP HBQ ABJ 
                    refine wp_region_quiet_below (by kernel_rfl) (by kernel_rfl) ?_
                    repeat (first | (go_big_quiet_want; refine ldQ (.tmp 69) rfl b (oo + i * 18) rfl p (at_regrown AP7.out) ?_; go_simp; go_big_quiet_on) | (go_big_quiet_want; refine ldQ (.tmp 73) rfl b (oo + j * 18) rfl y (at_regrown AY7.out) ?_; go_simp; go_big_quiet_on) | go_big_quiet_step ((go_at_call 49; exact Calls.regrown_of (CB _))))
                    refine wpQuiet_nil ?_
                    rintro w' ⟨q, rfl⟩
                    go_wp2_with fail
                    go_meet
                    exact ⟨by rw [HVB.out]; first | done | rfl, below_regrown _ _ _⟩
                  | true =>
                    by_cases h1 : 0 ≤ c
                    · have q1 : decide (c ≥ 0) = true := decide_eq_true h1
                      by_cases h2 : a < 0
                      · have q2 := decide_eq_true h2
                        have HVB := Lib.hid (show bp = true by rw [HBP.out]; simp [h1, h2])
                        clear HBP HBQ ABJ h1 h2
                        refine wp_region_quiet_below (by kernel_rfl) (by kernel_rfl) ?_
                        repeat (first | (go_big_quiet_want; refine ldQ (.tmp 69) rfl b (oo + i * 18) rfl p (at_regrown AP7.out) ?_; go_simp; go_big_quiet_on) | (go_big_quiet_want; refine ldQ (.tmp 73) rfl b (oo + j * 18) rfl y (at_regrown AY7.out) ?_; go_simp; go_big_quiet_on) | go_big_quiet_step ((go_at_call 49; exact Calls.regrown_of (CB _))))
                        refine wpQuiet_nil ?_
                        rintro w' ⟨q, rfl⟩
                        go_wp2_with fail
                        go_meet
                        exact ⟨by rw [HVB.out]; first | done | rfl, below_regrown _ _ _⟩
                      · have q2 := decide_eq_false h2
                        by_cases h3 : c < a
                        · have q3 : decide (a > c) = true := decide_eq_true h3
                          have HVB := Lib.hid (show bp = true by rw [HBP.out]; simp [h1, h2, h3])
                          clear HBP HBQ ABJ h1 h2 h3
                          refine wp_region_quiet_below (by kernel_rfl) (by kernel_rfl) ?_
                          repeat (first | (go_big_quiet_want; refine ldQ (.tmp 69) rfl b (oo + i * 18) rfl p (at_regrown AP7.out) ?_; go_simp; go_big_quiet_on) | (go_big_quiet_want; refine ldQ (.tmp 73) rfl b (oo + j * 18) rfl y (at_regrown AY7.out) ?_; go_simp; go_big_quiet_on) | go_big_quiet_step ((go_at_call 49; exact Calls.regrown_of (CB _))))
                          refine wpQuiet_nil ?_
                          rintro w' ⟨q, rfl⟩
                          go_wp2_with fail
                          go_meet
                          exact ⟨by rw [HVB.out]; first | done | rfl, below_regrown _ _ _⟩
                        · have q3 : decide (a > c) = false := decide_eq_false h3
                          have HVB := Lib.hid (show bp = false by rw [HBP.out]; simp [h1, h2, h3])
                          clear HBP HBQ ABJ h1 h2 h3
                          refine wp_region_quiet_below (by kernel_rfl) (by kernel_rfl) ?_
                          repeat (first | (go_big_quiet_want; refine ldQ (.tmp 69) rfl b (oo + i * 18) rfl p (at_regrown AP7.out) ?_; go_simp; go_big_quiet_on) | (go_big_quiet_want; refine ldQ (.tmp 73) rfl b (oo + j * 18) rfl y (at_regrown AY7.out) ?_; go_simp; go_big_quiet_on) | go_big_quiet_step ((go_at_call 49; exact Calls.regrown_of (CB _))))
                          refine wpQuiet_nil ?_
                          rintro w' ⟨q, rfl⟩
                          go_wp2_with fail
                          go_meet
                          exact ⟨by rw [HVB.out]; first | done | rfl, below_regrown _ _ _⟩
                    · have q1 : decide (c ≥ 0) = false := decide_eq_false h1
                      have HVB := Lib.hid (show bp = false by rw [HBP.out]; simp [h1])
                      clear HBP HBQ ABJ h1
                      refine wp_region_quiet_below (by kernel_rfl) (by kernel_rfl) ?_
                      repeat (first | (go_big_quiet_want; refine ldQ (.tmp 69) rfl b (oo + i * 18) rfl p (at_regrown AP7.out) ?_; go_simp; go_big_quiet_on) | (go_big_quiet_want; refine ldQ (.tmp 73) rfl b (oo + j * 18) rfl y (at_regrown AY7.out) ?_; go_simp; go_big_quiet_on) | go_big_quiet_step ((go_at_call 49; exact Calls.regrown_of (CB _))))
                      refine wpQuiet_nil ?_
                      rintro w' ⟨q, rfl⟩
                      go_wp2_with fail
                      go_meet
                      exact ⟨by rw [HVB.out]; first | done | rfl, below_regrown _ _ _⟩
                case rest =>
                  obtain ⟨rfl, belc⟩ := hcut
                  cases bp with
                  | true =>
                    have HVV := Lib.hid (HV.out.trans (ABJ.out rfl))
                    go_wp2_with fail
                    go_ret2
                    exact HP.out _ _ _ HVV.out HE0.out (bel_bel BEL.out (bel_bel bel7 belc))
                  | false =>
                    go_wp2_with fail
                    go_roundw
                    case rel =>
                      refine ⟨j + 1, by omega, by go_num, fun j' hj' => ?_, bel_bel bel7 belc⟩
                      by_cases h : j' < j
                      · exact NJ.out j' h
                      · rw [show j' = j by omega]; exact HBQ.out
                    case measure => simp [intOf]; omega
              · obtain rfl : j = n := by omega
                have d2 : decide ((j : Int) < j) = false := by simp
                go_wp2_with fail
                go_roundw
                case rel =>
                  refine ⟨i + 1, by omega, by go_num, fun i' hi' => ?_, bel⟩
                  by_cases h : i' < i
                  · exact NO.out i' h
                  · rw [show i' = i by omega]; exact NJ.out
                case measure => simp [intOf]; omega
          · obtain rfl : i = n := by omega
            have d1 : decide ((i : Int) < i) = false := by simp
            have HVV := Lib.hid (HV.out.trans (AGD.out NO.out))
            go_wp2_with fail
            go_ret2
            exact HP.out _ _ _ HVV.out HE0.out (bel_bel BEL.out bel)
  · rw [erC_no hwf] at CC
    have HE := Lib.hid (show erA l o = 15 by rw [HEA.out, erC_no hwf, if_neg (by decide)])
    have HV := Lib.hid (show agV l o = false by unfold agV; rw [HE.out]; rfl)
    clear hwf
    go_enter Try.func26, Try.ntmps26
    go_wp2_with fail
    refine CC.out.mono ?_
    rintro e w1 ⟨rfl, b1⟩
    go_wp2
    go_ret2
    exact HP.out _ _ _ HV.out HE.out b1
end Hi
end Go.Proofs.Ytgfhfcjjodcgdaa
