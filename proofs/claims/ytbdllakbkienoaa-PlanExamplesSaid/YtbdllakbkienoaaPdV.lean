/- Move and Delete of package plan: contracts of the translated code. Conditions: at most 400 pairs; the bounds of each number's kind. -/
import Derived.Test.YtbdllakbkienoaaPdM
namespace Go.Proofs.Ytbdllakbkienoaa
open Go.RowKit Go.Sort
set_option linter.unusedVariables false
set_option linter.unusedSimpArgs false
namespace Pl
open Om (addr_lit bel_alloc bel_trans below_drewN ret_eq Asc inL inB rgE)
open Classical in
noncomputable def mvE (p : List Om.Pr) (lo hi d : Int) : Int := if Asc p then (if d = 0 then 13 else shE lo hi d) else 2
open Classical in
noncomputable def mvR (p : List Om.Pr) (lo hi d : Int) : List Rc := if mvE p lo hi d = 0 then (mvP p lo hi d).map rawC else []
open Classical in
noncomputable def deE (p : List Om.Pr) (lo hi : Int) : Int := if Asc p then rgE lo hi else 2
open Classical in
noncomputable def deR (p : List Om.Pr) (lo hi : Int) : List Rc := if deE p lo hi = 0 then (deP p lo hi).map rawC else []
theorem mvR_no {p : List Om.Pr} {lo hi d E : Int} (h : mvE p lo hi d = E) (hE : E ≠ 0) : mvR p lo hi d = [] := if_neg (by rw [h]; exact hE)
theorem mvR_yes {p : List Om.Pr} {lo hi d : Int} (h : mvE p lo hi d = 0) : mvR p lo hi d = (mvP p lo hi d).map rawC := if_pos h
theorem deR_no {p : List Om.Pr} {lo hi E : Int} (h : deE p lo hi = E) (hE : E ≠ 0) : deR p lo hi = [] := if_neg (by rw [h]; exact hE)
theorem deR_yes {p : List Om.Pr} {lo hi : Int} (h : deE p lo hi = 0) : deR p lo hi = (deP p lo hi).map rawC := if_pos h
theorem mvE_asc {p : List Om.Pr} {lo hi d : Int} (h : ¬ Asc p) : mvE p lo hi d = 2 := if_neg h
theorem mvE_zero {p : List Om.Pr} {lo hi d : Int} (h : Asc p) (hd : d = 0) : mvE p lo hi d = 13 := by unfold mvE; rw [if_pos h, if_pos hd]
theorem mvE_sh {p : List Om.Pr} {lo hi d : Int} (h : Asc p) (hd : d ≠ 0) : mvE p lo hi d = shE lo hi d := by unfold mvE; rw [if_pos h, if_neg hd]
theorem deE_asc {p : List Om.Pr} {lo hi : Int} (h : ¬ Asc p) : deE p lo hi = 2 := if_neg h
theorem deE_rg {p : List Om.Pr} {lo hi : Int} (h : Asc p) : deE p lo hi = rgE lo hi := if_pos h
theorem shE_cases (lo hi d : Int) : (shE lo hi d = 0 ∧ lo ≤ hi ∧ hi + d ≤ 18446744073709551615) ∨ shE lo hi d = 12 ∨ shE lo hi d = 13 := by
  unfold shE
  by_cases h : lo ≤ hi
  · rw [if_pos h]
    by_cases h2 : hi + d ≤ 18446744073709551615
    · rw [if_pos h2]; exact .inl ⟨rfl, h, h2⟩
    · rw [if_neg h2]; exact .inr (.inl rfl)
  · rw [if_neg h]; exact .inr (.inr rfl)
set_option maxHeartbeats 1000000 in
theorem moveP_any (A : Option Addr) (n c : Nat) (p : List Om.Pr) (lo hi d : Int) (w : World) (hn : p.length = n) (hs : n ≤ 400) (hnc : n ≤ c) (hz : A = none → c = 0) (hr : Om.Rd w A p) (hd : Om.Bd p) (ll : 0 ≤ lo) (lh : lo ≤ 18446744073709551615) (hl : 0 ≤ hi) (hh : hi ≤ 18446744073709551615) (dl : 0 ≤ d) (dh : d ≤ 18446744073709551615) :
    Calls Try.prog 12 #[.slice A n c, .agg #[.int .u64 lo, .int .u64 hi], .int .u64 d] w (APost w (mvE p lo hi d) (mvR p lo hi d)) := by
  have b0 : Below w.heap.size w (w.alloc (.cells #[.int .u64 lo, .int .u64 hi] 25)) := bel_alloc (Below.refl _ _) _
  have s0 : (w.alloc (.cells #[.int .u64 lo, .int .u64 hi] 25)).cell? ⟨w.heap.size, 0, none⟩ = some (.int .u64 lo) := by simp
  have s1 : (w.alloc (.cells #[.int .u64 lo, .int .u64 hi] 25)).cell? ⟨w.heap.size, 1, none⟩ = some (.int .u64 hi) := by simp
  have hsz : w.heap.size < (w.alloc (.cells #[.int .u64 lo, .int .u64 hi] 25)).heap.size := by simp
  by_cases ha : Asc p
  · have CA := Lib.hid (ascP_any A n c p _ hn (by omega) (hr.below b0) true ⟨fun _ => ha, fun _ => rfl⟩)
    by_cases h0 : d = 0
    · have HE := Lib.hid (mvE_zero (lo := lo) (hi := hi) ha h0)
      have HM := Lib.hid (mvR_no HE.out (by omega))
      have t1 : (d == 0) = true := by simp [h0]
      clear hr h0 ha
      rw [HE.out, HM.out]
      go_enter Try.func12, Try.ntmps12
      go_wp2_with fail
      refine CA.out.mono ?_
      rintro r W1 ⟨rfl, b1⟩
      go_wp2
      go_ret2
      exact APost.err (bel_trans b0 b1)
    · have t1 : (d == 0) = false := by simp [h0]
      have HE := Lib.hid (mvE_sh (lo := lo) (hi := hi) ha h0)
      have CS := fun W => Lib.hid (shift_any lo hi d W ll lh hl hh dl dh)
      have HR := Lib.hid hr
      rcases shE_cases lo hi d with ⟨h1, h2, h3⟩ | h1 | h1
      · rw [h1] at CS HE
        have HM := Lib.hid (mvR_yes HE.out)
        have HMW := Lib.hid (mvW_eq ha (lo := lo) (hi := hi) (d := d) (by omega))
        have CM := fun W (b : Below w.heap.size w W) => Lib.hid (moves_walk A n c p lo hi d W hn hs hnc hz (HR.out.below b) hd ll lh hl hh dl dh h3)
        clear hr ha h0 h1 h2 h3
        rw [HE.out, HM.out]
        go_enter Try.func12, Try.ntmps12
        go_wp2_with fail
        refine CA.out.mono ?_
        rintro r W1 ⟨rfl, b1⟩
        replace s0 := (b1.cell (p := ⟨w.heap.size, 0, none⟩) hsz).trans s0
        replace s1 := (b1.cell (p := ⟨w.heap.size, 1, none⟩) hsz).trans s1
        have hsz1 := Nat.lt_of_lt_of_le hsz b1.size
        replace b1 := bel_trans b0 b1
        clear CA
        go_wp2_with fail
        refine (CS _).out.mono ?_
        rintro r W2 ⟨⟨sa, sb, rfl⟩, b2⟩
        unfold shT
        replace s0 := (b2.cell (p := ⟨w.heap.size, 0, none⟩) hsz1).trans s0
        replace s1 := (b2.cell (p := ⟨w.heap.size, 1, none⟩) hsz1).trans s1
        have hsz2 := Nat.lt_of_lt_of_le hsz1 b2.size
        replace b2 := bel_trans b1 b2
        go_upto_region 6 with fail
        have ba := bel_alloc (Below.refl W2.heap.size W2) (.cells #[.int .u64 sa, .int .u64 sb] 25)
        replace s0 := (ba.cell (p := ⟨w.heap.size, 0, none⟩) hsz2).trans s0
        replace s1 := (ba.cell (p := ⟨w.heap.size, 1, none⟩) hsz2).trans s1
        replace b2 := bel_trans b2 ba
        clear ba
        generalize W2.alloc (.cells #[.int .u64 sa, .int .u64 sb] 25) = W3 at *
        go_wp2_with fail
        refine (CM _ b2).out.mono ?_
        rintro r W4 ⟨v, rfl, ho, b4⟩
        have HO := Lib.hid ho; clear ho
        go_wp2
        go_ret2
        refine ⟨v, rfl, ?_, bel_trans b2 b4⟩
        have h := HO.out
        rw [HMW.out] at h
        rw [List.length_map]
        exact row_base h b2.size
      all_goals
        rw [h1] at CS HE
        have HM := Lib.hid (mvR_no HE.out (by omega))
        clear hr ha h0 h1
        rw [HE.out, HM.out]
        go_enter Try.func12, Try.ntmps12
        go_wp2_with fail
        refine CA.out.mono ?_
        rintro r W1 ⟨rfl, b1⟩
        replace s0 := (b1.cell (p := ⟨w.heap.size, 0, none⟩) hsz).trans s0
        replace s1 := (b1.cell (p := ⟨w.heap.size, 1, none⟩) hsz).trans s1
        replace b1 := bel_trans b0 b1
        clear CA
        go_wp2_with fail
        refine (CS _).out.mono ?_
        rintro r W2 ⟨⟨sa, sb, rfl⟩, b2⟩
        unfold shT
        go_upto_region 6 with fail
        have b3 := bel_alloc (bel_trans b1 b2) (.cells #[.int .u64 sa, .int .u64 sb] 25)
        generalize W2.alloc (.cells #[.int .u64 sa, .int .u64 sb] 25) = W3 at *
        go_wp2
        go_ret2
        exact APost.err b3
  · have CA := Lib.hid (ascP_any A n c p _ hn (by omega) (hr.below b0) false ⟨fun q => by (cases q), fun q => absurd q ha⟩)
    have HE := Lib.hid (mvE_asc (lo := lo) (hi := hi) (d := d) ha)
    have HM := Lib.hid (mvR_no HE.out (by omega))
    clear hr ha
    rw [HE.out, HM.out]
    go_enter Try.func12, Try.ntmps12
    go_wp2_with fail
    refine CA.out.mono ?_
    rintro r W1 ⟨rfl, b1⟩
    go_wp2
    go_ret2
    exact APost.err (bel_trans b0 b1)
theorem dth_take {l : List Om.Pr} {j : Nat} {x : Om.Pr} (h : l[j]? = some x) : (l.take (j + 1)).map dth = (l.take j).map dth ++ [dth x] := by
  rw [List.take_add_one, h]; simp
set_option maxHeartbeats 1000000 in
theorem deleteP_any (A : Option Addr) (n c : Nat) (p : List Om.Pr) (lo hi : Int) (w : World) (hn : p.length = n) (hs : n ≤ 400) (hr : Om.Rd w A p) (hd : Om.Bd p) (ll : 0 ≤ lo) (lh : lo ≤ 18446744073709551615) (hl : 0 ≤ hi) (hh : hi ≤ 18446744073709551615) :
    Calls Try.prog 14 #[.slice A n c, .agg #[.int .u64 lo, .int .u64 hi]] w (APost w (deE p lo hi) (deR p lo hi)) := by
  have b0 : Below w.heap.size w (w.alloc (.cells #[.int .u64 lo, .int .u64 hi] 25)) := bel_alloc (Below.refl _ _) _
  have s0 : (w.alloc (.cells #[.int .u64 lo, .int .u64 hi] 25)).cell? ⟨w.heap.size, 0, none⟩ = some (.int .u64 lo) := by simp
  have s1 : (w.alloc (.cells #[.int .u64 lo, .int .u64 hi] 25)).cell? ⟨w.heap.size, 1, none⟩ = some (.int .u64 hi) := by simp
  have hsz : w.heap.size < (w.alloc (.cells #[.int .u64 lo, .int .u64 hi] 25)).heap.size := by simp
  by_cases ha : Asc p
  · have CA := Lib.hid (ascP_any A n c p _ hn (by omega) (hr.below b0) true ⟨fun _ => ha, fun _ => rfl⟩)
    have HE := Lib.hid (deE_rg (lo := lo) (hi := hi) ha)
    have CS := fun W => Lib.hid (checkS_any lo hi W)
    by_cases h0 : lo ≤ hi
    · have e0 : rgE lo hi = 0 := if_pos h0
      rw [e0] at HE CS
      have HM := Lib.hid (deR_yes HE.out)
      have HR := Lib.hid hr
      have CW := fun W (b : Below w.heap.size w W) => Lib.hid (within_any A n c p lo hi W hn (by omega) (HR.out.below b) hd ll lh hl hh)
      have HDE := Lib.hid (de_eq ha lo hi)
      have CDe := fun k v W => Lib.hid (death_any k v W)
      simp only [cV, dthR] at CDe
      have hil : (inL p lo hi).length ≤ 400 := Nat.le_trans (List.length_filter_le _ _) (by rw [hn]; exact hs)
      clear hr ha h0 e0
      rw [HE.out, HM.out]
      go_enter Try.func14, Try.ntmps14
      go_wp2_with fail
      refine CA.out.mono ?_
      rintro r W1 ⟨rfl, b1⟩
      replace s0 := (b1.cell (p := ⟨w.heap.size, 0, none⟩) hsz).trans s0
      replace s1 := (b1.cell (p := ⟨w.heap.size, 1, none⟩) hsz).trans s1
      have hsz1 := Nat.lt_of_lt_of_le hsz b1.size
      replace b1 := bel_trans b0 b1
      clear CA
      go_wp2_with fail
      refine (CS _).out.mono ?_
      rintro r W2 ⟨rfl, b2⟩
      replace s0 := (b2.cell (p := ⟨w.heap.size, 0, none⟩) hsz1).trans s0
      replace s1 := (b2.cell (p := ⟨w.heap.size, 1, none⟩) hsz1).trans s1
      replace b2 := bel_trans b1 b2
      go_wp2_with fail
      refine (CW _ b2).out.mono ?_
      rintro r W3 ⟨v0, rfl, ho, b3⟩
      obtain ⟨hlen, IA, IC, rfl, hic, hir, _⟩ := Om.row_form ho
      obtain ⟨ni, hni⟩ : ∃ ni, (inL p lo hi).length = ni := ⟨_, rfl⟩
      rw [hni] at hil hic ho
      rw [hni]
      have HNI := Lib.hid hni; clear hni hlen ho
      have HIR := Lib.hid hir; clear hir
      have bw3 := bel_trans b2 b3
      clear CW CS s0 s1 b1 b2 b3
      go_wp2
      go_loopw [7, 22] (fun q i wr => ∃ j : Nat, j ≤ ni ∧ i = .int .i64 j ∧ wr.ownsRow W3.heap.size 45 5 q j (flat ((((inL p lo hi).take j).map dth).map rawC)) ∧ Below W3.heap.size W3 wr) (fun q i _ => (ni - intOf i).toNat)
      case atStart => exact ⟨0, Nat.zero_le _, rfl, World.ownsRow_nil _ _ _ _, Below.refl _ _⟩
      case round =>
        obtain ⟨j, hj, rfl, hq, bel⟩ := hrel
        have HQ := Lib.hid hq; clear hq
        by_cases hlt : j < ni
        · obtain ⟨x, hx, hxm⟩ := pr_lt HNI.out hlt
          obtain ⟨b1, o1, eA, g0, g1⟩ := (HIR.out.below bel) j _ hx
          subst eA
          have u0 : decide ((j : Int) < ni) = true := decide_eq_true (by omega)
          have hji : (j : Int) < ni := by omega
          have HK := Lib.hid (dth_take hx)
          clear hx hxm
          go_upto_region 10 with fail
          have X2 := Lib.hid (B2.made wr x)
          have ba := bel_alloc (Below.refl wr.heap.size wr) (.cells #[.int .u64 x.1, .int .u64 x.2] 43)
          have bel2 := bel_trans bel ba
          have HQ2 := Lib.hid (row_below HQ.out ba)
          clear g0 g1 ba
          generalize wr.alloc (.cells #[.int .u64 x.1, .int .u64 x.2] 43) = W4 at *
          generalize wr.heap.size = pb at *
          have x0 := X2.out.c0; have x1 := X2.out.c1
          go_wp2_with fail
          refine (CDe x.1 x.2 _).out.mono ?_
          rintro rd W5 ⟨rfl, b5⟩
          have bel5 := bel_trans bel2 b5
          have HQ5 := Lib.hid (row_below HQ2.out b5)
          clear x0 x1 X2 b5 HQ2 bel2
          go_wp2_with (at_builtin; refine app3 rfl (.tmp 26) (.tmp 29) rfl _ W3.heap.size _ _ ((((inL p lo hi).take j).map dth).map rawC) ⟨x.1, true, x.2, false, 0⟩ rfl rfl HQ5.out (by omega) bel5.size ?_; intro v8 w8 h1 b8 k8; have HW8 := Lib.hid h1; clear h1 k8)
          go_roundw
          case rel => exact ⟨j + 1, by omega, by go_num, by rw [HK.out, raws_snoc]; exact HW8.out, bel5.trans b8⟩
          case measure => simp [intOf]; omega
        · obtain rfl : j = ni := by omega
          have u0 : decide ((j : Int) < j) = false := decide_eq_false (by omega)
          have HT := Lib.hid (show (inL p lo hi).take j = inL p lo hi from List.take_of_length_le (by rw [HNI.out]; omega))
          go_wp2
          go_ret2
          refine ⟨_, rfl, ?_, bel_trans bw3 bel⟩
          have h := HQ.out
          rw [HT.out, HDE.out] at h
          have e : ((deP p lo hi).map rawC).length = j := by rw [List.length_map, ← HDE.out, List.length_map]; exact HNI.out
          rw [e]
          exact row_base h bw3.size
    · have e0 : rgE lo hi = 13 := if_neg h0
      rw [e0] at HE CS
      have HM := Lib.hid (deR_no HE.out (by omega))
      clear hr ha h0 e0
      rw [HE.out, HM.out]
      go_enter Try.func14, Try.ntmps14
      go_wp2_with fail
      refine CA.out.mono ?_
      rintro r W1 ⟨rfl, b1⟩
      replace s0 := (b1.cell (p := ⟨w.heap.size, 0, none⟩) hsz).trans s0
      replace s1 := (b1.cell (p := ⟨w.heap.size, 1, none⟩) hsz).trans s1
      replace b1 := bel_trans b0 b1
      clear CA
      go_wp2_with fail
      refine (CS _).out.mono ?_
      rintro r W2 ⟨rfl, b2⟩
      go_wp2
      go_ret2
      exact APost.err (bel_trans b1 b2)
  · have CA := Lib.hid (ascP_any A n c p _ hn (by omega) (hr.below b0) false ⟨fun q => by (cases q), fun q => absurd q ha⟩)
    have HE := Lib.hid (deE_asc (lo := lo) (hi := hi) ha)
    have HM := Lib.hid (deR_no HE.out (by omega))
    clear hr ha
    rw [HE.out, HM.out]
    go_enter Try.func14, Try.ntmps14
    go_wp2_with fail
    refine CA.out.mono ?_
    rintro r W1 ⟨rfl, b1⟩
    go_wp2
    go_ret2
    exact APost.err (bel_trans b0 b1)
end Pl
end Go.Proofs.Ytbdllakbkienoaa
