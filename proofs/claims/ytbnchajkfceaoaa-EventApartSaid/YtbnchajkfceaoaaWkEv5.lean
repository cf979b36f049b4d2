/- EventApart: the walk. Conditions: those of the arguments' kinds. Written by tools/mk11w5.py. -/
import Derived.Test.YtbnchajkfceaoaaWkEv2
namespace Go.Proofs.Ytbnchajkfceaoaa
open Go.RowKit Go.Sort
set_option linter.unusedVariables false
set_option linter.unusedSimpArgs false
namespace Wk
open Ev
attribute [local go_sem] guardS
theorem bef_at {S : List I} (h : S.Pairwise Bef) {i j : Nat} (hij : i < j) (hj : j < S.length) : (S.getD i i0).t = (S.getD j i0).t → 0 ≤ (S.getD i i0).b ∧ (S.getD i i0).b < (S.getD j i0).a := by
  have := List.pairwise_iff_getElem.1 h i j (by omega) hj hij
  rw [getD_getI hj, getD_getI (show i < S.length by omega)]
  exact this
theorem ne_at {S : List I} (h : S.Pairwise fun x y => x.t ≠ y.t) {i j : Nat} (hij : i < j) (hj : j < S.length) : (S.getD i i0).t ≠ (S.getD j i0).t := by
  have := List.pairwise_iff_getElem.1 h i j (by omega) hj hij
  rw [getD_getI hj, getD_getI (show i < S.length by omega)]
  exact this
theorem mem_at {S : List I} {j : Nat} (hj : j < S.length) : S.getD j i0 ∈ S := by
  rw [getD_getI hj]; exact List.getElem_mem hj
theorem opn_thread {l : List E} (h : chk l = none) {st : Int} : ∀ x ∈ opn st (ivs 1 l), 0 ≤ x.t ∧ x.t < 64 := by
  intro x hx
  unfold opn at hx
  obtain ⟨y, hy, rfl⟩ := List.mem_map.1 hx
  have := chk_mem h 1 y (List.mem_filter.1 hy).1
  exact ⟨this.2.2.1, this.2.2.2⟩
theorem insV_at {l : List E} (h : chk l = none) {st : Int} (hs : ¬ st < -1) {j : Nat} (hj : j < (opn st (ivs 1 l)).length) (hp : (opn st (ivs 1 l)).Pairwise fun x y => x.t ≠ y.t) :
    insV ((opn st (ivs 1 l)).getD j i0).t st l = .tuple #[.agg #[.int .i64 ((opn st (ivs 1 l)).getD j i0).t, .int .u64 ((opn st (ivs 1 l)).getD j i0).v, .int .i64 ((opn st (ivs 1 l)).getD j i0).a, .int .i64 ((opn st (ivs 1 l)).getD j i0).b], .bool true, .int .i64 0] := by
  have ht := opn_thread h _ (mem_at hj)
  refine insV_some h (by omega) hs ?_
  unfold ins
  exact find_hit hj (fun i hi => ne_at hp hi hj) rfl
set_option maxRecDepth 100000 in
set_option maxHeartbeats 4000000 in
theorem walk_eventApart (a0 : Option Addr) (a0n a0c : Nat) (a0v : List Ev.E) (a1 : Int) (w : World) (a0e : a0v.length = a0n) (a0m : a0n ≤ maxLen) (a0r : Ev.RdV w a0 a0v) (a0b : Ev.BdV a0v) (a0z : a0 = none → a0c = 0) (a0y : a0n ≤ a0c ∧ a0c ≤ maxLen) (a1l : (-9223372036854775808) ≤ a1) (a1h : a1 ≤ 9223372036854775807) :
    Calls Try.prog 7 #[.slice a0 a0n a0c, .int .i64 a1] w fun e w' => e = .returned (.bool true) ∧ Below w.heap.size w w' := by
  have FW := Lib.hid (few_any a0 a0n a0c a0v w a0e a0m a0y.1 a0y.2 a0r a0z)
  have hF := few_len a0v
  have B := Lib.hid (Below.refl w.heap.size w)
  obtain ⟨F, hFF⟩ : ∃ F, fewL a0v = F := ⟨_, rfl⟩
  rw [hFF] at FW hF
  clear a0r a0b a0z a0y a0e a0m hFF
  by_cases hok : chk F = none
  case neg =>
    have e1 := erC_no hok
    have e2 : secL 1 F = [] := by unfold secL; rw [if_neg hok]
    have e3 : secL 3 F = [] := by unfold secL; rw [if_neg hok]
    have SF := fun (W : World) A c (h : KE.Rd W A F) => Lib.hid (Sections_any A F.length c F W rfl (by omega) h)
    rw [e1, e2] at SF
    have VF := fun (W : World) A c (h : KE.Rd W A F) => Lib.hid (Waits_any A F.length c F W rfl (by omega) h)
    rw [e1, e3] at VF
    clear e1 e2 e3 hok
    go_enter Try.func7, Try.ntmps7
    go_wp2_with fail
    refine (FW.out).mono ?_
    rintro e w1 h1
    obtain ⟨A1, c1, rfl, rd1, zr1, b1⟩ := ro_use h1
    replace B := Lib.hid (bel_trans B.out b1)
    clear b1
    have RF := Lib.hid rd1
    clear rd1
    clear zr1
    go_wp2_with fail
    refine ((SF _ _ _ RF.out).out).mono ?_
    rintro e w2 h2
    obtain ⟨A2, c2, rfl, rd2, zr2, b2⟩ := rw_use h2
    have RF_3 := Lib.hid (RF.out.below b2)
    clear RF
    replace B := Lib.hid (bel_trans B.out b2)
    clear b2
    clear rd2
    clear zr2
    go_wp2_with fail
    refine ((VF _ _ _ RF_3.out).out).mono ?_
    rintro e w4 h4
    obtain ⟨A4, c4, rfl, rd4, zr4, b4⟩ := rw_use h4
    have RF_5 := Lib.hid (RF_3.out.below b4)
    clear RF_3
    replace B := Lib.hid (bel_trans B.out b4)
    clear b4
    clear rd4
    clear zr4
    clear RF_5
    go_wp2_with fail
    refine (awake_any _).mono ?_
    rintro e w90 ⟨rfl, b90⟩
    go_wp2
    go_ret
    exact ⟨rfl, bel_trans B.out b90⟩
  case pos =>
    have e1 := erC_ok hok
    have SF := fun (W : World) A c (h : KE.Rd W A F) => Lib.hid (Sections_any A F.length c F W rfl (by omega) h)
    rw [e1, secL_ok hok] at SF
    have VF := fun (W : World) A c (h : KE.Rd W A F) => Lib.hid (Waits_any A F.length c F W rfl (by omega) h)
    rw [e1, secL_ok hok] at VF
    
    have OP := fun (W : World) A c (h : KE.Rd W A F) => Lib.hid (open_any a1 A F.length c F W rfl (by omega) h)
    have CI := fun t (W : World) A c (h : KE.Rd W A F) => Lib.hid (inside_any t a1 A F.length c F W rfl (by omega) h)
    have HWF : WF ([] ++ F) := chk_none.1 hok
    have hp1 := ivs_apart (k := 1) (Or.inl rfl) F [] HWF
    have hp3 := ivs_apart (k := 3) (Or.inr rfl) F [] HWF
    have hb := ivs_both F [] HWF
    have hl1 := ivs_long (k := 1) (Or.inl rfl) F [] HWF
    have hl3 := ivs_long (k := 3) (Or.inr rfl) F [] HWF
    have l1 : (ivs 1 F).length ≤ 80 := by have := ivs_len 1 F; omega
    have l3 : (ivs 3 F).length ≤ 80 := by have := ivs_len 3 F; omega
    have hop : (opL a1 F).Pairwise (fun x y => x.t ≠ y.t) ∧ (opL a1 F).length ≤ 80 ∧ ∀ j, j < (opL a1 F).length → insV ((opL a1 F).getD j i0).t a1 F = .tuple #[.agg #[.int .i64 ((opL a1 F).getD j i0).t, .int .u64 ((opL a1 F).getD j i0).v, .int .i64 ((opL a1 F).getD j i0).a, .int .i64 ((opL a1 F).getD j i0).b], .bool true, .int .i64 0] := by
      by_cases hst : a1 < -1
      · have h0 : opL a1 F = [] := by unfold opL; rw [if_neg (by rw [erS_low hok hst]; decide)]
        rw [h0]
        exact ⟨List.Pairwise.nil, Nat.zero_le _, fun j hj => absurd hj (Nat.not_lt_zero _)⟩
      · rw [opL_ok (erS_ok hok (by omega))]
        have hpo := opn_apart (st := a1) hp1
        exact ⟨hpo, Nat.le_trans (opn_len _ _) l1, fun j hj => insV_at hok hst hj hpo⟩
    obtain ⟨hop, l5, hin⟩ := hop
    have her : (a1 < -1 ∧ erS a1 F = 3) ∨ (-1 ≤ a1 ∧ erS a1 F = 0) := by
      by_cases hst : a1 < -1
      · exact .inl ⟨hst, erS_low hok hst⟩
      · exact .inr ⟨by omega, erS_ok hok (by omega)⟩
    obtain ⟨S, hS⟩ : ∃ S, ivs 1 F = S := ⟨_, rfl⟩
    obtain ⟨V, hV⟩ : ∃ V, ivs 3 F = V := ⟨_, rfl⟩
    obtain ⟨O, hO⟩ : ∃ O, opL a1 F = O := ⟨_, rfl⟩
    obtain ⟨R, hR⟩ : ∃ R, erS a1 F = R := ⟨_, rfl⟩
    rw [hS] at SF l1 hp1 hb hl1
    rw [hV] at VF l3 hp3 hb hl3
    rw [hO] at OP hop hin l5
    rw [hR] at OP her
    have HP1 := Lib.hid hp1
    have HP3 := Lib.hid hp3
    have HB := Lib.hid hb
    have HL1 := Lib.hid hl1
    have HL3 := Lib.hid hl3
    have HOP := Lib.hid hop
    have HIN := Lib.hid hin
    have HER := Lib.hid her
    clear e1 hok HWF hp1 hp3 hb hl1 hl3 hop hin her hS hV hO hR
    go_enter Try.func7, Try.ntmps7
    go_wp2_with fail
    refine (FW.out).mono ?_
    rintro e w1 h1
    obtain ⟨A1, c1, rfl, rd1, zr1, b1⟩ := ro_use h1
    replace B := Lib.hid (bel_trans B.out b1)
    clear b1
    have RF := Lib.hid rd1
    clear rd1
    clear zr1
    go_wp2_with fail
    refine ((SF _ _ _ RF.out).out).mono ?_
    rintro e w2 h2
    obtain ⟨A2, c2, rfl, rd2, zr2, b2⟩ := rw_use h2
    have RF_3 := Lib.hid (RF.out.below b2)
    clear RF
    replace B := Lib.hid (bel_trans B.out b2)
    clear b2
    have SA := Lib.hid rd2
    clear rd2
    clear zr2
    go_wp2_with fail
    refine ((VF _ _ _ RF_3.out).out).mono ?_
    rintro e w4 h4
    obtain ⟨A4, c4, rfl, rd4, zr4, b4⟩ := rw_use h4
    have RF_5 := Lib.hid (RF_3.out.below b4)
    clear RF_3
    have SA_6 := Lib.hid (SA.out.below b4)
    clear SA
    replace B := Lib.hid (bel_trans B.out b4)
    clear b4
    have SC := Lib.hid rd4
    clear rd4
    clear zr4
    go_wp2_with fail
    go_loopw [9] (fun i wr => ∃ k : Nat, k ≤ S.length ∧ i = .int .i64 k ∧ Below w4.heap.size w4 wr) (fun i _ => S.length - (intOf i).toNat)
    case atStart => exact ⟨0, Nat.zero_le _, rfl, Below.refl _ _⟩
    case round =>
      obtain ⟨k, hk, rfl, bel⟩ := hrel
      obtain ⟨wq, rfl⟩ : ∃ wq : World, wq = wr := ⟨_, rfl⟩
      have CX := Lib.hid (fun (W' : World) (h : Below w4.heap.size w4 W') (i : Nat) (hi : i < S.length) => KS.at_ (SA_6.out.below h) hi)
      by_cases hlt : k < S.length
      · have d0 : decide ((k : Int) < S.length) = true := decide_eq_true (by omega)
        have j1 : (k : Int) < S.length := by omega
        have CY := Lib.hid (fun (W' : World) (h : Below w4.heap.size w4 W') => CX.out W' h k hlt)
        have HBK := Lib.hid (fun i (hi : i < k) => bef_at HP1.out hi hlt)
        have HLK := Lib.hid (fun h0 => (HL1.out _ (mem_at hlt) h0).2 trivial)
        have HWK := Lib.hid (fun j (hj : j < V.length) => HB.out _ (mem_at hlt) _ (mem_at hj))
        have CV := Lib.hid (fun (W' : World) (h : Below w4.heap.size w4 W') (i : Nat) (hi : i < V.length) => KW.at_ (SC.out.below h) hi)
        obtain ⟨b, o, eA, c0, c1, c2, c3⟩ := CY.out _ bel
        subst eA
        generalize S.getD k i0 = y at *
        obtain ⟨yt, yv, ya, yb⟩ := y
        go_wp2
        go_cut [73] from 55 to 72 (fun sx wx => sx = .bool false ∧ Below w4.heap.size w4 wx)
        case first =>
          have HLK2 := HLK.out
          try simp only at c0 c1 c2 c3 HLK2
          by_cases hb : 0 ≤ yb
          · have q1 := decide_eq_true hb
            have q2 : decide (yb ≤ ya) = false := decide_eq_false (by have := HLK2 hb; omega)
            clear hb HLK HLK2
            go_quiet (fail)
            go_wp2_with fail
            go_meet
            exact ⟨rfl, bel_drawN bel _⟩
          · have q1 := decide_eq_false hb
            clear hb HLK HLK2
            go_quiet (fail)
            go_wp2_with fail
            go_meet
            exact ⟨rfl, bel_drawN bel _⟩
        case rest =>
          obtain ⟨rfl, bel⟩ := hcut
          clear HLK c0 c1 c2 c3
          as_aux_lemma =>
            go_wp2
            go_loopw [10] (fun i wr => ∃ j : Nat, j ≤ k ∧ i = .int .i64 j ∧ Below w4.heap.size w4 wr) (fun i _ => k - (intOf i).toNat)
            case atStart => exact ⟨0, Nat.zero_le _, rfl, bel⟩
            case round =>
              obtain ⟨j, hj, rfl, bel⟩ := hrel
              obtain ⟨wy, rfl⟩ : ∃ wy : World, wy = wr := ⟨_, rfl⟩
              by_cases hjl : j < k
              · have d1 : decide ((j : Int) < k) = true := decide_eq_true (by omega)
                have j2 : (j : Int) < k := by omega
                go_wp2
                go_cut [110] from 79 to 109 (fun sx wx => sx = .bool false ∧ Below w4.heap.size w4 wx)
                case first =>
                  obtain ⟨_, _, eA, c0, c1, c2, c3⟩ := CY.out _ bel
                  cases eA
                  obtain ⟨_, _, eA, p0, p1, p2, p3⟩ := CX.out _ bel j (by omega)
                  cases eA
                  have HBJ := HBK.out j hjl
                  generalize S.getD j i0 = x at *
                  obtain ⟨xt, xv, xa, xb⟩ := x
                  try simp only at p0 p1 p2 p3 c0 c1 c2 c3 HBJ
                  have j3 : (j : Int) < S.length := by omega
                  by_cases ht : xt = yt
                  · obtain ⟨g1, g2⟩ := HBJ ht
                    have t0 : (xt == yt) = true := by simpa using ht
                    have t1 : decide (xb < 0) = false := decide_eq_false (by omega)
                    have t2 : decide (ya ≤ xb) = false := decide_eq_false (by omega)
                    clear HBJ ht g1 g2 p1 c1 c3
                    go_quiet (fail)
                    go_wp2_with fail
                    go_meet
                    exact ⟨rfl, bel_drawN bel _⟩
                  · have t0 : (xt == yt) = false := by simpa using ht
                    clear HBJ ht p1 p2 p3 c1 c2 c3
                    go_quiet (fail)
                    go_wp2_with fail
                    go_meet
                    exact ⟨rfl, bel_drawN bel _⟩
                case rest =>
                  obtain ⟨rfl, bel⟩ := hcut
                  go_wp2
                  go_roundw
                  case rel => exact ⟨j + 1, by omega, by go_num, bel⟩
                  case measure => simp [intOf]; omega
              · have d1 : decide ((j : Int) < (k : Int)) = false := decide_eq_false (by omega)
                have BEL := Lib.hid bel
                clear bel
                go_wp2
                go_loopw [11] (fun i wr => ∃ j : Nat, j ≤ V.length ∧ i = .int .i64 j ∧ Below w4.heap.size w4 wr) (fun i _ => V.length - (intOf i).toNat)
                case atStart => exact ⟨0, Nat.zero_le _, rfl, BEL.out⟩
                case round =>
                  obtain ⟨j, hj, rfl, bel⟩ := hrel
                  obtain ⟨wy, rfl⟩ : ∃ wy : World, wy = wr := ⟨_, rfl⟩
                  by_cases hjl : j < V.length
                  · have d1 : decide ((j : Int) < V.length) = true := decide_eq_true (by omega)
                    have j2 : (j : Int) < V.length := by omega
                    go_wp2
                    go_cut [169] from 117 to 168 (fun sx wx => sx = .bool false ∧ Below w4.heap.size w4 wx)
                    case first =>
                      obtain ⟨_, _, eA, c0, c1, c2, c3⟩ := CY.out _ bel
                      cases eA
                      obtain ⟨_, _, eA, p0, p1, p2, p3⟩ := CV.out _ bel j hjl
                      cases eA
                      have HBJ := HWK.out j hjl
                      generalize V.getD j i0 = x at *
                      obtain ⟨xt, xv, xa, xb⟩ := x
                      try simp only at p0 p1 p2 p3 c0 c1 c2 c3 HBJ
                      by_cases ht : xt = yt
                      · have t0 : (xt == yt) = true := by simpa using ht
                        have HBI := HBJ ht.symm
                        by_cases h1 : yb < 0
                        · have t1 := decide_eq_true h1
                          have t2 : decide (xb < 0) = false := decide_eq_false (by omega)
                          have t3 : decide (ya ≤ xb) = false := decide_eq_false (by omega)
                          clear HBJ HBI ht h1
                          go_quiet (fail)
                          go_wp2_with fail
                          go_meet
                          exact ⟨rfl, bel_drawN bel _⟩
                        · have t1 := decide_eq_false h1
                          by_cases h2 : xa ≤ yb
                          · have t2 := decide_eq_true h2
                            have t3 : decide (xb < 0) = false := decide_eq_false (by omega)
                            have t4 : decide (ya ≤ xb) = false := decide_eq_false (by omega)
                            clear HBJ HBI ht h1 h2
                            go_quiet (fail)
                            go_wp2_with fail
                            go_meet
                            exact ⟨rfl, bel_drawN bel _⟩
                          · have t2 := decide_eq_false h2
                            clear HBJ HBI ht h1 h2
                            go_quiet (fail)
                            go_wp2_with fail
                            go_meet
                            exact ⟨rfl, bel_drawN bel _⟩
                      · have t0 : (xt == yt) = false := by simpa using ht
                        clear HBJ ht p1 p2 p3 c1 c2 c3
                        go_quiet (fail)
                        go_wp2_with fail
                        go_meet
                        exact ⟨rfl, bel_drawN bel _⟩
                    case rest =>
                      obtain ⟨rfl, bel⟩ := hcut
                      go_wp2
                      go_roundw
                      case rel => exact ⟨j + 1, by omega, by go_num, bel⟩
                      case measure => simp [intOf]; omega
                  · have d1 : decide ((j : Int) < V.length) = false := decide_eq_false (by omega)
                    have BEL := Lib.hid bel
                    clear bel
                    go_wp2
                    go_roundw
                    case rel => exact ⟨k + 1, by omega, by go_num, BEL.out⟩
                    case measure => simp [intOf]; omega
      · have d0 : decide ((k : Int) < (S.length : Int)) = false := decide_eq_false (by omega)
        clear CX
        have BEL1 := Lib.hid bel
        clear bel
        as_aux_lemma =>
          go_wp2_with fail
          go_loopw [12] (fun i wr => ∃ k : Nat, k ≤ V.length ∧ i = .int .i64 k ∧ Below w4.heap.size w4 wr) (fun i _ => V.length - (intOf i).toNat)
          case atStart => exact ⟨0, Nat.zero_le _, rfl, BEL1.out⟩
          case round =>
            obtain ⟨k, hk, rfl, bel⟩ := hrel
            obtain ⟨wq, rfl⟩ : ∃ wq : World, wq = wr := ⟨_, rfl⟩
            have CX := Lib.hid (fun (W' : World) (h : Below w4.heap.size w4 W') (i : Nat) (hi : i < V.length) => KW.at_ (SC.out.below h) hi)
            by_cases hlt : k < V.length
            · have d0 : decide ((k : Int) < V.length) = true := decide_eq_true (by omega)
              have j1 : (k : Int) < V.length := by omega
              have CY := Lib.hid (fun (W' : World) (h : Below w4.heap.size w4 W') => CX.out W' h k hlt)
              have HBK := Lib.hid (fun i (hi : i < k) => bef_at HP3.out hi hlt)
              have HLK := Lib.hid (fun h0 => (HL3.out _ (mem_at hlt) h0).1)
              obtain ⟨b, o, eA, c0, c1, c2, c3⟩ := CY.out _ bel
              subst eA
              generalize V.getD k i0 = y at *
              obtain ⟨yt, yv, ya, yb⟩ := y
              go_wp2
              go_cut [194] from 176 to 193 (fun sx wx => sx = .bool false ∧ Below w4.heap.size w4 wx)
              case first =>
                have HLK2 := HLK.out
                try simp only at c0 c1 c2 c3 HLK2
                by_cases hb : 0 ≤ yb
                · have q1 := decide_eq_true hb
                  have q2 : decide (yb < ya) = false := decide_eq_false (by have := HLK2 hb; omega)
                  clear hb HLK HLK2
                  go_quiet (fail)
                  go_wp2_with fail
                  go_meet
                  exact ⟨rfl, bel_drawN bel _⟩
                · have q1 := decide_eq_false hb
                  clear hb HLK HLK2
                  go_quiet (fail)
                  go_wp2_with fail
                  go_meet
                  exact ⟨rfl, bel_drawN bel _⟩
              case rest =>
                obtain ⟨rfl, bel⟩ := hcut
                clear HLK c0 c1 c2 c3
                as_aux_lemma =>
                  go_wp2
                  go_loopw [13] (fun i wr => ∃ j : Nat, j ≤ k ∧ i = .int .i64 j ∧ Below w4.heap.size w4 wr) (fun i _ => k - (intOf i).toNat)
                  case atStart => exact ⟨0, Nat.zero_le _, rfl, bel⟩
                  case round =>
                    obtain ⟨j, hj, rfl, bel⟩ := hrel
                    obtain ⟨wy, rfl⟩ : ∃ wy : World, wy = wr := ⟨_, rfl⟩
                    by_cases hjl : j < k
                    · have d1 : decide ((j : Int) < k) = true := decide_eq_true (by omega)
                      have j2 : (j : Int) < k := by omega
                      go_wp2
                      go_cut [231] from 200 to 230 (fun sx wx => sx = .bool false ∧ Below w4.heap.size w4 wx)
                      case first =>
                        obtain ⟨_, _, eA, c0, c1, c2, c3⟩ := CY.out _ bel
                        cases eA
                        obtain ⟨_, _, eA, p0, p1, p2, p3⟩ := CX.out _ bel j (by omega)
                        cases eA
                        have HBJ := HBK.out j hjl
                        generalize V.getD j i0 = x at *
                        obtain ⟨xt, xv, xa, xb⟩ := x
                        try simp only at p0 p1 p2 p3 c0 c1 c2 c3 HBJ
                        have j3 : (j : Int) < V.length := by omega
                        by_cases ht : xt = yt
                        · obtain ⟨g1, g2⟩ := HBJ ht
                          have t0 : (xt == yt) = true := by simpa using ht
                          have t1 : decide (xb < 0) = false := decide_eq_false (by omega)
                          have t2 : decide (ya ≤ xb) = false := decide_eq_false (by omega)
                          clear HBJ ht g1 g2 p1 c1 c3
                          go_quiet (fail)
                          go_wp2_with fail
                          go_meet
                          exact ⟨rfl, bel_drawN bel _⟩
                        · have t0 : (xt == yt) = false := by simpa using ht
                          clear HBJ ht p1 p2 p3 c1 c2 c3
                          go_quiet (fail)
                          go_wp2_with fail
                          go_meet
                          exact ⟨rfl, bel_drawN bel _⟩
                      case rest =>
                        obtain ⟨rfl, bel⟩ := hcut
                        go_wp2
                        go_roundw
                        case rel => exact ⟨j + 1, by omega, by go_num, bel⟩
                        case measure => simp [intOf]; omega
                    · have d1 : decide ((j : Int) < (k : Int)) = false := decide_eq_false (by omega)
                      have BEL := Lib.hid bel
                      clear bel
                      go_wp2
                      go_roundw
                      case rel => exact ⟨k + 1, by omega, by go_num, BEL.out⟩
                      case measure => simp [intOf]; omega
            · have d0 : decide ((k : Int) < (V.length : Int)) = false := decide_eq_false (by omega)
              clear CX
              as_aux_lemma =>
                replace B := Lib.hid (bel_trans B.out bel)
                have RFq := Lib.hid (RF_5.out.below bel)
                clear bel SA_6 SC
                go_wp2_with fail
                refine ((OP _ _ _ RFq.out).out).mono ?_
                rintro e w50 h50
                obtain ⟨A50, c50, rfl, rd50, _, b50⟩ := rw_use h50
                have RF5 := Lib.hid (RFq.out.below b50)
                have SO := Lib.hid rd50
                replace B := Lib.hid (bel_trans B.out b50)
                clear RFq rd50 b50 h50 OP
                go_wp2_with fail
                go_loopw [16] (fun i wr => ∃ k : Nat, k ≤ O.length ∧ i = .int .i64 k ∧ Below w50.heap.size w50 wr) (fun i _ => O.length - (intOf i).toNat)
                case atStart => exact ⟨0, Nat.zero_le _, rfl, Below.refl _ _⟩
                case round =>
                  clear hk d0 hlt
                  obtain ⟨k, hk, rfl, bel⟩ := hrel
                  obtain ⟨wz, rfl⟩ : ∃ wz : World, wz = wr := ⟨_, rfl⟩
                  have CX := Lib.hid (fun (W' : World) (h : Below w50.heap.size w50 W') (i : Nat) (hi : i < O.length) => KS.at_ (SO.out.below h) hi)
                  by_cases hlt : k < O.length
                  · have d0 : decide ((k : Int) < O.length) = true := decide_eq_true (by omega)
                    have j1 : (k : Int) < O.length := by omega
                    have CY := Lib.hid (fun (W' : World) (h : Below w50.heap.size w50 W') => CX.out W' h k hlt)
                    have HNE := Lib.hid (fun i (hi : i < k) => ne_at HOP.out hi hlt)
                    have HI := Lib.hid (HIN.out k hlt)
                    obtain ⟨b, o, eA, c0, c1, c2, c3⟩ := CY.out _ bel
                    subst eA
                    generalize O.getD k i0 = y at *
                    obtain ⟨yt, yv, ya, yb⟩ := y
                    try simp only at c0 c1 c2 c3
                    go_wp2
                    go_loopw [17] (fun i wr => ∃ j : Nat, j ≤ k ∧ i = .int .i64 j ∧ Below w50.heap.size w50 wr) (fun i _ => k - (intOf i).toNat)
                    case atStart => exact ⟨0, Nat.zero_le _, rfl, bel⟩
                    case round =>
                      clear c0 c1 c2 c3
                      obtain ⟨j, hj, rfl, bel⟩ := hrel
                      obtain ⟨wy, rfl⟩ : ∃ wy : World, wy = wr := ⟨_, rfl⟩
                      by_cases hjl : j < k
                      · have d1 : decide ((j : Int) < (k : Int)) = true := decide_eq_true (by omega)
                        obtain ⟨_, _, eA, c0, c1, c2, c3⟩ := CY.out _ bel
                        cases eA
                        obtain ⟨_, _, eA, p0, p1, p2, p3⟩ := CX.out _ bel j (by omega)
                        cases eA
                        have HBJ := HNE.out j hjl
                        generalize O.getD j i0 = x at *
                        obtain ⟨xt, xv, xa, xb⟩ := x
                        try simp only at p0 c0 HBJ
                        have j3 : (j : Int) < O.length := by omega
                        have t0 : (xt == yt) = false := by simpa using HBJ
                        clear HBJ p1 p2 p3 c1 c2 c3
                        go_wp2
                        go_quiet (fail)
                        go_wp2
                        go_roundw
                        case rel => exact ⟨j + 1, by omega, by go_num, bel_drawN bel _⟩
                        case measure => simp [intOf]; omega
                      · have d1 : decide ((j : Int) < (k : Int)) = false := decide_eq_false (by omega)
                        obtain ⟨_, _, eA, c0, c1, c2, c3⟩ := CY.out _ bel
                        cases eA
                        try simp only at c0 c1 c2 c3
                        have RFy := Lib.hid (RF5.out.below bel)
                        have CI2 := fun (W : World) A c (h : KE.Rd W A F) => CI yt W A c h
                        have HI2 := HI.out
                        try simp only at HI2
                        rw [HI2] at CI2
                        have BEL := Lib.hid bel
                        clear bel HI HI2 HNE CX
                        go_wp2_with fail
                        refine ((CI2 _ _ _ RFy.out).out).mono ?_
                        rintro e w60 ⟨rfl, b60⟩
                        have B6 := Lib.hid (bel_trans BEL.out b60)
                        clear BEL b60 RFy CI2
                        have bs := Bs.new w60 ⟨yt, yv, ya, yb⟩
                        have b61 := bel_alloc B6.out (.cells #[.int .i64 yt, .int .u64 yv, .int .i64 ya, .int .i64 yb] 41)
                        obtain ⟨s0, s1, s2, s3⟩ := bs.c
                        obtain ⟨_, _, eA, q0, q1, q2, q3⟩ := CY.out _ b61
                        cases eA
                        try simp only at s0 s1 s2 s3 q0 q1 q2 q3
                        have ER := fun W => eqS ⟨yt, yv, ya, yb⟩ ⟨yt, yv, ya, yb⟩ W
                        rw [decide_eq_true rfl] at ER
                        try simp only at ER
                        clear CY B6
                        go_wp2
                        go_quiet (fail)
                        go_wp2
                        go_roundw
                        case rel => exact ⟨k + 1, by omega, by go_num, bel_drawN b61 _⟩
                        case measure => simp [intOf]; omega
                  · have d0 : decide ((k : Int) < (O.length : Int)) = false := decide_eq_false (by omega)
                    have BQ := Lib.hid (bel_trans B.out bel)
                    clear bel CX
                    rcases HER.out with ⟨h1, h2⟩ | ⟨h1, h2⟩
                    · subst h2
                      have d2 : decide (-1 ≤ a1) = false := decide_eq_false (by omega)
                      go_wp2_with fail
                      refine (awake_any _).mono ?_
                      rintro e w90 ⟨rfl, b90⟩
                      go_wp2
                      go_ret
                      exact ⟨rfl, bel_trans BQ.out b90⟩
                    · subst h2
                      have d2 : decide (-1 ≤ a1) = true := decide_eq_true (by omega)
                      go_wp2_with fail
                      refine (awake_any _).mono ?_
                      rintro e w90 ⟨rfl, b90⟩
                      go_wp2
                      go_ret
                      exact ⟨rfl, bel_trans BQ.out b90⟩
end Wk
end Go.Proofs.Ytbnchajkfceaoaa
