/- EventPrefixes: the walk. Conditions: those of the arguments' kinds. Written by tools/mk11w4.py. -/
import Derived.Test.YtbnchajkfceaoaaWkEv1
namespace Go.Proofs.Ytbnchajkfceaoaa
open Go.RowKit Go.Sort
set_option linter.unusedVariables false
set_option linter.unusedSimpArgs false
namespace Wk
open Ev
theorem begun_snoc (st : Int) (l : List I) (x : I) : Ev.begun st (l ++ [x]) = if x.a ≤ st then Ev.begun st l ++ [clip st x] else Ev.begun st l := by
  unfold Ev.begun
  rw [List.filter_append]
  by_cases h : x.a ≤ st
  · rw [if_pos h, List.filter_cons_of_pos (by simpa using h), List.filter_nil, List.map_append]; rfl
  · rw [if_neg h, List.filter_cons_of_neg (by simpa using h), List.filter_nil, List.append_nil]
theorem begun_len (st : Int) (l : List I) : (Ev.begun st l).length ≤ l.length := by unfold Ev.begun; rw [List.length_map]; exact List.length_filter_le _ _
/-- those that have no end -/
def stl (st : Int) (l : List I) : List I := (Ev.begun st l).filter fun x => decide (x.b < 0)
theorem stl_len (st : Int) (l : List I) : (stl st l).length ≤ l.length := Nat.le_trans (List.length_filter_le _ _) (begun_len st l)
theorem stl_snoc (st : Int) (l : List I) (x : I) : stl st (l ++ [x]) = if x.a ≤ st then (if (clip st x).b < 0 then stl st l ++ [clip st x] else stl st l) else stl st l := by
  unfold stl
  rw [begun_snoc]
  by_cases h : x.a ≤ st
  · rw [if_pos h, if_pos h, List.filter_append]
    by_cases h2 : (clip st x).b < 0
    · rw [if_pos h2, List.filter_cons_of_pos (by simpa using h2), List.filter_nil]
    · rw [if_neg h2, List.filter_cons_of_neg (by simpa using h2), List.filter_nil, List.append_nil]
  · rw [if_neg h, if_neg h]
variable {α : Type}
/-- 'append(l, a)' of an element that was just laid, and what it keeps -/
theorem app' (K : Kd α) {ops : Array Oper} {rest : List Oper} {o : Oper} {a : Act} {Q : Exit → Act → World → Prop} (hgd : o.guard = none) (s x : Operand)
    (ho : o.op = .call { callee := .builtin .append, args := #[s, x], argTypes := #[K.S, K.S] }) (W : World) (base : Nat) (v : Value) (ys : List α) (y : α) (cs : Array Value) (hcs : cs.toList = K.enc y)
    (hs : a.eval s = v) (hx : a.eval x = .slice (some ⟨W.heap.size, 0, none⟩) 1 1) (hown : W.ownsRow base K.E K.sz v ys.length (K.flat ys)) (hn : ys.length ≤ 100000) (hb : base ≤ W.heap.size)
    (h : ∀ v' w', w'.ownsRow base K.E K.sz v' (ys ++ [y]).length (K.flat (ys ++ [y])) → Below base W w' → (∀ k, k < W.heap.size → v.ownBlock ≠ some k → w'.heap[k]? = W.heap[k]?) → (∀ k, v'.ownBlock = some k → v.ownBlock = some k ∨ W.heap.size ≤ k) → wpList Try.prog ops Q rest (a.put o.dst v') w') :
    wpList Try.prog ops Q (o :: rest) a (W.alloc (.cells cs K.E)) := by
  refine K.app1 hgd s x ho (W.alloc (.cells cs K.E)) base ys.length v ys y hs W.heap.size hx (K.at_new W y cs hcs) (K.own_below hown (bel_alloc (Below.refl _ _) _)) hn (by rw [World.size_alloc]; omega) ?_
  intro v' w' h1 h2
  refine h v' w' (by rw [List.length_append]; exact h1) (((Below.refl _ W).alloc hb _).trans (h2.bel (by rw [World.size_alloc]; omega) fun k hk => (hown.lt k hk).1)) (fun k hk hne => ?_) fun k hk => ?_
  · rw [h2.blk k (by rw [World.size_alloc]; omega) hne]
    exact (MapKept.heap_alloc W _).2 k hk
  · rcases h2.own k hk with e | e
    · exact .inl e
    · rw [World.size_alloc] at e; exact .inr (by omega)
set_option maxRecDepth 100000 in
set_option maxHeartbeats 4000000 in
theorem walk_eventPrefixes (a0 : Option Addr) (a0n a0c : Nat) (a0v : List Ev.E) (a1 : Int) (w : World) (a0e : a0v.length = a0n) (a0m : a0n ≤ maxLen) (a0r : Ev.RdV w a0 a0v) (a0b : Ev.BdV a0v) (a0z : a0 = none → a0c = 0) (a0y : a0n ≤ a0c ∧ a0c ≤ maxLen) (a1l : (-9223372036854775808) ≤ a1) (a1h : a1 ≤ 9223372036854775807) :
    Calls Try.prog 6 #[.slice a0 a0n a0c, .int .i64 a1] w fun e w' => e = .returned (.bool true) ∧ Below w.heap.size w w' := by
  have FW := Lib.hid (few_any a0 a0n a0c a0v w a0e a0m a0y.1 a0y.2 a0r a0z)
  have hF := few_len a0v
  have B := Lib.hid (Below.refl w.heap.size w)
  obtain ⟨F, hFF⟩ : ∃ F, fewL a0v = F := ⟨_, rfl⟩
  rw [hFF] at FW hF
  have hF2 : F.length ≤ maxLen := by unfold maxLen; omega
  unfold maxLen at hF2
  clear a0r a0b a0z a0y a0e a0m hFF
  by_cases hok : chk F = none
  case neg =>
    have HE := Lib.hid (erS_no (st := a1) hok)
    have HC := Lib.hid (erC_no hok)
    have CK := fun (W : World) A c (h : KE.Rd W A F) => Lib.hid (check_use (check_any A F.length c F W rfl hF2 h))
    rw [HC.out] at CK
    have PX := fun (W : World) A c (h : KE.Rd W A F) => Lib.hid (prefix_any a1 A F.length c F W rfl (by omega) h)
    rw [HE.out] at PX
    clear hok HE HC
    go_enter Try.func6, Try.ntmps6
    go_wp2_with fail
    refine (FW.out).mono ?_
    rintro e w1 h1
    obtain ⟨A1, c1, rfl, rd1, zr1, b1⟩ := ro_use h1
    replace B := Lib.hid (bel_trans B.out b1)
    clear b1
    have RI := Lib.hid rd1
    clear rd1
    clear zr1
    go_wp2_with fail
    refine ((PX _ A1 c1 RI.out).out).mono ?_
    rintro e w2 h2
    obtain ⟨A2, c2, rfl, _, _, b2⟩ := rw_use h2
    have RI_3 := Lib.hid (RI.out.below b2)
    clear RI
    replace B := Lib.hid (bel_trans B.out b2)
    clear b2
    go_wp2_with fail
    refine ((CK _ _ _ RI_3.out).out).mono ?_
    rintro e w4 ⟨rfl, b4⟩
    have RI_5 := Lib.hid (RI_3.out.below b4)
    clear RI_3
    replace B := Lib.hid (bel_trans B.out b4)
    clear b4
    clear RI_5
    go_wp2_with fail
    refine (awake_any _).mono ?_
    rintro e w90 ⟨rfl, b90⟩
    go_wp2
    go_ret
    exact ⟨rfl, bel_trans B.out b90⟩
  case pos =>
    by_cases hst : a1 < -1
    case pos =>
      have HE := Lib.hid (erS_low hok hst)
      have HC := Lib.hid (erC_ok hok)
      have CK := fun (W : World) A c (h : KE.Rd W A F) => Lib.hid (check_use (check_any A F.length c F W rfl hF2 h))
      rw [HC.out] at CK
      have PX := fun (W : World) A c (h : KE.Rd W A F) => Lib.hid (prefix_any a1 A F.length c F W rfl (by omega) h)
      rw [HE.out] at PX
      have d1 := decide_eq_true hst
      clear hok HE HC hst
      go_enter Try.func6, Try.ntmps6
      go_wp2_with fail
      refine (FW.out).mono ?_
      rintro e w1 h1
      obtain ⟨A1, c1, rfl, rd1, zr1, b1⟩ := ro_use h1
      replace B := Lib.hid (bel_trans B.out b1)
      clear b1
      have RI := Lib.hid rd1
      clear rd1
      clear zr1
      go_wp2_with fail
      refine ((PX _ A1 c1 RI.out).out).mono ?_
      rintro e w2 h2
      obtain ⟨A2, c2, rfl, _, _, b2⟩ := rw_use h2
      have RI_3 := Lib.hid (RI.out.below b2)
      clear RI
      replace B := Lib.hid (bel_trans B.out b2)
      clear b2
      go_wp2_with fail
      refine ((CK _ _ _ RI_3.out).out).mono ?_
      rintro e w4 ⟨rfl, b4⟩
      have RI_5 := Lib.hid (RI_3.out.below b4)
      clear RI_3
      replace B := Lib.hid (bel_trans B.out b4)
      clear b4
      clear RI_5
      go_wp2_with fail
      refine (awake_any _).mono ?_
      rintro e w90 ⟨rfl, b90⟩
      go_wp2
      go_ret
      exact ⟨rfl, bel_trans B.out b90⟩
    case neg =>
      have HE := erS_ok hok (show -1 ≤ a1 by omega)
      have HWF := chk_none.1 hok
      obtain ⟨P, hP⟩ : ∃ P, upto a1 F = P := ⟨_, rfl⟩
      have hPok : chk P = none := by rw [← hP]; exact chk_none.2 (WF_upto HWF)
      have hPl : P.length ≤ 80 := by rw [← hP]; have := upto_len a1 F; omega
      have hP2 : P.length ≤ maxLen := by unfold maxLen; omega
      unfold maxLen at hP2
      have PX := fun (W : World) A c (h : KE.Rd W A F) => Lib.hid (prefix_any a1 A F.length c F W rfl (by omega) h)
      rw [upL_ok HE, HE, hP] at PX
      have CK := fun (W : World) A c (h : KE.Rd W A P) => Lib.hid (check_use (check_any A P.length c P W rfl hP2 h))
      rw [erC_ok hPok] at CK
      have SF := fun (W : World) A c (h : KE.Rd W A F) => Lib.hid (Sections_any A F.length c F W rfl (by omega) h)
      rw [erC_ok hok, secL_ok hok] at SF
      have SP := fun (W : World) A c (h : KE.Rd W A P) => Lib.hid (Sections_any A P.length c P W rfl (by omega) h)
      rw [erC_ok hPok, secL_ok hPok] at SP
      have WF_ := fun (W : World) A c (h : KE.Rd W A F) => Lib.hid (Waits_any A F.length c F W rfl (by omega) h)
      rw [erC_ok hok, secL_ok hok] at WF_
      have WP := fun (W : World) A c (h : KE.Rd W A P) => Lib.hid (Waits_any A P.length c P W rfl (by omega) h)
      rw [erC_ok hPok, secL_ok hPok] at WP
      have OP := fun (W : World) A c (h : KE.Rd W A F) => Lib.hid (open_any a1 A F.length c F W rfl (by omega) h)
      rw [opL_ok HE, HE] at OP
      have hS1 : ivs 1 P = Ev.begun a1 (ivs 1 F) := by rw [← hP]; exact ivs_upto (WF_sorted HWF)
      have hS3 : ivs 3 P = Ev.begun a1 (ivs 3 F) := by rw [← hP]; exact ivs_upto (WF_sorted HWF)
      have hSO : opn a1 (ivs 1 F) = stl a1 (ivs 1 F) := opn_begun (fun x hx => (chk_mem hok 1 x hx).2.1)
      have hmem := chk_mem hok 1
      have l1 : (ivs 1 F).length ≤ 80 := by have := ivs_len 1 F; omega
      have l3 : (ivs 3 F).length ≤ 80 := by have := ivs_len 3 F; omega
      rw [hS1] at SP
      rw [hS3] at WP
      rw [hSO] at OP
      obtain ⟨S, hS⟩ : ∃ S, ivs 1 F = S := ⟨_, rfl⟩
      obtain ⟨V, hV⟩ : ∃ V, ivs 3 F = V := ⟨_, rfl⟩
      rw [hS] at SF SP OP l1 hmem
      rw [hV] at WF_ WP l3
      have HM := Lib.hid hmem
      clear hok hst HE HWF hP hPok hS1 hS3 hSO hS hV hmem
      go_enter Try.func6, Try.ntmps6
      go_wp2_with fail
      refine (FW.out).mono ?_
      rintro e w1 h1
      obtain ⟨A1, c1, rfl, rd1, zr1, b1⟩ := ro_use h1
      replace B := Lib.hid (bel_trans B.out b1)
      clear b1
      have RF := Lib.hid rd1
      clear rd1
      clear zr1
      go_wp2_with fail
      refine ((PX _ _ _ RF.out).out).mono ?_
      rintro e w2 h2
      obtain ⟨A2, c2, rfl, rd2, zr2, b2⟩ := rw_use h2
      have RF_3 := Lib.hid (RF.out.below b2)
      clear RF
      replace B := Lib.hid (bel_trans B.out b2)
      clear b2
      have RP := Lib.hid rd2
      clear rd2
      clear zr2
      go_wp2_with fail
      refine ((CK _ _ _ RP.out).out).mono ?_
      rintro e w4 ⟨rfl, b4⟩
      have RF_5 := Lib.hid (RF_3.out.below b4)
      clear RF_3
      have RP_6 := Lib.hid (RP.out.below b4)
      clear RP
      replace B := Lib.hid (bel_trans B.out b4)
      clear b4
      go_wp2_with fail
      refine ((SF _ _ _ RF_5.out).out).mono ?_
      rintro e w7 h7
      obtain ⟨A7, c7, rfl, rd7, zr7, b7⟩ := rw_use h7
      have RF_8 := Lib.hid (RF_5.out.below b7)
      clear RF_5
      have RP_9 := Lib.hid (RP_6.out.below b7)
      clear RP_6
      replace B := Lib.hid (bel_trans B.out b7)
      clear b7
      have SA := Lib.hid rd7
      clear rd7
      clear zr7
      go_wp2_with fail
      refine ((SP _ _ _ RP_9.out).out).mono ?_
      rintro e w10 h10
      obtain ⟨A10, c10, rfl, rd10, zr10, b10⟩ := rw_use h10
      have RF_11 := Lib.hid (RF_8.out.below b10)
      clear RF_8
      have RP_12 := Lib.hid (RP_9.out.below b10)
      clear RP_9
      have SA_13 := Lib.hid (SA.out.below b10)
      clear SA
      replace B := Lib.hid (bel_trans B.out b10)
      clear b10
      have SB := Lib.hid rd10
      clear rd10
      clear zr10
      go_wp2_with fail
      refine ((WF_ _ _ _ RF_11.out).out).mono ?_
      rintro e w14 h14
      obtain ⟨A14, c14, rfl, rd14, zr14, b14⟩ := rw_use h14
      have RF_15 := Lib.hid (RF_11.out.below b14)
      clear RF_11
      have RP_16 := Lib.hid (RP_12.out.below b14)
      clear RP_12
      have SA_17 := Lib.hid (SA_13.out.below b14)
      clear SA_13
      have SB_18 := Lib.hid (SB.out.below b14)
      clear SB
      replace B := Lib.hid (bel_trans B.out b14)
      clear b14
      have SC := Lib.hid rd14
      clear rd14
      clear zr14
      go_wp2_with fail
      refine ((WP _ _ _ RP_16.out).out).mono ?_
      rintro e w19 h19
      obtain ⟨A19, c19, rfl, rd19, zr19, b19⟩ := rw_use h19
      have RF_20 := Lib.hid (RF_15.out.below b19)
      clear RF_15
      have RP_21 := Lib.hid (RP_16.out.below b19)
      clear RP_16
      have SA_22 := Lib.hid (SA_17.out.below b19)
      clear SA_17
      have SB_23 := Lib.hid (SB_18.out.below b19)
      clear SB_18
      have SC_24 := Lib.hid (SC.out.below b19)
      clear SC
      replace B := Lib.hid (bel_trans B.out b19)
      clear b19
      have SD := Lib.hid rd19
      clear rd19
      clear zr19
      clear RP_21
      go_wp2_with fail
      refine ((OP _ _ _ RF_20.out).out).mono ?_
      rintro e w25 h25
      obtain ⟨A25, c25, rfl, rd25, zr25, b25⟩ := rw_use h25
      have RF_26 := Lib.hid (RF_20.out.below b25)
      clear RF_20
      have SA_27 := Lib.hid (SA_22.out.below b25)
      clear SA_22
      have SB_28 := Lib.hid (SB_23.out.below b25)
      clear SB_23
      have SC_29 := Lib.hid (SC_24.out.below b25)
      clear SC_24
      have SD_30 := Lib.hid (SD.out.below b25)
      clear SD
      replace B := Lib.hid (bel_trans B.out b25)
      clear b25
      have SE := Lib.hid rd25
      clear rd25
      clear zr25
      clear RF_26
      go_wp2_with fail
      go_loopw [21, 22, 23] (fun p q i wr => ∃ (k : Nat) (v21 v22 : Value), k ≤ S.length ∧ i = .int .i64 k ∧ v21 = p ∧ v22 = q ∧ wr.ownsRow w25.heap.size KS.E KS.sz v21 (Ev.begun a1 (S.take k)).length (KS.flat (Ev.begun a1 (S.take k))) ∧ wr.ownsRow w25.heap.size KS.E KS.sz v22 (stl a1 (S.take k)).length (KS.flat (stl a1 (S.take k))) ∧ (∀ g, v21.ownBlock = some g → v22.ownBlock ≠ some g) ∧ Below w25.heap.size w25 wr) (fun p q i _ => S.length - (intOf i).toNat)
      case atStart => exact ⟨0, _, _, Nat.zero_le _, rfl, rfl, rfl, KS.nil _ _, KS.nil _ _, fun g hg => (by cases hg), Below.refl _ _⟩
      case round =>
        obtain ⟨j, v21, v22, hj, rfl, rfl, rfl, ow1, ow2, hne, bel⟩ := hrel
        obtain ⟨wq, rfl⟩ : ∃ wq : World, wq = wr := ⟨_, rfl⟩
        have HNE := Lib.hid hne
        by_cases hlt : j < S.length
        · have d0 : decide ((j : Int) < S.length) = true := decide_eq_true (by omega)
          have j1 : (j : Int) < S.length := by omega
          obtain ⟨b, o, eA, c0, c1, c2, c3⟩ := KS.at_ (SA_27.out.below bel) hlt
          subst eA
          have HT1 := Lib.hid (show Ev.begun a1 (S.take (j + 1)) = _ by rw [take_get (d := i0) hlt, begun_snoc])
          have HT2 := Lib.hid (show stl a1 (S.take (j + 1)) = _ by rw [take_get (d := i0) hlt, stl_snoc])
          have q1 := begun_len a1 (S.take j)
          have q2 := stl_len a1 (S.take j)
          rw [List.length_take] at q1 q2
          generalize S.getD j i0 = y at *
          obtain ⟨yt, yv, ya, yb⟩ := y
          simp only at c0 c1 c2 c3
          obtain ⟨L, hL⟩ : ∃ L, Ev.begun a1 (S.take j) = L := ⟨_, rfl⟩
          obtain ⟨M, hM⟩ : ∃ M, stl a1 (S.take j) = M := ⟨_, rfl⟩
          rw [hL] at ow1 HT1 q1
          rw [hM] at ow2 HT2 q2
          have OW1 := Lib.hid ow1
          have OW2 := Lib.hid ow2
          clear hL hM ow1 ow2 hne
          by_cases ht : ya ≤ a1
          · have t0 : decide (a1 < ya) = false := decide_eq_false (by omega)
            by_cases hb : a1 < yb
            · have t1 := decide_eq_true hb
              rw [if_pos ht, show clip a1 ⟨yt, yv, ya, yb⟩ = ⟨yt, yv, ya, -1⟩ from by unfold clip; rw [if_pos hb]; rfl] at HT1 HT2
              rw [if_pos (show ((-1 : Int) < 0) from by decide)] at HT2
              clear ht hb
              go_wp2_with (first | (at_builtin; refine app' KS rfl (.tmp 136) (.tmp 138) rfl (wq.alloc (.cells #[.int .i64 yt, .int .u64 yv, .int .i64 ya, .int .i64 (-1)] 41)) w25.heap.size _ L ⟨yt, yv, ya, (-1)⟩ #[.int .i64 yt, .int .u64 yv, .int .i64 ya, .int .i64 (-1)] rfl rfl (by rw [World.size_alloc]; rfl) (KS.own_below OW1.out (bel_alloc (Below.refl _ _) _)) (by omega) (by rw [World.size_alloc]; exact Nat.le_succ_of_le bel.size) ?_; intro v1 w1 h1 b1 k1 o1; have bx := Bs.same (W' := w1) (Bs.new wq ⟨yt, yv, ya, (-1)⟩) (k1 _ (by rw [World.size_alloc]; omega) (fun e => by have := (OW1.out.lt _ e).2; omega)); obtain ⟨x0, x1, x2, x3⟩ := bx.c; have OW2b := Lib.hid (KS.own_keep OW2.out (w' := w1) (fun g hg => (k1 g (by rw [World.size_alloc]; have := (OW2.out.lt g hg).2; omega) (fun e => HNE.out g e hg)).trans ((MapKept.heap_alloc wq _).2 g (OW2.out.lt g hg).2))); have HN1 := Lib.hid h1; have BL1 := Lib.hid ((bel_alloc bel (.cells #[.int .i64 yt, .int .u64 yv, .int .i64 ya, .int .i64 (-1)] 41)).trans b1); have HO1 := Lib.hid o1; clear h1 bx k1 o1) | (at_builtin; refine app' KS rfl (.tmp 143) (.tmp 145) rfl w1 w25.heap.size _ M ⟨yt, yv, ya, (-1)⟩ #[.int .i64 yt, .int .u64 yv, .int .i64 ya, .int .i64 (-1)] rfl rfl rfl OW2b.out (by omega) BL1.out.size ?_; intro v2 w2' h2 b2 k2 o2))
              have NE1 := Lib.hid (show ∀ g, v1.ownBlock = some g → v22.ownBlock ≠ some g from fun g hg e => by
                rcases HO1.out g hg with h | h
                · exact HNE.out g h e
                · rw [World.size_alloc] at h; have := (OW2.out.lt g e).2; omega)
              go_roundw
              case rel =>
                refine ⟨j + 1, _, _, by omega, by go_num, rfl, rfl, ?_, by rw [HT2.out]; exact h2, ?_, BL1.out.trans b2⟩
                · rw [HT1.out]
                  exact KS.own_keep HN1.out (fun g hg => k2 g (HN1.out.lt g hg).2 (fun e => NE1.out g hg e))
                · intro g hg e
                  rcases o2 g e with h | h
                  · exact NE1.out g hg h
                  · have := (HN1.out.lt g hg).2; omega
              case measure => simp [intOf]; omega
            · have t1 := decide_eq_false hb
              rw [if_pos ht, show clip a1 ⟨yt, yv, ya, yb⟩ = ⟨yt, yv, ya, yb⟩ from by unfold clip; rw [if_neg hb]] at HT1 HT2
              by_cases hz : yb < 0
              · have t2 := decide_eq_true hz
                rw [if_pos hz] at HT2
                clear ht hb hz
                go_wp2_with (first | (at_builtin; refine app' KS rfl (.tmp 136) (.tmp 138) rfl (wq.alloc (.cells #[.int .i64 yt, .int .u64 yv, .int .i64 ya, .int .i64 yb] 41)) w25.heap.size _ L ⟨yt, yv, ya, yb⟩ #[.int .i64 yt, .int .u64 yv, .int .i64 ya, .int .i64 yb] rfl rfl (by rw [World.size_alloc]; rfl) (KS.own_below OW1.out (bel_alloc (Below.refl _ _) _)) (by omega) (by rw [World.size_alloc]; exact Nat.le_succ_of_le bel.size) ?_; intro v1 w1 h1 b1 k1 o1; have bx := Bs.same (W' := w1) (Bs.new wq ⟨yt, yv, ya, yb⟩) (k1 _ (by rw [World.size_alloc]; omega) (fun e => by have := (OW1.out.lt _ e).2; omega)); obtain ⟨x0, x1, x2, x3⟩ := bx.c; have OW2b := Lib.hid (KS.own_keep OW2.out (w' := w1) (fun g hg => (k1 g (by rw [World.size_alloc]; have := (OW2.out.lt g hg).2; omega) (fun e => HNE.out g e hg)).trans ((MapKept.heap_alloc wq _).2 g (OW2.out.lt g hg).2))); have HN1 := Lib.hid h1; have BL1 := Lib.hid ((bel_alloc bel (.cells #[.int .i64 yt, .int .u64 yv, .int .i64 ya, .int .i64 yb] 41)).trans b1); have HO1 := Lib.hid o1; clear h1 bx k1 o1) | (at_builtin; refine app' KS rfl (.tmp 143) (.tmp 145) rfl w1 w25.heap.size _ M ⟨yt, yv, ya, yb⟩ #[.int .i64 yt, .int .u64 yv, .int .i64 ya, .int .i64 yb] rfl rfl rfl OW2b.out (by omega) BL1.out.size ?_; intro v2 w2' h2 b2 k2 o2))
                have NE1 := Lib.hid (show ∀ g, v1.ownBlock = some g → v22.ownBlock ≠ some g from fun g hg e => by
                  rcases HO1.out g hg with h | h
                  · exact HNE.out g h e
                  · rw [World.size_alloc] at h; have := (OW2.out.lt g e).2; omega)
                go_roundw
                case rel =>
                  refine ⟨j + 1, _, _, by omega, by go_num, rfl, rfl, ?_, by rw [HT2.out]; exact h2, ?_, BL1.out.trans b2⟩
                  · rw [HT1.out]
                    exact KS.own_keep HN1.out (fun g hg => k2 g (HN1.out.lt g hg).2 (fun e => NE1.out g hg e))
                  · intro g hg e
                    rcases o2 g e with h | h
                    · exact NE1.out g hg h
                    · have := (HN1.out.lt g hg).2; omega
                case measure => simp [intOf]; omega
              · have t2 := decide_eq_false hz
                rw [if_neg hz] at HT2
                clear ht hb hz
                go_wp2_with (first | (at_builtin; refine app' KS rfl (.tmp 136) (.tmp 138) rfl (wq.alloc (.cells #[.int .i64 yt, .int .u64 yv, .int .i64 ya, .int .i64 yb] 41)) w25.heap.size _ L ⟨yt, yv, ya, yb⟩ #[.int .i64 yt, .int .u64 yv, .int .i64 ya, .int .i64 yb] rfl rfl (by rw [World.size_alloc]; rfl) (KS.own_below OW1.out (bel_alloc (Below.refl _ _) _)) (by omega) (by rw [World.size_alloc]; exact Nat.le_succ_of_le bel.size) ?_; intro v1 w1 h1 b1 k1 o1; have bx := Bs.same (W' := w1) (Bs.new wq ⟨yt, yv, ya, yb⟩) (k1 _ (by rw [World.size_alloc]; omega) (fun e => by have := (OW1.out.lt _ e).2; omega)); obtain ⟨x0, x1, x2, x3⟩ := bx.c; have OW2b := Lib.hid (KS.own_keep OW2.out (w' := w1) (fun g hg => (k1 g (by rw [World.size_alloc]; have := (OW2.out.lt g hg).2; omega) (fun e => HNE.out g e hg)).trans ((MapKept.heap_alloc wq _).2 g (OW2.out.lt g hg).2))); have HN1 := Lib.hid h1; have BL1 := Lib.hid ((bel_alloc bel (.cells #[.int .i64 yt, .int .u64 yv, .int .i64 ya, .int .i64 yb] 41)).trans b1); have HO1 := Lib.hid o1; clear h1 bx k1 o1) | (at_builtin; refine app' KS rfl (.tmp 143) (.tmp 145) rfl w1 w25.heap.size _ M ⟨yt, yv, ya, yb⟩ #[.int .i64 yt, .int .u64 yv, .int .i64 ya, .int .i64 yb] rfl rfl rfl OW2b.out (by omega) BL1.out.size ?_; intro v2 w2' h2 b2 k2 o2))
                have NE1 := Lib.hid (show ∀ g, v1.ownBlock = some g → v22.ownBlock ≠ some g from fun g hg e => by
                  rcases HO1.out g hg with h | h
                  · exact HNE.out g h e
                  · rw [World.size_alloc] at h; have := (OW2.out.lt g e).2; omega)
                go_roundw
                case rel => exact ⟨j + 1, _, _, by omega, by go_num, rfl, rfl, by rw [HT1.out]; exact HN1.out, by rw [HT2.out]; exact OW2b.out, NE1.out, BL1.out⟩
                case measure => simp [intOf]; omega
          · have t0 : decide (a1 < ya) = true := decide_eq_true (by omega)
            rw [if_neg ht] at HT1 HT2
            clear ht
            go_wp2
            go_roundw
            case rel => exact ⟨j + 1, _, _, by omega, by go_num, rfl, rfl, by rw [HT1.out]; exact OW1.out, by rw [HT2.out]; exact OW2.out, HNE.out, bel⟩
            case measure => simp [intOf]; omega
        · have d0 : decide ((j : Int) < (S.length : Int)) = false := decide_eq_false (by omega)
          have HT := Lib.hid (show S.take j = S from List.take_of_length_le (by omega))
          have r1 := ow1
          have r2 := ow2
          rw [HT.out] at r1 r2
          have Z1 := Lib.hid r1
          have Z2 := Lib.hid r2
          have BL := Lib.hid bel
          have SC := Lib.hid (SC_29.out.below bel)
          clear ow1 ow2 r1 r2 bel hne
          go_wp2_with fail
          go_loopw [25, 26] (fun q i wr => ∃ (k : Nat), k ≤ V.length ∧ i = .int .i64 k ∧ wr.ownsRow wq.heap.size KW.E KW.sz q (Ev.begun a1 (V.take k)).length (KW.flat (Ev.begun a1 (V.take k))) ∧ Below wq.heap.size wq wr) (fun q i _ => V.length - (intOf i).toNat)
          case atStart => exact ⟨0, Nat.zero_le _, rfl, KW.nil _ _, Below.refl _ _⟩
          case round =>
            clear hj d0 HT hlt
            obtain ⟨j, hj, rfl, ow, bel⟩ := hrel
            obtain ⟨wy, rfl⟩ : ∃ wy : World, wy = wr := ⟨_, rfl⟩
            by_cases hlt : j < V.length
            · have d0 : decide ((j : Int) < V.length) = true := decide_eq_true (by omega)
              have j1 : (j : Int) < V.length := by omega
              obtain ⟨b, o, eA, c0, c1, c2, c3⟩ := KW.at_ (SC.out.below bel) hlt
              subst eA
              have HT1 := Lib.hid (show Ev.begun a1 (V.take (j + 1)) = _ by rw [take_get (d := i0) hlt, begun_snoc])
              have q1 := begun_len a1 (V.take j)
              rw [List.length_take] at q1
              generalize V.getD j i0 = y at *
              obtain ⟨yt, yv, ya, yb⟩ := y
              simp only at c0 c1 c2 c3
              obtain ⟨L, hL⟩ : ∃ L, Ev.begun a1 (V.take j) = L := ⟨_, rfl⟩
              rw [hL] at ow HT1 q1
              have OW := Lib.hid ow
              clear hL ow
              by_cases ht : ya ≤ a1
              · have t0 : decide (a1 < ya) = false := decide_eq_false (by omega)
                by_cases hb : a1 < yb
                · have t1 := decide_eq_true hb
                  rw [if_pos ht, show clip a1 ⟨yt, yv, ya, yb⟩ = ⟨yt, yv, ya, -1⟩ from by unfold clip; rw [if_pos hb]; rfl] at HT1
                  clear ht hb
                  go_wp2_with (at_builtin; refine KW.app rfl (.tmp 169) (.tmp 171) rfl (wy.alloc (.cells #[.int .i64 yt, .int .u64 yv, .int .i64 ya, .int .i64 (-1)] 43)) wq.heap.size _ L ⟨yt, yv, ya, (-1)⟩ #[.int .i64 yt, .int .u64 yv, .int .i64 ya, .int .i64 (-1)] rfl rfl (by rw [World.size_alloc]; rfl) (KW.own_below OW.out (bel_alloc (Below.refl _ _) _)) (by omega) (by rw [World.size_alloc]; exact Nat.le_succ_of_le bel.size) ?_; intro v1 w1 h1 b1 _)
                  go_roundw
                  case rel => exact ⟨j + 1, by omega, by go_num, by rw [HT1.out]; exact h1, (bel_alloc bel _).trans b1⟩
                  case measure => simp [intOf]; omega
                · have t1 := decide_eq_false hb
                  rw [if_pos ht, show clip a1 ⟨yt, yv, ya, yb⟩ = ⟨yt, yv, ya, yb⟩ from by unfold clip; rw [if_neg hb]] at HT1
                  clear ht hb
                  go_wp2_with (at_builtin; refine KW.app rfl (.tmp 169) (.tmp 171) rfl (wy.alloc (.cells #[.int .i64 yt, .int .u64 yv, .int .i64 ya, .int .i64 yb] 43)) wq.heap.size _ L ⟨yt, yv, ya, yb⟩ #[.int .i64 yt, .int .u64 yv, .int .i64 ya, .int .i64 yb] rfl rfl (by rw [World.size_alloc]; rfl) (KW.own_below OW.out (bel_alloc (Below.refl _ _) _)) (by omega) (by rw [World.size_alloc]; exact Nat.le_succ_of_le bel.size) ?_; intro v1 w1 h1 b1 _)
                  go_roundw
                  case rel => exact ⟨j + 1, by omega, by go_num, by rw [HT1.out]; exact h1, (bel_alloc bel _).trans b1⟩
                  case measure => simp [intOf]; omega
              · have t0 : decide (a1 < ya) = true := decide_eq_true (by omega)
                rw [if_neg ht] at HT1
                clear ht
                go_wp2
                go_roundw
                case rel => exact ⟨j + 1, by omega, by go_num, by rw [HT1.out]; exact OW.out, bel⟩
                case measure => simp [intOf]; omega
            · have d0 : decide ((j : Int) < (V.length : Int)) = false := decide_eq_false (by omega)
              have HT := Lib.hid (show V.take j = V from List.take_of_length_le (by omega))
              rw [HT.out] at ow
              obtain ⟨_, A3, c3, rfl, _, rd3, _⟩ := KW.row ow
              obtain ⟨_, A1', c1', rfl, _, rd1, _⟩ := KS.row Z1.out
              obtain ⟨_, A2', c2', rfl, _, rd2, _⟩ := KS.row Z2.out
              have R1 := Lib.hid (rd1.below bel)
              have R2 := Lib.hid (rd2.below bel)
              have R3 := Lib.hid rd3
              have RB := Lib.hid ((SB_28.out.below BL.out).below bel)
              have RD := Lib.hid ((SD_30.out.below BL.out).below bel)
              have RE := Lib.hid ((SE.out.below BL.out).below bel)
              have BF := Lib.hid (bel_trans (bel_trans B.out BL.out) bel)
              have m1 : (Ev.begun a1 S).length ≤ 1000 := by have := begun_len a1 S; omega
              have m2 : (stl a1 S).length ≤ 1000 := by have := stl_len a1 S; omega
              have m3 : (Ev.begun a1 V).length ≤ 1000 := by have := begun_len a1 V; omega
              clear ow rd1 rd2 rd3 bel Z1 Z2 BL SC
              go_wp2_with fail
              refine (equS_same A10 A1' (Ev.begun a1 S).length c10 c1' (Ev.begun a1 S) _ rfl (by omega) RB.out R1.out).mono ?_
              rintro e x1 ⟨rfl, b1⟩
              have RD2 := Lib.hid (RD.out.below b1)
              have RE2 := Lib.hid (RE.out.below b1)
              have R32 := Lib.hid (R3.out.below b1)
              have R22 := Lib.hid (R2.out.below b1)
              replace BF := Lib.hid (bel_trans BF.out b1)
              clear RD RE R3 R2 RB R1 b1
              go_wp2_with fail
              refine (equW_same A19 A3 (Ev.begun a1 V).length c19 c3 (Ev.begun a1 V) _ rfl (by omega) RD2.out R32.out).mono ?_
              rintro e x2 ⟨rfl, b1⟩
              have RE3 := Lib.hid (RE2.out.below b1)
              have R23 := Lib.hid (R22.out.below b1)
              replace BF := Lib.hid (bel_trans BF.out b1)
              clear RE2 R22 RD2 R32 b1
              go_wp2_with fail
              refine (equS_same A25 A2' (stl a1 S).length c25 c2' (stl a1 S) _ rfl (by omega) RE3.out R23.out).mono ?_
              rintro e x3 ⟨rfl, b1⟩
              replace BF := Lib.hid (bel_trans BF.out b1)
              clear RE3 R23 b1
              go_wp2_with fail
              refine (awake_any _).mono ?_
              rintro e w90 ⟨rfl, b90⟩
              go_wp2
              go_ret
              exact ⟨rfl, bel_trans BF.out b90⟩
      
end Wk
end Go.Proofs.Ytbnchajkfceaoaa
