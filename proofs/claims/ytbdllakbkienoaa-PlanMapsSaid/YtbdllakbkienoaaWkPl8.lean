/- PlanMaps (written by tools/mk6maps.py): the walk. Conditions: those of the given row. -/
import Derived.Test.YtbdllakbkienoaaPlMm
namespace Go.Proofs.Ytbdllakbkienoaa
open Go.RowKit Go.Sort
set_option linter.unusedVariables false
set_option linter.unusedSimpArgs false
namespace Wk
open Pl
open Om (addr_lit bel_alloc bel_trans below_drewN ret_eq Asc MapAt Opn getL gT inL outL mvL moL moT moE deL deT rgE rgL)
theorem row_keep5 {w w' : World} {B n : Nat} {t : TypeId} {v : Value} {xs : List Value} (h : w.ownsRow B t 5 v n xs) (hk : ∀ k, v.ownBlock = some k → w'.heap[k]? = w.heap[k]?) : w'.ownsRow B t 5 v n xs := by
  refine ⟨h.1, ?_⟩
  rcases h.2 with h' | ⟨g, cap, cur, e, hbase, hh, r⟩
  · exact .inl h'
  · subst e
    exact .inr ⟨g, cap, cur, rfl, hbase, (hk g rfl).trans hh, r⟩
set_option maxRecDepth 100000 in
set_option maxHeartbeats 8000000 in
theorem walk_planMaps (a0 : Option Addr) (a0n a0c : Nat) (a0v : List Om.Pr) (a1Lo : Int) (a1Hi : Int) (a2 : Int) (w : World) (a0e : a0v.length = a0n) (a0m : a0n ≤ maxLen) (a0r : Om.Rd w a0 a0v) (a0b : Om.Bd a0v) (a0z : a0 = none → a0c = 0) (a0s : a0n * 16 ≤ 140737488351232) (a0y : a0n ≤ a0c) (a1Lol : 0 ≤ a1Lo) (a1Loh : a1Lo ≤ 18446744073709551615) (a1Hil : 0 ≤ a1Hi) (a1Hih : a1Hi ≤ 18446744073709551615) (a2l : 0 ≤ a2) (a2h : a2 ≤ 18446744073709551615) :
    Calls Try.prog 7 #[.slice a0 a0n a0c, .agg #[.int .u64 a1Lo, .int .u64 a1Hi], .int .u64 a2] w fun e w' => e = .returned (.bool true) ∧ Below w.heap.size w w' := by
  have b0 : Below w.heap.size w (w.alloc (.cells #[.int .u64 a1Lo, .int .u64 a1Hi] 25)) := bel_alloc (Below.refl _ _) _
  have s0 : (w.alloc (.cells #[.int .u64 a1Lo, .int .u64 a1Hi] 25)).cell? ⟨w.heap.size, 0, none⟩ = some (.int .u64 a1Lo) := by simp
  have s1 : (w.alloc (.cells #[.int .u64 a1Lo, .int .u64 a1Hi] 25)).cell? ⟨w.heap.size, 1, none⟩ = some (.int .u64 a1Hi) := by simp
  have hsz : w.heap.size < (w.alloc (.cells #[.int .u64 a1Lo, .int .u64 a1Hi] 25)).heap.size := by simp
  have HR := Lib.hid (a0r.below b0); have HB := Lib.hid a0b; have HZ := Lib.hid a0z; have HL := Lib.hid a0e
  clear a0r a0b a0z a0e a0s a0m
  by_cases hbig : 60 < a0n
  · have t0 : decide ((60 : Int) < a0n) = true := decide_eq_true (by omega)
    go_enter Try.func7, Try.ntmps7
    go_wp2_with fail
    refine (known_any _).mono ?_
    rintro r W1 ⟨rfl, b2⟩
    go_wp2
    go_ret
    exact ⟨rfl, bel_trans b0 b2⟩
  have t0 : decide ((60 : Int) < a0n) = false := decide_eq_false (by omega)
  have h60 : a0n ≤ 60 := by omega
  clear hbig
  by_cases ha : Asc a0v
  case neg =>
    have CA := Lib.hid (ascL_any a0 a0n a0c a0v _ HL.out (by omega) HR.out false ⟨fun q => by (cases q), fun q => absurd q ha⟩)
    clear ha
    go_enter Try.func7, Try.ntmps7
    go_wp2_with fail
    refine CA.out.mono ?_
    rintro r W0 ⟨rfl, b1⟩
    replace s0 := (b1.cell (p := ⟨w.heap.size, 0, none⟩) hsz).trans s0
    replace s1 := (b1.cell (p := ⟨w.heap.size, 1, none⟩) hsz).trans s1
    replace b0 := bel_trans b0 b1
    go_wp2_with fail
    refine (known_any _).mono ?_
    rintro r W1 ⟨rfl, b2⟩
    go_wp2
    go_ret
    exact ⟨rfl, bel_trans b0 b2⟩
  have CA := Lib.hid (ascL_any a0 a0n a0c a0v _ HL.out (by omega) HR.out true ⟨fun _ => ha, fun _ => rfl⟩)
  have HA := Lib.hid ha; clear ha
  by_cases hlh : a1Hi < a1Lo
  · have t1 : decide (a1Hi < a1Lo) = true := decide_eq_true hlh
    go_enter Try.func7, Try.ntmps7
    go_wp2_with fail
    refine CA.out.mono ?_
    rintro r W0 ⟨rfl, b1⟩
    replace s0 := (b1.cell (p := ⟨w.heap.size, 0, none⟩) hsz).trans s0
    replace s1 := (b1.cell (p := ⟨w.heap.size, 1, none⟩) hsz).trans s1
    replace b0 := bel_trans b0 b1
    go_wp2_with fail
    refine (known_any _).mono ?_
    rintro r W1 ⟨rfl, b2⟩
    go_wp2
    go_ret
    exact ⟨rfl, bel_trans b0 b2⟩
  have t1 : decide (a1Hi < a1Lo) = false := decide_eq_false hlh
  by_cases hd0 : a2 = 0
  · have t2 : (a2 == 0) = true := by simp [hd0]
    clear hd0
    go_enter Try.func7, Try.ntmps7
    go_wp2_with fail
    refine CA.out.mono ?_
    rintro r W0 ⟨rfl, b1⟩
    replace s0 := (b1.cell (p := ⟨w.heap.size, 0, none⟩) hsz).trans s0
    replace s1 := (b1.cell (p := ⟨w.heap.size, 1, none⟩) hsz).trans s1
    replace b0 := bel_trans b0 b1
    go_wp2_with fail
    refine (known_any _).mono ?_
    rintro r W1 ⟨rfl, b2⟩
    go_wp2
    go_ret
    exact ⟨rfl, bel_trans b0 b2⟩
  have t2 : (a2 == 0) = false := by simp [hd0]
  by_cases hov : 18446744073709551615 - a1Hi < a2
  · have t3 : decide (18446744073709551615 - a1Hi < a2) = true := decide_eq_true hov
    go_enter Try.func7, Try.ntmps7
    go_wp2_with fail
    refine CA.out.mono ?_
    rintro r W0 ⟨rfl, b1⟩
    replace s0 := (b1.cell (p := ⟨w.heap.size, 0, none⟩) hsz).trans s0
    replace s1 := (b1.cell (p := ⟨w.heap.size, 1, none⟩) hsz).trans s1
    replace b0 := bel_trans b0 b1
    go_wp2_with fail
    refine (known_any _).mono ?_
    rintro r W1 ⟨rfl, b2⟩
    go_wp2
    go_ret
    exact ⟨rfl, bel_trans b0 b2⟩
  have t3 : decide (18446744073709551615 - a1Hi < a2) = false := decide_eq_false hov
  have hmo : moE a1Lo a1Hi a2 = 0 := by unfold moE; rw [if_neg (fun h => by rcases h with h | h; exact hlh h; exact hd0 h), if_neg (by omega)]
  have hmv : mvE a0v a1Lo a1Hi a2 = 0 := by rw [mvE_mo HA.out]; exact hmo
  have hrg : rgE a1Lo a1Hi = 0 := if_pos (by omega)
  have hde : deE a0v a1Lo a1Hi = 0 := by rw [deE_rg HA.out]; exact hrg
  have CM := fun W (hm' : Om.Rd W a0 a0v) => Lib.hid (moveP_any a0 a0n a0c a0v a1Lo a1Hi a2 W HL.out (by omega) a0y HZ.out hm' HB.out a1Lol a1Loh a1Hil a1Hih a2l a2h)
  rw [mvR_yes hmv, hmv] at CM
  have CD := fun W (hm' : Om.Rd W a0 a0v) => Lib.hid (deleteP_any a0 a0n a0c a0v a1Lo a1Hi W HL.out (by omega) hm' HB.out a1Lol a1Loh a1Hil a1Hih)
  rw [deR_yes hde, hde] at CD
  have hml : moL a0v a1Lo a1Hi a2 = mvL a0v a1Lo a1Hi a2 := if_pos hmo
  have hmt : moT a0v a1Lo a1Hi a2 = .tuple #[.int .i64 ((inL a0v a1Lo a1Hi).length : Int), .int .i64 0] := by unfold moT; rw [hmo]; rfl
  have hdl : deL a0v a1Lo a1Hi = outL a0v a1Lo a1Hi := if_pos (by omega)
  have hdt : deT a0v a1Lo a1Hi = .tuple #[.int .i64 ((inL a0v a1Lo a1Hi).length : Int), .int .i64 0] := by unfold deT; rw [hrg, show rgL a0v a1Lo a1Hi = inL a0v a1Lo a1Hi from if_pos (by omega)]
  have pm : Pn a0v (mvP a0v a1Lo a1Hi a2) := ⟨mvP_asc HA.out _ _ _, mvP_real HA.out _ _ _, plan_fits⟩
  have pd : Pn a0v (deP a0v a1Lo a1Hi) := ⟨deP_asc HA.out _ _, deP_real HA.out _ _, plan_fits⟩
  have am := pm.ap HA.out
  have ad := pd.ap HA.out
  rw [mvP_app HA.out] at am
  rw [deP_app HA.out] at ad
  have AM := Lib.hid am; have AD := Lib.hid ad
  have CK := Lib.hid (ckE_yes pm.chk)
  have AT := Lib.hid (fun x (hx : x ∈ mvP a0v a1Lo a1Hi a2) => at_of HA.out hx)
  have FL := Lib.hid (from_len HA.out a1Lo a1Hi a2)
  have hl1 := mvP_len a0v a1Lo a1Hi a2
  have hl2 := deP_len a0v a1Lo a1Hi
  have hl3 := Om.mvL_len_le a0v a1Lo a1Hi a2
  have hl4 := Om.outL_len a0v a1Lo a1Hi
  have hl5 : (deP a0v a1Lo a1Hi).length = (inL a0v a1Lo a1Hi).length := by unfold deP plan keysL; rw [List.length_map, List.length_map]
  have hl6 : (inL a0v a1Lo a1Hi).length ≤ a0v.length := List.length_filter_le _ _
  rw [HL.out] at hl1 hl2 hl3 hl4 hl6
  obtain ⟨ni, hni⟩ : ∃ ni, (inL a0v a1Lo a1Hi).length = ni := ⟨_, rfl⟩
  obtain ⟨nm, hnm⟩ : ∃ nm, (mvP a0v a1Lo a1Hi a2).length = nm := ⟨_, rfl⟩
  obtain ⟨nv, hnv⟩ : ∃ nv, (mvL a0v a1Lo a1Hi a2).length = nv := ⟨_, rfl⟩
  obtain ⟨no, hno⟩ : ∃ no, (outL a0v a1Lo a1Hi).length = no := ⟨_, rfl⟩
  rw [hni] at hl5 hl6 hmt hdt
  rw [hnm] at hl1
  rw [hnv] at hl3
  rw [hno] at hl4
  have NI := Lib.hid hni; have NM := Lib.hid hnm; have NV := Lib.hid hnv; have NO := Lib.hid hno
  have ND := Lib.hid hl5
  have HML := Lib.hid hml; have HMT := Lib.hid hmt; have HDL := Lib.hid hdl; have HDT := Lib.hid hdt
  have HU := Lib.hid (show 0 ≤ a1Lo ∧ a1Lo ≤ a1Hi ∧ a1Hi + a2 ≤ 18446744073709551615 ∧ a2 ≠ 0 from ⟨a1Lol, by omega, by omega, hd0⟩)
  clear hlh hd0 hov hmo hmv hrg hde hml hmt hdl hdt pm pd am ad hni hnm hnv hno hl2 hl5
  go_enter Try.func7, Try.ntmps7
  go_wp2_with fail
  refine CA.out.mono ?_
  rintro r W0 ⟨rfl, b1⟩
  replace s0 := (b1.cell (p := ⟨w.heap.size, 0, none⟩) hsz).trans s0
  replace s1 := (b1.cell (p := ⟨w.heap.size, 1, none⟩) hsz).trans s1
  have hsz0 := Nat.lt_of_lt_of_le hsz b1.size
  replace b0 := bel_trans b0 b1
  have HR := Lib.hid (HR.out.below b1)
  clear b1 CA hsz
  go_wp2_with fail
  refine (Om.newC_any a0 a0n a0c a0v W0 HL.out (by omega) HR.out).mono ?_
  rintro r W1 hnew
  clear t0 t1 t2 t3
  unfold Om.NPost at hnew
  have hok := Om.new_ok (List.Perm.refl a0v) HA.out
  rw [if_pos hok.1, hok.2] at hnew
  obtain ⟨bm, vm, rfl, mm, hbm, hvm, b1⟩ := hnew
  have MM := Lib.hid mm
  clear hok mm
  have HR1 := Lib.hid (HR.out.below b1)
  go_wp2_with fail
  refine (Om.copyC_any bm vm a0v W1 MM.out (by rw [HL.out]; omega)).mono ?_
  rintro r W2 ⟨bc, vc, rfl, mc, hbc, hvc, b2⟩
  have ST := Lib.hid (show Om.Sta W0.heap.size W0 W2 bm vm a0v bc vc a0v from
    ⟨MM.out.below b2, mc, ⟨by have := MM.out.lt; omega, fun e => by have := MM.out.row_lt _ e; omega, fun e => by have := hvc _ e; have := MM.out.lt; omega, fun k hk hk2 => by have := MM.out.row_lt _ hk; have := hvc _ hk2; omega⟩, hbm, Nat.le_trans b1.size hbc, hvm, fun k hk => Nat.le_trans b1.size (hvc k hk), Nat.le_refl _, bel_trans b1 b2⟩)
  clear mc hbm hvm hbc hvc b1 b2 MM HR1
  go_wp2_with fail
  refine (Om.pairsC_any bm vm a0v W2 ST.out.m (by rw [HL.out]; omega)).mono ?_
  rintro r W3 ⟨v3, rfl, o3, b3⟩
  rw [HL.out] at o3
  obtain ⟨A3, C3, rfl, _, _, r3, _⟩ := prow_use o3
  have R3 := Lib.hid r3; clear r3 o3
  have ST := Lib.hid (ST.out.below b3)
  clear b3
  go_wp2_with fail
  refine (sameL_any A3 a0 a0n C3 a0n a0c a0v a0v W3 HL.out HL.out (by omega) (by omega) R3.out (HR.out.below ST.out.bel)).mono ?_
  simp only [decide_true]
  rintro r W4 ⟨rfl, b4⟩
  have ST := Lib.hid (ST.out.below b4)
  clear b4 R3
  have p0 := (ST.out.bel.cell (p := ⟨w.heap.size, 0, none⟩) hsz0).trans s0
  have p1 := (ST.out.bel.cell (p := ⟨w.heap.size, 1, none⟩) hsz0).trans s1
  go_wp2_with fail
  have CMo := Om.moC_any bm vm a0v a1Lo a1Hi a2 W4 ST.out.m HA.out (by rw [HL.out]; omega) HB.out a1Lol a1Loh a1Hil a1Hih a2l a2h
  rw [HML.out, HMT.out] at CMo
  refine CMo.mono ?_
  intro r W5 hop
  obtain ⟨vm2, rfl, st⟩ := ST.out.left hop
  have ST := Lib.hid st
  clear hop st CMo p0 p1
  have p0 := (ST.out.bel.cell (p := ⟨w.heap.size, 0, none⟩) hsz0).trans s0
  have p1 := (ST.out.bel.cell (p := ⟨w.heap.size, 1, none⟩) hsz0).trans s1
  go_wp2_with fail
  refine (CM W5 (HR.out.below ST.out.bel)).out.mono ?_
  rintro r W6 ⟨vl, rfl, ol, b6⟩
  rw [List.length_map, NM.out] at ol
  obtain ⟨LA, LC, rfl, ll, hlc, rl, lz⟩ := row_use ol
  have RL := Lib.hid rl; have ZL := Lib.hid lz; have LL := Lib.hid ll
  clear rl ol lz ll p0 p1
  have ST := Lib.hid (ST.out.below b6)
  clear b6
  go_wp2_with fail
  refine (chkP LA nm LC _ W6 LL.out (by omega) RL.out).mono ?_
  rw [CK.out]
  rintro r W7 ⟨rfl, b7⟩
  have ST := Lib.hid (ST.out.below b7)
  have RL := Lib.hid (RL.out.below b7)
  clear b7
  go_wp2_with fail
  refine (applyP a0 LA a0n a0c nm LC a0v _ W7 HL.out LL.out (by omega) (by omega) hlc ZL.out (HR.out.below ST.out.bel) RL.out).mono ?_
  rw [AM.out.1, AM.out.2]
  rintro r W8 ⟨va, rfl, oa, b8⟩
  rw [NV.out] at oa
  obtain ⟨AA, AC, rfl, _, _, ra, _⟩ := prow_use oa
  have RA := Lib.hid ra
  clear ra oa
  have ST := Lib.hid (ST.out.below b8)
  have RL := Lib.hid (RL.out.below b8)
  clear b8
  go_wp2_with fail
  refine (Om.pairsC_any bm vm2 _ W8 ST.out.m (by rw [NV.out]; omega)).mono ?_
  rintro r W9 ⟨v9, rfl, o9, b9⟩
  rw [NV.out] at o9
  obtain ⟨A9, C9, rfl, _, _, r9, _⟩ := prow_use o9
  have R9 := Lib.hid r9; clear r9 o9
  have ST := Lib.hid (ST.out.below b9)
  have RL := Lib.hid (RL.out.below b9)
  have RA := Lib.hid (RA.out.below b9)
  clear b9
  go_wp2_with fail
  refine (sameL_any AA A9 nv AC nv C9 _ _ W9 NV.out NV.out (by omega) (by omega) RA.out R9.out).mono ?_
  simp only [decide_true]
  rintro r W10 ⟨rfl, b10⟩
  have ST := Lib.hid (ST.out.below b10)
  have RL := Lib.hid (RL.out.below b10)
  clear b10 RA R9 AM CM CK HML HMT NV hl3
  have s0 := (ST.out.bel.cell (p := ⟨w.heap.size, 0, none⟩) hsz0).trans s0
  have s1 := (ST.out.bel.cell (p := ⟨w.heap.size, 1, none⟩) hsz0).trans s1
  have hsz10 := Nat.lt_of_lt_of_le hsz0 ST.out.bel.size
  have ST := Lib.hid ST.out.swap
  go_wp2
  go_loopw [14, 15] (fun mv i wr => ∃ j t : Nat, j ≤ nm ∧ t ≤ j ∧ i = .int .i64 j ∧ mv = .int .i64 t ∧ Hid ((((mvP a0v a1Lo a1Hi a2).take j).filter (fromB a1Lo a1Hi)).length = t) ∧ Below W10.heap.size W10 wr) (fun _ i _ => (nm - intOf i).toNat)
  case atStart => exact ⟨0, 0, Nat.zero_le _, Nat.le_refl _, rfl, rfl, Lib.hid rfl, Below.refl _ _⟩
  case round =>
    obtain ⟨j, t, hj, htj, rfl, rfl, HT, bel⟩ := hrel
    by_cases hlt : j < nm
    · obtain ⟨x, hx, hxm⟩ := cg_lt NM.out hlt
      obtain ⟨b, o, rfl, g0, g1, g2, g3, g4⟩ := (RL.out.below bel) j _ (raw_at hx)
      have u0 : decide ((j : Int) < nm) = true := decide_eq_true (by omega)
      have hji : (j : Int) < nm := by omega
      have HX := Lib.hid (AT.out x hxm)
      have HF := Lib.hid (from_take (lo := a1Lo) (hi := a1Hi) hx)
      have p0 := (bel.cell (p := ⟨w.heap.size, 0, none⟩) hsz10).trans s0
      have p1 := (bel.cell (p := ⟨w.heap.size, 1, none⟩) hsz10).trans s1
      clear hx hxm g2 g4
      have HXX := HX.out
      obtain ⟨xk, xb, xa⟩ := x
      obtain ⟨hb, hi_, hor⟩ := HXX
      simp only at hb hi_ hor
      simp only [rawC] at g0 g1 g3
      obtain ⟨hu1, hu2, hu3, hu4⟩ := HU.out
      have hk0 : 0 ≤ xk := by rcases hor with h | h <;> omega
      have hk1 : xk ≤ 18446744073709551615 := by rcases hor with h | h <;> omega
      have some_of : ∀ q : Option Int, q ≠ none → q.isSome = true := fun q h => Option.isSome_iff_ne_none.2 h
      have none_of : ∀ q : Option Int, q = none → q.isSome = false := fun q h => by rw [h]; rfl
      by_cases hin : a1Lo ≤ xk ∧ xk ≤ a1Hi ∧ getL a0v xk ≠ none
      · have hfrom : fromB a1Lo a1Hi ⟨xk, xb, xa⟩ = true := by
          simp only [fromB, Bool.and_eq_true, decide_eq_true_eq]
          exact ⟨by rw [hb]; exact some_of _ hin.2.2, hin.1, hin.2.1⟩
        have v1 : xb.isSome = true := by rw [hb]; exact some_of _ hin.2.2
        rw [v1] at g1
        have v2 : decide (a1Lo ≤ xk) = true := decide_eq_true hin.1
        have v3 : decide (xk ≤ a1Hi) = true := decide_eq_true hin.2.1
        by_cases hto : a1Lo ≤ xk - a2 ∧ xk - a2 ≤ a1Hi ∧ getL a0v (xk - a2) ≠ none
        · have v4 : xa.isSome = true := hi_.2 hto
          rw [v4] at g3
          have w1 : decide (a2 ≤ xk) = true := decide_eq_true (by omega)
          have w2 : decide (a1Lo ≤ xk - a2) = true := decide_eq_true hto.1
          have w3 : decide (xk - a2 ≤ a1Hi) = true := decide_eq_true hto.2.1
          have z1 : 0 ≤ xk - a2 := by omega
          have GS := Lib.hid (show (getL a0v (xk - a2)).isSome = true from some_of _ hto.2.2)
          obtain ⟨gv, hgv⟩ : ∃ gv, (getL a0v (xk - a2)).getD 0 = gv := ⟨_, rfl⟩
          have GV := Lib.hid hgv
          clear hgv
          have HN := Lib.hid (show (((mvP a0v a1Lo a1Hi a2).take (j + 1)).filter (fromB a1Lo a1Hi)).length = t + 1 from by rw [HF.out, HT.out, hfrom]; rfl)
          clear v1 v4 hin hto hi_ hor hb hfrom some_of none_of HX HF hu1 hu2 hu3 hu4
          go_wp2_with fail
          refine (Om.getC_any bc vc a0v (xk - a2) wr (ST.out.below bel).m HA.out (by rw [HL.out]; omega)).mono ?_
          unfold gT
          rw [GV.out, GS.out]
          rintro r X1 ⟨rfl, bx⟩
          replace p0 := (bx.cell (p := ⟨w.heap.size, 0, none⟩) (World.block_lt_of_cell? _ _ p0)).trans p0
          replace p1 := (bx.cell (p := ⟨w.heap.size, 1, none⟩) (World.block_lt_of_cell? _ _ p1)).trans p1
          replace g3 := (bx.cell (World.block_lt_of_cell? _ _ g3)).trans g3
          have belx := bel_trans bel bx
          clear bx bel
          go_wp2
          go_roundw
          case rel => exact ⟨j + 1, t + 1, by omega, by omega, by go_num, by go_num, HN, belx⟩
          case measure => simp [intOf]; omega
        · have v4 : xa.isSome = false := by
            cases h : xa.isSome with
            | false => rfl
            | true => exact absurd (hi_.1 h) hto
          rw [v4] at g3
          by_cases hd : a2 ≤ xk
          · have w1 : decide (a2 ≤ xk) = true := decide_eq_true hd
            have z1 : 0 ≤ xk - a2 := by omega
            by_cases hg : getL a0v (xk - a2) = none
            · have w2 : True := trivial
              have GS := Lib.hid (show (getL a0v (xk - a2)).isSome = false from none_of _ hg)
              obtain ⟨gv, hgv⟩ : ∃ gv, (getL a0v (xk - a2)).getD 0 = gv := ⟨_, rfl⟩
              have GV := Lib.hid hgv
              clear hgv
              have HN := Lib.hid (show (((mvP a0v a1Lo a1Hi a2).take (j + 1)).filter (fromB a1Lo a1Hi)).length = t + 1 from by rw [HF.out, HT.out, hfrom]; rfl)
              clear v1 v4 hin hto hi_ hor hb hfrom some_of none_of HX HF hd hg w2 hu1 hu2 hu3 hu4
              go_wp2_with fail
              refine (Om.getC_any bc vc a0v (xk - a2) wr (ST.out.below bel).m HA.out (by rw [HL.out]; omega)).mono ?_
              unfold gT
              rw [GV.out, GS.out]
              rintro r X1 ⟨rfl, bx⟩
              replace p0 := (bx.cell (p := ⟨w.heap.size, 0, none⟩) (World.block_lt_of_cell? _ _ p0)).trans p0
              replace p1 := (bx.cell (p := ⟨w.heap.size, 1, none⟩) (World.block_lt_of_cell? _ _ p1)).trans p1
              replace g3 := (bx.cell (World.block_lt_of_cell? _ _ g3)).trans g3
              have belx := bel_trans bel bx
              clear bx bel
              go_wp2
              go_roundw
              case rel => exact ⟨j + 1, t + 1, by omega, by omega, by go_num, by go_num, HN, belx⟩
              case measure => simp [intOf]; omega
            · have w2 : decide (a1Lo ≤ xk - a2) = false := decide_eq_false (fun h => hto ⟨h, by omega, hg⟩)
              have GS := Lib.hid (show (getL a0v (xk - a2)).isSome = true from some_of _ hg)
              obtain ⟨gv, hgv⟩ : ∃ gv, (getL a0v (xk - a2)).getD 0 = gv := ⟨_, rfl⟩
              have GV := Lib.hid hgv
              clear hgv
              have HN := Lib.hid (show (((mvP a0v a1Lo a1Hi a2).take (j + 1)).filter (fromB a1Lo a1Hi)).length = t + 1 from by rw [HF.out, HT.out, hfrom]; rfl)
              clear v1 v4 hin hto hi_ hor hb hfrom some_of none_of HX HF hd hg hu1 hu2 hu3 hu4
              go_wp2_with fail
              refine (Om.getC_any bc vc a0v (xk - a2) wr (ST.out.below bel).m HA.out (by rw [HL.out]; omega)).mono ?_
              unfold gT
              rw [GV.out, GS.out]
              rintro r X1 ⟨rfl, bx⟩
              replace p0 := (bx.cell (p := ⟨w.heap.size, 0, none⟩) (World.block_lt_of_cell? _ _ p0)).trans p0
              replace p1 := (bx.cell (p := ⟨w.heap.size, 1, none⟩) (World.block_lt_of_cell? _ _ p1)).trans p1
              replace g3 := (bx.cell (World.block_lt_of_cell? _ _ g3)).trans g3
              have belx := bel_trans bel bx
              clear bx bel
              go_wp2
              go_roundw
              case rel => exact ⟨j + 1, t + 1, by omega, by omega, by go_num, by go_num, HN, belx⟩
              case measure => simp [intOf]; omega
          · have w1 : decide (a2 ≤ xk) = false := decide_eq_false hd
            obtain ⟨kk, hkk⟩ : ∃ kk, IntKind.u64.wrap (xk - a2) = kk := ⟨_, rfl⟩
            by_cases hg : getL a0v kk = none
            · have w2 : True := trivial
              have GS := Lib.hid (show (getL a0v (kk)).isSome = false from none_of _ hg)
              obtain ⟨gv, hgv⟩ : ∃ gv, (getL a0v (kk)).getD 0 = gv := ⟨_, rfl⟩
              have GV := Lib.hid hgv
              clear hgv
              have HN := Lib.hid (show (((mvP a0v a1Lo a1Hi a2).take (j + 1)).filter (fromB a1Lo a1Hi)).length = t + 1 from by rw [HF.out, HT.out, hfrom]; rfl)
              clear v1 v4 hin hto hi_ hor hb hfrom some_of none_of HX HF hg w2 hu1 hu2 hu3 hu4
              go_wp2_with fail
              refine (Om.getC_any bc vc a0v (kk) wr (ST.out.below bel).m HA.out (by rw [HL.out]; omega)).mono ?_
              unfold gT
              rw [GV.out, GS.out]
              rintro r X1 ⟨rfl, bx⟩
              replace p0 := (bx.cell (p := ⟨w.heap.size, 0, none⟩) (World.block_lt_of_cell? _ _ p0)).trans p0
              replace p1 := (bx.cell (p := ⟨w.heap.size, 1, none⟩) (World.block_lt_of_cell? _ _ p1)).trans p1
              replace g3 := (bx.cell (World.block_lt_of_cell? _ _ g3)).trans g3
              have belx := bel_trans bel bx
              clear bx bel
              go_wp2
              go_roundw
              case rel => exact ⟨j + 1, t + 1, by omega, by omega, by go_num, by go_num, HN, belx⟩
              case measure => simp [intOf]; omega
            · have w2 : True := trivial
              have GS := Lib.hid (show (getL a0v (kk)).isSome = true from some_of _ hg)
              obtain ⟨gv, hgv⟩ : ∃ gv, (getL a0v (kk)).getD 0 = gv := ⟨_, rfl⟩
              have GV := Lib.hid hgv
              clear hgv
              have HN := Lib.hid (show (((mvP a0v a1Lo a1Hi a2).take (j + 1)).filter (fromB a1Lo a1Hi)).length = t + 1 from by rw [HF.out, HT.out, hfrom]; rfl)
              clear v1 v4 hin hto hi_ hor hb hfrom some_of none_of HX HF hg w2 hu1 hu2 hu3 hu4
              go_wp2_with fail
              refine (Om.getC_any bc vc a0v (kk) wr (ST.out.below bel).m HA.out (by rw [HL.out]; omega)).mono ?_
              unfold gT
              rw [GV.out, GS.out]
              rintro r X1 ⟨rfl, bx⟩
              replace p0 := (bx.cell (p := ⟨w.heap.size, 0, none⟩) (World.block_lt_of_cell? _ _ p0)).trans p0
              replace p1 := (bx.cell (p := ⟨w.heap.size, 1, none⟩) (World.block_lt_of_cell? _ _ p1)).trans p1
              replace g3 := (bx.cell (World.block_lt_of_cell? _ _ g3)).trans g3
              have belx := bel_trans bel bx
              clear bx bel
              go_wp2
              go_roundw
              case rel => exact ⟨j + 1, t + 1, by omega, by omega, by go_num, by go_num, HN, belx⟩
              case measure => simp [intOf]; omega
      · have hto : a1Lo ≤ xk - a2 ∧ xk - a2 ≤ a1Hi ∧ getL a0v (xk - a2) ≠ none := by
          rcases hor with h | h
          · exact absurd h hin
          · exact h
        have v4 : xa.isSome = true := hi_.2 hto
        rw [v4] at g3
        have w1 : decide (a2 ≤ xk) = true := decide_eq_true (by omega)
        have w2 : decide (a1Lo ≤ xk - a2) = true := decide_eq_true hto.1
        have w3 : decide (xk - a2 ≤ a1Hi) = true := decide_eq_true hto.2.1
        have z1 : 0 ≤ xk - a2 := by omega
        by_cases hg : getL a0v xk = none
        · have v1 : xb.isSome = false := by rw [hb]; exact none_of _ hg
          rw [v1] at g1
          have hfrom : fromB a1Lo a1Hi ⟨xk, xb, xa⟩ = false := by simp only [fromB, v1, Bool.false_and]
          have GS := Lib.hid (show (getL a0v (xk - a2)).isSome = true from some_of _ hto.2.2)
          obtain ⟨gv, hgv⟩ : ∃ gv, (getL a0v (xk - a2)).getD 0 = gv := ⟨_, rfl⟩
          have GV := Lib.hid hgv
          clear hgv
          have HN := Lib.hid (show (((mvP a0v a1Lo a1Hi a2).take (j + 1)).filter (fromB a1Lo a1Hi)).length = t from by rw [HF.out, HT.out, hfrom]; rfl)
          clear v1 v4 hin hto hi_ hor hb hfrom some_of none_of HX HF hg hu1 hu2 hu3 hu4
          go_wp2_with fail
          refine (Om.getC_any bc vc a0v (xk - a2) wr (ST.out.below bel).m HA.out (by rw [HL.out]; omega)).mono ?_
          unfold gT
          rw [GV.out, GS.out]
          rintro r X1 ⟨rfl, bx⟩
          replace p0 := (bx.cell (p := ⟨w.heap.size, 0, none⟩) (World.block_lt_of_cell? _ _ p0)).trans p0
          replace p1 := (bx.cell (p := ⟨w.heap.size, 1, none⟩) (World.block_lt_of_cell? _ _ p1)).trans p1
          replace g3 := (bx.cell (World.block_lt_of_cell? _ _ g3)).trans g3
          have belx := bel_trans bel bx
          clear bx bel
          go_wp2
          go_roundw
          case rel => exact ⟨j + 1, t, by omega, by omega, by go_num, rfl, HN, belx⟩
          case measure => simp [intOf]; omega
        · have v1 : xb.isSome = true := by rw [hb]; exact some_of _ hg
          rw [v1] at g1
          have v2 : decide (a1Lo ≤ xk) = true := decide_eq_true (by omega)
          have hnk : ¬ xk ≤ a1Hi := fun h => hin ⟨by omega, h, hg⟩
          have v3 : decide (xk ≤ a1Hi) = false := decide_eq_false hnk
          have hfrom : fromB a1Lo a1Hi ⟨xk, xb, xa⟩ = false := by
            simp only [fromB, v1, Bool.true_and, decide_eq_false_iff_not]
            exact fun h => hnk h.2
          have GS := Lib.hid (show (getL a0v (xk - a2)).isSome = true from some_of _ hto.2.2)
          obtain ⟨gv, hgv⟩ : ∃ gv, (getL a0v (xk - a2)).getD 0 = gv := ⟨_, rfl⟩
          have GV := Lib.hid hgv
          clear hgv
          have HN := Lib.hid (show (((mvP a0v a1Lo a1Hi a2).take (j + 1)).filter (fromB a1Lo a1Hi)).length = t from by rw [HF.out, HT.out, hfrom]; rfl)
          clear v1 v4 hin hto hi_ hor hb hfrom some_of none_of HX HF hg hnk hu1 hu2 hu3 hu4
          go_wp2_with fail
          refine (Om.getC_any bc vc a0v (xk - a2) wr (ST.out.below bel).m HA.out (by rw [HL.out]; omega)).mono ?_
          unfold gT
          rw [GV.out, GS.out]
          rintro r X1 ⟨rfl, bx⟩
          replace p0 := (bx.cell (p := ⟨w.heap.size, 0, none⟩) (World.block_lt_of_cell? _ _ p0)).trans p0
          replace p1 := (bx.cell (p := ⟨w.heap.size, 1, none⟩) (World.block_lt_of_cell? _ _ p1)).trans p1
          replace g3 := (bx.cell (World.block_lt_of_cell? _ _ g3)).trans g3
          have belx := bel_trans bel bx
          clear bx bel
          go_wp2
          go_roundw
          case rel => exact ⟨j + 1, t, by omega, by omega, by go_num, rfl, HN, belx⟩
          case measure => simp [intOf]; omega
    · obtain rfl : j = nm := by omega
      have u0 : decide ((j : Int) < j) = false := decide_eq_false (by omega)
      have hti : t = ni := by
        have h := HT.out
        rw [List.take_of_length_le (by rw [NM.out]; omega), FL.out, NI.out] at h
        exact h.symm
      subst hti
      have u1 : ((t : Int) == t) = true := by simp
      have ST := Lib.hid (ST.out.below bel)
      have p0 := (bel.cell (p := ⟨w.heap.size, 0, none⟩) hsz10).trans s0
      have p1 := (bel.cell (p := ⟨w.heap.size, 1, none⟩) hsz10).trans s1
      clear HT RL
      go_wp2_with fail
      refine (CD wr (HR.out.below ST.out.bel)).out.mono ?_
      rintro r W11 ⟨vd, rfl, od, b11⟩
      rw [List.length_map, ND.out] at od
      obtain ⟨DA, DC, rfl, ld, hdc, _, dz⟩ := row_use od
      have OD := Lib.hid od; have ZD := Lib.hid dz; have LD := Lib.hid ld
      clear od dz ld
      have hfr := (fun k hk => (OD.out.lt k hk).1)
      have bcl := ST.out.m.lt
      have vcl := ST.out.m.row_lt
      have ST := Lib.hid (ST.out.below b11)
      replace p0 := (b11.cell (p := ⟨w.heap.size, 0, none⟩) (Nat.lt_of_lt_of_le hsz10 bel.size)).trans p0
      replace p1 := (b11.cell (p := ⟨w.heap.size, 1, none⟩) (Nat.lt_of_lt_of_le hsz10 bel.size)).trans p1
      clear b11
      go_wp2_with fail
      have CDe := Om.deC_any bc vc a0v a1Lo a1Hi W11 ST.out.m HA.out (by rw [HL.out]; omega) HB.out a1Lol a1Loh a1Hil a1Hih
      rw [HDL.out, HDT.out] at CDe
      refine CDe.mono ?_
      intro r W12 hop
      have hch : Om.Chg bc vc W11 W12 := by obtain ⟨_, _, _, _, h⟩ := hop; exact h
      have OD12 := Lib.hid (row_keep5 OD.out fun k hk => hch.block k (OD.out.lt k hk).2 (fun e => by have := hfr k hk; omega) (fun e => by have := hfr k hk; have := vcl k e; omega))
      obtain ⟨vc2, rfl, st⟩ := ST.out.left hop
      have ST := Lib.hid st
      clear hop st CDe p0 p1 hch OD hfr
      obtain ⟨_, _, e2, _, _, rd2, _⟩ := row_use OD12.out
      injection e2 with ea eb ec
      subst ea ec
      have RD := Lib.hid rd2
      clear rd2 eb OD12
      go_wp2_with fail
      refine (applyP a0 DA a0n a0c t DC a0v _ W12 HL.out LD.out (by omega) (by omega) hdc ZD.out (HR.out.below ST.out.bel) RD.out).mono ?_
      rw [AD.out.1, AD.out.2]
      rintro r W13 ⟨vg, rfl, og, b13⟩
      rw [NO.out] at og
      obtain ⟨GA, GC, rfl, _, _, rg, _⟩ := prow_use og
      have RG := Lib.hid rg
      clear rg og
      have ST := Lib.hid (ST.out.below b13)
      clear b13
      go_wp2_with fail
      refine (Om.pairsC_any bc vc2 _ W13 ST.out.m (by rw [NO.out]; omega)).mono ?_
      rintro r W14 ⟨v14, rfl, o14, b14⟩
      rw [NO.out] at o14
      obtain ⟨A14, C14, rfl, _, _, r14, _⟩ := prow_use o14
      have R14 := Lib.hid r14; clear r14 o14
      have RG := Lib.hid (RG.out.below b14)
      have ST := Lib.hid (ST.out.below b14)
      clear b14
      go_wp2_with fail
      refine (sameL_any GA A14 no GC no C14 _ _ W14 NO.out NO.out (by omega) (by omega) RG.out R14.out).mono ?_
      simp only [decide_true]
      rintro r W15 ⟨rfl, b15⟩
      have ST := Lib.hid (ST.out.below b15)
      clear b15
      go_wp2_with fail
      refine (known_any _).mono ?_
      rintro r W16 ⟨rfl, b16⟩
      go_wp2
      go_ret
      exact ⟨rfl, bel_trans b0 (bel_trans ST.out.bel b16)⟩
end Wk
end Go.Proofs.Ytbdllakbkienoaa
