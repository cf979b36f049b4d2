/- MergeCounts (written by tools/mk7cnt.py): the walk. Conditions: those of the frame, and Tz. -/
import Derived.Test.YtoplhlhbdidncaaDoorMgC
import Derived.Deep.RegionLaw
namespace Go.Proofs.YtoplhlhbdidncaaDoor
open Go.RowKit Go.Sort
set_option linter.unusedVariables false
set_option linter.unusedSimpArgs false
namespace Wk
open Hq
open Om (bel_alloc Pr bel_trans flat below_drewN)
open Mg (popT Dd BdD1 MrAt Chg)
open Dm (flatI RdK cell_lt)
theorem mem_cnt (S : Nat) : (Dm.memL S 64).length = Mg.cnt (fun v => S.testBit v) 64 := by rw [Dm.memL_filter, List.length_map]; rfl
theorem after_z (M N : Mg.Mg) : M.after 0 N = N := by unfold Mg.Mg.after; rw [if_pos rfl]
theorem after_n {M N : Mg.Mg} {e : Int} (h : e ≠ 0) : M.after e N = M := by unfold Mg.Mg.after; rw [if_neg h]
theorem last_snoc {L : List Int} {x q : Int} (h : (L ++ [x]).getLast? = some q) : q = x := by
  rw [show (L ++ [x]).getLast? = some x by simp] at h
  exact (Option.some.inj h).symm
theorem off_err {M : Mg.Mg} {l : Int} {x : Pr} (h : M.err l = 8) : M.offE l x = 8 := by unfold Mg.Mg.offE; rw [if_pos (by omega)]; exact h
set_option maxRecDepth 100000 in
set_option maxHeartbeats 8000000 in
theorem walk_mergeCounts (a0 : Int) (a1 : Option Addr) (a1n a1c : Nat) (a1v : List Mg.Dd) (w : World) (a0l : 0 ≤ a0) (a0h : a0 ≤ 18446744073709551615) (a1e : a1v.length = a1n) (a1m : a1n ≤ maxLen) (a1r : Mg.RdD w a1 a1v) (a1b : Mg.BdD a1v) (a1z : a1 = none → a1c = 0) (hT : Dm.Tz w) :
    Calls Tryd.prog 7 #[.int .u64 a0, .slice a1 a1n a1c] w fun e w' => e = .returned (.bool true) ∧ Below w.heap.size w w' := by
  unfold maxLen at a1m
  obtain ⟨S, rfl⟩ : ∃ S : Nat, a0 = S := ⟨a0.toNat, by omega⟩
  have hS : S < 18446744073709551616 := by omega
  have HR := Lib.hid a1r; have HE := Lib.hid a1e; have HB := Lib.hid a1b
  have hw0 : 0 < w.heap.size := cell_lt (hT 0 (by decide))
  have T0 := Lib.hid hT
  clear a1r a1e a1b hT a1z
  by_cases hn : 120 < a1n
  · have t0 : decide (120 < (a1n : Int)) = true := decide_eq_true (by omega)
    have K := Lib.hid (known_any w T0.out)
    go_enter Tryd.func7, Tryd.ntmps7
    go_wp2_with fail
    refine K.out.mono ?_
    rintro r w1 ⟨rfl, bb⟩
    go_wp2_with fail
    go_ret
    exact ⟨rfl, bb⟩
  · have t0 : decide (120 < (a1n : Int)) = false := decide_eq_false (by omega)
    go_enter Tryd.func7, Tryd.ntmps7
    go_wp2_with fail
    refine (newS (Xl w.heap.size (.slice none 0 0)) S w hS (fun i h => by rcases h with h | h; exact h; cases h)).mono ?_
    rintro r w1 ⟨rfl, sm, bb⟩
    have RS := Lib.hid (show Rs w.heap.size w1 w.heap.size S 0 (Mg.Mg.new fun v => S.testBit v) [] (.slice none 0 0) from ⟨sm, World.ownsRow_nil _ _ _ _, Mg.Cn.new S, fun q hq => by cases hq⟩)
    have B1 := Lib.hid bb
    clear sm bb
    go_wp2_with fail
    refine (Dm.membersP_any S hS w1 (T0.out.below B1.out) (Nat.lt_of_lt_of_le hw0 B1.out.size)).mono ?_
    rw [mem_cnt]
    rintro r w2 ⟨⟨v, rfl, ho⟩, hb⟩
    obtain ⟨hmany, A', c', rfl, _⟩ := Dm.row_rd (n := Mg.cnt (fun v => S.testBit v) 64) (l := Dm.memL S 64) ho
    clear hmany ho
    have RS := Lib.hid (RS.out.below hb)
    have B2 := Lib.hid (bel_trans B1.out hb)
    clear hb B1
    generalize hmany : Mg.cnt (fun v => S.testBit v) 64 = many at *
    go_wp2_with fail
    go_loopw [7, 8, 9] (fun s7 s8 s9 wr => ∃ (i E : Nat) (M : Mg.Mg) (L : List Int) (v : Value), s7 = .int .i64 E ∧ s8 = v ∧ s9 = .int .i64 i ∧ i ≤ a1n ∧ E ≤ i ∧ L.length ≤ i ∧ Rs w.heap.size wr w.heap.size S E M L v ∧ Below w.heap.size w wr) (fun _ _ s _ => (120 - intOf s).toNat)
    case atStart => exact ⟨0, 0, _, [], _, rfl, rfl, rfl, Nat.zero_le _, Nat.le_refl _, Nat.le_refl _, RS.out, B2.out⟩
    case round =>
      clear RS B2
      obtain ⟨i, E, M, L, v, rfl, rfl, rfl, hi, hE, hL, rs, bb⟩ := hrel
      obtain ⟨_, LA, LC, rfl, _⟩ := rowU rs.row
      have RS := Lib.hid rs
      have BB := Lib.hid bb
      clear rs bb
      by_cases hlt : i < a1n
      · have t1 : decide ((i : Int) < (a1n : Int)) = true := decide_eq_true (by omega)
        obtain ⟨x, hx, hxm⟩ : ∃ x, a1v[i]? = some x ∧ x ∈ a1v := ⟨_, List.getElem?_eq_getElem (by have := HE.out; omega), List.getElem_mem _⟩
        obtain ⟨ab, ao, rfl, z0, z1, z2, z3⟩ := HR.out i x hx
        have hab : ab < w.heap.size := cell_lt z0
        have e0 := (BB.out.cell (p := ⟨ab, ao + i * 4, none⟩) hab).trans z0
        have Z1 := Lib.hid z1
        have Z2 := Lib.hid z2
        have Z3 := Lib.hid z3
        clear z0 z1 z2 z3
        have i0 : 0 ≤ (i : Int) := by omega
        have i1 : (i : Int) < (a1n : Int) := by omega
        have bx := HB.out x hxm
        have d1 := bx.d0
        have d2 := bx.d1
        have l0 := bx.l0
        have l1 := bx.l1
        have k0 := bx.k0
        have k1 := bx.k1
        clear bx
        by_cases c2 : x.d % 5 = 2
        · have u2 : (x.d % 5 == 2) = true := by simp [c2]
          clear c2
          have e1 := (BB.out.cell (p := ⟨ab, ao + i * 4 + 1, none⟩) hab).trans Z1.out
          by_cases he : M.err x.l = 0
          · have N1 := Mg.err_done he
            have N2 := off_err (x := (18446744073709551615, 0)) N1
            have CN := RS.out.cn.done RS.out.sm.inv he
            go_wp2_with fail
            refine (endS RS.out.sm x.l l0 l1).mono ?_
            rintro r w3 ⟨rfl, sm, kx⟩
            rw [he] at sm ⊢
            rw [after_z] at sm
            have RS := Lib.hid (RS.out.call sm kx CN (fun q hq => (RS.out.lk q hq).done x.l.toNat))
            have BB := Lib.hid (BB.out.trans (kx.below fun i hi => .inl hi))
            clear sm kx e0 e1 CN
            generalize M.done x.l.toNat = N at *
            have e1 := (BB.out.cell (p := ⟨ab, ao + i * 4 + 1, none⟩) hab).trans Z1.out
            go_wp2_with fail
            refine (endS RS.out.sm x.l l0 l1).mono ?_
            rintro r w4 ⟨rfl, sm, kx⟩
            rw [N1] at sm ⊢
            rw [after_n (by decide)] at sm
            have RS := Lib.hid (RS.out.call sm kx RS.out.cn RS.out.lk)
            have BB := Lib.hid (BB.out.trans (kx.below fun i hi => .inl hi))
            clear sm kx e1
            have e1 := (BB.out.cell (p := ⟨ab, ao + i * 4 + 1, none⟩) hab).trans Z1.out
            go_wp2_with fail
            refine (offerS RS.out.sm x.l (18446744073709551615, 0) l0 l1 (by decide) (by decide)).mono ?_
            rintro r w5 ⟨rfl, sm, kx⟩
            rw [N2] at sm ⊢
            rw [after_n (by decide)] at sm
            have RS := Lib.hid (RS.out.call sm kx RS.out.cn RS.out.lk)
            have BB := Lib.hid (BB.out.trans (kx.below fun i hi => .inl hi))
            clear sm kx e1 N1 N2 he
            have tot := RS.out.cn.total RS.out.sm.inv
            rw [hmany] at tot
            have b1 : (N).list.length ≤ 64 := Mg.list_len _
            have b2 : ((N).missN 64).length ≤ 64 := Mg.missN_len _ 64
            generalize hll : (N).list.length = ll at tot b1
            generalize hml : ((N).missN 64).length = ml at tot b2
            have tq : (((ll : Int) + (ml : Int) + ((E : Int) + 1)) != (many : Int)) = false := by simp; omega
            have HLL := Lib.hid hll
            have HML := Lib.hid hml
            clear tot hll hml
            go_wp2_with fail
            refine (listS RS.out.sm).mono ?_
            rintro r wa ⟨⟨A1, C1, rfl, _, _⟩, hb1⟩
            rw [HLL.out]
            have RS1 := Lib.hid (RS.out.below hb1)
            have BB1 := Lib.hid (BB.out.trans (hb1.mono BB.out.size))
            clear hb1
            go_wp2_with fail
            refine (missS RS1.out.sm (T0.out.belowN hw0 BB1.out)).mono ?_
            rintro r wb ⟨⟨A2, C2, rfl, _, _⟩, hb2⟩
            rw [HML.out]
            have RS2 := Lib.hid (RS1.out.below hb2)
            have BB2 := Lib.hid (BB1.out.trans (hb2.mono BB1.out.size))
            clear hb2 RS RS1 BB BB1
            go_wp2_with fail
            refine ⟨⟨i + 1, E + 1, _, L, _, by go_num, rfl, by go_num, by omega, by omega, by omega, RS2.out, BB2.out⟩, ?_⟩
            simp [intOf]; omega
          · have u9 : (M.err x.l == 0) = false := by simp [he]
            have CN := RS.out.cn
            go_wp2_with fail
            refine (endS RS.out.sm x.l l0 l1).mono ?_
            rintro r w3 ⟨rfl, sm, kx⟩
            rw [after_n he] at sm
            have RS := Lib.hid (RS.out.call sm kx CN RS.out.lk)
            have BB := Lib.hid (BB.out.trans (kx.below fun i hi => .inl hi))
            clear sm kx e0 e1 CN he
            have tot := RS.out.cn.total RS.out.sm.inv
            rw [hmany] at tot
            have b1 : (M).list.length ≤ 64 := Mg.list_len _
            have b2 : ((M).missN 64).length ≤ 64 := Mg.missN_len _ 64
            generalize hll : (M).list.length = ll at tot b1
            generalize hml : ((M).missN 64).length = ml at tot b2
            have tq : (((ll : Int) + (ml : Int) + (E : Int)) != (many : Int)) = false := by simp; omega
            have HLL := Lib.hid hll
            have HML := Lib.hid hml
            clear tot hll hml
            go_wp2_with fail
            refine (listS RS.out.sm).mono ?_
            rintro r wa ⟨⟨A1, C1, rfl, _, _⟩, hb1⟩
            rw [HLL.out]
            have RS1 := Lib.hid (RS.out.below hb1)
            have BB1 := Lib.hid (BB.out.trans (hb1.mono BB.out.size))
            clear hb1
            go_wp2_with fail
            refine (missS RS1.out.sm (T0.out.belowN hw0 BB1.out)).mono ?_
            rintro r wb ⟨⟨A2, C2, rfl, _, _⟩, hb2⟩
            rw [HML.out]
            have RS2 := Lib.hid (RS1.out.below hb2)
            have BB2 := Lib.hid (BB1.out.trans (hb2.mono BB1.out.size))
            clear hb2 RS RS1 BB BB1
            go_wp2_with fail
            refine ⟨⟨i + 1, E, _, L, _, by go_num, rfl, by go_num, by omega, by omega, by omega, RS2.out, BB2.out⟩, ?_⟩
            simp [intOf]; omega
        by_cases c3 : x.d % 5 = 3
        · have u2 : (x.d % 5 == 2) = false := by simp [c3]
          have u3 : (x.d % 5 == 3) = true := by simp [c3]
          clear c2 c3
          go_wp2_with fail
          refine (popS RS.out.sm).mono ?_
          rintro r w3 ⟨r, N, rfl, hp, sm, kx⟩
          have BB := Lib.hid (BB.out.trans (kx.below fun i hi => .inl hi))
          clear e0
          rcases hp with ⟨_, rfl, rfl⟩ | ⟨_, _, rfl, rfl⟩ | ⟨_, v, hv, rfl, rfl⟩
          · have RS := Lib.hid (RS.out.call sm kx RS.out.cn RS.out.lk)
            clear sm kx
            unfold popT
            go_wp2_with fail
            refine ⟨⟨i + 1, E, _, L, _, by go_num, rfl, by go_num, by omega, by omega, by omega, RS.out.below (bel_alloc (Below.refl _ _) _), bel_alloc BB.out _⟩, ?_⟩
            simp [intOf]; omega
          · have RS := Lib.hid (RS.out.call sm kx RS.out.cn RS.out.lk)
            clear sm kx
            unfold popT
            go_wp2_with fail
            refine ⟨⟨i + 1, E, _, L, _, by go_num, rfl, by go_num, by omega, by omega, by omega, RS.out.below (bel_alloc (Below.refl _ _) _), bel_alloc BB.out _⟩, ?_⟩
            simp [intOf]; omega
          · have HLK := Lib.hid (Mg.Lk.popped RS.out.sm.inv hv)
            have OLD := RS.out.lk
            have LE := Lib.hid (show ∀ q, L.getLast? = some q → q < (M.p v).1 from fun q hq => (OLD q hq).1 v hv.1 hv.2.1)
            have SM := Lib.hid sm
            have ROW := Lib.hid (Mg.own_keep RS.out.row fun g hg => kx.block g (.inr hg))
            have CN := Lib.hid (RS.out.cn.popped v)
            have U := RS.out.sm.u v hv.1
            clear sm kx OLD RS hv
            unfold popT
            generalize M.popped v = N at *
            generalize hpk : (M.p v).1 = pk at *
            generalize (M.p v).2 = pv at *
            clear hpk
            go_wp2_with fail
            have P0 : (w3.alloc (.cells #[.int .u64 pk, .int .u64 pv] 39)).cell? ⟨w3.heap.size, 0, none⟩ = some (.int .u64 pk) := by simp
            have BA : Below w3.heap.size w3 (w3.alloc (.cells #[.int .u64 pk, .int .u64 pv] 39)) := bel_alloc (Below.refl _ _) _
            have SM4 := Lib.hid (SM.out.below BA)
            have ROW4 := Lib.hid (Mg.own_keep ROW.out fun g hg => BA.block g (ROW.out.lt g hg).2)
            have BB4 := Lib.hid (BB.out.trans (BA.mono BB.out.size))
            clear BA SM ROW BB
            generalize w3.alloc (.cells #[.int .u64 pk, .int .u64 pv] 39) = W4 at *
            generalize w3.heap.size = pb at *
            by_cases h0 : L.length = 0
            · have g0 : decide ((0 : Int) < (L.length : Int)) = false := decide_eq_false (by omega)
              go_quiet (fail)
              have P5 : (W4.drewN nq).cell? ⟨pb, 0, none⟩ = some (.int .u64 pk) := P0
              have SM5 := Lib.hid (SM4.out.below (below_drewN (Below.refl _ W4) nq))
              have ROW5 : Hid ((W4.drewN nq).ownsRow w.heap.size 22 1 (.slice LA L.length LC) L.length (flatU L)) := ROW4
              have BB5 := Lib.hid (below_drewN BB4.out nq)
              clear P0 SM4 ROW4 BB4
              generalize W4.drewN nq = W5 at *
              go_wp2_with (at_builtin; refine app1L rfl (.tmp 115) (.tmp 118) rfl _ w.heap.size L.length _ L pk rfl rfl ROW5.out (by omega) BB5.out.size ?_; intro v' w6 ho hg hv)
              have SM6 := Sm.row (SM5.out.below (bel_alloc (Below.refl _ _) _)) hg hv (fun g e => (ho.lt g e).2)
              have RS := Lib.hid (show Rs w.heap.size w6 w.heap.size S E N (L ++ [pk]) v' from ⟨SM6, by rw [show (L ++ [pk]).length = L.length + 1 by simp]; exact ho, CN.out, fun q hq => by rw [last_snoc hq]; exact HLK.out⟩)
              have BB := Lib.hid ((bel_alloc BB5.out _).grown hg (Nat.le_trans BB5.out.size (by simp)) (fun k hk => (ROW5.out.lt k hk).1))
              have hLL : (L ++ [pk]).length ≤ i + 1 := by simp; omega
              generalize L ++ [pk] = L2 at *
              clear SM6 ho hg hv ROW5 SM5 BB5 P5
              have tot := RS.out.cn.total RS.out.sm.inv
              rw [hmany] at tot
              have b1 : (N).list.length ≤ 64 := Mg.list_len _
              have b2 : ((N).missN 64).length ≤ 64 := Mg.missN_len _ 64
              generalize hll : (N).list.length = ll at tot b1
              generalize hml : ((N).missN 64).length = ml at tot b2
              have tq : (((ll : Int) + (ml : Int) + (E : Int)) != (many : Int)) = false := by simp; omega
              have HLL := Lib.hid hll
              have HML := Lib.hid hml
              clear tot hll hml
              go_wp2_with fail
              refine (listS RS.out.sm).mono ?_
              rintro r wa ⟨⟨A1, C1, rfl, _, _⟩, hb1⟩
              rw [HLL.out]
              have RS1 := Lib.hid (RS.out.below hb1)
              have BB1 := Lib.hid (BB.out.trans (hb1.mono BB.out.size))
              clear hb1
              go_wp2_with fail
              refine (missS RS1.out.sm (T0.out.belowN hw0 BB1.out)).mono ?_
              rintro r wb ⟨⟨A2, C2, rfl, _, _⟩, hb2⟩
              rw [HML.out]
              have RS2 := Lib.hid (RS1.out.below hb2)
              have BB2 := Lib.hid (BB1.out.trans (hb2.mono BB1.out.size))
              clear hb2 RS RS1 BB BB1
              go_wp2_with fail
              refine ⟨⟨i + 1, E, _, L2, _, by go_num, rfl, by go_num, by omega, by omega, hLL, RS2.out, BB2.out⟩, ?_⟩
              simp [intOf]; omega
            · obtain ⟨k, hk⟩ : ∃ k, L.length = k + 1 := ⟨L.length - 1, by omega⟩
              obtain ⟨q, hq⟩ : ∃ q, L[k]? = some q := ⟨_, List.getElem?_eq_getElem (by omega)⟩
              have qlt := LE.out q (by rw [List.getLast?_eq_getElem?, hk]; exact hq)
              obtain ⟨_, A', c', ev, hrd⟩ := rowU ROW4.out
              injection ev with e1 e2 e3
              obtain ⟨g, eg, cq⟩ := hrd k q hq
              rw [← e1] at eg
              subst eg
              have g1 : decide (pk ≤ q) = false := decide_eq_false (by omega)
              have g0 : decide ((0 : Int) < ((k : Int) + 1)) = true := decide_eq_true (by omega)
              have g2 : (k : Int) < (k : Int) + 1 := by omega
              have hkb : k ≤ 120 := by omega
              rw [hk]
              clear e1 e2 e3 hrd hq qlt h0
              go_quiet (fail)
              have P5 : (W4.drewN nq).cell? ⟨pb, 0, none⟩ = some (.int .u64 pk) := P0
              have SM5 := Lib.hid (SM4.out.below (below_drewN (Below.refl _ W4) nq))
              have ROW5 : Hid ((W4.drewN nq).ownsRow w.heap.size 22 1 (.slice (some ⟨g, 0, none⟩) L.length LC) L.length (flatU L)) := ROW4
              have BB5 := Lib.hid (below_drewN BB4.out nq)
              clear P0 SM4 ROW4 BB4
              generalize W4.drewN nq = W5 at *
              rw [hk] at ROW5
              go_wp2_with (at_builtin; refine app1L rfl (.tmp 115) (.tmp 118) rfl _ w.heap.size (k + 1) _ L pk rfl rfl ROW5.out (by omega) BB5.out.size ?_; intro v' w6 ho hg hv)
              have SM6 := Sm.row (SM5.out.below (bel_alloc (Below.refl _ _) _)) hg hv (fun g e => (ho.lt g e).2)
              have RS := Lib.hid (show Rs w.heap.size w6 w.heap.size S E N (L ++ [pk]) v' from ⟨SM6, by rw [show (L ++ [pk]).length = (k + 1) + 1 by simp [hk]]; exact ho, CN.out, fun q hq => by rw [last_snoc hq]; exact HLK.out⟩)
              have BB := Lib.hid ((bel_alloc BB5.out _).grown hg (Nat.le_trans BB5.out.size (by simp)) (fun k hk => (ROW5.out.lt k hk).1))
              have hLL : (L ++ [pk]).length ≤ i + 1 := by simp; omega
              generalize L ++ [pk] = L2 at *
              clear SM6 ho hg hv ROW5 SM5 BB5 P5
              have tot := RS.out.cn.total RS.out.sm.inv
              rw [hmany] at tot
              have b1 : (N).list.length ≤ 64 := Mg.list_len _
              have b2 : ((N).missN 64).length ≤ 64 := Mg.missN_len _ 64
              generalize hll : (N).list.length = ll at tot b1
              generalize hml : ((N).missN 64).length = ml at tot b2
              have tq : (((ll : Int) + (ml : Int) + (E : Int)) != (many : Int)) = false := by simp; omega
              have HLL := Lib.hid hll
              have HML := Lib.hid hml
              clear tot hll hml
              go_wp2_with fail
              refine (listS RS.out.sm).mono ?_
              rintro r wa ⟨⟨A1, C1, rfl, _, _⟩, hb1⟩
              rw [HLL.out]
              have RS1 := Lib.hid (RS.out.below hb1)
              have BB1 := Lib.hid (BB.out.trans (hb1.mono BB.out.size))
              clear hb1
              go_wp2_with fail
              refine (missS RS1.out.sm (T0.out.belowN hw0 BB1.out)).mono ?_
              rintro r wb ⟨⟨A2, C2, rfl, _, _⟩, hb2⟩
              rw [HML.out]
              have RS2 := Lib.hid (RS1.out.below hb2)
              have BB2 := Lib.hid (BB1.out.trans (hb2.mono BB1.out.size))
              clear hb2 RS RS1 BB BB1
              go_wp2_with fail
              refine ⟨⟨i + 1, E, _, L2, _, by go_num, rfl, by go_num, by omega, by omega, hLL, RS2.out, BB2.out⟩, ?_⟩
              simp [intOf]; omega
        by_cases c4 : x.d % 5 = 4
        · have u2 : (x.d % 5 == 2) = false := by simp [c4]
          have u3 : (x.d % 5 == 3) = false := by simp [c4]
          have u4 : (x.d % 5 == 4) = true := by simp [c4]
          clear c2 c3 c4
          have e2 := (BB.out.cell (p := ⟨ab, ao + i * 4 + 2, none⟩) hab).trans Z2.out
          go_wp2_with fail
          refine (skipS RS.out.sm x.k).mono ?_
          rintro r w3 ⟨rfl, sm, kx⟩
          have RS := Lib.hid (RS.out.call sm kx (RS.out.cn.skipped x.k) (fun q hq => (RS.out.lk q hq).skipped x.k))
          have BB := Lib.hid (BB.out.trans (kx.below fun i hi => .inl hi))
          clear sm kx e0 e2
          generalize M.skipped x.k = N at *
          have tot := RS.out.cn.total RS.out.sm.inv
          rw [hmany] at tot
          have b1 : (N).list.length ≤ 64 := Mg.list_len _
          have b2 : ((N).missN 64).length ≤ 64 := Mg.missN_len _ 64
          generalize hll : (N).list.length = ll at tot b1
          generalize hml : ((N).missN 64).length = ml at tot b2
          have tq : (((ll : Int) + (ml : Int) + (E : Int)) != (many : Int)) = false := by simp; omega
          have HLL := Lib.hid hll
          have HML := Lib.hid hml
          clear tot hll hml
          go_wp2_with fail
          refine (listS RS.out.sm).mono ?_
          rintro r wa ⟨⟨A1, C1, rfl, _, _⟩, hb1⟩
          rw [HLL.out]
          have RS1 := Lib.hid (RS.out.below hb1)
          have BB1 := Lib.hid (BB.out.trans (hb1.mono BB.out.size))
          clear hb1
          go_wp2_with fail
          refine (missS RS1.out.sm (T0.out.belowN hw0 BB1.out)).mono ?_
          rintro r wb ⟨⟨A2, C2, rfl, _, _⟩, hb2⟩
          rw [HML.out]
          have RS2 := Lib.hid (RS1.out.below hb2)
          have BB2 := Lib.hid (BB1.out.trans (hb2.mono BB1.out.size))
          clear hb2 RS RS1 BB BB1
          go_wp2_with fail
          refine ⟨⟨i + 1, E, _, L, _, by go_num, rfl, by go_num, by omega, by omega, by omega, RS2.out, BB2.out⟩, ?_⟩
          simp [intOf]; omega
        · have u2 : (x.d % 5 == 2) = false := by simp [c2]
          have u3 : (x.d % 5 == 3) = false := by simp [c3]
          have u4 : (x.d % 5 == 4) = false := by simp [c4]
          clear c2 c3 c4
          have e1 := (BB.out.cell (p := ⟨ab, ao + i * 4 + 1, none⟩) hab).trans Z1.out
          have e2 := (BB.out.cell (p := ⟨ab, ao + i * 4 + 2, none⟩) hab).trans Z2.out
          have e3 := (BB.out.cell (p := ⟨ab, ao + i * 4 + 3, none⟩) hab).trans Z3.out
          have f1 : wr.drew.cell? ⟨ab, ao + i * 4 + 1, none⟩ = some (.int .i64 x.l) := e1
          have f2 : wr.drew.cell? ⟨ab, ao + i * 4 + 2, none⟩ = some (.int .u64 x.k) := e2
          have f3 : wr.drew.cell? ⟨ab, ao + i * 4 + 3, none⟩ = some (.int .u64 x.v) := e3
          have RSd := Lib.hid (RS.out.below (below_drewN (Below.refl _ wr) 1))
          have BBd := Lib.hid (below_drewN BB.out 1)
          clear RS BB
          go_wp2_with fail
          go_region_law ((go_simp; go_at_call 19; refine (offerS RSd.out.sm x.l (x.k, x.v) l0 l1 k0 k1).mono ?_; rintro r w3 ⟨rfl, sm, kx⟩; have RS := Lib.hid (RSd.out.call sm kx (RSd.out.cn.after fun h => RSd.out.cn.put _ _) (fun q hq => (RSd.out.lk q hq).after fun h => (RSd.out.lk q hq).put h)); have BB := Lib.hid (BBd.out.trans (kx.below fun i hi => .inl hi)); clear sm kx))
          all_goals
            clear f1 f2 f3 e0 e1 e2 e3 RSd BBd
            generalize M.after (M.offE x.l (x.k, x.v)) (M.put x.l.toNat (x.k, x.v)) = N at *
            generalize M.offE x.l (x.k, x.v) = er at *
            have tot := RS.out.cn.total RS.out.sm.inv
            rw [hmany] at tot
            have b1 : (N).list.length ≤ 64 := Mg.list_len _
            have b2 : ((N).missN 64).length ≤ 64 := Mg.missN_len _ 64
            generalize hll : (N).list.length = ll at tot b1
            generalize hml : ((N).missN 64).length = ml at tot b2
            have tq : (((ll : Int) + (ml : Int) + (E : Int)) != (many : Int)) = false := by simp; omega
            have HLL := Lib.hid hll
            have HML := Lib.hid hml
            clear tot hll hml
            go_wp2_with fail
            refine (listS RS.out.sm).mono ?_
            rintro r wa ⟨⟨A1, C1, rfl, _, _⟩, hb1⟩
            rw [HLL.out]
            have RS1 := Lib.hid (RS.out.below hb1)
            have BB1 := Lib.hid (BB.out.trans (hb1.mono BB.out.size))
            clear hb1
            go_wp2_with fail
            refine (missS RS1.out.sm (T0.out.belowN hw0 BB1.out)).mono ?_
            rintro r wb ⟨⟨A2, C2, rfl, _, _⟩, hb2⟩
            rw [HML.out]
            have RS2 := Lib.hid (RS1.out.below hb2)
            have BB2 := Lib.hid (BB1.out.trans (hb2.mono BB1.out.size))
            clear hb2 RS RS1 BB BB1
            go_wp2_with fail
            refine ⟨⟨i + 1, E, _, L, _, by go_num, rfl, by go_num, by omega, by omega, by omega, RS2.out, BB2.out⟩, ?_⟩
            simp [intOf]; omega
      · have t1 : decide ((i : Int) < (a1n : Int)) = false := decide_eq_false (by omega)
        have tot := RS.out.cn.total RS.out.sm.inv
        rw [hmany] at tot
        have b1 : M.list.length ≤ 64 := Mg.list_len _
        have b2 : (M.missN 64).length ≤ 64 := Mg.missN_len _ 64
        generalize hll : M.list.length = ll at tot b1
        generalize hml : (M.missN 64).length = ml at tot b2
        have tq : (((ll : Int) + (ml : Int) + (E : Int)) == (many : Int)) = true := by simp; omega
        have HLL := Lib.hid hll
        have HML := Lib.hid hml
        clear tot hll hml
        go_wp2_with fail
        refine (listS RS.out.sm).mono ?_
        rintro r wa ⟨⟨A1, C1, rfl, _, _⟩, hb1⟩
        rw [HLL.out]
        have RS1 := Lib.hid (RS.out.below hb1)
        have BB1 := Lib.hid (BB.out.trans (hb1.mono BB.out.size))
        clear hb1
        go_wp2_with fail
        refine (missS RS1.out.sm (T0.out.belowN hw0 BB1.out)).mono ?_
        rintro r wb ⟨⟨A2, C2, rfl, _, _⟩, hb2⟩
        rw [HML.out]
        have BB2 := Lib.hid (BB1.out.trans (hb2.mono BB1.out.size))
        clear hb2
        go_wp2_with fail
        refine (known_any _ (T0.out.belowN hw0 BB2.out)).mono ?_
        rintro r wc ⟨rfl, hb3⟩
        have BB3 := Lib.hid (BB2.out.trans (hb3.mono BB2.out.size))
        clear hb3
        go_wp2_with fail
        go_ret
        exact ⟨rfl, BB3.out⟩
end Wk
end Go.Proofs.YtoplhlhbdidncaaDoor
