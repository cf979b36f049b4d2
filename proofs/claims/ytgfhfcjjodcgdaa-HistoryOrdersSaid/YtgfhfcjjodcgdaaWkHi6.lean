/- HistoryOrders: the walk. Conditions: those of the arguments' kinds. Written by tools/mk12w6.py. -/
import Derived.Test.YtgfhfcjjodcgdaaHiWm
namespace Go.Proofs.Ytgfhfcjjodcgdaa
open Go.RowKit Go.Shelf Go.Sort
set_option linter.unusedVariables false
set_option linter.unusedSimpArgs false
namespace Wk
open Hi
set_option maxRecDepth 100000 in
set_option maxHeartbeats 4000000 in
theorem walk_historyOrders (a0 : Option Addr) (a0n a0c : Nat) (a0v : List Hi.C) (a1 : Option Addr) (a1n a1c : Nat) (a1v : List Int) (w : World) (a0e : a0v.length = a0n) (a0m : a0n ≤ maxLen) (a0r : Hi.RdV w a0 a0v) (a0b : Hi.BdV a0v) (a0z : a0 = none → a0c = 0) (a0y : a0n ≤ a0c ∧ a0c ≤ maxLen) (a1e : a1v.length = a1n) (a1m : a1n ≤ maxLen) (a1r : Hi.KI.Rd w a1 a1v) (a1b : Hi.BdI a1v) (a1z : a1 = none → a1c = 0) (a1y : a1n ≤ a1c ∧ a1c ≤ maxLen) :
    Calls Try.prog 9 #[.slice a0 a0n a0c, .slice a1 a1n a1c] w fun e w' => e = .returned (.bool true) ∧ Below w.heap.size w w' := by
  have RA := Lib.hid (show KC.Rd w a0 a0v from a0r)
  have RO := Lib.hid (show KI.Rd w a1 a1v from a1r)
  have FW := fun (W : World) (h : KC.Rd W a0 a0v) => Lib.hid (few_any a0 a0n a0c a0v W a0e a0m a0y.1 a0y.2 h a0z)
  have hF := few_len a0v
  have BF := Lib.hid (fewL_bd a0b)
  have B := Lib.hid (Below.refl w.heap.size w)
  obtain ⟨F, hFF⟩ : ∃ F, fewL a0v = F := ⟨_, rfl⟩
  rw [hFF] at FW hF BF
  obtain ⟨n, hn⟩ : ∃ n, F.length = n := ⟨_, rfl⟩
  have HN := Lib.hid hn
  rw [hn] at hF
  have hF3 : n ≤ 1000 := by omega
  have n1 : (n : Int) ≤ 1000 := by omega
  have HO := Lib.hid a1e
  obtain ⟨N, hN⟩ : ∃ N, N = min a1n 40 := ⟨_, rfl⟩
  unfold maxLen at a1m
  clear a0r a0b a0z a0y a0e a0m hFF hn a1r a1b a1z a1y a1e
  obtain ⟨cat, hcat⟩ : ∃ x, chkAt F = x := ⟨_, rfl⟩
  have HCA := Lib.hid hcat
  clear hcat
  obtain ⟨i0, hi, hz0, hz1, hz2⟩ := info_b
  have hi' := hi
  have hz0' := hz0
  have hz1' := hz1
  have hz2' := hz2
  clear hi' hz0' hz1' hz2'
  go_enter Try.func9, Try.ntmps9
  go_wp2_with fail
  refine ((FW _ RA.out).out).mono ?_
  rintro e w1 h1
  obtain ⟨A1, c1, rfl, rd1, zr1, b1⟩ := ro_use h1
  rw [HN.out]
  have RA_2 := Lib.hid (RA.out.below b1)
  clear RA
  have RO_3 := Lib.hid (RO.out.below b1)
  clear RO
  replace B := Lib.hid (bel_bel B.out b1)
  clear b1
  have RI := Lib.hid rd1
  clear rd1
  clear zr1
  clear RA_2
  obtain ⟨wm, hwm⟩ : ∃ wm : World, wm = w1 := ⟨_, rfl⟩
  rw [← hwm] at RI RO_3 B ⊢
  clear hwm
  go_upto_region 4 with (at_make; refine wpList_make_full _ rfl _ _ 57 rfl wm.heap.size 4 i0 (.bool false) 1 Try.underlying57 hi hz0 hz1 .i64 .i64 _ _ n rfl rfl rfl rfl (by rw [hz2]; omega) (by unfold maxLen; omega) (Nat.le_refl _) ?_; intro w1 hown hgrow)
  rw [madeB_flat] at hown
  have bw1 : Below wm.heap.size wm w1 := (Below.refl _ wm).grown hgrow (Nat.le_refl _) fun g h => by cases h
  have OW1 := Lib.hid (show Rb w1 wm.heap.size n (fun a : Nat => decide ((a : Int) ∈ ordK n a1v 0)) from by
    rw [show (fun a : Nat => decide ((a : Int) ∈ ordK n a1v 0)) = fun _ => false from by funext a; simp [ordK_zero]]
    exact hown)
  have hs1 : wm.heap.size < w1.heap.size := OW1.out.lt
  have BW1 := Lib.hid bw1
  clear hown hgrow bw1
  have HI0 := Lib.hid hi
  have HZ0 := Lib.hid hz0
  clear hi hz0
  go_wp2_with fail
  go_loopw [6, 8] (fun v i wr => ∃ (k : Nat) (A' : Option Addr) (c' : Nat), k ≤ N ∧ i = .int .i64 k ∧ v = .slice A' (ordK n a1v k).length c' ∧ wr.ownsRow w1.heap.size KI.E KI.sz v (ordK n a1v k).length (KI.flat (ordK n a1v k)) ∧ KI.Rd wr A' (ordK n a1v k) ∧ Rb wr wm.heap.size n (fun a : Nat => decide ((a : Int) ∈ ordK n a1v k)) ∧ Below wm.heap.size wm wr ∧ w1.heap.size ≤ wr.heap.size) (fun v i _ => N - (intOf i).toNat)
  case atStart => exact ⟨0, none, 0, Nat.zero_le _, rfl, rfl, KI.nil _ _, fun i x hi => by simp [ordK_zero] at hi, OW1.out, BW1.out, Nat.le_refl _⟩
  case round =>
    clear OW1 BW1
    obtain ⟨k, A', c', hk, rfl, rfl, ow, rd, rb, bel, hsr⟩ := hrel
    obtain ⟨wq, rfl⟩ : ∃ wq : World, wq = wr := ⟨_, rfl⟩
    have OW := Lib.hid ow
    have RD := Lib.hid rd
    have RB := Lib.hid rb
    have BE := Lib.hid bel
    have HDI := Lib.hid (ordK_dist n a1v k)
    have HXN := Lib.hid (fun h => ordK_next (n := n) (l := a1v) (k := k) h)
    have hLk := ordK_len n a1v k
    clear ow rd rb bel
    go_upto_region 5 with fail
    go_cut [29] from 22 to 29 (fun u wx => u = .bool (decide (k < N)) ∧ wx = wq)
    case first =>
      by_cases h1 : k < a1n
      · have d1 : decide ((k : Int) < a1n) = true := decide_eq_true (by omega)
        have d1n : decide (k < a1n) = true := decide_eq_true (by omega)
        by_cases h2 : k < 40
        · have d2 : decide ((k : Int) < 40) = true := decide_eq_true (by omega)
          have d3 : decide (k < N) = true := decide_eq_true (by omega)
          clear h1 h2
          go_wp2_with fail
          go_meet
          exact ⟨by rw [d3], rfl⟩
        · have d2 : decide ((k : Int) < 40) = false := decide_eq_false (by omega)
          have d3 : decide (k < N) = false := decide_eq_false (by omega)
          clear h1 h2
          go_wp2_with fail
          go_meet
          exact ⟨by rw [d3], rfl⟩
      · have d1 : decide ((k : Int) < a1n) = false := decide_eq_false (by omega)
        have d1n : decide (k < a1n) = false := decide_eq_false (by omega)
        have d3 : decide (k < N) = false := decide_eq_false (by omega)
        clear h1
        go_wp2_with fail
        go_meet
        exact ⟨by rw [d3], rfl⟩
    case rest =>
      obtain ⟨rfl, rfl⟩ := hcut
      by_cases hkN : k < N
      · rw [decide_eq_true hkN]
        have hka : k < a1n := by omega
        have k1 : (k : Int) < a1n := by omega
        have hkl : k < a1v.length := by rw [HO.out]; exact hka
        have hnx := HXN.out hkl
        obtain ⟨b, o, rfl, cx⟩ := KI.at_ (RO_3.out.below BE.out) hkl
        obtain ⟨L, hL⟩ : ∃ L, ordK n a1v k = L := ⟨_, rfl⟩
        obtain ⟨L', hL'⟩ : ∃ L', ordK n a1v (k + 1) = L' := ⟨_, rfl⟩
        rw [hL] at OW RD RB hnx hLk ⊢
        obtain ⟨x, hx⟩ : ∃ x, a1v.getD k 0 = x := ⟨_, rfl⟩
        rw [hx] at cx hnx
        rw [hL'] at hnx
        have HL' := Lib.hid hL'
        clear hL hx hL' HXN HDI
        obtain ⟨q, hq⟩ : ∃ q, L.length = q := ⟨_, rfl⟩
        have HQ := Lib.hid hq
        rw [hq] at OW hLk ⊢
        clear hq
        by_cases hx0 : x < 0
        · have e0 : decide (x ≥ 0) = false := decide_eq_false (by omega)
          have hE : L' = L := by rw [hnx, if_neg (by omega)]
          have HE := Lib.hid hE
          clear hnx hx0 hE
          go_wp2_with fail
          go_roundw
          case rel => exact ⟨k + 1, A', c', by omega, by go_num, by rw [HL'.out, HE.out, HQ.out], by rw [HL'.out, HE.out, HQ.out]; exact OW.out, by rw [HL'.out, HE.out]; exact RD.out, by rw [HL'.out, HE.out]; exact RB.out, BE.out, hsr⟩
          case measure => simp [intOf]; omega
        · have e0 : decide (x ≥ 0) = true := decide_eq_true (by omega)
          by_cases hxn : x < n
          · have e1 : decide (x < n) = true := decide_eq_true hxn
            obtain ⟨y, rfl⟩ : ∃ y : Nat, x = y := ⟨x.toNat, by omega⟩
            have hyn : y < n := by omega
            have y1 : (y : Int) < n := hxn
            have e2 : decide ((y : Int) < n) = true := decide_eq_true hxn
            have e3 : decide (y < n) = true := decide_eq_true hyn
            obtain ⟨k0, f0⟩ := RB.out.cell hyn
            have HNX := Lib.hid hnx
            clear hnx hxn hx0
            cases hp : decide ((y : Int) ∈ L) with
            | true =>
              rw [hp] at k0
              have HE := Lib.hid (show L' = L by rw [HNX.out, if_neg]; rintro ⟨_, h⟩; exact h (of_decide_eq_true hp))
              clear hp
              go_wp2_with fail
              go_roundw
              case rel => exact ⟨k + 1, A', c', by omega, by go_num, by rw [HL'.out, HE.out, HQ.out], by rw [HL'.out, HE.out, HQ.out]; exact OW.out, by rw [HL'.out, HE.out]; exact RD.out, by rw [HL'.out, HE.out]; exact RB.out, BE.out, hsr⟩
              case measure => simp [intOf]; omega
            | false =>
              rw [hp] at k0
              have HE := Lib.hid (show L' = L ++ [(y : Int)] by rw [HNX.out, if_pos ⟨⟨by omega, by omega⟩, of_decide_eq_false hp⟩])
              obtain ⟨ws, hws⟩ : ∃ ws : World, wc.setCell ⟨wm.heap.size, y, none⟩ (.bool true) = ws := ⟨_, rfl⟩
              have RS := Lib.hid (show Rb ws wm.heap.size n (fun a : Nat => decide ((a : Int) ∈ L')) from by
                rw [← hws, HE.out, show (fun a : Nat => decide ((a : Int) ∈ L ++ [(y : Int)])) = updB (fun a : Nat => decide ((a : Int) ∈ L)) y true from by
                  funext a
                  unfold updB
                  by_cases e : a = y
                  · subst e; simp
                  · rw [if_neg e]
                    apply decide_eq_decide.2
                    rw [List.mem_append, List.mem_singleton]
                    exact ⟨fun h => h.elim id fun h => absurd (by omega) e, .inl⟩]
                exact RB.out.set y true)
              have OS := Lib.hid (show ws.ownsRow w1.heap.size KI.E KI.sz (.slice A' q c') L.length (KI.flat L) from by
                rw [← hws, HQ.out]
                refine KI.own_keep OW.out fun g hg => Below.heap_setCell _ _ _ g ?_
                have := (World.ownsRow.lt OW.out g hg).1
                show g ≠ wm.heap.size
                omega)
              have BS := Lib.hid (show Below wm.heap.size wm ws from by rw [← hws]; exact BE.out.setCell (p := ⟨wm.heap.size, y, none⟩) (Nat.le_refl _) _)
              have hss : ws.heap.size = wc.heap.size := by rw [← hws]; simp
              have hss2 : w1.heap.size ≤ ws.heap.size := by omega
              have cxs : ws.cell? ⟨b, o + k, none⟩ = some (.int .i64 y) := by
                obtain ⟨b', o', eA, c2⟩ := KI.at_ (RO_3.out.below BS.out) hkl
                injection eA with eA
                injection eA with z1 z2 z3
                subst z1 z2
                have hx2 : a1v.getD k 0 = (y : Int) := by
                  obtain ⟨b', o', eA, c3⟩ := KI.at_ (RO_3.out.below BE.out) hkl
                  injection eA with eA
                  injection eA with z1 z2 z3
                  subst z1 z2
                  rw [cx] at c3
                  injection c3 with c3
                  injection c3 with _ c3
                  exact c3.symm
                rw [hx2] at c2
                exact c2
              clear hp HNX OW RB RD hss hsr
              go_upto_region 9 with fail
              try rw [hws]
              clear hws k0 f0 cx
              go_wp2_with (at_builtin; refine KI.app rfl (.tmp 62) (.tmp 67) rfl ws w1.heap.size _ L (y : Int) #[.int .i64 (y : Int)] rfl rfl rfl OS.out (by rw [HQ.out]; omega) hss2 ?_; intro v4 w4 h1 b4 _)
              obtain ⟨hl4, A4, c4, rfl, _, r4, _⟩ := KI.row h1
              have hs4 := b4.size
              have H1 := Lib.hid h1
              have R4 := Lib.hid r4
              have B4 := Lib.hid b4
              clear h1 r4 b4
              go_wp2_with fail
              go_roundw
              case rel => exact ⟨k + 1, A4, c4, by omega, by go_num, by rw [HL'.out, HE.out], by rw [HL'.out, HE.out]; exact H1.out, by rw [HL'.out, HE.out]; exact R4.out, by rw [HL'.out]; exact KB.own_keep RS.out fun g hg => B4.out.block g (by
                have e : wm.heap.size = g := by simpa [Value.ownBlock] using hg
                omega), BS.out.trans (B4.out.mono (by omega)), by omega⟩
              case measure => simp [intOf]; omega
          · have e1 : decide (x < n) = false := decide_eq_false hxn
            have hE : L' = L := by rw [hnx, if_neg (by omega)]
            have HE := Lib.hid hE
            clear hnx hx0 hE
            go_wp2_with fail
            go_roundw
            case rel => exact ⟨k + 1, A', c', by omega, by go_num, by rw [HL'.out, HE.out, HQ.out], by rw [HL'.out, HE.out, HQ.out]; exact OW.out, by rw [HL'.out, HE.out]; exact RD.out, by rw [HL'.out, HE.out]; exact RB.out, BE.out, hsr⟩
            case measure => simp [intOf]; omega
      · obtain rfl : k = N := by omega
        rw [decide_eq_false hkN]
        have BQ := Lib.hid (bel_bel B.out BE.out)
        have QI := Lib.hid (RI.out.below BE.out)
        obtain ⟨L, hL⟩ : ∃ L, ordK n a1v k = L := ⟨_, rfl⟩
        rw [hL] at RD HDI hLk ⊢
        obtain ⟨q, hq⟩ : ∃ q, L.length = q := ⟨_, rfl⟩
        have HQ := Lib.hid hq
        rw [hq] at hLk ⊢
        have hq1 : q ≤ 40 := by omega
        have HAG := Lib.hid (agV_dist (l := F) (o := L) (by rw [HN.out]; exact HDI.out))
        obtain ⟨er, her⟩ : ∃ er, erC F = er := ⟨_, rfl⟩
        have HER := Lib.hid her
        have bq1 : (er != er) = false := by simp
        obtain ⟨bA, hbA⟩ : ∃ bA, agB F L = bA := ⟨_, rfl⟩
        have HBA := Lib.hid hbA
        have bq2 : (bA == bA) = true := by simp
        clear hL hq her hbA OW RB HXN BE hkN
        have QO := Lib.hid RD.out
        clear RD
        go_wp2_with fail
        refine (Agrees_any A' q c' L HQ.out (by omega) A1 n c1 F HN.out hF3 _ QO.out QI.out BF.out).mono ?_
        rintro e w201 ⟨h201, b201⟩
        have QI_202 := Lib.hid (QI.out.below b201)
        clear QI
        have QO_203 := Lib.hid (QO.out.below b201)
        clear QO
        replace BQ := Lib.hid (bel_bel BQ.out b201)
        clear b201
        rw [HAG.out.2, HAG.out.1, HER.out, HBA.out] at h201
        subst h201
        go_wp2_with fail
        refine (check_use (check_any A1 n c1 F _ HN.out hF3 QI_202.out BF.out)).mono ?_
        rintro e w204 ⟨h204, b204⟩
        have QI_205 := Lib.hid (QI_202.out.below b204)
        clear QI_202
        have QO_206 := Lib.hid (QO_203.out.below b204)
        clear QO_203
        replace BQ := Lib.hid (bel_bel BQ.out b204)
        clear b204
        rw [HCA.out, HER.out] at h204
        subst h204
        by_cases hwf : WF F
        · have HE0 := Lib.hid (show er = 0 by rw [← HER.out]; exact erC_ok hwf)
          obtain rfl := HE0.out
          have hi := HI0.out
          have hz0 := HZ0.out
          clear HER bq1
          obtain ⟨wv, hwv⟩ : ∃ wv : World, wv = w204 := ⟨_, rfl⟩
          rw [← hwv] at QI_205 QO_206 BQ ⊢
          clear hwv
          go_upto_region 18 with (at_make; refine wpList_make_full _ rfl _ _ 57 rfl wv.heap.size 4 i0 (.bool false) 1 Try.underlying57 hi hz0 hz1 .i64 .i64 _ _ n rfl rfl rfl rfl (by rw [hz2]; omega) (by unfold maxLen; omega) (Nat.le_refl _) ?_; intro w2 hown hgrow)
          rw [madeB_flat] at hown
          have bw2 : Below wv.heap.size wv w2 := (Below.refl _ wv).grown hgrow (Nat.le_refl _) fun g h => by cases h
          have OW2 := Lib.hid (show Rb w2 wv.heap.size n (fun _ => false) from hown)
          have BW2 := Lib.hid bw2
          clear hown hgrow bw2 hi hz0 hz1 hz2
          go_wp2_with fail
          go_loopw [13, 15] (fun v i wr => ∃ t : Nat, t ≤ q ∧ i = .int .i64 t ∧ v = .bool (wantK F L t) ∧ Rb wr wv.heap.size n (inO L t) ∧ Below wv.heap.size wv wr) (fun v i _ => q - (intOf i).toNat)
          case atStart => exact ⟨0, Nat.zero_le _, rfl, rfl, by rw [inO_nil]; exact OW2.out, BW2.out⟩
          case round =>
            clear OW2 BW2
            obtain ⟨t, ht, rfl, rfl, rb, bel⟩ := hrel
            obtain ⟨wq, rfl⟩ : ∃ wq : World, wq = wr := ⟨_, rfl⟩
            have RB := Lib.hid rb
            have BE := Lib.hid bel
            clear rb bel
            by_cases htq : t < q
            · have d0 : decide ((t : Int) < q) = true := decide_eq_true (by omega)
              have t1 : (t : Int) < q := by omega
              have htl : t < L.length := by rw [HQ.out]; exact htq
              obtain ⟨b, o, rfl, cx⟩ := KI.at_ (QO_206.out.below BE.out) htl
              have hdi := HDI.out.2 (L.getD t 0) (by rw [List.getD_eq_getElem?_getD, List.getElem?_eq_getElem htl]; exact List.getElem_mem htl)
              obtain ⟨y, hy⟩ : ∃ y : Nat, L.getD t 0 = y := ⟨(L.getD t 0).toNat, by omega⟩
              have HNX := Lib.hid (inO_next (o := L) (k := t) htl y hy)
              rw [hy] at cx hdi
              have hyn : y < n := by omega
              have y1 : (y : Int) < n := by omega
              have HWN := Lib.hid (fun i => wantI_next F L t i)
              rw [hy, show ((y : Nat) : Int).toNat = y by omega] at HWN
              have HWA := Lib.hid (wantK_next F L t)
              rw [HN.out] at HWA
              obtain ⟨W1, hW1⟩ : ∃ W1, wantK F L t = W1 := ⟨_, rfl⟩
              rw [hW1] at HWA ⊢
              obtain ⟨f2, hf2⟩ : ∃ f2 : Nat → Bool, wantI F L t = f2 := ⟨_, rfl⟩
              rw [hf2] at HWA HWN
              have HW0 := Lib.hid (show f2 0 = true by rw [← hf2]; rfl)
              clear hW1 hf2 hdi hy
              go_wp2_with fail
              go_loopw [13, 16] (fun v j wr => ∃ i : Nat, i ≤ n ∧ j = .int .i64 i ∧ v = .bool (W1 && f2 i) ∧ Below wq.heap.size wq wr) (fun v j _ => n - (intOf j).toNat)
              case atStart => exact ⟨0, Nat.zero_le _, rfl, by rw [HW0.out, Bool.and_true], Below.refl _ _⟩
              case round =>
                obtain ⟨i, hin, rfl, rfl, bel⟩ := hrel
                obtain ⟨wz, rfl⟩ : ∃ wz : World, wz = wr := ⟨_, rfl⟩
                have BZ := Lib.hid bel
                have BY := Lib.hid (BE.out.trans (bel.mono BE.out.size))
                clear bel
                by_cases hi : i < n
                · have d1 : decide ((i : Int) < n) = true := decide_eq_true (by omega)
                  have i1 : (i : Int) < n := by omega
                  have hv := HWN.out i
                  obtain ⟨V, hV⟩ : ∃ V, (W1 && f2 (i + 1)) = V := ⟨_, rfl⟩
                  have HVV := Lib.hid hV
                  rw [hv, ← Bool.and_assoc] at hV
                  obtain ⟨Wc, hWc⟩ : ∃ Wc, (W1 && f2 i) = Wc := ⟨_, rfl⟩
                  rw [hWc] at hV ⊢
                  obtain ⟨k0, f0⟩ := (RB.out.below BZ.out).cell hi
                  obtain ⟨p, hp⟩ : ∃ p, decide ((i : Int) ∈ L.take t) = p := ⟨_, rfl⟩
                  rw [show inO L t i = p from hp] at k0
                  rw [hp] at hV
                  have HV := Lib.hid hV
                  have CB := fun W => before_any (F.getD i c0) (F.getD y c0) W
                  obtain ⟨g, hg⟩ : ∃ g, bfr (F.getD i c0) (F.getD y c0) = g := ⟨_, rfl⟩
                  rw [hg] at HV CB
                  obtain ⟨bf, of, rfl, ai⟩ := KC.at_ (QI_205.out.below BY.out) (show i < F.length by have := HN.out; omega)
                  obtain ⟨b2, o2, eA, ay⟩ := KC.at_ (QI_205.out.below BY.out) (show y < F.length by have := HN.out; omega)
                  injection eA with eA
                  injection eA with q1 q2 q3
                  subst q1 q2
                  clear q3
                  have AI := Lib.hid ai
                  have AY := Lib.hid ay
                  have cz : wz.cell? ⟨b, o + t, none⟩ = some (.int .i64 y) := (BZ.out.cell (p := ⟨b, o + t, none⟩) (cell_lt cx)).trans cx
                  obtain ⟨x, hx⟩ : ∃ x, F.getD i c0 = x := ⟨_, rfl⟩
                  obtain ⟨z, hz⟩ : ∃ z, F.getD y c0 = z := ⟨_, rfl⟩
                  rw [hx] at AI CB
                  rw [hz] at AY CB
                  clear hx hz ai ay hg hp hWc hv hV cx
                  go_wp2_with fail
                  cases Wc with
                  | false =>
                    have HV2 := Lib.hid (show (W1 && f2 (i + 1)) = false by rw [HVV.out, ← HV.out]; rfl)
                    go_quiet (fail)
                    go_wp2_with fail
                    go_roundw
                    case rel => exact ⟨i + 1, by omega, by go_num, by rw [HV2.out], bel_drawN BZ.out _⟩
                    case measure => simp [intOf]; omega
                  | true =>
                    cases p with
                    | true =>
                      have HV2 := Lib.hid (show (W1 && f2 (i + 1)) = true by rw [HVV.out, ← HV.out]; simp)
                      go_quiet (fail)
                      go_wp2_with fail
                      go_roundw
                      case rel => exact ⟨i + 1, by omega, by go_num, by rw [HV2.out], bel_drawN BZ.out _⟩
                      case measure => simp [intOf]; omega
                    | false =>
                      have HV2 := Lib.hid (show (W1 && f2 (i + 1)) = !g by rw [HVV.out, ← HV.out]; simp)
                      have ctR := fun d os => cell_regrown cz d os
                      have ckR := fun d os => cell_regrown k0 d os
                      refine wp_region_quiet_below (by kernel_rfl) (by kernel_rfl) ?_
                      repeat (first | (go_big_quiet_want; refine ldQ (.tmp 114) rfl bf (of + i * 18) rfl x (at_regrown AI.out) ?_; go_simp; go_big_quiet_on) | (go_big_quiet_want; refine ldQ (.tmp 121) rfl bf (of + y * 18) rfl z (at_regrown AY.out) ?_; go_simp; go_big_quiet_on) | quiet_step (first | (go_at_call 30; with_reducible exact Calls.regrown_of (CB _))))
                      refine wpQuiet_nil ?_
                      rintro w' ⟨q, rfl⟩
                      go_wp2
                      go_roundw
                      case rel => exact ⟨i + 1, by omega, by go_num, by rw [HV2.out], BZ.out.trans ((below_regrown _ _ _).mono BZ.out.size)⟩
                      case measure => simp [intOf]; omega
                · obtain rfl : i = n := by omega
                  have d1 : decide ((i : Int) < i) = false := by simp
                  obtain ⟨k0, f0⟩ := (RB.out.below BZ.out).cell hyn
                  have RN := Lib.hid ((RB.out.below BZ.out).set y true)
                  rw [HNX.out] at RN
                  have cz : wz.cell? ⟨b, o + t, none⟩ = some (.int .i64 y) := (BZ.out.cell (p := ⟨b, o + t, none⟩) (cell_lt cx)).trans cx
                  clear cx
                  go_wp2_with fail
                  go_roundw
                  case rel => exact ⟨t + 1, by omega, by go_num, by rw [HWA.out], RN.out, BY.out.setCell (p := ⟨wv.heap.size, y, none⟩) (Nat.le_refl _) _⟩
                  case measure => simp [intOf]; omega
            · obtain rfl : t = q := by omega
              have d0 : decide ((t : Int) < t) = false := by simp
              have hwa : wantK F L t = bA := by rw [← HBA.out, ← want_all, HQ.out]
              rw [hwa]
              have BX := Lib.hid (bel_bel BQ.out BE.out)
              clear hwa
              go_wp2_with fail
              refine (awake_any _).mono ?_
              rintro e w9 ⟨rfl, b9⟩
              go_wp2
              go_ret
              exact ⟨rfl, bel_bel BX.out b9⟩
        · have HE0 := Lib.hid (show er = 15 by rw [← HER.out]; exact erC_no hwf)
          obtain rfl := HE0.out
          go_wp2_with fail
          refine (awake_any _).mono ?_
          rintro e w9 ⟨rfl, b9⟩
          go_wp2
          go_ret
          exact ⟨rfl, bel_bel BQ.out b9⟩
end Wk
end Go.Proofs.Ytgfhfcjjodcgdaa
