/- The walk of SpanKeys (package leapfroglaw02), from the contracts. Conditions: the bounds of each argument's kind; what a list of ranges reads as. -/
import Derived.Test.YtmnoljnjnmcgpaaWkSp3
import Derived.Test.YtmnoljnjnmcgpaaSpanA
import Derived.StillTailTactics
import Derived.IntWalk
import Derived.Deep.RegionHeld3
import Derived.Deep.AppendLies
namespace Go.Proofs.Ytmnoljnjnmcgpaa
open Go.RowKit Go.Sort
set_option linter.unusedVariables false
set_option linter.unusedSimpArgs false
namespace Wk
open Sp
theorem in_norm {l : List Sp.Sp} (h : okB l = true) (k : Int) : inB (norm l) k = inB l k := by
  rw [Bool.eq_iff_iff, inB_iff, inB_iff]
  exact (norm_nrm ((okB_iff l).1 h)).2 k
theorem norm_ok {l : List Sp.Sp} (h : okB l = true) : okB (norm l) = true := (okB_iff _).2 (norm_nrm ((okB_iff l).1 h)).1.1
theorem norm_idem {l : List Sp.Sp} (h : okB l = true) : norm (norm l) = norm l :=
  (nrm_eq ((okB_iff _).1 (norm_ok h)) (norm_nrm ((okB_iff l).1 h)).1 fun k => Iff.rfl).symm
theorem norm_same {l ys : List Sp.Sp} (h : okB l = true) (hy : ∀ x, x ∈ ys ↔ x ∈ l) : okB ys = true ∧ norm ys = norm l := by
  have ok := (okB_iff l).1 h
  have oky : Ok ys := fun x hx => ok x ((hy x).1 hx)
  refine ⟨(okB_iff ys).2 oky, (nrm_eq oky (norm_nrm ok).1 fun k => ((norm_nrm ok).2 k).trans ?_).symm⟩
  unfold In
  constructor
  · rintro ⟨x, hx, r⟩; exact ⟨x, (hy x).2 hx, r⟩
  · rintro ⟨x, hx, r⟩; exact ⟨x, (hy x).1 hx, r⟩
/-- consecutive ranges of a normal form -/
theorem nrm_gap {N : List Sp.Sp} (h : Nrm N) {k : Nat} {x y : Sp.Sp} (hy : N[k]? = some y) (hx : N[k + 1]? = some x) : y.2 + 1 < x.1 := by
  have h2 := h.2
  rw [Asc, List.pairwise_iff_getElem] at h2
  obtain ⟨h3, e3⟩ := List.getElem?_eq_some_iff.1 hy
  obtain ⟨h4, e4⟩ := List.getElem?_eq_some_iff.1 hx
  have := h2 k (k + 1) h3 h4 (by omega)
  rw [e3, e4] at this
  exact this
/-- 'append(out, y, z)' onto a row of the call's own, in a region that draws -/
theorem step2 {ops : Array Oper} {o : Oper} {a : Act} {K : Act → World → Prop} {Q : Exit → Act → World → Prop} {E : Prop} (hgd : o.guard = none) (s x : Operand)
    (ho : o.op = .call { callee := .builtin .append, args := #[s, x], argTypes := #[37, 37] }) (W : World) (base n : Nat) (v : Value) (ys : List Sp.Sp) (y z : Sp.Sp)
    (hs : a.eval s = v) (hx : a.eval x = .slice (some ⟨W.heap.size, 0, none⟩) 2 2) (hown : W.ownsRow base 24 2 v n (flat ys)) (hn : n ≤ 2000) (hb : base ≤ W.heap.size)
    (h : ∀ v' w', w'.ownsRow base 24 2 v' (n + 2) (flat (ys ++ [y, z])) → Below base W w' → K (a.put o.dst v') w') :
    if Region.wanted o (yielded ops a.tmps) = true then Oper.wp Try.prog o a (W.alloc (.cells #[.int .u64 y.1, .int .u64 y.2, .int .u64 z.1, .int .u64 z.2] 24)).drew K Q else E := by
  obtain ⟨i0, hi, hz0, hz1, hz2⟩ := info_parts info
  refine step_append_lies _ hgd s x 37 ho base 24 i0 _ 2 16 Try.underlying37 hi hz0 hz1 hz2 rfl (by omega) v n (flat ys) hs ((hown.alloc _).drew) ⟨W.heap.size, 0, none⟩ 2 2 [.int .u64 y.1, .int .u64 y.2, .int .u64 z.1, .int .u64 z.2] hx rfl
    (World.news_of_block (cs := #[.int .u64 y.1, .int .u64 y.2, .int .u64 z.1, .int .u64 z.2]) (t := 24) (fr := (0, 0)) (heap_alloc_new W _)) ?_ (by omega) (by unfold maxLen; omega) (by omega) (by show base ≤ (W.alloc _).heap.size; simp; omega) _ rfl ?_
  · intro u hu
    simp at hu
    rcases hu with rfl | rfl | rfl | rfl <;> rfl
  · intro g cap w' h1 h2 _ _
    rw [show flat ys ++ [.int .u64 y.1, .int .u64 y.2, .int .u64 z.1, .int .u64 z.2] = flat (ys ++ [y, z]) by simp [flat, encV]] at h1
    refine h _ w' h1 ((below_drewN ((Below.refl _ _).alloc hb _) 1).grown h2 (by show base ≤ (W.alloc _).heap.size; simp; omega) fun k hk => ?_)
    exact (hown.lt k hk).1
set_option maxRecDepth 100000 in
set_option maxHeartbeats 8000000 in
theorem keys_go (a0 : Option Addr) (a0n a0c : Nat) (a0v : List Sp.Sp) (a1 : Int) (w : World) (a0e : a0v.length = a0n) (a0m : a0n ≤ maxLen) (a0r : Sp.Rd w a0 a0v) (a0b : Sp.Bd a0v) (a0z : a0 = none → a0c = 0) (a1l : 0 ≤ a1) (a1h : a1 ≤ 18446744073709551615) (hok : okB a0v = true) (hn : a0n ≤ 60) :
    Calls Try.prog 8 #[.slice a0 a0n a0c, .int .u64 a1] w fun e w' => e = .returned (.bool true) ∧ Below w.heap.size w w' := by
  have HR := Lib.hid a0r; clear a0r
  have HD := Lib.hid a0b; clear a0b
  have HN := Lib.hid a0e; clear a0e a0z
  have HX := Lib.hid a0m; clear a0m
  have HBAD := Lib.hid (show (!okB a0v || decide (60 < a0n)) = false by rw [hok]; simp; omega)
  have HC := Lib.hid (show caE a0v = 0 by rw [caE, hok]; rfl)
  have HI := Lib.hid (in_norm hok)
  have HID := Lib.hid (norm_idem hok)
  have HNO := Lib.hid (norm_ok hok)
  have HSAME := Lib.hid (fun ys : List Sp.Sp => norm_same (ys := ys) hok)
  have HNR := Lib.hid (norm_nrm ((okB_iff a0v).1 hok)).1
  have HNB := Lib.hid (norm_bd HD.out)
  have hlen := norm_len a0v
  have HO := Lib.hid hok; clear hok
  have hn' : (a0n : Int) ≤ 60 := by omega
  go_enter Try.func8, Try.ntmps8
  go_wp2_with fail
  refine (bad_any a0 a0n a0c a0v _ HN.out HX.out HR.out).mono ?_
  rw [HBAD.out]
  rintro r w1 ⟨rfl, b1⟩
  go_wp2_with fail
  refine (normalize_any a0 a0n a0c a0v w1 HN.out (by omega) (HR.out.below b1) HD.out).mono ?_
  rintro r w2 ⟨A2, c2, rfl, rd2, _, b2⟩
  rw [HC.out, nrm_ok HO.out]
  rw [nrm_ok HO.out] at rd2
  have B2 := bel_trans b1 b2
  have RD := Lib.hid rd2
  have hl1 : ((norm a0v).length : Int) ≤ a0n := by have := HN.out; omega
  clear rd2 b1 b2 hlen
  generalize norm a0v = N at RD hl1 HI HID HNO HSAME HNR HNB ⊢
  have hdl : decide (a0n < N.length) = false := decide_eq_false (by omega)
  go_wp2
  clear hdl
  go_loopw [7] (fun i wr => ∃ k : Nat, k ≤ N.length ∧ i = .int .i64 k ∧ Below w2.heap.size w2 wr) (fun i _ => N.length - (intOf i).toNat)
  case atStart => exact ⟨0, Nat.zero_le _, rfl, Below.refl _ _⟩
  case round =>
    obtain ⟨k, hk, rfl, bel⟩ := hrel
    by_cases hlt : k < N.length
    · obtain ⟨x, hx, hm⟩ := getElem?_lt rfl hlt
      obtain ⟨d0, d1, d2, d3⟩ := HNB.out x hm
      have hxv := HNR.out.1 x hm
      have HX := Lib.hid hx; clear hx hm
      obtain ⟨b, o, rfl, c0, c1⟩ := (RD.out.below bel) k x HX.out
      have g1 : decide (x.2 < x.1) = false := decide_eq_false (by omega)
      cases k with
      | zero =>
        rw [show ((0 : Nat) : Int) = 0 from rfl]
        simp only [Nat.zero_mul, Nat.add_zero] at c0 c1
        go_wp2
        go_quiet (fail)
        go_wp2
        go_roundw
        case rel => exact ⟨1, by omega, by go_num, below_drewN bel _⟩
        case measure => simp [intOf]; omega
      | succ p =>
        obtain ⟨y, hy, hym⟩ := getElem?_lt (l := N) (k := p) rfl (by omega)
        obtain ⟨q0, q1, q2, q3⟩ := HNB.out y hym
        have hgap := nrm_gap HNR.out hy HX.out
        have HY := Lib.hid hy; clear hy hym
        obtain ⟨b', o', e', e0, e1⟩ := (RD.out.below bel) p y HY.out
        cases e'
        have hpn : (p : Int) < N.length := by omega
        have hp0 : (0 : Int) ≤ p := by omega
        have hpn1 : (p : Int) + 1 < N.length := by omega
        have g2 : (y.2 == 18446744073709551615) = false := by rw [beq_eq_false_iff_ne]; omega
        have g3 : decide (x.1 ≤ y.2 + 1) = false := decide_eq_false (by omega)
        have hW : IntKind.i64.wrap (p : Int) = p := IntWalk.i64_in _ (by omega)
        have hU : IntKind.u64.wrap (y.2 + 1) = y.2 + 1 := by rw [IntKind.wrap_u64]; omega
        go_wp2
        go_quiet (fail)
        go_wp2
        go_roundw
        case rel => exact ⟨p + 1 + 1, by omega, by go_num, below_drewN bel _⟩
        case measure => simp [intOf]; omega
    · obtain ⟨w3, rfl⟩ : ∃ w3 : World, w3 = wr := ⟨_, rfl⟩
      have B3 := bel_trans B2 bel
      have RD3 := Lib.hid (RD.out.below bel)
      clear RD B2 bel
      go_wp2
      clear hlt hk
      go_loopw [8] (fun i wr => ∃ k : Nat, k ≤ a0n ∧ i = .int .i64 k ∧ Below w3.heap.size w3 wr) (fun i _ => a0n - (intOf i).toNat)
      case atStart => exact ⟨0, Nat.zero_le _, rfl, Below.refl _ _⟩
      case round =>
        obtain ⟨k, hk, rfl, bel⟩ := hrel
        obtain ⟨w4, rfl⟩ : ∃ w4 : World, w4 = wr := ⟨_, rfl⟩
        by_cases hlt : k < a0n
        · obtain ⟨x, hx, hm⟩ := getElem?_lt HN.out hlt
          obtain ⟨d0, d1, d2, d3⟩ := HD.out x hm
          have HX := Lib.hid hx; clear hx hm
          obtain ⟨b, o, rfl, c0, c1⟩ := (HR.out.below (bel_trans B3 bel)) k x HX.out
          go_wp2
          go_region_held3 (fun w' => w'.cell? ⟨b, o + k * 2, none⟩ = some (.int .u64 x.1) ∧ w'.cell? ⟨b, o + k * 2 + 1, none⟩ = some (.int .u64 x.2)) (go_keep) (fail)
          obtain ⟨w5, hw5⟩ : ∃ w5 : World, w5 = (w4.alloc (.cells #[.int .u64 x.1, .int .u64 (IntKind.u64.wrap (x.1 - 1)), .int .u64 x.2, .int .u64 (IntKind.u64.wrap (x.2 + 1))] 22)).drew := ⟨_, rfl⟩
          rw [← hw5]
          have bel5 : Below w3.heap.size w3 w5 := by rw [hw5]; exact below_drewN (bel.alloc bel.size _) 1
          have hcell : ∀ q, q < 4 → w5.cell? ⟨w4.heap.size, q, none⟩ = some (.int .u64 ([x.1, IntKind.u64.wrap (x.1 - 1), x.2, IntKind.u64.wrap (x.2 + 1)].getD q 0)) := by
            intro q hq
            rw [hw5]
            show (w4.alloc _).cell? _ = _
            rw [World.cell?_alloc_new]
            match q, hq with
            | 0, _ => rfl
            | 1, _ => rfl
            | 2, _ => rfl
            | 3, _ => rfl
          have HV := Lib.hid hcell
          have hg5 : w4.heap.size < w5.heap.size := by rw [hw5]; show _ < (w4.alloc _).heap.size; simp
          clear hw5 hcell bel c0 c1
          generalize [x.1, IntKind.u64.wrap (x.1 - 1), x.2, IntKind.u64.wrap (x.2 + 1)] = vs at HV
          generalize w4.heap.size = g at HV hg5 ⊢
          go_wp2
          go_loopw [108] (fun j wr => ∃ q : Nat, q ≤ 4 ∧ j = .int .i64 q ∧ Below w5.heap.size w5 wr) (fun j _ => 4 - (intOf j).toNat)
          case atStart => exact ⟨0, Nat.zero_le _, rfl, Below.refl _ _⟩
          case round =>
            obtain ⟨q, hq, rfl, bel6⟩ := hrel
            obtain ⟨w6, rfl⟩ : ∃ w6 : World, w6 = wr := ⟨_, rfl⟩
            have bel36 : Below w3.heap.size w3 w6 := bel5.trans (bel6.mono bel5.size)
            by_cases hq4 : q < 4
            · have hc := cb (HV.out q hq4) bel6
              generalize vs.getD q 0 = kk at hc
              go_wp2_with fail
              refine (in_any A2 N.length c2 kk N w6 rfl (by unfold maxLen; omega) (RD3.out.below bel36)).mono ?_
              rw [HI.out kk]
              rintro r w7 ⟨rfl, b7⟩
              go_wp2_with fail
              refine (in_any _ a0n a0c kk a0v w7 HN.out (by unfold maxLen; omega) (HR.out.below (bel_trans (bel_trans B3 bel36) b7))).mono ?_
              rintro r w8 ⟨rfl, b8⟩
              go_wp2
              go_roundw
              case rel => exact ⟨q + 1, by omega, by go_num, bel6.trans ((b7.mono bel6.size).trans (b8.mono (Nat.le_trans bel6.size b7.size)))⟩
              case measure => simp [intOf]; omega
            · go_wp2
              go_roundw
              case rel => exact ⟨k + 1, by omega, by go_num, bel36⟩
              case measure => simp [intOf]; omega
        · have B4 := bel_trans B3 bel
          have RD4 := Lib.hid (RD3.out.below bel)
          clear RD3 B3 bel
          obtain ⟨i0, hi, hz0, hz1, hz2⟩ := info_parts info
          go_wp2
          clear hlt hk
          go_loopw [11, 12] (fun v i wr => ∃ (k : Nat) (ys : List Sp.Sp), k ≤ a0n ∧ i = .int .i64 ((k : Int) - 1) ∧ wr.ownsRow w4.heap.size 24 2 v ys.length (flat ys) ∧ ys.length = 2 * (a0n - k) ∧ (∀ x, x ∈ ys → x ∈ a0v) ∧ (∀ j x, k ≤ j → a0v[j]? = some x → x ∈ ys) ∧ Below w4.heap.size w4 wr) (fun _ i _ => (intOf i + 1).toNat)
          case atStart =>
            exact ⟨a0n, [], Nat.le_refl _, rfl, World.ownsRow_nil _ _ _ _, by simp, by simp, fun j x hj hx => by have := (List.getElem?_eq_some_iff.1 hx).1; have := HN.out; omega, Below.refl _ _⟩
          case round =>
            obtain ⟨k, ys, hk, rfl, hown, hyl, hsub, hall, bel⟩ := hrel
            obtain ⟨w5, rfl⟩ : ∃ w5 : World, w5 = wr := ⟨_, rfl⟩
            have OW := Lib.hid hown; have HYL := Lib.hid hyl; have HSUB := Lib.hid hsub; have HALL := Lib.hid hall
            have hy2 : ys.length ≤ 2 * a0n := by omega
            clear hown hyl hsub hall
            cases k with
            | succ p =>
              obtain ⟨x, hx, hm⟩ := getElem?_lt (k := p) HN.out (by omega)
              obtain ⟨z, hz, hzm⟩ := getElem?_lt (k := 0) HN.out (by omega)
              have HX := Lib.hid hx; have HZ := Lib.hid hz; have HM := Lib.hid hm; have HZM := Lib.hid hzm
              clear hx hz hm hzm
              obtain ⟨b, o, rfl, c0, c1⟩ := (HR.out.below (bel_trans B4 bel)) p x HX.out
              obtain ⟨b', o', e', e0, e1⟩ := (HR.out.below (bel_trans B4 bel)) 0 z HZ.out
              cases e'
              simp only [Nat.zero_mul, Nat.add_zero] at e0 e1
              have hp0 : (0 : Int) ≤ p := by omega
              have hpn : (p : Int) < a0n := by omega
              have h0n : (0 : Int) < a0n := by omega
              have h0m : 0 < a0n := by omega
              rw [show (((p + 1 : Nat) : Int) - 1) = (p : Int) by omega]
              have l0 := World.block_lt_of_cell? _ _ c0
              obtain ⟨bw, ow, ew, cw0, _⟩ := HR.out p x HX.out
              cases ew
              have lb : b < w4.heap.size := Nat.lt_of_lt_of_le (World.block_lt_of_cell? w _ cw0) B4.size
              clear cw0 l0
              go_wp2
              go_region_held3 (fun w' => w'.cell? ⟨b, o + p * 2, none⟩ = some (.int .u64 x.1) ∧ w'.cell? ⟨b, o + p * 2 + 1, none⟩ = some (.int .u64 x.2) ∧ w'.cell? ⟨b, o, none⟩ = some (.int .u64 z.1) ∧ w'.cell? ⟨b, o + 1, none⟩ = some (.int .u64 z.2)) (first | exact ⟨m0, m1, m2, m3⟩ | go_keep)
                ((refine step2 (by rfl) (.tmp 127) (.tmp 135) (by rfl) w5 w4.heap.size ys.length _ ys x z (by rfl) (by rfl) OW.out (by omega) bel.size ?_; intro v' w6 own6 bel6; have m0 := (bel6.cell (p := ⟨b, o + p * 2, none⟩) lb).trans c0; have m1 := (bel6.cell (p := ⟨b, o + p * 2 + 1, none⟩) lb).trans c1; have m2 := (bel6.cell (p := ⟨b, o, none⟩) lb).trans e0; have m3 := (bel6.cell (p := ⟨b, o + 1, none⟩) lb).trans e1))
              go_wp2
              go_roundw
              case rel =>
                refine ⟨p, ys ++ [x, z], by omega, by go_num, by simpa using own6, ?_, ?_, ?_, bel.trans bel6⟩
                · have := HYL.out
                  simp only [List.length_append, List.length_cons, List.length_nil]
                  omega
                · intro u hu
                  rcases List.mem_append.1 hu with hu | hu
                  · exact HSUB.out u hu
                  · simp at hu
                    rcases hu with rfl | rfl
                    · exact HM.out
                    · exact HZM.out
                · intro j u hj hu
                  by_cases e : j = p
                  · subst e
                    have := HX.out
                    rw [hu] at this
                    injection this with this
                    subst this
                    simp
                  · exact List.mem_append.2 (.inl (HALL.out j u (by omega) hu))
              case measure => (simp [intOf]; try omega)
            | zero =>
              have hmem : ∀ u, u ∈ ys ↔ u ∈ a0v := fun u => by
                refine ⟨HSUB.out u, fun hu => ?_⟩
                obtain ⟨j, hj, e⟩ := List.mem_iff_getElem.1 hu
                exact HALL.out j u (by omega) (by rw [← e]; exact List.getElem?_eq_getElem hj)
              obtain ⟨oky, ney⟩ := HSAME.out ys hmem
              have bdy : Bd ys := fun u hu => HD.out u (HSUB.out u hu)
              have ow := OW.out
              obtain ⟨_, A7, c7, e7, hc7, rd7, _⟩ := row_form ow
              subst e7
              have HCY := Lib.hid (show caE ys = 0 by rw [caE, oky]; rfl)
              have HNY := Lib.hid (show nrm ys = N by rw [nrm_ok oky, ney])
              have HCN := Lib.hid (show caE N = 0 by rw [caE, HNO.out]; rfl)
              have HNN := Lib.hid (show nrm N = N by rw [nrm_ok HNO.out, HID.out])
              have B5 := bel_trans B4 bel
              have RD5 := Lib.hid (RD4.out.below bel)
              have hNm : N.length ≤ maxLen := by unfold maxLen; omega
              have hAm : a0n ≤ maxLen := by unfold maxLen; omega
              clear hmem oky ney ow hi hz0 hz1 hz2 bel
              rw [show (((0 : Nat) : Int) - 1) = -1 from rfl]
              go_wp2_with fail
              refine (normalize_any A7 ys.length c7 ys w5 rfl (by omega) rd7 bdy).mono ?_
              rintro r w6 ⟨A8, c8, rfl, rd8, _, b6⟩
              rw [HCY.out, HNY.out]
              rw [HNY.out] at rd8
              have B6 := bel_trans B5 b6
              go_wp2_with fail
              refine (normalize_any A2 N.length c2 N w6 rfl (by omega) (RD5.out.below b6) HNB.out).mono ?_
              rintro r w7 ⟨A9, c9, rfl, rd9, _, b7⟩
              rw [HCN.out, HNN.out]
              rw [HNN.out] at rd9
              have B7 := bel_trans B6 b7
              have b67 := bel_trans b6 b7
              go_wp2_with fail
              refine (same_any A8 A2 N.length N.length c8 c2 N N w7 rfl rfl hNm hNm (rd8.below b7) (RD5.out.below b67)).mono ?_
              rw [show sameB N N = true by simp [sameB]]
              rintro r w8 ⟨rfl, b8⟩
              have B8 := bel_trans B7 b8
              have b68 := bel_trans b67 b8
              go_wp2_with fail
              refine (same_any A9 A2 N.length N.length c9 c2 N N w8 rfl rfl hNm hNm (rd9.below b8) (RD5.out.below b68)).mono ?_
              rw [show sameB N N = true by simp [sameB]]
              rintro r w9 ⟨rfl, b9⟩
              have B9 := bel_trans B8 b9
              have b69 := bel_trans b68 b9
              go_wp2_with fail
              refine (in_any A2 N.length c2 a1 N w9 rfl hNm (RD5.out.below b69)).mono ?_
              rw [HI.out a1]
              rintro r w10 ⟨rfl, b10⟩
              have B10 := bel_trans B9 b10
              go_wp2_with fail
              refine (in_any a0 a0n a0c a1 a0v w10 HN.out hAm (HR.out.below B10)).mono ?_
              rintro r w11 ⟨rfl, b11⟩
              have B11 := bel_trans B10 b11
              go_wp2_with fail
              refine (known_any _).mono ?_
              rintro r w12 ⟨rfl, b12⟩
              go_wp2
              go_ret
              exact ⟨rfl, bel_trans B11 b12⟩
set_option maxRecDepth 100000 in
set_option maxHeartbeats 2000000 in
theorem walk_spanKeys (a0 : Option Addr) (a0n a0c : Nat) (a0v : List Sp.Sp) (a1 : Int) (w : World) (a0e : a0v.length = a0n) (a0m : a0n ≤ maxLen) (a0r : Sp.Rd w a0 a0v) (a0b : Sp.Bd a0v) (a0z : a0 = none → a0c = 0) (a1l : 0 ≤ a1) (a1h : a1 ≤ 18446744073709551615) :
    Calls Try.prog 8 #[.slice a0 a0n a0c, .int .u64 a1] w fun e w' => e = .returned (.bool true) ∧ Below w.heap.size w w' := by
  by_cases hbad : okB a0v = true ∧ a0n ≤ 60
  · exact keys_go a0 a0n a0c a0v a1 w a0e a0m a0r a0b a0z a1l a1h hbad.1 hbad.2
  · have HR := Lib.hid a0r; clear a0r a0b a0z
    have HN := Lib.hid a0e; clear a0e
    have HX := Lib.hid a0m; clear a0m
    have HBAD := Lib.hid (show (!okB a0v || decide (60 < a0n)) = true by
      cases h : okB a0v with
      | true => simp; have : ¬ a0n ≤ 60 := fun h2 => hbad ⟨h, h2⟩
                omega
      | false => rfl)
    clear hbad
    go_enter Try.func8, Try.ntmps8
    go_wp2_with fail
    refine (bad_any a0 a0n a0c a0v _ HN.out HX.out HR.out).mono ?_
    rw [HBAD.out]
    rintro r w1 ⟨rfl, b1⟩
    go_wp2_with fail
    refine (known_any _).mono ?_
    rintro r w2 ⟨rfl, b2⟩
    go_wp2
    go_ret
    exact ⟨rfl, bel_trans b1 b2⟩
end Wk
end Go.Proofs.Ytmnoljnjnmcgpaa
