/- leapfrogref11: Open, Inside: contracts of the translated code. Conditions: those of each lemma. -/
import Derived.Test.YtbnchajkfceaoaaEvS
namespace Go.Proofs.Ytbnchajkfceaoaa
open Go.RowKit Go.Sort
set_option linter.unusedVariables false
set_option linter.unusedSimpArgs false
namespace Ev
theorem chk_mem {l : List E} (h : chk l = none) (k : Int) : ∀ x ∈ ivs k l, 0 ≤ x.a ∧ -1 ≤ x.b ∧ 0 ≤ x.t ∧ x.t < 64 := ivs_mem (WF_mem (chk_none.1 h))
theorem openB_yes {st : Int} {x : I} (h1 : x.a ≤ st) (h2 : x.b = -1 ∨ st < x.b) : openB st x = true := by simp [openB]; omega
theorem openB_no1 {st : Int} {x : I} (h1 : ¬ x.a ≤ st) : openB st x = false := by simp [openB]; omega
theorem openB_no2 {st : Int} {x : I} (h1 : x.b ≠ -1) (h2 : ¬ st < x.b) : openB st x = false := by simp [openB]; omega
theorem row_rd {α : Type} (K : Kd α) {w : World} {base : Nat} {v : Value} {l : List α} (h : w.ownsRow base K.E K.sz v l.length (K.flat l)) : ∃ A c, v = .slice A l.length c ∧ K.Rd w A l ∧ (∀ a, A = some a → base ≤ a.block ∧ a.block < w.heap.size) := by
  obtain ⟨_, A, c, e, _, h1, _, h2⟩ := K.row h
  exact ⟨A, c, e, h1, h2⟩
set_option maxRecDepth 100000 in
set_option maxHeartbeats 1000000 in
theorem openR_any (st : Int) (A : Option Addr) (n c : Nat) (l : List E) (w : World) (hl : l.length = n) (hx : n ≤ 1000) (hr : KE.Rd w A l) :
    Calls Try.prog 21 #[.int .i64 st, .slice A n c] w (RwPost KS (erS st l) (opL st l) w) := by
  have CC := Lib.hid (sectionsR_any A n c l w hl hx hr)
  have hsl : (ivs 1 l).length ≤ 1000 := by have := ivs_len 1 l; omega
  clear hl hr
  by_cases hok : chk l = none
  · have hmem := chk_mem hok 1
    rw [erC_ok hok, secL_ok hok] at CC
    obtain ⟨s, hs⟩ : ∃ s, ivs 1 l = s := ⟨_, rfl⟩
    rw [hs] at CC hmem hsl
    have HM := Lib.hid hmem
    clear hmem
    by_cases hst : st < -1
    · have HP := Lib.hid (show ∀ w', Below w.heap.size w w' → RwPost KS (erS st l) (opL st l) w (.returned (.tuple #[.slice none 0 0, .int .i64 3])) w' from fun w' h2 => ⟨_, by rw [erS_low hok hst], by rw [opL_no (by rw [erS_low hok hst]; decide)]; exact KS.nil _ _, h2⟩)
      have d1 := decide_eq_true hst
      clear hok hst hs
      go_enter Try.func21, Try.ntmps21
      go_wp2_with fail
      refine CC.out.mono ?_
      rintro e w0 ⟨v, rfl, ow0, b0⟩
      go_wp2
      go_ret2
      exact HP.out _ b0
    · have HP := Lib.hid (show ∀ v w', w'.ownsRow w.heap.size KS.E KS.sz v (opn st s).length (KS.flat (opn st s)) → Below w.heap.size w w' → RwPost KS (erS st l) (opL st l) w (.returned (.tuple #[v, .int .i64 0])) w' from fun v w' h1 h2 => ⟨v, by rw [erS_ok hok (by omega)], by rw [opL_ok (erS_ok hok (by omega)), hs]; exact h1, h2⟩)
      have d1 := decide_eq_false hst
      clear hok hst hs
      go_enter Try.func21, Try.ntmps21
      go_wp2_with fail
      refine CC.out.mono ?_
      rintro e w0 ⟨v, rfl, ow0, b0⟩
      obtain ⟨A2, c2, rfl, hrd, hbl⟩ := row_rd KS ow0
      have HR := Lib.hid hrd
      clear CC ow0 hrd hbl
      go_wp2
      go_loopw [8, 9] (fun q i wr => ∃ (k : Nat), k ≤ s.length ∧ i = .int .i64 k ∧ wr.ownsRow w0.heap.size KS.E KS.sz q (opn st (s.take k)).length (KS.flat (opn st (s.take k))) ∧ Below w0.heap.size w0 wr) (fun q i _ => s.length - (intOf i).toNat)
      case atStart => exact ⟨0, Nat.zero_le _, rfl, KS.nil _ _, Below.refl _ _⟩
      case round =>
        obtain ⟨j, hj, rfl, ow, bel⟩ := hrel
        obtain ⟨wq, rfl⟩ : ∃ wq : World, wq = wr := ⟨_, rfl⟩
        by_cases hlt : j < s.length
        · have d0 : decide ((j : Int) < s.length) = true := decide_eq_true (by omega)
          have j1 : (j : Int) < s.length := by omega
          obtain ⟨b, o, rfl, c0, c1, c2, c3⟩ := KS.at_ (HR.out.below bel) hlt
          have hy := HM.out (s.getD j i0) (by rw [getD_getI hlt]; exact List.getElem_mem hlt)
          have HN := Lib.hid (show opn st (s.take (j + 1)) = _ by rw [take_get (d := i0) hlt, opn_snoc])
          have hlen := opn_len st (s.take j)
          rw [List.length_take] at hlen
          generalize s.getD j i0 = y at *
          obtain ⟨yt, yv, ya, yb⟩ := y
          simp only at c0 c1 c2 c3 hy
          obtain ⟨y0, y1, _, _⟩ := hy
          obtain ⟨L, hL⟩ : ∃ L, opn st (s.take j) = L := ⟨_, rfl⟩
          rw [hL] at ow HN hlen
          have OW := Lib.hid ow
          clear hL ow
          by_cases ht : ya ≤ st
          · have t0 := decide_eq_true ht
            by_cases hb : yb < 0
            · have t1 := decide_eq_true hb
              rw [openB_yes ht (.inl (by show yb = -1; omega)), if_pos rfl] at HN
              clear ht hb
              go_wp2_with (at_builtin; refine KS.app rfl (.tmp 47) (.tmp 49) rfl (wq.alloc (.cells #[.int .i64 yt, .int .u64 yv, .int .i64 ya, .int .i64 (-1)] 41)) w0.heap.size _ L ⟨yt, yv, ya, -1⟩ #[.int .i64 yt, .int .u64 yv, .int .i64 ya, .int .i64 (-1)] rfl rfl (by rw [World.size_alloc]; rfl) (KS.own_below OW.out (bel_alloc (Below.refl _ _) _)) (by omega) (by rw [World.size_alloc]; exact Nat.le_succ_of_le bel.size) ?_; intro v1 w1 h1 b1 _)
              go_roundw
              case rel => exact ⟨j + 1, by omega, by go_num, by rw [HN.out]; exact h1, (bel_alloc bel _).trans b1⟩
              case measure => simp [intOf]; omega
            · have t1 := decide_eq_false hb
              by_cases hc : st < yb
              · have t2 := decide_eq_true hc
                rw [openB_yes ht (.inr hc), if_pos rfl] at HN
                clear ht hb hc
                go_wp2_with (at_builtin; refine KS.app rfl (.tmp 47) (.tmp 49) rfl (wq.alloc (.cells #[.int .i64 yt, .int .u64 yv, .int .i64 ya, .int .i64 (-1)] 41)) w0.heap.size _ L ⟨yt, yv, ya, -1⟩ #[.int .i64 yt, .int .u64 yv, .int .i64 ya, .int .i64 (-1)] rfl rfl (by rw [World.size_alloc]; rfl) (KS.own_below OW.out (bel_alloc (Below.refl _ _) _)) (by omega) (by rw [World.size_alloc]; exact Nat.le_succ_of_le bel.size) ?_; intro v1 w1 h1 b1 _)
                go_roundw
                case rel => exact ⟨j + 1, by omega, by go_num, by rw [HN.out]; exact h1, (bel_alloc bel _).trans b1⟩
                case measure => simp [intOf]; omega
              · have t2 := decide_eq_false hc
                rw [openB_no2 (show yb ≠ -1 by omega) hc, if_neg (by decide)] at HN
                clear ht hb hc
                go_wp2
                go_roundw
                case rel => exact ⟨j + 1, by omega, by go_num, by rw [HN.out]; exact KS.own_below OW.out (bel_alloc (Below.refl _ _) _), bel_alloc bel _⟩
                case measure => simp [intOf]; omega
          · have t0 := decide_eq_false ht
            rw [openB_no1 ht, if_neg (by decide)] at HN
            clear ht
            go_wp2
            go_roundw
            case rel => exact ⟨j + 1, by omega, by go_num, by rw [HN.out]; exact KS.own_below OW.out (bel_alloc (Below.refl _ _) _), bel_alloc bel _⟩
            case measure => simp [intOf]; omega
        · obtain ⟨m, hm⟩ : ∃ m, s.length = m := ⟨_, rfl⟩
          have HT := Lib.hid (show s.take j = s from List.take_of_length_le (by omega))
          have d0 : decide ((j : Int) < (s.length : Int)) = false := decide_eq_false (by omega)
          have OW := Lib.hid ow
          have z0 := b0.size
          clear ow hm
          go_wp2
          go_ret2
          exact HP.out _ _ (by have h := OW.out; rw [HT.out] at h; exact row_base h z0) (b0.trans (bel.mono z0))
  · have HP := Lib.hid (show ∀ w', Below w.heap.size w w' → RwPost KS (erS st l) (opL st l) w (.returned (.tuple #[.slice none 0 0, .int .i64 15])) w' from fun w' h2 => ⟨_, by rw [erS_no hok], by rw [opL_no (by rw [erS_no hok]; decide)]; exact KS.nil _ _, h2⟩)
    rw [erC_no hok, secL_no hok] at CC
    clear hok
    go_enter Try.func21, Try.ntmps21
    go_wp2_with fail
    refine CC.out.mono ?_
    rintro e w0 ⟨v, rfl, ow0, b0⟩
    go_wp2
    go_ret2
    exact HP.out _ b0
/-- what Inside returns -/
def insV (t st : Int) (l : List E) : Value :=
  if chk l = none then if t < 0 ∨ 64 ≤ t then .tuple #[.agg #[.int .i64 0, .int .u64 0, .int .i64 0, .int .i64 0], .bool false, .int .i64 2]
    else if st < -1 then .tuple #[.agg #[.int .i64 0, .int .u64 0, .int .i64 0, .int .i64 0], .bool false, .int .i64 3]
    else match ins t st l with
      | some x => .tuple #[.agg #[.int .i64 x.t, .int .u64 x.v, .int .i64 x.a, .int .i64 x.b], .bool true, .int .i64 0]
      | none => .tuple #[.agg #[.int .i64 0, .int .u64 0, .int .i64 0, .int .i64 0], .bool false, .int .i64 0]
  else .tuple #[.agg #[.int .i64 0, .int .u64 0, .int .i64 0, .int .i64 0], .bool false, .int .i64 15]
theorem insV_no {t st : Int} {l : List E} (h : ¬ chk l = none) : insV t st l = .tuple #[.agg #[.int .i64 0, .int .u64 0, .int .i64 0, .int .i64 0], .bool false, .int .i64 15] := by unfold insV; rw [if_neg h]
theorem insV_arg {t st : Int} {l : List E} (h : chk l = none) (h1 : t < 0 ∨ 64 ≤ t) : insV t st l = .tuple #[.agg #[.int .i64 0, .int .u64 0, .int .i64 0, .int .i64 0], .bool false, .int .i64 2] := by unfold insV; rw [if_pos h, if_pos h1]
theorem insV_low {t st : Int} {l : List E} (h : chk l = none) (h1 : ¬ (t < 0 ∨ 64 ≤ t)) (h2 : st < -1) : insV t st l = .tuple #[.agg #[.int .i64 0, .int .u64 0, .int .i64 0, .int .i64 0], .bool false, .int .i64 3] := by unfold insV; rw [if_pos h, if_neg h1, if_pos h2]
theorem insV_some {t st : Int} {l : List E} (h : chk l = none) (h1 : ¬ (t < 0 ∨ 64 ≤ t)) (h2 : ¬ st < -1) {x : I} (h3 : ins t st l = some x) : insV t st l = .tuple #[.agg #[.int .i64 x.t, .int .u64 x.v, .int .i64 x.a, .int .i64 x.b], .bool true, .int .i64 0] := by unfold insV; rw [if_pos h, if_neg h1, if_neg h2, h3]
theorem insV_none {t st : Int} {l : List E} (h : chk l = none) (h1 : ¬ (t < 0 ∨ 64 ≤ t)) (h2 : ¬ st < -1) (h3 : ins t st l = none) : insV t st l = .tuple #[.agg #[.int .i64 0, .int .u64 0, .int .i64 0, .int .i64 0], .bool false, .int .i64 0] := by unfold insV; rw [if_pos h, if_neg h1, if_neg h2, h3]
theorem find_hit {t : Int} {s : List I} {j : Nat} (hj : j < s.length) (h0 : ∀ i, i < j → (s.getD i i0).t ≠ t) (h1 : (s.getD j i0).t = t) : (s.find? fun x => decide (x.t = t)) = some (s.getD j i0) := by
  rw [List.find?_eq_some_iff_getElem]
  refine ⟨by simpa using h1, j, hj, by rw [getD_getI hj], fun i hi => ?_⟩
  have := h0 i hi
  rw [getD_getI (by omega)] at this
  simpa using this
theorem find_miss {t : Int} {s : List I} (h0 : ∀ i, i < s.length → (s.getD i i0).t ≠ t) : (s.find? fun x => decide (x.t = t)) = none := by
  rw [List.find?_eq_none]
  intro x hx
  obtain ⟨i, hi, rfl⟩ := List.getElem_of_mem hx
  have := h0 i hi
  rw [getD_getI hi] at this
  simpa using this
set_option maxRecDepth 100000 in
set_option maxHeartbeats 1000000 in
theorem insideR_any (t st : Int) (A : Option Addr) (n c : Nat) (l : List E) (w : World) (hl : l.length = n) (hx : n ≤ 1000) (hr : KE.Rd w A l) :
    Calls Try.prog 23 #[.int .i64 t, .int .i64 st, .slice A n c] w fun e w' => e = .returned (insV t st l) ∧ Below w.heap.size w w' := by
  obtain ⟨V, hV⟩ : ∃ V, insV t st l = V := ⟨_, rfl⟩
  have CC := fun (W : World) (h : KE.Rd W A l) => Lib.hid (checkR_any A n c l W hl (by unfold maxLen; omega) h)
  have CO := fun (W : World) (h : KE.Rd W A l) => Lib.hid (openR_any st A n c l W hl hx h)
  rw [hV]
  have HR := Lib.hid hr
  have HLn := Lib.hid (show l.length ≤ 1000 by omega)
  clear hl hr
  have b0 : Below w.heap.size w (w.alloc (.cells #[.int .i64 0, .int .u64 0, .int .i64 0, .int .i64 0] 41)) := bel_alloc (Below.refl _ _) _
  have BX := Lib.hid (Bs.new w i0)
  have B0 := Lib.hid b0
  have HR1 := Lib.hid (HR.out.below b0)
  have FIN := Lib.hid (fun (x : I) (W : World) (hb : Below w.heap.size w W) (hs : Bs W w.heap.size x) (y : I) => (⟨bel_set4 hb (Nat.le_refl _) (.int .i64 y.t) (.int .u64 y.v) (.int .i64 y.a) (.int .i64 y.b), (hs.set y).c⟩ : Below w.heap.size w ((((W.setCell ⟨w.heap.size, 0, none⟩ (.int .i64 y.t)).setCell ⟨w.heap.size, 1, none⟩ (.int .u64 y.v)).setCell ⟨w.heap.size, 2, none⟩ (.int .i64 y.a)).setCell ⟨w.heap.size, 3, none⟩ (.int .i64 y.b)) ∧ _))
  clear b0
  by_cases hok : chk l = none
  · rw [chkV_none hok] at CC
    by_cases ha : t < 0 ∨ 64 ≤ t
    · have HV := Lib.hid (hV.symm.trans (insV_arg (st := st) hok ha))
      clear hok hV CO
      rcases Classical.em (t < 0) with h1 | h1
      · have d1 := decide_eq_true h1
        clear h1 ha
        go_enter Try.func23, Try.ntmps23
        go_wp2_with fail
        refine (CC _ HR1.out).out.mono ?_
        rintro e w1 ⟨rfl, b1⟩
        have bs := BX.out.below b1 (by simp)
        obtain ⟨s0, s1, s2, s3⟩ := bs.c
        obtain ⟨f0, f1, f2, f3⟩ := bs.f
        have bw := B0.out.trans (b1.mono (by simp))
        go_wp2
        obtain ⟨hb, g0, g1, g2, g3⟩ := FIN.out i0 w1 bw bs i0
        simp only [i0] at hb g0 g1 g2 g3
        generalize (((w1.setCell ⟨w.heap.size, 0, none⟩ (.int .i64 0)).setCell ⟨w.heap.size, 1, none⟩ (.int .u64 0)).setCell ⟨w.heap.size, 2, none⟩ (.int .i64 0)).setCell ⟨w.heap.size, 3, none⟩ (.int .i64 0) = w9 at *
        exact bodyPost_ret (v := .tuple #[.agg #[.int .i64 0, .int .u64 0, .int .i64 0, .int .i64 0], .bool false, .int .i64 2]) (by simp [results, Try.results23, go_sem, g0, g1, g2, g3]) rfl ⟨by rw [HV.out], hb⟩
      · have d1 := decide_eq_false h1
        have d2 : decide (64 ≤ t) = true := decide_eq_true (by omega)
        clear h1 ha
        go_enter Try.func23, Try.ntmps23
        go_wp2_with fail
        refine (CC _ HR1.out).out.mono ?_
        rintro e w1 ⟨rfl, b1⟩
        have bs := BX.out.below b1 (by simp)
        obtain ⟨s0, s1, s2, s3⟩ := bs.c
        obtain ⟨f0, f1, f2, f3⟩ := bs.f
        have bw := B0.out.trans (b1.mono (by simp))
        go_wp2
        obtain ⟨hb, g0, g1, g2, g3⟩ := FIN.out i0 w1 bw bs i0
        simp only [i0] at hb g0 g1 g2 g3
        generalize (((w1.setCell ⟨w.heap.size, 0, none⟩ (.int .i64 0)).setCell ⟨w.heap.size, 1, none⟩ (.int .u64 0)).setCell ⟨w.heap.size, 2, none⟩ (.int .i64 0)).setCell ⟨w.heap.size, 3, none⟩ (.int .i64 0) = w9 at *
        exact bodyPost_ret (v := .tuple #[.agg #[.int .i64 0, .int .u64 0, .int .i64 0, .int .i64 0], .bool false, .int .i64 2]) (by simp [results, Try.results23, go_sem, g0, g1, g2, g3]) rfl ⟨by rw [HV.out], hb⟩
    · have d1 : decide (t < 0) = false := decide_eq_false (by omega)
      have d2 : decide (64 ≤ t) = false := decide_eq_false (by omega)
      by_cases hst : st < -1
      · have HV := Lib.hid (hV.symm.trans (insV_low hok ha hst))
        rw [erS_low hok hst] at CO
        clear hok hV ha hst
        go_enter Try.func23, Try.ntmps23
        go_wp2_with fail
        refine (CC _ HR1.out).out.mono ?_
        rintro e w1 ⟨rfl, b1⟩
        have bs := BX.out.below b1 (by simp)
        obtain ⟨s0, s1, s2, s3⟩ := bs.c
        obtain ⟨f0, f1, f2, f3⟩ := bs.f
        have bw := B0.out.trans (b1.mono (by simp))
        go_wp2_with fail
        refine (CO _ (HR1.out.below b1)).out.mono ?_
        rintro e w2 ⟨v, rfl, ow2, b2⟩
        have bs2 := bs.below b2 (by have := b1.size; simp at this; omega)
        have bw2 := bw.trans (b2.mono bw.size)
        clear bs bw s0 s1 s2 s3 f0 f1 f2 f3
        obtain ⟨s0, s1, s2, s3⟩ := bs2.c
        obtain ⟨f0, f1, f2, f3⟩ := bs2.f
        have bs := bs2
        have bw := bw2
        clear bs2 bw2
        go_wp2
        obtain ⟨hb, g0, g1, g2, g3⟩ := FIN.out i0 w2 bw bs i0
        simp only [i0] at hb g0 g1 g2 g3
        generalize (((w2.setCell ⟨w.heap.size, 0, none⟩ (.int .i64 0)).setCell ⟨w.heap.size, 1, none⟩ (.int .u64 0)).setCell ⟨w.heap.size, 2, none⟩ (.int .i64 0)).setCell ⟨w.heap.size, 3, none⟩ (.int .i64 0) = w9 at *
        exact bodyPost_ret (v := .tuple #[.agg #[.int .i64 0, .int .u64 0, .int .i64 0, .int .i64 0], .bool false, .int .i64 3]) (by simp [results, Try.results23, go_sem, g0, g1, g2, g3]) rfl ⟨by rw [HV.out], hb⟩
      · have HS := Lib.hid (fun x h => hV.symm.trans (insV_some (x := x) hok ha hst h))
        have HN := Lib.hid (fun h => hV.symm.trans (insV_none hok ha hst h))
        rw [erS_ok hok (by omega), opL_ok (erS_ok hok (by omega))] at CO
        have hsl : (opn st (ivs 1 l)).length ≤ 1000 := by have := ivs_len 1 l; have := opn_len st (ivs 1 l); have := HLn.out; omega
        unfold ins at HS HN
        obtain ⟨s, hs⟩ : ∃ s, opn st (ivs 1 l) = s := ⟨_, rfl⟩
        rw [hs] at CO HS HN hsl
        clear hok hV ha hst hs
        go_enter Try.func23, Try.ntmps23
        go_wp2_with fail
        refine (CC _ HR1.out).out.mono ?_
        rintro e w1 ⟨rfl, b1⟩
        have bs := BX.out.below b1 (by simp)
        obtain ⟨s0, s1, s2, s3⟩ := bs.c
        obtain ⟨f0, f1, f2, f3⟩ := bs.f
        have bw := B0.out.trans (b1.mono (by simp))
        go_wp2_with fail
        refine (CO _ (HR1.out.below b1)).out.mono ?_
        rintro e w2 ⟨v, rfl, ow2, b2⟩
        have bs2 := bs.below b2 (by have := b1.size; simp at this; omega)
        have bw2 := bw.trans (b2.mono bw.size)
        clear bs bw s0 s1 s2 s3 f0 f1 f2 f3
        obtain ⟨s0, s1, s2, s3⟩ := bs2.c
        obtain ⟨f0, f1, f2, f3⟩ := bs2.f
        have bs := bs2
        have bw := bw2
        clear bs2 bw2
        obtain ⟨A2, c2, rfl, hrd, _⟩ := row_rd KS ow2
        have RD := Lib.hid hrd
        have BS := Lib.hid bs
        have BW := Lib.hid bw
        clear ow2 hrd bs bw
        go_wp2
        go_loop [13] (fun i => ∃ k : Nat, k ≤ s.length ∧ i = .int .i64 k ∧ ∀ j, j < k → (s.getD j i0).t ≠ t) (fun i => s.length - (intOf i).toNat)
        case atStart => exact ⟨0, Nat.zero_le _, rfl, fun j hj => by omega⟩
        case round =>
          obtain ⟨j, hj, rfl, hno⟩ := hrel
          have HNO := Lib.hid hno
          clear hno
          by_cases hlt : j < s.length
          · have d0 : decide ((j : Int) < s.length) = true := decide_eq_true (by omega)
            have j1 : (j : Int) < s.length := by omega
            obtain ⟨b, o, rfl, c0, c1, c2, c3⟩ := KS.at_ RD.out hlt
            by_cases ht : (s.getD j i0).t = t
            · have HV := Lib.hid (HS.out _ (find_hit hlt HNO.out ht))
              have bs := BS.out
              have bw := BW.out
              generalize s.getD j i0 = y at *
              obtain ⟨yt, yv, ya, yb⟩ := y
              simp only at c0 c1 c2 c3 ht
              have t0 : (yt == t) = true := by simpa using ht
              clear ht HS HN
              go_wp2
              obtain ⟨hb, g0, g1, g2, g3⟩ := FIN.out i0 w2 bw bs ⟨yt, yv, ya, yb⟩
              simp only [i0] at hb g0 g1 g2 g3
              generalize (((w2.setCell ⟨w.heap.size, 0, none⟩ (.int .i64 yt)).setCell ⟨w.heap.size, 1, none⟩ (.int .u64 yv)).setCell ⟨w.heap.size, 2, none⟩ (.int .i64 ya)).setCell ⟨w.heap.size, 3, none⟩ (.int .i64 yb) = w9 at *
              exact bodyPost_ret (v := .tuple #[.agg #[.int .i64 yt, .int .u64 yv, .int .i64 ya, .int .i64 yb], .bool true, .int .i64 0]) (by simp [results, Try.results23, go_sem, g0, g1, g2, g3]) rfl ⟨by rw [HV.out], hb⟩
            · have HN2 := Lib.hid (show ∀ i, i < j + 1 → (s.getD i i0).t ≠ t from fun i hi => by
                by_cases hij : i = j
                · subst hij; exact ht
                · exact HNO.out i (by omega))
              generalize s.getD j i0 = y at *
              obtain ⟨yt, yv, ya, yb⟩ := y
              simp only at c0 c1 c2 c3 ht
              have t0 : (yt == t) = false := by simpa using ht
              clear ht
              go_wp2
              go_round
              case rel => exact ⟨j + 1, by omega, by go_num, HN2.out⟩
              case measure => simp [intOf]; omega
          · have HV := Lib.hid (HN.out (find_miss (fun i hi => HNO.out i (by omega))))
            have d0 : decide ((j : Int) < (s.length : Int)) = false := decide_eq_false (by omega)
            have bs := BS.out
            have bw := BW.out
            clear HS HN
            go_wp2
            obtain ⟨hb, g0, g1, g2, g3⟩ := FIN.out i0 w2 bw bs i0
            simp only [i0] at hb g0 g1 g2 g3
            generalize (((w2.setCell ⟨w.heap.size, 0, none⟩ (.int .i64 0)).setCell ⟨w.heap.size, 1, none⟩ (.int .u64 0)).setCell ⟨w.heap.size, 2, none⟩ (.int .i64 0)).setCell ⟨w.heap.size, 3, none⟩ (.int .i64 0) = w9 at *
            exact bodyPost_ret (v := .tuple #[.agg #[.int .i64 0, .int .u64 0, .int .i64 0, .int .i64 0], .bool false, .int .i64 0]) (by simp [results, Try.results23, go_sem, g0, g1, g2, g3]) rfl ⟨by rw [HV.out], hb⟩
  · have HV := Lib.hid (hV.symm.trans (insV_no (t := t) (st := st) hok))
    rw [show chkV l = .tuple #[.int .i64 (chkAt l : Nat), .int .i64 15] by rw [chkV_eq, erC_no hok]] at CC
    generalize chkAt l = at_ at *
    clear hok hV CO
    go_enter Try.func23, Try.ntmps23
    go_wp2_with fail
    refine (CC _ HR1.out).out.mono ?_
    rintro e w1 ⟨rfl, b1⟩
    have bs := BX.out.below b1 (by simp)
    obtain ⟨s0, s1, s2, s3⟩ := bs.c
    obtain ⟨f0, f1, f2, f3⟩ := bs.f
    have bw := B0.out.trans (b1.mono (by simp))
    go_wp2
    obtain ⟨hb, g0, g1, g2, g3⟩ := FIN.out i0 w1 bw bs i0
    simp only [i0] at hb g0 g1 g2 g3
    generalize (((w1.setCell ⟨w.heap.size, 0, none⟩ (.int .i64 0)).setCell ⟨w.heap.size, 1, none⟩ (.int .u64 0)).setCell ⟨w.heap.size, 2, none⟩ (.int .i64 0)).setCell ⟨w.heap.size, 3, none⟩ (.int .i64 0) = w9 at *
    exact bodyPost_ret (v := .tuple #[.agg #[.int .i64 0, .int .u64 0, .int .i64 0, .int .i64 0], .bool false, .int .i64 15]) (by simp [results, Try.results23, go_sem, g0, g1, g2, g3]) rfl ⟨by rw [HV.out], hb⟩
end Ev
end Go.Proofs.Ytbnchajkfceaoaa
