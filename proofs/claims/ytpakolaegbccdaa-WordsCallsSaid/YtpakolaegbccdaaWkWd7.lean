/- The walk of the law WordsCalls, from the contracts of the memories. Conditions: those of the contracts. -/
import Derived.Test.YtpakolaegbccdaaWdF
import Derived.Deep.RegionLaw
import Derived.Deep.RegionHeld3
namespace Go.Proofs.Ytpakolaegbccdaa
open Go.RowKit Go.Sort
set_option linter.unusedVariables false
set_option linter.unusedSimpArgs false
namespace Wk
open Wd
open Dm (addr_lit info_parts spot_none RdK flatU infoU bel_alloc bel_trans own_keep below_drewN)
theorem dp_put {B : Nat} {w : World} {b br p : Nat} {q : Option Nat} {p' : Nat} {q' : Option Nat} {M N : Wm} (h : Dp B w b br p q p' q' M N) {g : Nat} (k : Nat) (x : Value) (h1 : ∀ i, Of b p q i → i ≠ g) (h2 : ∀ i, Of br p' q' i → i ≠ g) : Dp B (w.setCell ⟨g, k, none⟩ x) b br p q p' q' M N :=
  ⟨h.l.keep fun i _ hi => Go.heap_setCell_other _ _ _ _ (h1 i hi), h.r.keep fun i _ hi => Go.heap_setCell_other _ _ _ _ (h2 i hi), h.d, h.bl, h.bR⟩
theorem own_put {w : World} {H g n c : Nat} {xs : List Int} (h : w.ownsRow H 31 1 (.slice (some ⟨g, 0, none⟩) n c) n (flatU xs)) (j : Nat) (y : Int) : (w.setCell ⟨g, j, none⟩ (.int .u64 y)).ownsRow H 31 1 (.slice (some ⟨g, 0, none⟩) n c) n (flatU (xs.set j y)) := by
  have := (h.stored j (.int .u64 y)).1
  rwa [flat_set] at this
theorem own_at {w : World} {H g n c : Nat} {xs : List Int} (h : w.ownsRow H 31 1 (.slice (some ⟨g, 0, none⟩) n c) n (flatU xs)) {j : Nat} (hj : j < n) : ∃ x, w.cell? ⟨g, j, none⟩ = some (.int .u64 x) := by
  have hl : xs.length = n := by have := h.1; simp [flatU] at this; omega
  refine ⟨xs[j]'(by omega), ?_⟩
  rw [h.cellAt j (by omega), flatU, List.getElem?_map, List.getElem?_eq_getElem (by omega)]; rfl
theorem log0_any (b p : Nat) (q : Option Nat) (M : Wm) (w : World) (h : At 75 w b p q M) (hL : M.L.length ≤ 50000) : Calls Try.prog 17 #[.pointer (some ⟨b, 0, none⟩), .int .i64 0] w (RwA w M.L) := by
  have h := log_any b p q M 0 w h hL
  rwa [from_zero] at h
theorem from_len (L : List Ac) (i : Int) : (from_ L i).length ≤ L.length := by
  unfold from_; split
  · simp
  · exact Nat.zero_le _
theorem equ_same (A B : Option Addr) (m c d : Nat) (l : List Int) (w : World) (hm : l.length = m) (hx : m ≤ 100000) (hl : RdK .u64 w A l) (hr : RdK .u64 w B l) :
    Calls Try.prog 16 #[.slice A m c, .slice B m d] w fun e w' => e = .returned (.bool true) ∧ Below w.heap.size w w' := by
  have h := equ_any A B m c m d l l w hm hm hx hx hl hr
  rwa [decide_eq_true rfl] at h
theorem eqa_same (A B : Option Addr) (m c d : Nat) (l : List Ac) (w : World) (hm : l.length = m) (hx : m ≤ 100000) (hl : RdA w A l) (hr : RdA w B l) :
    Calls Try.prog 18 #[.slice A m c, .slice B m d] w fun e w' => e = .returned (.bool true) ∧ Below w.heap.size w w' := by
  have h := eqa_any A B m c m d l l w hm hm hx hx hl hr
  rwa [decide_eq_true rfl] at h
theorem put_len (M : Wm) (t a k n : Int) (s : Bool) : (M.put t a k n s).L.length = M.L.length + 1 := by simp [Wm.put]
theorem deed_len (M : Wm) (x : Dd) : (M.deed x).L.length ≤ M.L.length + 1 := by
  rw [show (M.deed x).L.length = (M.deed x).L.length from rfl]
  unfold Wm.deed
  split
  · exact Nat.le_of_eq (put_len ..)
  split
  · exact Nat.le_of_eq (put_len ..)
  split
  · exact Nat.le_of_eq (put_len ..)
  split
  · unfold Wm.cas; split
    · exact Nat.le_of_eq (put_len ..)
    · exact Nat.le_of_eq (put_len ..)
  · exact Nat.le_succ _
theorem does_len (M : Wm) (x : Dd) : (M.does x).L.length ≤ M.L.length + 1 := by
  unfold Wm.does
  split
  · exact Nat.le_succ _
  · unfold Wm.after; split
    · exact deed_len M x
    · exact Nat.le_succ _
set_option maxRecDepth 100000 in
set_option maxHeartbeats 4000000 in
theorem walk_wordsCalls (a0 : Option Addr) (a0n a0c : Nat) (a0v : List Int) (a1 : Option Addr) (a1n a1c : Nat) (a1v : List Wd.Dd) (a2 : Int) (w : World) (a0e : a0v.length = a0n) (a0m : a0n ≤ maxLen) (a0r : Dm.RdK .u64 w a0 a0v) (a0b : Dm.BdU a0v) (a0z : a0 = none → a0c = 0) (a1e : a1v.length = a1n) (a1m : a1n ≤ maxLen) (a1r : Wd.RdD w a1 a1v) (a1b : Wd.BdD a1v) (a1z : a1 = none → a1c = 0) (a2l : (-9223372036854775808) ≤ a2) (a2h : a2 ≤ 9223372036854775807) :
    Calls Try.prog 3 #[.slice a0 a0n a0c, .slice a1 a1n a1c, .int .i64 a2] w fun e w' => e = .returned (.bool true) ∧ Below w.heap.size w w' := by
  have hpre : (300 < a0n ∨ 200 < a1n) → Calls Try.prog 3 #[.slice a0 a0n a0c, .slice a1 a1n a1c, .int .i64 a2] w fun e w' => e = .returned (.bool true) ∧ Below w.heap.size w w' := fun h => by
    by_cases g1 : 300 < a0n
    · have t1 : decide ((300 : Int) < a0n) = true := decide_eq_true (by omega)
      go_enter Try.func3, Try.ntmps3
      go_wp2
      go_ret
      exact ⟨rfl, Below.refl _ _⟩
    have t1 : decide ((300 : Int) < a0n) = false := decide_eq_false (by omega)
    have t2 : decide ((200 : Int) < a1n) = true := decide_eq_true (by omega)
    go_enter Try.func3, Try.ntmps3
    go_wp2
    go_ret
    exact ⟨rfl, Below.refl _ _⟩
  by_cases hp : 300 < a0n ∨ 200 < a1n
  · exact hpre hp
  clear hpre
  have t1 : decide ((300 : Int) < a0n) = false := decide_eq_false (by omega)
  have t2 : decide ((200 : Int) < a1n) = false := decide_eq_false (by omega)
  have p1 : a0n ≤ 300 := by omega
  have p2 : a1n ≤ 200 := by omega
  have hx : a0n ≤ maxLen := by unfold maxLen; omega
  clear hp
  have hW := bdU_bdW a0b
  have made : (w.alloc (.cells #[] 31)).ownsRow w.heap.size 31 1 (.slice (some ⟨w.heap.size, 0, none⟩) 0 0) 0 (flatU []) := World.ownsRow_made w #[] 0 (Nat.le_refl _) (Nat.zero_le _) (by simp)
  have B0 : Below w.heap.size w (w.alloc (.cells #[] 31)) := bel_alloc (Below.refl _ _) _
  have HR := Lib.hid a0r
  have HD := Lib.hid hW
  have HR2 := Lib.hid a1r
  have HB := Lib.hid a1b
  have HE := Lib.hid a0e
  have HE2 := Lib.hid a1e
  clear a0r hW a1r a1b a0e a1e a0b a1z
  rcases Nat.eq_zero_or_pos a0n with h0 | h0
  · subst h0
    have hv : a0v = [] := List.eq_nil_of_length_eq_zero HE.out
    subst hv
    go_enter Try.func3, Try.ntmps3
    go_wp2_with (at_builtin; refine Dm.appAll rfl (.tmp 25) (.tmp 26) rfl _ w.heap.size 0 _ [] a0 0 a0c [] rfl rfl made rfl (by omega) (by omega) (by simp) (HR.out.below B0) a0z ?_; intro v2 w2 h2 b2; rw [Nat.zero_add, List.nil_append] at h2)
    obtain ⟨_, A5, c5, rfl, rd5⟩ := Dm.row_rd h2
    have b3 : Below w.heap.size w w2 := B0.trans (b2.mono (Nat.le_refl _))
    have CN : Calls Try.prog 11 #[.slice A5 0 c5] w2 fun e w' => e = .returned (.tuple #[.pointer none, .int .i64 2]) ∧ w' = w2 := (new_any A5 0 c5 [] w2 rfl hx rd5 HD.out).mono fun e w' h => by
      rcases h with ⟨_, he, hw⟩ | ⟨h, _⟩
      · exact ⟨he, hw⟩
      · exact absurd h (by decide)
    have CR : Calls Try.prog 12 #[.slice a0 0 a0c] w2 fun e w' => e = .returned (.tuple #[.pointer none, .int .i64 2]) ∧ w' = w2 := (newR_any a0 0 a0c [] w2 rfl hx (HR.out.below b3) a0z HD.out).mono fun e w' h => by
      rcases h with ⟨_, he, hw⟩ | ⟨h, _⟩
      · exact ⟨he, hw⟩
      · exact absurd h (by decide)
    have CN := Lib.hid CN
    have CR := Lib.hid CR
    clear made h2 b2 rd5 B0
    go_wp2_with fail
    refine CN.out.mono ?_
    rintro r w3 ⟨rfl, rfl⟩
    go_wp2_with fail
    refine CR.out.mono ?_
    rintro r w4 ⟨rfl, rfl⟩
    go_wp2
    go_ret
    exact ⟨rfl, b3⟩
  go_enter Try.func3, Try.ntmps3
  go_wp2_with (at_builtin; refine Dm.appAll rfl (.tmp 25) (.tmp 26) rfl _ w.heap.size 0 _ [] a0 a0n a0c a0v rfl rfl made HE.out (by omega) (by omega) (by simp) (HR.out.below B0) a0z ?_; intro v2 w2 h2 b2; rw [Nat.zero_add, List.nil_append] at h2; obtain ⟨g, cap, rfl⟩ := Joins.ownsRow_form h2 h0)
  have hg := h2.lt g rfl
  have CN := Lib.hid (new_any (some ⟨g, 0, none⟩) a0n cap a0v w2 HE.out hx (rowU_rd h2) HD.out)
  have B2 := Lib.hid (B0.trans (b2.mono (Nat.le_refl _)))
  have H2 := Lib.hid h2
  have hE : newE a0v.length = 0 := by rw [HE.out]; exact newE_ok h0 p1
  have NE := Lib.hid hE
  clear made b2 B0 h2 hE
  go_wp2_with fail
  refine CN.out.mono ?_
  rintro r w3 (⟨h, _⟩ | ⟨_, b, p, rfl, ha, hbs, hps, b3⟩)
  · exact absurd NE.out h
  have B3 := Lib.hid (B2.out.trans (b3.mono B2.out.size))
  have HA := Lib.hid ha
  have CR := Lib.hid (newR_any a0 a0n a0c a0v w3 HE.out hx (HR.out.below B3.out) a0z HD.out)
  have H3 := Lib.hid (own_keep H2.out (fun k hk => by cases hk; exact b3.block g hg.2))
  have s23 := b3.size
  clear CN ha b3 H2
  go_wp2_with fail
  refine CR.out.mono ?_
  rintro r w4 (⟨h, _⟩ | ⟨_, br, p', rfl, hr, hbr, hpr, b4⟩)
  · exact absurd NE.out h
  have B4 := Lib.hid (B3.out.trans (b4.mono B3.out.size))
  have H4 := Lib.hid (own_keep H3.out (fun k hk => by cases hk; exact b4.block g (Nat.lt_of_lt_of_le hg.2 s23)))
  have d1 : ∀ i, Of b p none i → ¬ Of br p' none i := fun i hi hj => by
    have h1 := HA.out.lt i hi
    rcases hj with e | e | e
    · omega
    · omega
    · cases e
  have d2 : ∀ i, Of b p none i → w2.heap.size ≤ i := fun i hi => by
    rcases hi with e | e | e
    · omega
    · omega
    · cases e
  have d3 : ∀ i, Of br p' none i → w2.heap.size ≤ i := fun i hi => by
    rcases hi with e | e | e
    · omega
    · omega
    · cases e
  have DP := Lib.hid (show Dp w2.heap.size w4 b br p none p' none ⟨a0v, []⟩ ⟨a0v, []⟩ from ⟨HA.out.below b4, hr, d1, d2, d3⟩)
  clear d1 d2 d3
  have hg1 := hg.1
  have hgl : g < w2.heap.size := hg.2
  obtain ⟨H, hH⟩ : ∃ H, H = w2.heap.size := ⟨_, rfl⟩
  rw [← hH] at DP hgl
  have hwH : w.heap.size ≤ H := by rw [hH]; exact B2.out.size
  clear CR hr b4 HA H3 B3 B2 hg hbs hps hbr hpr hH NE s23
  have ne1 : ∀ i, H ≤ i → i ≠ g := fun i hi => by omega
  have NE1 := Lib.hid ne1
  clear ne1
  go_wp2
  go_loopw [12] (fun i wr => ∃ (j : Nat) (xs : List Int), j ≤ a0n ∧ i = .int .i64 j ∧ wr.ownsRow w.heap.size 31 1 (.slice (some ⟨g, 0, none⟩) a0n cap) a0n (flatU xs) ∧ Dp H wr b br p none p' none ⟨a0v, []⟩ ⟨a0v, []⟩ ∧ Below w.heap.size w wr) (fun i _ => (a0n - intOf i).toNat)
  case atStart => exact ⟨0, _, Nat.zero_le _, rfl, H4.out, DP.out, B4.out⟩
  case round =>
    clear H4 DP B4
    obtain ⟨j, xs, hj, rfl, ho, dp, bel⟩ := hrel
    have HO := Lib.hid ho
    have DP := Lib.hid dp
    have BEL := Lib.hid bel
    clear ho dp bel
    by_cases hlt : j < a0n
    · obtain ⟨x, cx⟩ := own_at HO.out hlt
      have fx := HO.out.frozenAt j
      have u0 : decide ((j : Int) < a0n) = true := decide_eq_true (by omega)
      have hji : (j : Int) < a0n := by omega
      go_wp2
      go_roundw
      case rel => exact ⟨j + 1, _, by omega, by go_num, own_put HO.out j _, dp_put DP.out j _ (fun i hi => NE1.out i (DP.out.bl i hi)) (fun i hi => NE1.out i (DP.out.bR i hi)), BEL.out.setCell hg1 _⟩
      case measure => simp [intOf]; omega
    · obtain rfl : j = a0n := by omega
      have u0 : decide ((j : Int) < j) = false := decide_eq_false (by omega)
      clear HO
      go_wp2
      obtain ⟨w5, hw5⟩ : ∃ w5, w5 = wr := ⟨_, rfl⟩
      rw [← hw5] at DP BEL ⊢
      clear hw5
      have DU0 := Lib.hid (show Du H w5 b br ⟨a0v, []⟩ from ⟨_, _, _, _, DP.out⟩)
      clear DP
      go_loopw [13] (fun i wr => ∃ (k : Nat) (M : Wm), k ≤ a1n ∧ i = .int .i64 k ∧ Du H wr b br M ∧ M.L.length ≤ k ∧ Below w.heap.size w wr) (fun i _ => (a1n - intOf i).toNat)
      case atStart => exact ⟨0, _, Nat.zero_le _, rfl, DU0.out, Nat.le_refl _, BEL.out⟩
      case round =>
        clear DU0 BEL
        obtain ⟨k, M, hk, rfl, du, hML, bel⟩ := hrel
        have DU := Lib.hid du
        have BEL := Lib.hid bel
        clear du bel
        by_cases hlt : k < a1n
        · obtain ⟨x, hx, hxm⟩ := dd_get (show k < a1v.length by rw [HE2.out]; exact hlt)
          obtain ⟨xb, xo, ex, c5⟩ := (HR2.out.below BEL.out) k x hx
          subst ex
          have q0 : wr.drew.cell? ⟨xb, xo + k * 5, none⟩ = some (.int .u8 x.d) := c5.c0
          have q1' : wr.drew.cell? ⟨xb, xo + k * 5 + 1, none⟩ = some (.int .i64 x.t) := c5.c1
          have q2' : wr.drew.cell? ⟨xb, xo + k * 5 + 2, none⟩ = some (.int .i64 x.a) := c5.c2
          have q3 : wr.drew.cell? ⟨xb, xo + k * 5 + 3, none⟩ = some (.int .u64 x.o) := c5.c3
          have q4 : wr.drew.cell? ⟨xb, xo + k * 5 + 4, none⟩ = some (.int .u64 x.v) := c5.c4
          have u0 : decide ((k : Int) < a1n) = true := decide_eq_true (by omega)
          have hki : (k : Int) < a1n := by omega
          have CC := Lib.hid (call_any H b br M wr.drew x (DU.out.below (below_drewN (Below.refl _ wr) 1)) (HB.out x hxm) (by omega))
          have NL := does_len M x
          obtain ⟨N, hN⟩ : ∃ N, M.does x = N := ⟨_, rfl⟩
          rw [hN] at CC NL
          have hNl : N.L.length ≤ k + 1 := by omega
          have BELd := Lib.hid (below_drewN BEL.out 1)
          clear hN NL hx hxm c5 DU
          go_wp2
          go_region_law ((go_simp; first
            | (go_at_call 13; refine CC.out.mono ?_; rintro r w6 ⟨rfl, ⟨p1', q1, p2', q2, dp⟩, b6⟩; have DP6 := Lib.hid dp; obtain ⟨cR, vR, hqR, ar⟩ := dp.r; obtain ⟨_, AR, kR, rfl, _, _, _⟩ := rowA ar.log; have k0 := ar.c0; have k1 := ar.c1; have AR6 := Lib.hid ar; have B6 := Lib.hid (BELd.out.trans (b6.mono hwH)); clear dp hqR ar b6 CC)
            | (go_at_call 14; refine (len_any b p1' q1 N _ DP6.out.l).mono ?_; rintro r w7 ⟨rfl, rfl⟩)))
          all_goals
            have n0 := AR6.out.n0
            have n1 := AR6.out.n1
            clear q0 q1' q2' q3 q4
            go_wp2_with fail
            refine (words_any b p1' q1 N _ DP6.out.l).mono ?_
            rintro r w8 ⟨⟨v, rfl, ho⟩, b8⟩
            obtain ⟨gv, cv, rfl⟩ := Joins.ownsRow_form ho n0
            have hgv := (ho.lt gv rfl)
            have NEl := Lib.hid (show ∀ i, Of b p1' q1 i → i ≠ gv from fun i hi => by have := DP6.out.l.lt i hi; omega)
            have NEr := Lib.hid (show ∀ i, Of br p2' q2 i → i ≠ gv from fun i hi => by have := DP6.out.r.lt i hi; omega)
            have DP8 := Lib.hid (DP6.out.below b8)
            have AR8 := AR6.out.below b8
            have k0' := AR8.c0
            have CE := equ_any (some ⟨gv, 0, none⟩) (some ⟨p2', 0, none⟩) N.W.length cv N.W.length cR N.W N.W w8 rfl rfl (by omega) (by omega) (rowU_rd ho) (rowU_rd AR8.row)
            rw [decide_eq_true rfl] at CE
            have CE := Lib.hid CE
            have OV := Lib.hid ho
            have B8 := Lib.hid (B6.out.trans (b8.mono B6.out.size))
            have hgw : w.heap.size ≤ gv := Nat.le_trans B6.out.size hgv.1
            have hgl8 := hgv.2
            clear AR8 ho b8 AR6 DP6 k0 k1 B6 hgv
            go_wp2_with fail
            refine CE.out.mono ?_
            rintro r w9 ⟨rfl, b9⟩
            have OV9 := Lib.hid (own_keep OV.out (fun z hz => by cases hz; exact b9.block gv hgl8))
            obtain ⟨y, cy⟩ := own_at OV9.out n0
            have fy := OV9.out.frozenAt 0
            have DP9 := Lib.hid (DP8.out.below b9)
            have B9 := Lib.hid (B8.out.trans (b9.mono B8.out.size))
            have n0' : (0 : Int) < N.W.length := by omega
            clear b9 CE OV DP8 B8 k0'
            go_wp2
            go_roundw
            case rel => exact ⟨k + 1, N, by omega, by go_num, ⟨p1', q1, p2', q2, dp_put DP9.out 0 _ NEl.out NEr.out⟩, hNl, B9.out.setCell hgw _⟩
            case measure => simp [intOf]; omega
        · obtain rfl : k = a1n := by omega
          have u0 : decide ((k : Int) < k) = false := decide_eq_false (by omega)
          obtain ⟨p1', q1, p2', q2, dp⟩ := DU.out
          have DP := Lib.hid dp
          have CL := log_any b p1' q1 M 0 wr dp.l (by omega)
          rw [from_zero] at CL
          have CL := Lib.hid CL
          clear dp DU
          go_wp2_with fail
          refine CL.out.mono ?_
          rintro r w6 ⟨⟨v, rfl, ho⟩, b6⟩
          obtain ⟨hl, A, c, rfl, hc, rd, hz⟩ := rowA ho
          have OX := Lib.hid ho
          have HGX := Lib.hid (show (∀ i, Of b p1' q1 i → i < wr.heap.size) ∧ (∀ i, Of br p2' q2 i → i < wr.heap.size) from ⟨DP.out.l.lt, DP.out.r.lt⟩)
          have DP6 := Lib.hid (DP.out.below b6)
          have B6 := Lib.hid (BEL.out.trans (b6.mono BEL.out.size))
          have hwz := BEL.out.size
          have hMn : M.L.length ≤ 50000 := by omega
          obtain ⟨n, hn⟩ : ∃ n, M.L.length = n := ⟨_, rfl⟩
          have HN := Lib.hid hn
          have hnn : n ≤ 50000 := by omega
          rw [hn] at OX
          rw [hn]
          generalize wr.heap.size = K at *
          clear hl ho b6 rd hz CL DP hn hML
          go_wp2
          go_loopw [16] (fun i wz => ∃ (t : Nat) (ys : List Value), t ≤ n ∧ i = .int .i64 t ∧ wz.ownsRow K 43 6 (.slice A n c) n ys ∧ Dp H wz b br p1' q1 p2' q2 M M ∧ Below w.heap.size w wz) (fun i _ => (n - intOf i).toNat)
          case atStart => exact ⟨0, _, Nat.zero_le _, rfl, OX.out, DP6.out, B6.out⟩
          case round =>
            clear OX DP6 B6
            obtain ⟨t, ys, ht, rfl, ho, dp, bel⟩ := hrel
            have DP := Lib.hid dp
            have BEL := Lib.hid bel
            clear dp bel
            by_cases hlt : t < n
            · obtain ⟨gx, cx, e⟩ := Joins.ownsRow_form ho (by omega)
              cases e
              have hlen : ys.length = n * 6 := ho.1
              obtain ⟨u, hu⟩ : ∃ u, ys[t * 6 + 1]? = some u := ⟨_, List.getElem?_eq_getElem (by omega)⟩
              have cx := (ho.cellAt (t * 6 + 1) (by omega)).trans hu
              have fx := ho.frozenAt (t * 6 + 1)
              have hgK := (ho.lt gx rfl).1
              have HO := Lib.hid ho
              have u1 : decide ((t : Int) < n) = true := decide_eq_true (by omega)
              have hti : (t : Int) < n := by omega
              clear ho hu hlen
              go_wp2
              go_roundw
              case rel => exact ⟨t + 1, _, by omega, by go_num, (HO.out.stored _ _).1, dp_put DP.out _ _ (fun i hi => by have := HGX.out.1 i hi; omega) (fun i hi => by have := HGX.out.2 i hi; omega), BEL.out.setCell (Nat.le_trans hwz hgK) _⟩
              case measure => simp [intOf]; omega
            · obtain rfl : t = n := by omega
              have u1 : decide ((t : Int) < t) = false := decide_eq_false (by omega)
              have DPd := Lib.hid (DP.out.below (below_drewN (Below.refl _ wr) 1))
              have BD := Lib.hid (below_drewN BEL.out 1)
              obtain ⟨cR, vR, hqR, ar⟩ := DPd.out.r
              obtain ⟨_, AR, kR, rfl, _, rdR, _⟩ := rowA ar.log
              have e0 : wr.drew.cell? ⟨br, 0, none⟩ = some (.slice (some ⟨p2', 0, none⟩) M.W.length cR) := ar.c0
              have e1 : wr.drew.cell? ⟨br, 1, none⟩ = some (.slice AR M.L.length kR) := ar.c1
              have S0 := Lib.hid (And.intro e0 e1)
              have AR0 := Lib.hid (show At0 31 wr.drew br p2' cR (.slice AR M.L.length kR) M from ar)
              have RR0 := Lib.hid (show RdA wr.drew AR M.L from rdR)
              have n1 := ar.n1
              have hfl := from_len M.L a2
              clear hqR ar rdR e0 e1 HN ho
              go_wp2
              go_region_held3 (fun w' => w'.cell? ⟨br, 0, none⟩ = some (.slice (some ⟨p2', 0, none⟩) M.W.length cR) ∧ w'.cell? ⟨br, 1, none⟩ = some (.slice AR M.L.length kR)) (first | exact m0 | exact S0.out | go_keep) (first
                | (go_at_call 15; refine (words_any b p1' q1 M _ DPd.out.l).mono ?_; rintro r v1 ⟨⟨u, rfl, ho⟩, bb⟩; obtain ⟨_, A1, c1, rfl, rd1⟩ := Dm.row_rd ho; have D1 := Lib.hid (DPd.out.below bb); have AR1 := Lib.hid (AR0.out.below bb); have RR1 := Lib.hid (RR0.out.below bb); have RD1 := Lib.hid rd1; have BB1 := Lib.hid (BD.out.trans (bb.mono BD.out.size)); have m0 := And.intro AR1.out.c0 AR1.out.c1; clear ho rd1 bb)
                | (go_at_call 16; refine (equ_same A1 (some ⟨p2', 0, none⟩) M.W.length c1 cR M.W _ rfl (by omega) RD1.out (rowU_rd AR1.out.row)).mono ?_; rintro r v2 ⟨rfl, bb⟩; have D2 := Lib.hid (D1.out.below bb); have AR2 := Lib.hid (AR1.out.below bb); have RR2 := Lib.hid (RR1.out.below bb); have BB2 := Lib.hid (BB1.out.trans (bb.mono BB1.out.size)); have m0 := And.intro AR2.out.c0 AR2.out.c1; clear bb)
                | (go_at_call 17; refine (log_any b p1' q1 M a2 _ D4.out.l hMn).mono ?_; rintro r v5 ⟨⟨u, rfl, ho⟩, bb⟩; obtain ⟨_, A5, c5, rfl, _, rd5, _⟩ := rowA ho; have D5' := Lib.hid (D4.out.below bb); have AR5 := Lib.hid (AR4.out.below bb); have RD5 := Lib.hid rd5; have BB5 := Lib.hid (BB4.out.trans (bb.mono BB4.out.size)); have m0 := And.intro AR5.out.c0 AR5.out.c1; clear ho rd5 bb)
                | (go_at_call 17; refine (log0_any b p1' q1 M _ D2.out.l hMn).mono ?_; rintro r v3 ⟨⟨u, rfl, ho⟩, bb⟩; obtain ⟨_, A3, c3, rfl, _, rd3, _⟩ := rowA ho; have D3 := Lib.hid (D2.out.below bb); have AR3 := Lib.hid (AR2.out.below bb); have RR3 := Lib.hid (RR2.out.below bb); have RD3 := Lib.hid rd3; have BB3 := Lib.hid (BB2.out.trans (bb.mono BB2.out.size)); have m0 := And.intro AR3.out.c0 AR3.out.c1; clear ho rd3 bb)
                | (go_at_call 18; refine (eqa_same A5 A6 (from_ M.L a2).length c5 c6 (from_ M.L a2) _ rfl (by omega) RD5.out RD6.out).mono ?_; rintro r v7 ⟨rfl, bb⟩; have BB7 := Lib.hid (BB5.out.trans (bb.mono BB5.out.size)); have m0 := And.intro (AR5.out.below bb).c0 (AR5.out.below bb).c1; clear bb)
                | (go_at_call 18; refine (eqa_same A3 AR M.L.length c3 kR M.L _ rfl (by omega) RD3.out RR3.out).mono ?_; rintro r v4 ⟨rfl, bb⟩; have D4 := Lib.hid (D3.out.below bb); have AR4 := Lib.hid (AR3.out.below bb); have BB4 := Lib.hid (BB3.out.trans (bb.mono BB3.out.size)); have m0 := And.intro AR4.out.c0 AR4.out.c1; clear bb)
                | (go_at_call 19; refine (logR_any br p2' q2 M a2 _ D5'.out.r hMn).mono ?_; rintro r v6 ⟨⟨A6, c6, rfl, rd6⟩, rfl⟩; have RD6 := Lib.hid rd6; clear rd6))
              all_goals go_wp2
              all_goals go_ret
              all_goals exact ⟨rfl, BB7.out⟩
end Wk
end Go.Proofs.Ytpakolaegbccdaa
