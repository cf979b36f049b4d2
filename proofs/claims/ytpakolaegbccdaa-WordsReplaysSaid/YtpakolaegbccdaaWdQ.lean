/- Replay of the reference: contract of the translated code. Conditions: those of XWdP. Written by tools/mk8rep.py. -/
import Derived.Test.YtpakolaegbccdaaWdP
namespace Go.Proofs.Ytpakolaegbccdaa
open Go.RowKit Go.Sort
set_option linter.unusedVariables false
set_option linter.unusedSimpArgs false
namespace Wd
open Dm (addr_lit info_parts spot_none RdK flatU infoU bel_alloc bel_trans own_keep below_drewN)
theorem below_drew {B : Nat} {a w : World} (h : Below B a w) : Below B a w.drew := below_drewN h 1
theorem At0.stepW {ty : TypeId} {w W' : World} {b p c i : Nat} {v : Value} {V : List Int} {x : Int} (h : At0 ty w b p c v ⟨V, []⟩) (hb : Below w.heap.size w W') (hi : i < V.length) (x0 : 0 ≤ x) (x1 : x ≤ 18446744073709551615) : At0 ty (W'.setCell ⟨p, i, none⟩ (.int .u64 x)) b p c v ⟨V.set i x, []⟩ := (h.below hb).setW hi x0 x1
set_option maxRecDepth 100000 in
set_option maxHeartbeats 4000000 in
theorem replayR_any (A : Option Addr) (n c : Nat) (W : List Int) (A2 : Option Addr) (n2 c2 : Nat) (L : List Ac) (w : World) (hl : W.length = n) (hn : n ≤ maxLen) (hr : RdK .u64 w A W) (hz : A = none → c = 0) (hd0 : BdW W) (hl2 : L.length = n2) (hn2 : n2 ≤ maxLen) (hr2 : RdA w A2 L) (hd : BdA L) :
    Calls Try.prog 22 #[.slice A n c, .slice A2 n2 c2] w (RpP W L w) := by
  have CN := Lib.hid (newR_any A n c W w hl hn hr hz hd0)
  subst hl hl2
  by_cases he : newE W.length = 0
  · obtain ⟨h0, h1⟩ := newE_zero he
    have HE := Lib.hid he
    have HR := Lib.hid hr2
    have HD := Lib.hid hd
    clear hr hd hd0 hr2 hz he
    go_enter Try.func22, Try.ntmps22
    go_wp2_with fail
    refine CN.out.mono ?_
    rintro r w2 (⟨h, _⟩ | ⟨_, b, p, rfl, ha, hbs, hps, b2⟩)
    · exact absurd HE.out h
    clear CN
    obtain ⟨pc, v0, hv0, ha⟩ := ha
    go_wp2
    go_loopw [9] (fun i wr => ∃ (j : Nat) (V : List Int) (v : Value), j ≤ L.length ∧ i = .int .i64 j ∧ At0 31 wr b p pc v ⟨V, []⟩ ∧ V.length = W.length ∧ scan V (L.drop j) j = scan W L 0 ∧ Below w.heap.size w wr) (fun i _ => (L.length - intOf i).toNat)
    case atStart => exact ⟨0, W, _, Nat.zero_le _, rfl, ha, rfl, rfl, b2⟩
    case round =>
      clear ha b2 hv0
      obtain ⟨j, V, v, hj, rfl, ha, hl, hS, bel⟩ := hrel
      have e0 := ha.c0
      simp only [hl] at e0
      have hblt := ha.lt
      by_cases hlt : j < L.length
      · have hn3 : j + 1 ≤ 9223372036854775807 := by unfold maxLen at hn2; omega
        obtain ⟨x, hx⟩ := ac_get hlt
        obtain ⟨xb, xo, ex, c6⟩ := HR.out j x hx
        subst ex
        have xlt := Nat.lt_of_lt_of_le (World.block_lt_of_cell? w _ c6.c0) bel.size
        have c6 := c6.keep (bel.block xb (World.block_lt_of_cell? w _ c6.c0))
        have q0 := c6.c0
        have q1 := c6.c1
        have q2 := c6.c2
        have q3 := c6.c3
        have q4 := c6.c4
        have q5 := c6.c5
        have hxm : x ∈ L := List.mem_of_getElem? hx
        have bn0 := (HD.out x hxm).n0
        have bn1 := (HD.out x hxm).n1
        have HA := Lib.hid ha
        have HL := Lib.hid hl
        have hS := (congrArg (fun l => scan V l j) (drop_ac hx)).symm.trans hS
        have YES := Lib.hid (fun hok : ok V x => (scan_ok (l := L.drop (j + 1)) (i := j) hok).symm.trans hS)
        have NB := Lib.hid (fun (hok : ¬ ok V x) W' (h : Below wr.heap.size wr W') => show RpP W L w (.returned (.tuple #[.slice none 0 0, .int .i64 (j : Nat), .int .i64 16])) W' from ⟨.inr (.inl ⟨HE.out, j, ((scan_bad (l := L.drop (j + 1)) (i := j) hok).symm.trans hS).symm, rfl⟩), bel_trans bel h⟩)
        have t0 : decide ((j : Int) < L.length) = true := decide_eq_true (by omega)
        have CT := fun W' => thread_any x.t W'
        have hplt := ha.plt
        clear ha hl hS c6 hx hxm
        by_cases h1 : 0 ≤ x.t ∧ x.t < 64
        · rw [decide_eq_true h1] at CT
          replace CT := fun W' => Lib.hid (CT W')
          by_cases h2 : 0 ≤ x.a ∧ x.a < W.length
          · obtain ⟨i, hi⟩ := Int.eq_ofNat_of_zero_le h2.1
            have hiW : i < W.length := by omega
            have hiV : i < V.length := by have := HL.out; omega
            have u0 : decide ((i : Int) < 0) = false := decide_eq_false (by omega)
            have u1 : decide ((W.length : Int) ≤ (i : Int)) = false := decide_eq_false (by omega)
            have cw : wr.cell? ⟨p, i, none⟩ = some (.int .u64 (V.getD i 0)) := own_cell HA.out.row rfl hiV
            have fw : wr.frozen? ⟨p, i, none⟩ = false := HA.out.row.frozenAt i
            obtain ⟨y, hy⟩ : ∃ y, V.getD i 0 = y := ⟨_, rfl⟩
            rw [hy] at cw
            have hy2 : V.getD x.a.toNat 0 = y := by rw [hi, Int.toNat_natCast, hy]
            by_cases h3 : x.o = y
            · have OKI := Lib.hid (ok_iff h1 (show 0 ≤ x.a ∧ x.a < V.length by rw [HL.out]; exact h2) (h3.trans hy2.symm))
              have v0 : (x.o == y) = true := by simp [h3]
              have v1 : (x.o != y) = false := by simp [h3]
              clear h1 h2 hy2 hy h3
              rw [hi] at q1
              by_cases k1 : x.k = 1
              · rw [k1] at q2
                by_cases n1 : x.n = x.o
                · have w1 : (x.n == x.o) = true := by simp [n1]
                  cases hs : x.s
                  · rw [hs] at q5
                    have YS := Lib.hid (YES.out (OKI.out.2 (.inl ⟨k1, n1, hs⟩)))
                    rw [hi, Int.toNat_natCast] at YS
                    clear YES NB OKI k1 n1 hs
                    go_wp2
                    go_quiet ((go_at_call 42; first | (with_reducible exact qL (CT _).out) | (with_reducible exact qA (CT _).out)))
                    go_wp2
                    go_region
                    go_wp2
                    go_roundw
                    case rel =>
                      exact ⟨j + 1, _, _, by omega, by go_num, HA.out.stepW (below_drew (below_drewN (bel_alloc (Below.refl _ _) _) _)) hiV bn0 bn1, by rw [List.length_set, HL.out], YS.out, (bel_trans bel (below_drew (below_drewN (bel_alloc (Below.refl _ _) _) _))).setCell (p := ⟨p, i, none⟩) hps _⟩
                    case measure => simp [intOf]; omega
                  · rw [hs] at q5
                    have FIN := Lib.hid (NB.out (fun h => by have := OKI.out.1 h; rw [hs] at this; simp [k1] at this))
                    clear YES NB OKI k1 n1 hs
                    go_wp2
                    go_quiet ((go_at_call 42; first | (with_reducible exact qL (CT _).out) | (with_reducible exact qA (CT _).out)))
                    go_wp2
                    refine bodyPost_ret (v := .tuple #[.slice none 0 0, .int .i64 (j : Nat), .int .i64 16]) (by simp [results, Try.results22, go_sem]) rfl ?_
                    exact FIN.out _ (below_drewN (bel_alloc (Below.refl _ _) _) _)
                · have w1 : (x.n == x.o) = false := by simp [n1]
                  have FIN := Lib.hid (NB.out (fun h => by have := OKI.out.1 h; simp [k1, n1] at this))
                  clear YES NB OKI k1 n1
                  go_wp2
                  go_quiet ((go_at_call 42; first | (with_reducible exact qL (CT _).out) | (with_reducible exact qA (CT _).out)))
                  go_wp2
                  refine bodyPost_ret (v := .tuple #[.slice none 0 0, .int .i64 (j : Nat), .int .i64 16]) (by simp [results, Try.results22, go_sem]) rfl ?_
                  exact FIN.out _ (below_drewN (bel_alloc (Below.refl _ _) _) _)
              · have s1 : (x.k == 1) = false := by simp [k1]
                by_cases k2 : x.k = 2
                · rw [k2] at q2
                  cases hs : x.s
                  · rw [hs] at q5
                    have YS := Lib.hid (YES.out (OKI.out.2 (.inr (.inl ⟨.inl k2, hs⟩))))
                    rw [hi, Int.toNat_natCast] at YS
                    clear YES NB OKI k1 s1 hs
                    go_wp2
                    go_quiet ((go_at_call 42; first | (with_reducible exact qL (CT _).out) | (with_reducible exact qA (CT _).out)))
                    go_wp2
                    go_region
                    go_wp2
                    go_roundw
                    case rel =>
                      exact ⟨j + 1, _, _, by omega, by go_num, HA.out.stepW (below_drew (below_drewN (bel_alloc (Below.refl _ _) _) _)) hiV bn0 bn1, by rw [List.length_set, HL.out], YS.out, (bel_trans bel (below_drew (below_drewN (bel_alloc (Below.refl _ _) _) _))).setCell (p := ⟨p, i, none⟩) hps _⟩
                    case measure => simp [intOf]; omega
                  · rw [hs] at q5
                    have FIN := Lib.hid (NB.out (fun h => by have := OKI.out.1 h; rw [hs] at this; simp [k2] at this))
                    clear YES NB OKI k1 s1 hs
                    go_wp2
                    go_quiet ((go_at_call 42; first | (with_reducible exact qL (CT _).out) | (with_reducible exact qA (CT _).out)))
                    go_wp2
                    refine bodyPost_ret (v := .tuple #[.slice none 0 0, .int .i64 (j : Nat), .int .i64 16]) (by simp [results, Try.results22, go_sem]) rfl ?_
                    exact FIN.out _ (below_drewN (bel_alloc (Below.refl _ _) _) _)
                · have s2 : (x.k == 2) = false := by simp [k2]
                  by_cases k3 : x.k = 3
                  · rw [k3] at q2
                    cases hs : x.s
                    · rw [hs] at q5
                      have YS := Lib.hid (YES.out (OKI.out.2 (.inr (.inl ⟨.inr k3, hs⟩))))
                      rw [hi, Int.toNat_natCast] at YS
                      clear YES NB OKI k1 s1 hs k2 s2
                      go_wp2
                      go_quiet ((go_at_call 42; first | (with_reducible exact qL (CT _).out) | (with_reducible exact qA (CT _).out)))
                      go_wp2
                      go_region
                      go_wp2
                      go_roundw
                      case rel =>
                        exact ⟨j + 1, _, _, by omega, by go_num, HA.out.stepW (below_drew (below_drewN (bel_alloc (Below.refl _ _) _) _)) hiV bn0 bn1, by rw [List.length_set, HL.out], YS.out, (bel_trans bel (below_drew (below_drewN (bel_alloc (Below.refl _ _) _) _))).setCell (p := ⟨p, i, none⟩) hps _⟩
                      case measure => simp [intOf]; omega
                    · rw [hs] at q5
                      have FIN := Lib.hid (NB.out (fun h => by have := OKI.out.1 h; rw [hs] at this; simp [k3] at this))
                      clear YES NB OKI k1 s1 hs k2 s2
                      go_wp2
                      go_quiet ((go_at_call 42; first | (with_reducible exact qL (CT _).out) | (with_reducible exact qA (CT _).out)))
                      go_wp2
                      refine bodyPost_ret (v := .tuple #[.slice none 0 0, .int .i64 (j : Nat), .int .i64 16]) (by simp [results, Try.results22, go_sem]) rfl ?_
                      exact FIN.out _ (below_drewN (bel_alloc (Below.refl _ _) _) _)
                  · have s3 : (x.k == 3) = false := by simp [k3]
                    by_cases k4 : x.k = 4
                    · rw [k4] at q2
                      cases hs : x.s
                      · rw [hs] at q5
                        by_cases n1 : x.n = x.o
                        · have w1 : (x.n == x.o) = true := by simp [n1]
                          have YS := Lib.hid (YES.out (OKI.out.2 (.inr (.inr ⟨k4, .inr n1⟩))))
                          rw [hi, Int.toNat_natCast] at YS
                          clear YES NB OKI k1 s1 k2 s2 k3 s3 n1 hs
                          go_wp2
                          go_quiet ((go_at_call 42; first | (with_reducible exact qL (CT _).out) | (with_reducible exact qA (CT _).out)))
                          go_wp2
                          go_region
                          go_wp2
                          go_roundw
                          case rel =>
                            exact ⟨j + 1, _, _, by omega, by go_num, HA.out.stepW (below_drew (below_drewN (bel_alloc (Below.refl _ _) _) _)) hiV bn0 bn1, by rw [List.length_set, HL.out], YS.out, (bel_trans bel (below_drew (below_drewN (bel_alloc (Below.refl _ _) _) _))).setCell (p := ⟨p, i, none⟩) hps _⟩
                          case measure => simp [intOf]; omega
                        · have w1 : (x.n == x.o) = false := by simp [n1]
                          have FIN := Lib.hid (NB.out (fun h => by have := OKI.out.1 h; rw [hs] at this; simp [k4, n1] at this))
                          clear YES NB OKI k1 s1 k2 s2 k3 s3 n1 hs
                          go_wp2
                          go_quiet ((go_at_call 42; first | (with_reducible exact qL (CT _).out) | (with_reducible exact qA (CT _).out)))
                          go_wp2
                          refine bodyPost_ret (v := .tuple #[.slice none 0 0, .int .i64 (j : Nat), .int .i64 16]) (by simp [results, Try.results22, go_sem]) rfl ?_
                          exact FIN.out _ (below_drewN (bel_alloc (Below.refl _ _) _) _)
                      · rw [hs] at q5
                        have YS := Lib.hid (YES.out (OKI.out.2 (.inr (.inr ⟨k4, .inl hs⟩))))
                        rw [hi, Int.toNat_natCast] at YS
                        clear YES NB OKI k1 s1 k2 s2 k3 s3 hs
                        go_wp2
                        go_quiet ((go_at_call 42; first | (with_reducible exact qL (CT _).out) | (with_reducible exact qA (CT _).out)))
                        go_wp2
                        go_region
                        go_wp2
                        go_roundw
                        case rel =>
                          exact ⟨j + 1, _, _, by omega, by go_num, HA.out.stepW (below_drew (below_drewN (bel_alloc (Below.refl _ _) _) _)) hiV bn0 bn1, by rw [List.length_set, HL.out], YS.out, (bel_trans bel (below_drew (below_drewN (bel_alloc (Below.refl _ _) _) _))).setCell (p := ⟨p, i, none⟩) hps _⟩
                        case measure => simp [intOf]; omega
                    · have s4 : (x.k == 4) = false := by simp [k4]
                      have FIN := Lib.hid (NB.out (fun h => by have := OKI.out.1 h; simp [k1, k2, k3, k4] at this))
                      clear YES NB OKI k1 k2 k3 k4
                      go_wp2
                      go_quiet ((go_at_call 42; first | (with_reducible exact qL (CT _).out) | (with_reducible exact qA (CT _).out)))
                      go_wp2
                      refine bodyPost_ret (v := .tuple #[.slice none 0 0, .int .i64 (j : Nat), .int .i64 16]) (by simp [results, Try.results22, go_sem]) rfl ?_
                      exact FIN.out _ (below_drewN (bel_alloc (Below.refl _ _) _) _)
            · have v0 : (x.o == y) = false := by simp [h3]
              have v1 : (x.o != y) = true := by simp [h3]
              have OKI := 0
              have NBB := Lib.hid (fun h : ok V x => h3 (h.2.2.1.trans hy2))
              clear h1 h2 hy2 hy h3
              rw [hi] at q1
              have FIN := Lib.hid (NB.out (NBB.out))
              clear YES NB OKI
              go_wp2
              go_quiet ((go_at_call 42; first | (with_reducible exact qL (CT _).out) | (with_reducible exact qA (CT _).out)))
              go_wp2
              refine bodyPost_ret (v := .tuple #[.slice none 0 0, .int .i64 (j : Nat), .int .i64 16]) (by simp [results, Try.results22, go_sem]) rfl ?_
              exact FIN.out _ (below_drewN (bel_alloc (Below.refl _ _) _) _)
          · have OKI := 0
            have NBB := Lib.hid (fun h : ok V x => h2 (by have := h.2.1; rw [HL.out] at this; exact this))
            by_cases h4 : x.a < 0
            · have u0 : decide (x.a < 0) = true := decide_eq_true h4
              clear h1 h2
              have FIN := Lib.hid (NB.out (NBB.out))
              clear YES NB OKI
              go_wp2
              go_quiet ((go_at_call 42; first | (with_reducible exact qL (CT _).out) | (with_reducible exact qA (CT _).out)))
              go_wp2
              refine bodyPost_ret (v := .tuple #[.slice none 0 0, .int .i64 (j : Nat), .int .i64 16]) (by simp [results, Try.results22, go_sem]) rfl ?_
              exact FIN.out _ (below_drewN (bel_alloc (Below.refl _ _) _) _)
            · have u0 : decide (x.a < 0) = false := decide_eq_false h4
              have u1 : decide ((W.length : Int) ≤ x.a) = true := decide_eq_true (by omega)
              clear h1 h2 h4
              have FIN := Lib.hid (NB.out (NBB.out))
              clear YES NB OKI
              go_wp2
              go_quiet ((go_at_call 42; first | (with_reducible exact qL (CT _).out) | (with_reducible exact qA (CT _).out)))
              go_wp2
              refine bodyPost_ret (v := .tuple #[.slice none 0 0, .int .i64 (j : Nat), .int .i64 16]) (by simp [results, Try.results22, go_sem]) rfl ?_
              exact FIN.out _ (below_drewN (bel_alloc (Below.refl _ _) _) _)
        · rw [decide_eq_false h1] at CT
          replace CT := fun W' => Lib.hid (CT W')
          have OKI := 0
          have NBB := Lib.hid (fun h : ok V x => h1 h.1)
          clear h1
          have FIN := Lib.hid (NB.out (NBB.out))
          clear YES NB OKI
          go_wp2
          go_quiet ((go_at_call 42; first | (with_reducible exact qL (CT _).out) | (with_reducible exact qA (CT _).out)))
          go_wp2
          refine bodyPost_ret (v := .tuple #[.slice none 0 0, .int .i64 (j : Nat), .int .i64 16]) (by simp [results, Try.results22, go_sem]) rfl ?_
          exact FIN.out _ (below_drewN (bel_alloc (Below.refl _ _) _) _)
      · obtain rfl : j = L.length := by omega
        rw [List.drop_length] at hS
        have RD := Lib.hid (rowU_rd ha.row)
        have HS := Lib.hid (show scan W L 0 = (some V, L.length) from hS.symm)
        have HL := Lib.hid hl
        clear ha hS hl
        have t0 : decide ((L.length : Int) < L.length) = false := decide_eq_false (by omega)
        go_wp2
        rw [← HL.out]
        refine bodyPost_ret (v := .tuple #[.slice (some ⟨p, 0, none⟩) V.length pc, .int .i64 (L.length : Nat), .int .i64 0]) (by simp [results, Try.results22, go_sem]) rfl ?_
        exact ⟨.inr (.inr ⟨HE.out, V, _, _, HS.out, rfl, RD.out⟩), bel⟩
  · have HE := Lib.hid he
    have t0 : decide (newE W.length = 0) = false := decide_eq_false he
    have t1 : (newE W.length == 0) = false := beq_eq_false_iff_ne.2 he
    have t2 : (newE W.length != 0) = true := by simp [bne, t1]
    have HP := Lib.hid (fun w' (h : w' = w) => show RpP W L w (.returned (.tuple #[.slice none 0 0, .int .i64 0, .int .i64 (newE W.length)])) w' from ⟨.inl ⟨he, rfl⟩, h ▸ Below.refl _ _⟩)
    clear hr hd hd0 hr2 hz he
    go_enter Try.func22, Try.ntmps22
    go_wp2_with fail
    refine CN.out.mono ?_
    rintro r w2 (⟨_, rfl, hw⟩ | ⟨h, _⟩)
    · have HW := Lib.hid hw
      clear hw
      generalize newE W.length = y at *
      go_wp2
      exact bodyPost_ret (v := .tuple #[.slice none 0 0, .int .i64 0, .int .i64 y]) (by simp [results, Try.results22, go_sem]) rfl (HP.out _ HW.out)
    · exact absurd h HE.out
end Wd
end Go.Proofs.Ytpakolaegbccdaa
