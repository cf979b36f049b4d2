/- leapfrogref12: Effects: contract of the translated code. Conditions: those of the lemma. -/
import Derived.Test.YtgfhfcjjodcgdaaHiW
import Derived.IntWalk
namespace Go.Proofs.Ytgfhfcjjodcgdaa
open Go.RowKit Go.Shelf Go.Sort
set_option linter.unusedVariables false
set_option linter.unusedSimpArgs false
namespace Hi
def slLen : Value → Nat
  | .slice _ n _ => n
  | _ => 0
/-- the first effects, as a row -/
def efK (l : List C) (q : Nat) : List Int := ((eff l).take q).map fun i : Nat => (i : Int)
theorem efK_len {l : List C} {q : Nat} (h : q ≤ (eff l).length) : (efK l q).length = q := by unfold efK; rw [List.length_map, List.length_take]; omega
theorem efK_snoc {l : List C} {q e : Nat} (h : ∃ hlt : q < (eff l).length, (eff l)[q] = e) : efK l (q + 1) = efK l q ++ [(e : Int)] := by
  obtain ⟨hlt, rfl⟩ := h
  unfold efK; rw [eff_snoc hlt, List.map_append]; rfl
theorem efK_last {l : List C} {q : Nat} (h : q + 1 ≤ (eff l).length) : (efK l (q + 1)).getD q 0 = ((eff l).getD q 0 : Nat) := by
  have hq : q < (eff l).length := by omega
  unfold efK
  rw [List.getD_eq_getElem?_getD, List.getElem?_map, List.getElem?_take_of_lt (by omega), List.getD_eq_getElem?_getD, List.getElem?_eq_getElem hq]; rfl
theorem efK_all {l : List C} (q : Nat) (h : q = (eff l).length) : efK l q = (eff l).map fun i : Nat => (i : Int) := by unfold efK; rw [h, List.take_length]
set_option maxRecDepth 100000 in
set_option maxHeartbeats 4000000 in
theorem reffects_any (A : Option Addr) (n c : Nat) (l : List C) (w : World) (hl : l.length = n) (hx : n ≤ 1000) (hr : KC.Rd w A l) (hb : Bd l) :
    Calls Try.prog 18 #[.slice A n c] w (RwPost KI (erC l) (efL l) w) := by
  have CC := Lib.hid (rcheck_any A n c l w hl hx hr hb)
  rw [chkV_eq] at CC
  have HL := Lib.hid hl
  have HR := Lib.hid hr
  generalize chkAt l = at_ at *
  by_cases hwf : WF l
  · rw [erC_ok hwf] at CC
    have HW := Lib.hid hwf
    have HP := Lib.hid (show ∀ v w', w'.ownsRow w.heap.size KI.E KI.sz v (efK l (eff l).length).length (KI.flat (efK l (eff l).length)) → Below w.heap.size w w' → RwPost KI (erC l) (efL l) w (.returned (.tuple #[v, .int .i64 0])) w' from fun v w' h1 h2 => by
      rw [efK_all _ rfl] at h1
      have e2 : efL l = (eff l).map fun i : Nat => (i : Int) := by unfold efL; rw [if_pos (erC_ok hwf)]
      rw [e2, erC_ok hwf]
      exact ⟨_, rfl, h1, h2⟩)
    have HEL := Lib.hid (show (eff l).length ≤ n from by have := eff_len l; omega)
    clear hl hr hb hwf
    go_enter Try.func18, Try.ntmps18
    go_wp2_with fail
    refine CC.out.mono ?_
    rintro e w1 ⟨rfl, b1⟩
    have B1 := Lib.hid b1
    have HR1 := Lib.hid (HR.out.below b1)
    have hs1 := b1.size
    clear b1 CC HR
    have n1 : (n : Int) ≤ 1000 := by omega
    go_wp2_with fail
    go_loopw [6] (fun v wr => ∃ (q : Nat) (A' : Option Addr) (c' : Nat), q ≤ (eff l).length ∧ v = .slice A' q c' ∧ wr.ownsRow w1.heap.size KI.E KI.sz v (efK l q).length (KI.flat (efK l q)) ∧ KI.Rd wr A' (efK l q) ∧ Below w1.heap.size w1 wr) (fun v _ => n - slLen v)
    case atStart => exact ⟨0, none, 0, Nat.zero_le _, rfl, KI.nil _ _, fun i x hi => by simp [efK] at hi, Below.refl _ _⟩
    case round =>
      obtain ⟨q, A', c', hq, rfl, ow, rd, bel⟩ := hrel
      obtain ⟨wq, rfl⟩ : ∃ wq : World, wq = wr := ⟨_, rfl⟩
      have OW := Lib.hid ow
      have RD := Lib.hid rd
      have hqn : q ≤ n := by have := HEL.out; omega
      clear ow rd
      by_cases hlt : q < n
      · have d0 : decide ((q : Int) < n) = true := decide_eq_true (by omega)
        go_wp2_with fail
        go_loopw [7, 8] (fun s i wr => ∃ (j : Nat) (x : Int), j ≤ n ∧ i = .int .i64 j ∧ s = .int .i64 x ∧ nx l q j x ∧ Below wq.heap.size wq wr) (fun s i _ => n - (intOf i).toNat)
        case atStart => exact ⟨0, -1, Nat.zero_le _, rfl, rfl, nx_zero _ _, Below.refl _ _⟩
        case round =>
          obtain ⟨j, x, hj, rfl, rfl, hnx, belq⟩ := hrel
          have NX := Lib.hid hnx
          by_cases hjn : j < n
          · have hjl : j < l.length := by have := HL.out; omega
            have d1 : decide ((j : Int) < n) = true := decide_eq_true (by omega)
            have j1 : (j : Int) < n := by omega
            obtain ⟨b, o, rfl, at0⟩ := KC.at_ (HR1.out.below (bel_bel bel belq)) hjl
            have CU := Lib.hid (fun (e : Nat) (he : e < n) => (show wr.cell? ⟨b, o + e * 18 + 10, none⟩ = some (.int .i64 (tk l e)) from by
              obtain ⟨b', o', eA, hat⟩ := KC.at_ (HR1.out.below (bel_bel bel belq)) (show e < l.length by have := HL.out; omega)
              injection eA with eA
              injection eA with e1 e2 e3
              subst e1 e2
              exact hat 10 _ rfl))
            have cj := CU.out j hjn
            have NS := Lib.hid (fun h => nx_skip NX.out (j := j) h)
            have NT := Lib.hid (fun h h1 => nx_take NX.out (j := j) h h1)
            have NKp := Lib.hid (fun (m : Nat) (h : nx l q j (m : Int)) h1 => nx_keep (l := l) (q := q) (j := j) (n := m) h h1)
            -- region 10, the call is one to come or not
            have key : ∃ g : Bool, (g = true ↔ cand l q j) := by
              by_cases h : cand l q j
              · exact ⟨true, by simp [h]⟩
              · exact ⟨false, by simp [h]⟩
            obtain ⟨g, hg⟩ := key
            have HG := Lib.hid hg
            clear hg at0 hnx
            go_wp2_with fail
            go_cut [56] from 28 to 55 (fun sx wx => sx = .bool (!g) ∧ Below wr.heap.size wr wx)
            case first =>
              by_cases h1 : tk l j < 0
              · have q1 := decide_eq_true h1
                have HV := Lib.hid (show g = false by
                  cases g with
                  | false => rfl
                  | true => have := (HG.out.1 rfl).2.1; omega)
                clear h1
                go_quiet (fail)
                go_wp2_with fail
                go_meet
                exact ⟨by rw [HV.out]; first | done | rfl, bel_drawN (Below.refl _ _) _⟩
              · have q1 := decide_eq_false h1
                cases q with
                | zero =>
                  have HV := Lib.hid (show g = true from HG.out.2 ⟨hjl, by omega, fun h => by omega⟩)
                  have u0 : decide ((0 : Int) > 0) = false := by decide
                  clear h1
                  go_quiet (fail)
                  go_wp2_with fail
                  go_meet
                  exact ⟨by rw [HV.out]; first | done | rfl, bel_drawN (Below.refl _ _) _⟩
                | succ q =>
                  have hel := efK_last (l := l) (q := q) hq
                  have heg := eff_get_lt (l := l) (q := q) (by omega)
                  obtain ⟨gb, go, rfl, cr⟩ := KI.at_ (RD.out.below belq) (show q < (efK l (q + 1)).length by rw [efK_len hq]; omega)
                  rw [hel] at cr
                  have HG2 := Lib.hid (show g = true ↔ tk l ((eff l).getD q 0) < tk l j from ⟨fun h => (HG.out.1 h).2.2 (by omega), fun h => HG.out.2 ⟨hjl, by omega, fun _ => h⟩⟩)
                  have hen : (eff l).getD q 0 < n := by have := HL.out; omega
                  obtain ⟨e, he⟩ : ∃ e, (eff l).getD q 0 = e := ⟨_, rfl⟩
                  rw [he] at cr HG2 hen
                  have ce := CU.out e hen
                  obtain ⟨ue, hue⟩ : ∃ u, tk l e = u := ⟨_, rfl⟩
                  rw [hue] at ce HG2
                  have e1 : (e : Int) < n := by omega
                  have u0 : decide (((q : Int) + 1) > 0) = true := decide_eq_true (by omega)
                  have w1 : IntKind.i64.wrap ((q : Int) + 1 - 1) = q := by rw [IntWalk.i64_in _ (by omega)]; omega
                  have i3 : (q : Int) < (q : Int) + 1 := by omega
                  obtain ⟨uj, huj⟩ : ∃ u, tk l j = u := ⟨_, rfl⟩
                  rw [huj] at cj HG2 q1
                  by_cases h2 : uj ≤ ue
                  · have q2 := decide_eq_true h2
                    have HV := Lib.hid (show g = false by
                      cases g with
                      | false => rfl
                      | true => have := HG2.out.1 rfl; omega)
                    clear h1 h2 heg hel hue huj he
                    go_quiet (fail)
                    go_wp2_with fail
                    go_meet
                    exact ⟨by rw [HV.out]; first | done | rfl, bel_drawN (Below.refl _ _) _⟩
                  · have q2 := decide_eq_false h2
                    have HV := Lib.hid (show g = true from HG2.out.2 (by omega))
                    clear h1 h2 heg hel hue huj he
                    go_quiet (fail)
                    go_wp2_with fail
                    go_meet
                    exact ⟨by rw [HV.out]; first | done | rfl, bel_drawN (Below.refl _ _) _⟩
            case rest =>
              obtain ⟨rfl, belc⟩ := hcut
              cases g with
              | false =>
                simp only [Bool.not_false]
                have HN := Lib.hid (NS.out (fun h => by have := HG.out.2 h; cases this))
                go_wp2_with fail
                go_roundw
                case rel => exact ⟨j + 1, x, by omega, by go_num, rfl, HN.out, bel_bel belq belc⟩
                case measure => simp [intOf]; omega
              | true =>
                simp only [Bool.not_true]
                have hcd := HG.out.1 rfl
                have cj : wc.cell? ⟨b, o + j * 18 + 10, none⟩ = some (.int .i64 (tk l j)) := (belc.cell (p := ⟨b, o + j * 18 + 10, none⟩) (cell_lt cj)).trans cj
                rcases NX.out with ⟨rfl, hno⟩ | ⟨m, rfl, hmj, hcm, hmin⟩
                · have HN := Lib.hid (NT.out hcd (.inl rfl))
                  have q5 : decide ((-1 : Int) < 0) = true := by decide
                  clear hno hcd
                  go_wp2_with fail
                  go_quiet (fail)
                  go_wp2_with fail
                  go_roundw
                  case rel => exact ⟨j + 1, _, by omega, by go_num, rfl, HN.out, bel_drawN (bel_bel belq belc) _⟩
                  case measure => simp [intOf]; omega
                · have cm0 := CU.out m (by omega)
                  have cm : wc.cell? ⟨b, o + m * 18 + 10, none⟩ = some (.int .i64 (tk l m)) := (belc.cell (p := ⟨b, o + m * 18 + 10, none⟩) (cell_lt cm0)).trans cm0
                  have q5 : decide ((m : Int) < 0) = false := decide_eq_false (by omega)
                  have m1 : (m : Int) < n := by omega
                  by_cases h3 : tk l j < tk l m
                  · have HN := Lib.hid (NT.out hcd (.inr fun m' h => by obtain rfl : m = m' := (by omega); exact h3))
                    have q6 := decide_eq_true h3
                    clear h3 hmin hcm hcd cm0
                    go_wp2_with fail
                    go_quiet (fail)
                    go_wp2_with fail
                    go_roundw
                    case rel => exact ⟨j + 1, _, by omega, by go_num, rfl, HN.out, bel_drawN (bel_bel belq belc) _⟩
                    case measure => simp [intOf]; omega
                  · have HN := Lib.hid (NKp.out m NX.out (by omega))
                    have q6 := decide_eq_false h3
                    clear h3 hmin hcm hcd cm0
                    go_wp2_with fail
                    go_quiet (fail)
                    go_wp2_with fail
                    go_roundw
                    case rel => exact ⟨j + 1, _, by omega, by go_num, rfl, HN.out, bel_drawN (bel_bel belq belc) _⟩
                    case measure => simp [intOf]; omega
          · obtain rfl : j = n := by omega
            have d1 : decide ((j : Int) < j) = false := by simp
            rcases NX.out with ⟨rfl, hno⟩ | ⟨m, rfl, hmj, hcm, hmin⟩
            · have HQ := Lib.hid (pick_none HW.out hq (fun i hi => hno i (by have := HL.out; omega)))
              have q5 : decide ((-1 : Int) < 0) = true := by decide
              have OW2 := Lib.hid (KI.own_below OW.out belq)
              rw [HQ.out] at OW2
              clear hno hnx
              go_wp2_with fail
              go_ret2
              exact HP.out _ _ (row_base (by have := OW2.out; rw [← HQ.out] at this ⊢; exact this) hs1) (bel_bel B1.out (bel_bel bel belq))
            · have HS := Lib.hid (efK_snoc (pick_some HW.out hq hcm (fun i hi h => hmin i (by have := HL.out; omega) h)))
              have HQ2 := pick_lt HW.out hq hcm
              have q5 : decide ((m : Int) < 0) = false := decide_eq_false (by omega)
              have hlen := efK_len hq
              clear hmin hcm hnx
              go_wp2_with (at_builtin; refine KI.app rfl (.tmp 76) (.tmp 78) rfl wr w1.heap.size _ (efK l q) (m : Int) #[.int .i64 (m : Int)] rfl rfl rfl (KI.own_below OW.out belq) (by omega) (by have := bel.size; have := belq.size; omega) ?_; intro v4 w4 h1 b4 _)
              rw [← HS.out] at h1
              obtain ⟨hl4, A4, c4, rfl, _, r4, _⟩ := KI.row h1
              have HX := Lib.hid (efK_len (l := l) (q := q + 1) HQ2)
              rw [HX.out] at h1
              have H1 := Lib.hid h1
              clear h1
              rw [HX.out]
              go_wp2_with fail
              go_roundw
              case rel => exact ⟨q + 1, A4, c4, HQ2, rfl, by rw [HX.out]; exact H1.out, r4, (bel_bel bel belq).trans b4⟩
              case measure => simp [slLen]; omega
      · obtain rfl : q = n := by omega
        have d0 : decide ((q : Int) < q) = false := by simp
        have HQ := Lib.hid (show q = (eff l).length by have := HEL.out; omega)
        go_wp2_with fail
        go_ret2
        exact HP.out _ _ (row_base (by have := OW.out; rw [← HQ.out]; exact this) hs1) (bel_bel B1.out bel)
  · rw [erC_no hwf] at CC
    have HP := Lib.hid (show ∀ w', Below w.heap.size w w' → RwPost KI (erC l) (efL l) w (.returned (.tuple #[.slice none 0 0, .int .i64 15])) w' from fun w' h => by
      have e2 : efL l = [] := by unfold efL; rw [if_neg (by rw [erC_no hwf]; decide)]
      rw [e2, erC_no hwf]
      exact ⟨_, rfl, KI.nil _ _, h⟩)
    clear hl hr hb hwf
    go_enter Try.func18, Try.ntmps18
    go_wp2_with fail
    refine CC.out.mono ?_
    rintro e w1 ⟨rfl, b1⟩
    go_wp2
    go_ret2
    exact HP.out _ b1
end Hi
end Go.Proofs.Ytgfhfcjjodcgdaa
