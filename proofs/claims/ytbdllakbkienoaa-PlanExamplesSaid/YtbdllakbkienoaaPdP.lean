/- Then for all lists, and Apply of package plan: contracts of the translated code. Conditions: at most 200 pairs, 400 changes each; the bounds of each number's kind. -/
import Derived.Test.YtbdllakbkienoaaPdM
namespace Go.Proofs.Ytbdllakbkienoaa
open Go.RowKit Go.Sort
set_option linter.unusedVariables false
set_option linter.unusedSimpArgs false
namespace Pl
open Om (addr_lit bel_alloc bel_trans below_drewN ret_eq Asc)
open Classical in
noncomputable def thE (a b : List Rc) : Int := if chk a ∧ chk b then (if okT (a.map canon) (b.map canon) then 0 else 8) else 2
open Classical in
noncomputable def thR (a b : List Rc) : List Rc := if thE a b = 0 then (thL (a.map canon) (b.map canon)).map rawC else []
theorem thE_no {a b : List Rc} (h : ¬ (chk a ∧ chk b)) : thE a b = 2 := if_neg h
theorem thE_ok {a b : List Rc} (ha : chk a) (hb : chk b) (h : okT (a.map canon) (b.map canon)) : thE a b = 0 := by unfold thE; rw [if_pos ⟨ha, hb⟩, if_pos h]
theorem thE_st {a b : List Rc} (ha : chk a) (hb : chk b) (h : ¬ okT (a.map canon) (b.map canon)) : thE a b = 8 := by unfold thE; rw [if_pos ⟨ha, hb⟩, if_neg h]
theorem thR_no {a b : List Rc} {E : Int} (h : thE a b = E) (hE : E ≠ 0) : thR a b = [] := if_neg (by rw [h]; exact hE)
theorem thR_yes {a b : List Rc} (h : thE a b = 0) : thR a b = (thL (a.map canon) (b.map canon)).map rawC := if_pos h
set_option maxHeartbeats 1000000 in
theorem thenP (A B : Option Addr) (n c m d : Nat) (a b : List Rc) (w : World) (hn : a.length = n) (hm : b.length = m) (hs : n ≤ 400) (hs2 : m ≤ 400) (hmd : m ≤ d) (hz : B = none → d = 0) (hr : Rd w A a) (hr2 : Rd w B b) :
    Calls Try.prog 26 #[.slice A n c, .slice B m d] w (APost w (thE a b) (thR a b)) := by
  by_cases ka : chk a
  · by_cases kb : chk b
    · have ea := chk_raw ka; have eb := chk_raw kb
      have W := then_walk A B n c m d (a.map canon) (b.map canon) w (by rw [List.length_map]; exact hn) (by rw [List.length_map]; exact hm) hs hs2 hmd hz (by rw [ea]; exact hr) (by rw [eb]; exact hr2) (by rw [ea]; exact ka) (by rw [eb]; exact kb)
      by_cases hk : okT (a.map canon) (b.map canon)
      · rw [thR_yes (thE_ok ka kb hk), thE_ok ka kb hk]
        rw [thW_ok _ _ (chk_asc ka) (chk_asc kb) hk] at W
        exact W
      · rw [thR_no (thE_st ka kb hk) (by omega), thE_st ka kb hk]
        rw [thW_no (chk_asc ka) (chk_asc kb) hk] at W
        exact W
    · have HE := Lib.hid (thE_no (a := a) (b := b) (fun h => kb h.2))
      have HM := Lib.hid (thR_no HE.out (by omega))
      have CA := Lib.hid (checkP_any A n c a w hn (by omega) hr true ⟨fun _ => ka, fun _ => rfl⟩)
      have CB := fun W (q : Below w.heap.size w W) => Lib.hid (checkP_any B m d b W hm (by omega) (hr2.below q) false ⟨fun q => by (cases q), fun q => absurd q kb⟩)
      simp only [eT_true, eT_false] at CA CB
      clear hr hr2 ka kb hz
      rw [HE.out, HM.out]
      go_enter Try.func26, Try.ntmps26
      go_wp2
      go_step3
      go_wp2_with fail
      refine CA.out.mono ?_
      rintro r W1 ⟨rfl, b1⟩
      go_wp2_with fail
      refine (CB _ b1).out.mono ?_
      rintro r W2 ⟨rfl, b2⟩
      go_wp2
      try rw [Exit.noGoto_ret]
      go_ret2
      exact APost.err (bel_trans b1 b2)
  · have HE := Lib.hid (thE_no (a := a) (b := b) (fun h => ka h.1))
    have HM := Lib.hid (thR_no HE.out (by omega))
    have CA := Lib.hid (checkP_any A n c a w hn (by omega) hr false ⟨fun q => by (cases q), fun q => absurd q ka⟩)
    simp only [eT_false] at CA
    clear hr hr2 ka hz
    rw [HE.out, HM.out]
    go_enter Try.func26, Try.ntmps26
    go_wp2
    go_step3
    go_wp2_with fail
    refine CA.out.mono ?_
    rintro r W1 ⟨rfl, b1⟩
    go_wp2
    try rw [Exit.noGoto_ret]
    go_ret2
    exact APost.err b1
/-! ### Apply -/
open Classical in
noncomputable def apE (p : List Om.Pr) (l : List Rc) : Int := if Asc p ∧ chk l then (if fits p (l.map canon) then 0 else 8) else 2
open Classical in
noncomputable def apR (p : List Om.Pr) (l : List Rc) : List Om.Pr := if apE p l = 0 then appL p (l.map canon) else []
theorem apE_no {p : List Om.Pr} {l : List Rc} (h : ¬ (Asc p ∧ chk l)) : apE p l = 2 := if_neg h
theorem apE_ok {p : List Om.Pr} {l : List Rc} (ha : Asc p) (hb : chk l) (h : fits p (l.map canon)) : apE p l = 0 := by unfold apE; rw [if_pos ⟨ha, hb⟩, if_pos h]
theorem apE_st {p : List Om.Pr} {l : List Rc} (ha : Asc p) (hb : chk l) (h : ¬ fits p (l.map canon)) : apE p l = 8 := by unfold apE; rw [if_pos ⟨ha, hb⟩, if_neg h]
theorem apR_no {p : List Om.Pr} {l : List Rc} {E : Int} (h : apE p l = E) (hE : E ≠ 0) : apR p l = [] := if_neg (by rw [h]; exact hE)
theorem apR_yes {p : List Om.Pr} {l : List Rc} (h : apE p l = 0) : apR p l = appL p (l.map canon) := if_pos h
theorem bth_take {l : List Om.Pr} {j : Nat} {x : Om.Pr} (h : l[j]? = some x) : (l.take (j + 1)).map bth = (l.take j).map bth ++ [bth x] := by
  rw [List.take_add_one, h]; simp
theorem bths_chk {p : List Om.Pr} : chk ((p.map bth).map rawC) ↔ Asc p := by
  constructor
  · intro h
    have := chk_asc h
    rw [canon_raws] at this
    exact bth_asc.1 this
  · intro h
    exact raw_chk (bth_asc.2 h) (fun x hx => by obtain ⟨y, _, rfl⟩ := List.mem_map.1 hx; exact .inr (by simp [bth]))
def lft (z : Cg) : Om.Pr := (z.k, z.a.getD 0)
theorem lft_take {l : List Cg} {j : Nat} {x : Cg} (h : l[j]? = some x) : (l.take (j + 1)).map lft = (l.take j).map lft ++ [lft x] := by
  rw [List.take_add_one, h]; simp
set_option maxHeartbeats 1000000 in
theorem applyP (A B : Option Addr) (n c m d : Nat) (p : List Om.Pr) (l : List Rc) (w : World) (hn : p.length = n) (hm : l.length = m) (hs : n ≤ 200) (hs2 : m ≤ 400) (hmd : m ≤ d) (hz : B = none → d = 0) (hr : Om.Rd w A p) (hr2 : Rd w B l) :
    Calls Try.prog 18 #[.slice A n c, .slice B m d] w (PPost w (apE p l) (apR p l)) := by
  have HR := Lib.hid hr; clear hr
  have HR2 := Lib.hid hr2; clear hr2
  have HL := Lib.hid hn; clear hn
  have HM := Lib.hid hm; clear hm
  have HZ := Lib.hid hz; clear hz
  have CBi := fun k v W => Lib.hid (birth_any k v W)
  simp only [cV, bthR] at CBi
  go_enter Try.func18, Try.ntmps18
  go_wp2
  go_loopw [6, 16] (fun q i wr => ∃ j : Nat, j ≤ n ∧ i = .int .i64 j ∧ wr.ownsRow w.heap.size 45 5 q j (flat (((p.take j).map bth).map rawC)) ∧ Below w.heap.size w wr) (fun q i _ => (n - intOf i).toNat)
  case atStart => exact ⟨0, Nat.zero_le _, rfl, World.ownsRow_nil _ _ _ _, Below.refl _ _⟩
  case round =>
    obtain ⟨j, hj, rfl, hq, bel⟩ := hrel
    by_cases hlt : j < n
    · have HQ := Lib.hid hq; clear hq
      obtain ⟨x, hx, hxm⟩ := pr_lt HL.out hlt
      obtain ⟨b1, o1, eA, g0, g1⟩ := (HR.out.below bel) j _ hx
      subst eA
      have u0 : decide ((j : Int) < n) = true := decide_eq_true (by omega)
      have hji : (j : Int) < n := by omega
      have HK := Lib.hid (bth_take hx)
      clear hx hxm
      go_upto_region 5 with fail
      have X2 := Lib.hid (B2.made wr x)
      have ba := bel_alloc (Below.refl wr.heap.size wr) (.cells #[.int .u64 x.1, .int .u64 x.2] 43)
      have bel2 := bel_trans bel ba
      have HQ2 := Lib.hid (row_below HQ.out ba)
      clear g0 g1 ba
      generalize wr.alloc (.cells #[.int .u64 x.1, .int .u64 x.2] 43) = W4 at *
      generalize wr.heap.size = pb at *
      have x0 := X2.out.c0; have x1 := X2.out.c1
      go_wp2_with fail
      refine (CBi x.1 x.2 _).out.mono ?_
      rintro rd W5 ⟨rfl, b5⟩
      have bel5 := bel_trans bel2 b5
      have HQ5 := Lib.hid (row_below HQ2.out b5)
      clear x0 x1 X2 b5 HQ2 bel2
      go_wp2_with (at_builtin; refine app3 rfl (.tmp 20) (.tmp 26) rfl _ w.heap.size _ _ (((p.take j).map bth).map rawC) ⟨x.1, false, 0, true, x.2⟩ rfl rfl HQ5.out (by omega) bel5.size ?_; intro v8 w8 h1 b8 k8; have HW8 := Lib.hid h1; clear h1 k8)
      go_roundw
      case rel => exact ⟨j + 1, by omega, by go_num, by rw [HK.out, raws_snoc]; exact HW8.out, bel5.trans b8⟩
      case measure => simp [intOf]; omega
    · obtain rfl : j = n := by omega
      have u0 : decide ((j : Int) < j) = false := decide_eq_false (by omega)
      have hT : p.take j = p := List.take_of_length_le (by rw [HL.out]; omega)
      rw [hT] at hq
      clear hT
      obtain ⟨hql, QA, QC, rfl, hqc, hqr, _⟩ := row_form hq
      have CT := Lib.hid (thenP QA B j QC m d ((p.map bth).map rawC) l wr hql HM.out (by omega) hs2 hmd HZ.out hqr (HR2.out.below bel))
      clear hq hqr hql
      by_cases hok : Asc p ∧ chk l
      · have kb := bths_chk.2 hok.1
        have ha := hok.1
        have kl := hok.2
        by_cases hkt : okT (((p.map bth).map rawC).map canon) (l.map canon)
        · have e0 := thE_ok kb kl hkt
          have e1 := thR_yes e0
          rw [e1, e0] at CT
          rw [canon_raws] at CT hkt
          obtain ⟨L, hL⟩ : ∃ L, thL (p.map bth) (l.map canon) = L := ⟨_, rfl⟩
          rw [hL] at CT
          have HF := Lib.hid (show fits p (l.map canon) ↔ ∀ z, z ∈ L → z.b = none by
            rw [ap_fits ha (chk_asc kl) (chk_real kl), hL]
            exact ⟨fun h => h.2, fun h => ⟨hkt, h⟩⟩)
          have HLF := Lib.hid (show fits p (l.map canon) → L.map lft = appL p (l.map canon) from fun h => by
            rw [← hL]; exact ap_left ha (chk_asc kl) (chk_real kl) h)
          have hLl : L.length ≤ 600 := by
            rw [← hL]
            refine Nat.le_trans thL_len ?_
            rw [List.length_map, List.length_map, HL.out, HM.out]; omega
          have HAE := Lib.hid (apE_ok ha kl); have HAS := Lib.hid (apE_st ha kl)
          clear hL hkt e0 e1 kb hok ha kl
          go_wp2_with fail
          refine CT.out.mono ?_
          rintro r W6 ⟨v, rfl, ho, b6⟩
          obtain ⟨hol, VA, VC, rfl, hvc, hvr, _⟩ := row_form ho
          have bw6 := bel_trans bel b6
          obtain ⟨q, hq⟩ : ∃ q, (L.map rawC).length = q := ⟨_, rfl⟩
          rw [hq]
          rw [hq] at hvc
          have hq2 : q ≤ 600 := by rw [← hq, List.length_map]; exact hLl
          have HVR := Lib.hid hvr
          have HQL := Lib.hid (show L.length = q by rw [← hq, List.length_map])
          clear hq hvr ho hol CT hLl
          go_wp2
          go_loopw [11, 40] (fun s i wr => ∃ t : Nat, t ≤ q ∧ i = .int .i64 t ∧ (∀ (u : Nat) z, u < t → L[u]? = some z → z.b = none) ∧ wr.ownsRow W6.heap.size 43 2 s t (Om.flat ((L.take t).map lft)) ∧ Below W6.heap.size W6 wr) (fun s i _ => (q - intOf i).toNat)
          case atStart => exact ⟨0, Nat.zero_le _, rfl, fun u z h => absurd h (Nat.not_lt_zero _), World.ownsRow_nil _ _ _ _, Below.refl _ _⟩
          case round =>
            obtain ⟨t, ht, rfl, hE, hq, bel7⟩ := hrel
            have HQ := Lib.hid hq; clear hq
            have HE := Lib.hid hE; clear hE
            by_cases hlt : t < q
            · obtain ⟨z, hz, hzm⟩ := cg_lt HQL.out hlt
              obtain ⟨b1, o1, eV, g0, g1, g2, g3, g4⟩ := (HVR.out.below bel7) t _ (raw_at hz)
              subst eV
              have u1 : decide ((t : Int) < q) = true := decide_eq_true (by omega)
              have hji : (t : Int) < q := by omega
              have HK := Lib.hid (lft_take hz)
              have HZ1 := Lib.hid hz; have HZM := Lib.hid hzm
              clear hz hzm
              obtain ⟨rz, hrz⟩ : ∃ rz, rawC z = rz := ⟨_, rfl⟩
              rw [hrz] at g0 g1 g2 g3 g4
              have HRZ := Lib.hid hrz; clear hrz
              go_upto_region 14 with fail
              have X := Lib.hid (B5.made wr rz)
              have ba := bel_alloc (Below.refl wr.heap.size wr) (.cells #[.int .u64 rz.k, .bool rz.w, .int .u64 rz.o, .bool rz.i, .int .u64 rz.n] 45)
              have HQ2 := Lib.hid (Om.row_below HQ.out ba)
              have bel8 := bel_trans bel7 ba
              clear g0 g1 g2 g3 g4 ba HQ bel7
              generalize wr.alloc (.cells #[.int .u64 rz.k, .bool rz.w, .int .u64 rz.o, .bool rz.i, .int .u64 rz.n] 45) = W8 at *
              generalize wr.heap.size = zb at *
              have x0 := X.out.c0; have x1 := X.out.c1; have x4 := X.out.c4
              by_cases hb : z.b = none
              · have hw : rz.w = false := by rw [← HRZ.out]; simp [rawC, hb]
                rw [hw] at x1
                have HN := Lib.hid (show ∀ (u : Nat) z, u < t + 1 → L[u]? = some z → z.b = none from fun u z' hu hz' => by
                  by_cases h : u < t
                  · exact HE.out u z' h hz'
                  · obtain rfl : u = t := by omega
                    rw [HZ1.out] at hz'; cases hz'; exact hb)
                have HLZ := Lib.hid (show lft z = (rz.k, rz.n) by rw [← HRZ.out]; rfl)
                clear hb hw
                go_wp2_with (at_builtin; refine Om.app1 rfl (.tmp 46) (.tmp 52) rfl _ W6.heap.size _ _ ((L.take t).map lft) (rz.k, rz.n) rfl rfl HQ2.out (by omega) bel8.size ?_; intro v8 w8 h1 b8; have HW8 := Lib.hid h1; clear h1)
                go_roundw
                case rel => exact ⟨t + 1, by omega, by go_num, HN.out, by rw [HK.out, HLZ.out]; exact HW8.out, bel8.trans b8⟩
                case measure => simp [intOf]; omega
              · have hw : rz.w = true := by
                  rw [← HRZ.out]
                  cases hbb : z.b with
                  | none => exact absurd hbb hb
                  | some v => simp [rawC, hbb]
                rw [hw] at x1
                have hnf : ¬ fits p (l.map canon) := fun h => hb (HF.out.1 h z HZM.out)
                have E0 := Lib.hid (HAS.out hnf)
                have E1 := Lib.hid (apR_no E0.out (by omega))
                clear hb hw hnf
                go_wp2
                go_ret2
                rw [E0.out, E1.out]
                exact PPost.err (bel_trans bw6 bel8)
            · obtain rfl : t = q := by omega
              have u1 : decide ((t : Int) < t) = false := decide_eq_false (by omega)
              have HT := Lib.hid (show L.take t = L from List.take_of_length_le (by rw [HQL.out]; omega))
              have hf : fits p (l.map canon) := HF.out.2 fun z hz => by
                obtain ⟨u, hu⟩ := List.mem_iff_getElem?.1 hz
                exact HE.out u z (by have := (List.getElem?_eq_some_iff.1 hu).1; have := HQL.out; omega) hu
              have E0 := Lib.hid (HAE.out hf)
              have E1 := Lib.hid (apR_yes E0.out)
              have E2 := Lib.hid (HLF.out hf)
              clear hf
              go_wp2
              go_ret2
              rw [E0.out, E1.out]
              refine ⟨_, rfl, ?_, bel_trans bw6 bel7⟩
              have h := HQ.out
              rw [HT.out, E2.out] at h
              have e : (appL p (l.map canon)).length = t := by rw [← E2.out, List.length_map]; exact HQL.out
              rw [e]
              exact Om.row_base h bw6.size
        · have e0 := thE_st kb kl hkt
          have e1 := thR_no e0 (by omega)
          rw [e1, e0] at CT
          rw [canon_raws] at hkt
          have E0 := Lib.hid (apE_st ha kl fun h => hkt ((ap_fits ha (chk_asc kl) (chk_real kl)).1 h).1)
          have E1 := Lib.hid (apR_no E0.out (by omega))
          clear hkt e0 e1 kb hok ha kl
          go_wp2_with fail
          refine CT.out.mono ?_
          rintro r W6 ⟨v, rfl, ho, b6⟩
          clear ho
          go_wp2
          go_ret2
          rw [E0.out, E1.out]
          exact PPost.err (bel_trans bel b6)
      · have e0 := thE_no (a := (p.map bth).map rawC) (b := l) (fun h => hok ⟨bths_chk.1 h.1, h.2⟩)
        have e1 := thR_no e0 (by omega)
        rw [e1, e0] at CT
        have E0 := Lib.hid (apE_no hok)
        have E1 := Lib.hid (apR_no E0.out (by omega))
        clear e0 e1 hok
        go_wp2_with fail
        refine CT.out.mono ?_
        rintro r W6 ⟨v, rfl, ho, b6⟩
        clear ho
        go_wp2
        go_ret2
        rw [E0.out, E1.out]
        exact PPost.err (bel_trans bel b6)
end Pl
end Go.Proofs.Ytbdllakbkienoaa
