/- leapfrogref10: Counts, Gap, Expand; few of leapfroglaw10 and CopyInts: contracts of the translated code. Conditions: those of each lemma. -/
import Derived.Test.YtnoggggbghkgkaaPkRf
import Derived.Test.YtnoggggbghkgkaaWkPk4
namespace Go.Proofs.Ytnoggggbghkgkaa
open Go.RowKit Go.Shelf Go.Sort
set_option linter.unusedVariables false
set_option linter.unusedSimpArgs false
namespace Pk
open Wk
open Dm (RdK BdI bel_alloc bel_trans cell_lt flatI info info_parts row_rd app1 appAll addr_lit ret_eq)
/-- the counts of the first picks -/
def cnP (T : Nat) (l : List Int) (j : Nat) : List Int := (List.range T).map fun k => ((cntF ((chL T l).take j) k : Nat) : Int)
theorem cnP_len (T : Nat) (l : List Int) (j : Nat) : (cnP T l j).length = T := by simp [cnP]
theorem cnP_zero (T : Nat) (l : List Int) : cnP T l 0 = List.replicate T 0 := by
  refine List.ext_getElem (by simp [cnP]) fun t h1 h2 => ?_
  simp [cnP, cntF]
theorem cnP_all (T : Nat) (l : List Int) : cnP T l l.length = cntL T l := by
  unfold cnP cntL
  rw [List.take_of_length_le (by rw [chL_len]; exact Nat.le_refl _)]
theorem cnP_get {T : Nat} {l : List Int} {j k : Nat} (h : k < T) : (cnP T l j).getD k 0 = ((cntF ((chL T l).take j) k : Nat) : Int) := by
  simp [cnP, List.getD_eq_getElem?_getD, h]
theorem cnP_set {T : Nat} {l : List Int} {j : Nat} (hj : j < (chL T l).length) : (cnP T l j).set ((chL T l)[j]).val ((cnP T l j).getD ((chL T l)[j]).val 0 + 1) = cnP T l (j + 1) := by
  refine List.ext_getElem (by simp [cnP]) fun t h1 h2 => ?_
  have ht : t < T := by simpa [cnP] using h2
  rw [List.getElem_set]
  have e : cntF ((chL T l).take (j + 1)) t = cntF ((chL T l).take j) t + if ((chL T l)[j]).val = t then 1 else 0 := by rw [take_next hj, cntF_snoc]
  by_cases hv : ((chL T l)[j]).val = t
  · rw [if_pos hv, hv, cnP_get ht]
    simp only [cnP, List.getElem_map, List.getElem_range]
    rw [e, if_pos hv]; rfl
  · rw [if_neg hv]
    simp only [cnP, List.getElem_map, List.getElem_range]
    rw [e, if_neg hv]; rfl
set_option maxRecDepth 100000 in
set_option maxHeartbeats 1000000 in
theorem cntR_any (t : Int) (A : Option Addr) (m c : Nat) (xs : List Int) (hl : xs.length = m) (hx : m ≤ maxLen) (w : World) (hrd : RdK .i64 w A xs) :
    Calls Try.prog 15 #[.int .i64 t, .slice A m c] w (CntPost t xs w) := by
  have CH := Lib.hid (choR_any t A m c xs hl hx w hrd)
  unfold maxLen at hx
  by_cases h0 : fitE t xs.length = 0
  · obtain ⟨a1, a2, a3, a4⟩ := fitE_ok h0
    have HP := Lib.hid (show ∀ e w', CntPost t xs w e w' ↔ (∃ v, e = .returned (.tuple #[v, .int .i64 0]) ∧ w'.ownsRow w.heap.size 3 1 v t.toNat (flatI (cntL t.toNat xs))) ∧ Below w.heap.size w w' from fun e w' => by unfold CntPost; rw [if_pos h0])
    obtain ⟨T, rfl⟩ := Int.eq_ofNat_of_zero_le (show 0 ≤ t by omega)
    have CH2 := Lib.hid (CH.out.mono (R' := LiPost (chI T xs) w) fun e w' ⟨h1, h2⟩ => by
      rw [if_pos h0] at h1
      rw [Int.toNat_natCast] at h1
      exact li_of h1 (by simp [chI]) (by omega) h2)
    rw [Int.toNat_natCast] at HP
    obtain ⟨i0, hi, hz0, hz1, hz2⟩ := info_parts info
    have HL := Lib.hid hl
    have HC := Lib.hid (cnP_all T xs)
    have T1 : (1 : Int) ≤ T := by omega
    have T2 : (T : Int) ≤ 64 := by omega
    have HCV := Lib.hid (fun p => chF_val (t := T) (by omega) (by omega) p)
    have hm6 : m ≤ 65536 := by omega
    clear h0 hl hrd CH
    go_enter Try.func15, Try.ntmps15
    go_wp2_with fail
    refine CH2.out.mono ?_
    intro e w1 hp
    obtain ⟨A1, c1, rfl, _, _, li1, b1, _⟩ := li_len (n := m) hp (by simp [chI, HL.out])
    clear hp
    have L1 := Lib.hid li1
    have BW := Lib.hid b1
    clear li1 b1
    go_wp2_with (at_make; refine wpList_make_full _ rfl _ _ 22 rfl w1.heap.size 3 i0 (.int .i64 0) 1 Try.underlying22 hi hz0 hz1 .i64 .i64 _ _ T rfl rfl rfl rfl (by rw [hz2]; omega) (by unfold maxLen; omega) (Nat.le_refl _) ?_; intro w2 hown hgrow)
    rw [made_flat] at hown
    have b2 : Below w1.heap.size w1 w2 := (Below.refl _ w1).grown hgrow (Nat.le_refl _) fun g h => by cases h
    have OW1 := Lib.hid (show w2.ownsRow w1.heap.size 3 1 (.slice (some ⟨w1.heap.size, 0, none⟩) T T) T (flatI (cnP T xs 0)) by rw [cnP_zero]; exact hown)
    have B2 := Lib.hid b2
    clear hgrow hi hz0 hz1 hz2 hown b2
    go_loopw [9] (fun i wr => ∃ (j : Nat), j ≤ m ∧ i = .int .i64 j ∧ wr.ownsRow w1.heap.size 3 1 (.slice (some ⟨w1.heap.size, 0, none⟩) T T) T (flatI (cnP T xs j)) ∧ Below w1.heap.size w1 wr) (fun i _ => (m - intOf i).toNat)
    case atStart => exact ⟨0, Nat.zero_le _, rfl, OW1.out, B2.out⟩
    case round =>
      clear OW1 B2
      obtain ⟨j, hj, rfl, ow, bel⟩ := hrel
      by_cases hlt : j < m
      · have hjl : j < (chL T xs).length := by rw [chL_len, HL.out]; exact hlt
        obtain ⟨b, o, rfl, g0⟩ := (L1.out.rd.below bel) j (by rw [L1.out.ln]; exact hlt)
        have hyv : (chI T xs).getD j 0 = (((chL T xs)[j]).val : Int) := by
          have : (chL T xs)[j] = chF T (xs[j]'(by rw [HL.out]; exact hlt)) := by simp [chL]
          rw [this, HCV.out, chI_get (by rw [HL.out]; exact hlt), List.getD_eq_getElem?_getD, List.getElem?_eq_getElem (by rw [HL.out]; exact hlt)]
          rfl
        rw [hyv] at g0
        have hyT : ((chL T xs)[j]).val < T := by
          have := ch_lt (t := T) (by omega) ((xs[j]'(by rw [HL.out]; exact hlt)))
          have e2 : (chL T xs)[j] = chF T (xs[j]'(by rw [HL.out]; exact hlt)) := by simp [chL]
          have e3 := HCV.out (xs[j]'(by rw [HL.out]; exact hlt))
          rw [e2]; omega
        have HS := Lib.hid (cnP_set hjl)
        have hcl := cntF_le ((chL T xs).take j) ((chL T xs)[j]).val
        have hcl2 := List.length_take_le j (chL T xs)
        have hcg := cnP_get (l := xs) (j := j) hyT
        obtain ⟨y, hy⟩ : ∃ y, ((chL T xs)[j]).val = y := ⟨_, rfl⟩
        rw [hy] at g0 hyT HS hcl hcg
        have k0 := own_cell ow (cnP_len T xs j) hyT
        have f0 := ow.frozenAt y
        rw [hcg] at k0 HS
        obtain ⟨cv, hcv⟩ : ∃ cv, cntF ((chL T xs).take j) y = cv := ⟨_, rfl⟩
        rw [hcv] at k0 HS hcl
        have OW := Lib.hid ow
        have y1 : (y : Int) < T := by omega
        have cv1 : (cv : Int) ≤ 100000 := by omega
        have t0 : decide ((j : Int) < m) = true := decide_eq_true (by omega)
        have j1 : (j : Int) < m := by omega
        clear ow hyv hy hcv hcg hcl2
        go_wp2
        go_roundw
        case rel =>
          refine ⟨j + 1, by omega, by go_num, ?_, bel.setCell (p := ⟨w1.heap.size, y, none⟩) (Nat.le_refl _) _⟩
          rw [← HS.out, ← flat_set]; exact (OW.out.stored y _).1
        case measure => simp [intOf]; omega
      · obtain rfl : j = m := by omega
        have OW := Lib.hid ow
        clear ow
        have t0 : decide ((j : Int) < j) = false := decide_eq_false (by omega)
        go_wp2
        go_ret2
        refine (HP.out _ _).2 ⟨⟨_, rfl, ?_⟩, bel_trans BW.out bel⟩
        have := OW.out
        rw [← HL.out, HC.out] at this
        exact own_base this BW.out.size
  · have HP := Lib.hid (show ∀ e w', CntPost t xs w e w' ↔ e = .returned (.tuple #[.slice none 0 0, .int .i64 (fitE t xs.length)]) ∧ Below w.heap.size w w' from fun e w' => by unfold CntPost; rw [if_neg h0])
    have CH2 := Lib.hid (CH.out.mono (R' := fun e w' => e = .returned (.tuple #[.slice none 0 0, .int .i64 (fitE t xs.length)]) ∧ Below w.heap.size w w') fun e w' ⟨h1, h2⟩ => by
      rw [if_neg h0] at h1
      exact ⟨h1, h2⟩)
    obtain ⟨r, hr⟩ : ∃ r, fitE t xs.length = r := ⟨_, rfl⟩
    rw [hr] at CH2 h0 HP
    have z0 : (r == 0) = false := by simp; exact h0
    have z1 : (r != 0) = true := by simp; exact h0
    clear hr h0 hl hrd CH
    go_enter Try.func15, Try.ntmps15
    go_wp2_with fail
    refine CH2.out.mono ?_
    rintro r' w2 ⟨rfl, b1⟩
    go_wp2
    go_ret2
    rw [HP.out]
    exact ⟨rfl, b1⟩
/-- a copy of a list -/
theorem copy_any (A : Option Addr) (n c : Nat) (l : List Int) (w : World) (hl : l.length = n) (hn : n ≤ 100000) (hr : RdK .i64 w A l) (hz : A = none → c = 0) :
    Calls Try.prog 28 #[.slice A n c] w fun e w' => ∃ v, e = .returned v ∧ w'.ownsRow w.heap.size 3 1 v n (flatI l) ∧ Below w.heap.size w w' := by
  have HR := Lib.hid hr; clear hr
  have HL := Lib.hid hl; clear hl
  have HZ := Lib.hid hz; clear hz
  go_enter Try.func28, Try.ntmps28
  go_wp2_with (at_builtin; refine appAll rfl (.const (.slice none 0 0)) (.tmp 3) rfl w w.heap.size 0 (.slice none 0 0) [] A n c l rfl rfl (World.ownsRow_nil _ _ _ _) HL.out (by omega) hn (Nat.le_refl _) HR.out HZ.out ?_; intro v1 w1 h1 b1; have H1 := Lib.hid h1; clear h1)
  go_ret
  refine ⟨_, rfl, ?_, b1⟩
  have := H1.out
  rw [Nat.zero_add, List.nil_append] at this
  exact this
/-- a start among the first f of a row of k elements in which none is h -/
def Rn (h : Int) (Y : Nat → Int) (m f k : Nat) : Prop := ∃ s, s < f ∧ s + k ≤ m ∧ ∀ i, s ≤ i → i < s + k → Y i ≠ h
def Pm (h : Int) (Y : Nat → Int) (m f M : Nat) : Prop := ∀ k, 1 ≤ k → (k ≤ M ↔ Rn h Y m f k)
theorem Pm_zero (h : Int) (Y : Nat → Int) (m : Nat) : Pm h Y m 0 0 := fun k hk => ⟨fun hh => by omega, fun ⟨s, hs, _⟩ => by omega⟩
theorem Pm_skip {h : Int} {Y : Nat → Int} {m f M : Nat} (hf : 0 < f) (hy : Y (f - 1) ≠ h) (hP : Pm h Y m f M) : Pm h Y m (f + 1) M := fun k hk => by
  rw [hP k hk]
  constructor
  · rintro ⟨s, h1, h2, h3⟩; exact ⟨s, by omega, h2, h3⟩
  · rintro ⟨s, h1, h2, h3⟩
    by_cases e : s < f
    · exact ⟨s, e, h2, h3⟩
    · have : s = f := by omega
      subst this
      refine ⟨s - 1, by omega, by omega, fun i i1 i2 => ?_⟩
      by_cases ei : i = s - 1
      · subst ei; exact hy
      · exact h3 i (by omega) (by omega)
theorem Pm_run {h : Int} {Y : Nat → Int} {m f q M : Nat} (h1 : f ≤ q) (h2 : q ≤ m) (hr : ∀ i, f ≤ i → i < q → Y i ≠ h) (he : q = m ∨ Y q = h) (hP : Pm h Y m f M) : Pm h Y m (f + 1) (max M (q - f)) := fun k hk => by
  constructor
  · intro hh
    rcases (show k ≤ M ∨ k ≤ q - f by omega) with hh | hh
    · obtain ⟨s, a, b, c⟩ := (hP k hk).1 hh
      exact ⟨s, by omega, b, c⟩
    · exact ⟨f, by omega, by omega, fun i i1 i2 => hr i i1 (by omega)⟩
  · rintro ⟨s, a, b, c⟩
    by_cases e : s < f
    · have := (hP k hk).2 ⟨s, e, b, c⟩
      omega
    · have : s = f := by omega
      subst this
      rcases Nat.lt_or_ge (q - s) k with g | g
      · rcases he with he | he
        · omega
        · exact absurd he (c q h1 (by omega))
      · omega
theorem Pm_end {h : Int} {Y : Nat → Int} {m M : Nat} (hP : Pm h Y m m M) : M = (gN h Y m).1 := by
  have key : ∀ k, 1 ≤ k → (k ≤ M ↔ k ≤ (gN h Y m).1) := fun k hk => by
    rw [hP k hk, gN_run h Y k hk m]
    constructor
    · rintro ⟨s, _, b, c⟩; exact ⟨s, b, c⟩
    · rintro ⟨s, b, c⟩; exact ⟨s, by omega, b, c⟩
  have k1 := key M
  have k2 := key (gN h Y m).1
  omega
set_option maxRecDepth 100000 in
set_option maxHeartbeats 2000000 in
theorem gapR_any (t th : Int) (A : Option Addr) (m c : Nat) (xs : List Int) (hl : xs.length = m) (hx : m ≤ maxLen) (w : World) (hrd : RdK .i64 w A xs) :
    Calls Try.prog 19 #[.int .i64 t, .int .i64 th, .slice A m c] w (GapPost t th xs w) := by
  unfold maxLen at hx
  have CF := fun (W : World) => Lib.hid (check_any t th A m c W)
  by_cases h0 : fitT t th xs.length = 0
  · obtain ⟨a1, a2, a3, a4, a5, a6⟩ := fitT_ok h0
    have HP := Lib.hid (show ∀ e w', GapPost t th xs w e w' ↔ e = .returned (.tuple #[.int .i64 ((gapF th (chL t.toNat xs)).1 : Nat), .int .i64 0]) ∧ Below w.heap.size w w' from fun e w' => by unfold GapPost; rw [if_pos h0])
    rw [hl] at h0 a4
    rw [h0] at CF
    obtain ⟨T, rfl⟩ := Int.eq_ofNat_of_zero_le (show 0 ≤ t by omega)
    have CC := fun p (W : World) => Lib.hid (chosenR_any T p (by omega) (by omega) W)
    have HG := Lib.hid (gap_all (T := T) (by omega) (by omega) th xs)
    obtain ⟨Y, hY⟩ : ∃ Y : Nat → Int, Y = fun i => (chI T xs).getD i 0 := ⟨_, rfl⟩
    have CY := Lib.hid (show ∀ i, i < m → ∃ b o p, A = some ⟨b, o, none⟩ ∧ w.cell? ⟨b, o + i, none⟩ = some (.int .i64 p) ∧ p % (T : Int) = Y i from fun i hi => by
      obtain ⟨b, o, e1, e2⟩ := hrd i (by omega)
      refine ⟨b, o, _, e1, e2, ?_⟩
      rw [hY]
      show _ = (chI T xs).getD i 0
      rw [chI_get (by omega)])
    rw [← hY, hl] at HG
    have hm6 : m ≤ 65536 := by omega
    have HP2 := Lib.hid (show (gapF th (chL (T : Int).toNat xs)).1 = (gapF th (chL T xs)).1 by rw [Int.toNat_natCast])
    clear h0 hl hrd hY
    go_enter Try.func19, Try.ntmps19
    go_wp2_with fail
    refine (CF _).out.mono ?_
    rintro r w2 ⟨rfl, rfl⟩
    clear CF
    go_wp2
    go_loop [9, 10] (fun q i => ∃ f M : Nat, f ≤ m ∧ M ≤ m ∧ i = .int .i64 f ∧ q = .int .i64 M ∧ Pm th Y m f M) (fun _ i => (m - intOf i).toNat)
    case atStart => exact ⟨0, 0, Nat.zero_le _, Nat.zero_le _, rfl, rfl, Pm_zero _ _ _⟩
    case round =>
      obtain ⟨f, M, hf, hM, rfl, rfl, hP⟩ := hrel
      have PM := Lib.hid hP; clear hP
      by_cases hlt : f < m
      · have t0 : decide ((f : Int) < m) = true := decide_eq_true (by omega)
        have f1 : (f : Int) < m := by omega
        have m1 : (m : Int) ≤ 65536 := by omega
        have M1 : (M : Int) ≤ m := by omega
        by_cases hsk : 0 < f ∧ Y (f - 1) ≠ th
        · obtain ⟨hf0, hne⟩ := hsk
          have PN := Lib.hid (Pm_skip hf0 hne PM.out)
          obtain ⟨b, o, p, rfl, g0, gy⟩ := CY.out (f - 1) (by omega)
          have CCj := CC p
          obtain ⟨f', rfl⟩ : ∃ f', f = f' + 1 := ⟨f - 1, by omega⟩
          rw [Nat.add_sub_cancel] at g0 gy hne
          rw [gy] at CCj
          obtain ⟨y, hy⟩ : ∃ y, Y f' = y := ⟨_, rfl⟩
          rw [hy] at CCj hne
          have z0 : (y != th) = true := by simp [hne]
          have u0 : decide (((f' + 1 : Nat) : Int) > 0) = true := decide_eq_true (by omega)
          clear hy hne gy CC
          go_wp2_with fail
          refine (CCj _).out.mono ?_
          rintro r w2 ⟨rfl, rfl⟩
          go_wp2
          go_round
          case rel => exact ⟨f' + 1 + 1, M, by omega, hM, by go_num, rfl, PN.out⟩
          case measure => simp [intOf]; omega
        · rcases Nat.eq_zero_or_pos f with hf0 | hf0
          · have u0 : decide ((f : Int) > 0) = false := decide_eq_false (by omega)
            have u2 : decide (0 < f) = false := decide_eq_false (by omega)
            have u3 : ¬ (0 < f) := by omega
            clear hsk hf0
            go_wp2
            go_loop [11] (fun i => ∃ q : Nat, f ≤ q ∧ q ≤ m ∧ i = .int .i64 q ∧ ∀ i, f ≤ i → i < q → Y i ≠ th) (fun i => (m - intOf i).toNat)
            case atStart => exact ⟨f, Nat.le_refl _, by omega, rfl, fun i i1 i2 => by omega⟩
            case round =>
              obtain ⟨q, hq, hqm, rfl, hr⟩ := hrel
              have HR := Lib.hid hr; clear hr
              by_cases hlq : q < m
              · have e0 : decide ((q : Int) < m) = true := decide_eq_true (by omega)
                have q1 : (q : Int) < m := by omega
                obtain ⟨b, o, p, hA, g0, gy⟩ := CY.out q hlq
                cases hA
                have CCj := CC p
                rw [gy] at CCj
                have HYE := Lib.hid (show ∀ y, Y q = y → y ≠ th → ∀ i, f ≤ i → i < q + 1 → Y i ≠ th from fun y hy hne i i1 i2 => by
                  by_cases ei : i = q
                  · subst ei; rw [hy]; exact hne
                  · exact HR.out i i1 (by omega))
                have HYF := Lib.hid (fun he : Y q = th => Pm_run hq hqm HR.out (.inr he) PM.out)
                obtain ⟨y, hy⟩ : ∃ y, Y q = y := ⟨_, rfl⟩
                rw [hy] at CCj HYF
                by_cases hyt : y = th
                · have z0 : (y != th) = false := by simp [hyt]
                  have PN := Lib.hid (HYF.out hyt)
                  clear HYE HYF hy gy CC hyt
                  go_wp2_with fail
                  refine (CCj _).out.mono ?_
                  rintro r w2 ⟨rfl, rfl⟩
                  go_wp2
                  go_round
                  case rel => exact ⟨f + 1, _, by omega, by omega, by go_num, congrArg (Value.int .i64) (by omega), PN.out⟩
                  case measure => simp [intOf]; omega
                · have z0 : (y != th) = true := by simp [hyt]
                  have HN := Lib.hid (HYE.out y hy hyt)
                  clear HYE HYF hy gy CC hyt
                  go_wp2_with fail
                  refine (CCj _).out.mono ?_
                  rintro r w2 ⟨rfl, rfl⟩
                  go_wp2
                  go_round
                  case rel => exact ⟨q + 1, by omega, by omega, by go_num, HN.out⟩
                  case measure => simp [intOf]; omega
              · obtain rfl : q = m := by omega
                have e0 : decide ((q : Int) < q) = false := decide_eq_false (by omega)
                have PN := Lib.hid (Pm_run hq hqm HR.out (.inl rfl) PM.out)
                go_wp2
                go_round
                case rel => exact ⟨f + 1, _, by omega, by omega, by go_num, congrArg (Value.int .i64) (by omega), PN.out⟩
                case measure => simp [intOf]; omega
          · obtain ⟨b, o, p, rfl, g0, gy⟩ := CY.out (f - 1) (by omega)
            have CCj := CC p
            have hye : Y (f - 1) = th := Classical.byContradiction fun h => hsk ⟨hf0, h⟩
            rw [gy, hye] at CCj
            obtain ⟨f', hf'⟩ : ∃ f', f = f' + 1 := ⟨f - 1, by omega⟩
            have e1 : f - 1 = f' := by omega
            rw [e1] at g0
            have e2 : (f : Int) - 1 = f' := by omega
            have z0 : (th != th) = false := by simp
            have u0 : decide ((f : Int) > 0) = true := decide_eq_true (by omega)
            have s1 : (f' : Int) < m := by omega
            clear hsk gy hye hf' e1
            go_wp2_with fail
            refine (CCj _).out.mono ?_
            rintro r w2 ⟨rfl, rfl⟩
            go_wp2
            go_loop [11] (fun i => ∃ q : Nat, f ≤ q ∧ q ≤ m ∧ i = .int .i64 q ∧ ∀ i, f ≤ i → i < q → Y i ≠ th) (fun i => (m - intOf i).toNat)
            case atStart => exact ⟨f, Nat.le_refl _, by omega, rfl, fun i i1 i2 => by omega⟩
            case round =>
              obtain ⟨q, hq, hqm, rfl, hr⟩ := hrel
              have HR := Lib.hid hr; clear hr
              by_cases hlq : q < m
              · have e0 : decide ((q : Int) < m) = true := decide_eq_true (by omega)
                have q1 : (q : Int) < m := by omega
                obtain ⟨b, o, p, hA, g0, gy⟩ := CY.out q hlq
                cases hA
                have CCj := CC p
                rw [gy] at CCj
                have HYE := Lib.hid (show ∀ y, Y q = y → y ≠ th → ∀ i, f ≤ i → i < q + 1 → Y i ≠ th from fun y hy hne i i1 i2 => by
                  by_cases ei : i = q
                  · subst ei; rw [hy]; exact hne
                  · exact HR.out i i1 (by omega))
                have HYF := Lib.hid (fun he : Y q = th => Pm_run hq hqm HR.out (.inr he) PM.out)
                obtain ⟨y, hy⟩ : ∃ y, Y q = y := ⟨_, rfl⟩
                rw [hy] at CCj HYF
                by_cases hyt : y = th
                · have z0 : (y != th) = false := by simp [hyt]
                  have PN := Lib.hid (HYF.out hyt)
                  clear HYE HYF hy gy CC hyt
                  go_wp2_with fail
                  refine (CCj _).out.mono ?_
                  rintro r w2 ⟨rfl, rfl⟩
                  go_wp2
                  go_round
                  case rel => exact ⟨f + 1, _, by omega, by omega, by go_num, congrArg (Value.int .i64) (by omega), PN.out⟩
                  case measure => simp [intOf]; omega
                · have z0 : (y != th) = true := by simp [hyt]
                  have HN := Lib.hid (HYE.out y hy hyt)
                  clear HYE HYF hy gy CC hyt
                  go_wp2_with fail
                  refine (CCj _).out.mono ?_
                  rintro r w2 ⟨rfl, rfl⟩
                  go_wp2
                  go_round
                  case rel => exact ⟨q + 1, by omega, by omega, by go_num, HN.out⟩
                  case measure => simp [intOf]; omega
              · obtain rfl : q = m := by omega
                have e0 : decide ((q : Int) < q) = false := decide_eq_false (by omega)
                have PN := Lib.hid (Pm_run hq hqm HR.out (.inl rfl) PM.out)
                go_wp2
                go_round
                case rel => exact ⟨f + 1, _, by omega, by omega, by go_num, congrArg (Value.int .i64) (by omega), PN.out⟩
                case measure => simp [intOf]; omega
      · obtain rfl : f = m := by omega
        have t0 : decide ((f : Int) < f) = false := decide_eq_false (by omega)
        have HE := Pm_end PM.out
        go_wp2
        go_ret2
        rw [HP.out, HP2.out, HG.out, ← HE]
        exact ⟨rfl, Below.refl _ _⟩
  · have HP := Lib.hid (show ∀ e w', GapPost t th xs w e w' ↔ e = .returned (.tuple #[.int .i64 0, .int .i64 (fitT t th xs.length)]) ∧ Below w.heap.size w w' from fun e w' => by unfold GapPost; rw [if_neg h0])
    have HL := Lib.hid hl
    rw [hl] at h0
    obtain ⟨r, hr⟩ : ∃ r, fitT t th m = r := ⟨_, rfl⟩
    rw [hr] at CF h0
    have HRR := Lib.hid hr
    have z0 : (r == 0) = false := by simp; exact h0
    have z1 : (r != 0) = true := by simp; exact h0
    clear hr h0 hl hrd
    go_enter Try.func19, Try.ntmps19
    go_wp2_with fail
    refine (CF _).out.mono ?_
    rintro r' w2 ⟨rfl, rfl⟩
    go_wp2
    go_ret2
    rw [HP.out, HL.out, HRR.out]
    exact ⟨rfl, Below.refl _ _⟩
theorem exN_len {l : List Int} : ∀ j, (∀ i, i < j → 0 ≤ cnt l i) → ((exN l j).length : Int) = sm l j
  | 0, _ => rfl
  | j + 1, h => by
    have ih := exN_len j fun i hi => h i (by omega)
    have := h j (by omega)
    rw [exN, sm, List.length_append, List.length_replicate]
    omega
set_option maxRecDepth 100000 in
set_option maxHeartbeats 2000000 in
theorem expandR_any (A : Option Addr) (m c : Nat) (xs : List Int) (hl : xs.length = m) (hx : m ≤ 2000) (hb : BdI xs) (w : World) (hrd : RdK .i64 w A xs) :
    Calls Try.prog 30 #[.slice A m c] w (ExPost xs w) := by
  have m2 : (m : Int) ≤ 2000 := by omega
  by_cases hev : m % 2 = 0
  · obtain ⟨k, hk⟩ : ∃ k, m = 2 * k := ⟨m / 2, by omega⟩
    have hka : m ≤ 2 * k := by omega
    have hkb : 2 * k ≤ m := by omega
    have hk2 : xs.length / 2 = k := by omega
    have hlev : xs.length % 2 = 0 := by omega
    have HBAD := Lib.hid (show ∀ er, fcE xs = er → er ≠ 0 → ∀ e w', e = .returned (.tuple #[.slice none 0 0, .int .i64 er]) ∧ Below w.heap.size w w' → ExPost xs w e w' from fun er h1 h2 e w' h => by unfold ExPost; rw [h1, if_neg h2]; exact h)
    have HGOOD := Lib.hid (show fcE xs = 0 → ∀ e w', (∃ v, e = .returned (.tuple #[v, .int .i64 0]) ∧ w'.ownsRow w.heap.size 3 1 v (exN xs k).length (flatI (exN xs k))) ∧ Below w.heap.size w w' → ExPost xs w e w' from fun h1 e w' h => by unfold ExPost; rw [if_pos h1, hk2]; exact h)
    have HNEG := Lib.hid (show (∃ j, j < k ∧ cnt xs j < 0) → fcE xs = 2 from fun h => fcE_neg hlev (by rw [hk2]; exact h))
    have HLONG := Lib.hid (show (∀ j, j < k → 0 ≤ cnt xs j) → (∃ j, j < k ∧ 65536 - sm xs j < cnt xs j) → fcE xs = 5 from fun h g => fcE_long hlev (by rw [hk2]; rintro ⟨j, a, b⟩; have := h j a; omega) (by rw [hk2]; exact g))
    have HOK := Lib.hid (show (∀ j, j < k → 0 ≤ cnt xs j) → (∀ j, j < k → cnt xs j ≤ 65536 - sm xs j) → fcE xs = 0 from fun h g => fcE_ok hlev (by rw [hk2]; rintro ⟨j, a, b⟩; have := h j a; omega) (by rw [hk2]; rintro ⟨j, a, b⟩; have := g j a; omega))
    have CY := Lib.hid (show ∀ i, i < m → ∃ b o, A = some ⟨b, o, none⟩ ∧ w.cell? ⟨b, o + i, none⟩ = some (.int .i64 (xs.getD i 0)) from fun i hi => hrd i (by omega))
    have CB := Lib.hid (show ∀ i, -9223372036854775808 ≤ xs.getD i 0 ∧ xs.getD i 0 ≤ 9223372036854775807 from fun i => by
      by_cases hi : i < xs.length
      · exact hb i hi
      · rw [List.getD_eq_getElem?_getD, List.getElem?_eq_none (by omega)]; decide)
    have z2 : ((m : Int) % 2 != 0) = false := by rw [show (m : Int) % 2 = 0 by omega]; rfl
    clear hl hrd hb hk2 hlev hk hev
    go_enter Try.func30, Try.ntmps30
    go_wp2
    go_loop [5] (fun i => ∃ q j : Nat, q = 2 * j + 1 ∧ j ≤ k ∧ i = .int .i64 q ∧ ∀ i, i < j → 0 ≤ cnt xs i) (fun i => (m + 2 - intOf i).toNat)
    case atStart => exact ⟨1, 0, rfl, Nat.zero_le _, rfl, fun i hi => by omega⟩
    case round =>
      obtain ⟨q, j, hq, hj, rfl, hc⟩ := hrel
      have HC := Lib.hid hc; clear hc
      by_cases hlt : j < k
      · have t0 : decide ((q : Int) < m) = true := decide_eq_true (by omega)
        have q1 : (q : Int) < m := by omega
        obtain ⟨b, o, rfl, g0⟩ := CY.out q (by omega)
        have HV := Lib.hid (show xs.getD q 0 = cnt xs j by rw [hq]; rfl)
        have hbd := CB.out q
        obtain ⟨v, hv⟩ : ∃ v, xs.getD q 0 = v := ⟨_, rfl⟩
        rw [hv] at g0 HV hbd
        clear hv
        by_cases hn : v < 0
        · have u0 : decide (v < 0) = true := decide_eq_true hn
          have HE := HNEG.out ⟨j, hlt, by rw [← HV.out]; exact hn⟩
          have HE := Lib.hid HE
          clear hq
          go_wp2
          go_ret2
          exact HBAD.out 2 HE.out (by decide) _ _ ⟨rfl, Below.refl _ _⟩
        · have u0 : decide (v < 0) = false := decide_eq_false hn
          have HN := Lib.hid (show ∀ i, i < j + 1 → 0 ≤ cnt xs i from fun i hi => by
            by_cases ei : i = j
            · subst ei; rw [← HV.out]; omega
            · exact HC.out i (by omega))
          have hq2 := Lib.hid (show q + 2 = 2 * (j + 1) + 1 by omega)
          have q3 : (q : Int) ≤ 2000 := by omega
          have QM := Lib.hid (show q < m by omega)
          clear hq
          go_wp2
          go_round
          case rel => exact ⟨q + 2, j + 1, hq2.out, by omega, by go_num, HN.out⟩
          case measure => have := QM.out; simp [intOf]; omega
      · obtain rfl : j = k := by omega
        have t0 : decide ((q : Int) < m) = false := decide_eq_false (by omega)
        have t9 : decide (q < m) = false := decide_eq_false (by omega)
        have CN := Lib.hid HC.out
        clear HC HNEG hq
        go_wp2
        go_loop [4, 6] (fun a i => ∃ q l : Nat, q = 2 * l + 1 ∧ l ≤ j ∧ i = .int .i64 q ∧ a = .int .i64 (65536 - sm xs l) ∧ 0 ≤ sm xs l ∧ sm xs l ≤ 65536 ∧ ∀ i, i < l → cnt xs i ≤ 65536 - sm xs i) (fun _ i => (m + 2 - intOf i).toNat)
        case atStart => exact ⟨1, 0, rfl, Nat.zero_le _, rfl, rfl, Int.le_refl _, (by decide : (0 : Int) ≤ 65536), fun i hi => by omega⟩
        case round =>
          obtain ⟨q, l, hq, hl, rfl, rfl, s0, s1, hc⟩ := hrel
          have HC := Lib.hid hc; clear hc
          by_cases hlt : l < j
          · have t0 : decide ((q : Int) < m) = true := decide_eq_true (by omega)
            have q1 : (q : Int) < m := by omega
            obtain ⟨b, o, rfl, g0⟩ := CY.out q (by omega)
            have HV := Lib.hid (show xs.getD q 0 = cnt xs l by rw [hq]; rfl)
            have hbd := CB.out q
            have HS := Lib.hid (show sm xs (l + 1) = sm xs l + cnt xs l from rfl)
            obtain ⟨v, hv⟩ : ∃ v, xs.getD q 0 = v := ⟨_, rfl⟩
            rw [hv] at g0 HV hbd
            rw [← HV.out] at HS
            clear hv
            have v0 : 0 ≤ v := by rw [HV.out]; exact CN.out l hlt
            have SE := Lib.hid (rfl : sm xs l = sm xs l)
            obtain ⟨s, hs⟩ : ∃ s, sm xs l = s := ⟨_, rfl⟩
            have SE := Lib.hid hs
            rw [hs] at s0 s1 HS ⊢
            clear hs
            by_cases hn : 65536 - s < v
            · have u0 : decide (v > 65536 - s) = true := decide_eq_true hn
              have u1 : decide (65536 - s < v) = true := decide_eq_true hn
              have HE := Lib.hid (HLONG.out CN.out ⟨l, hlt, by rw [← HV.out, SE.out]; exact hn⟩)
              clear hq
              go_wp2
              go_ret2
              exact HBAD.out 5 HE.out (by decide) _ _ ⟨rfl, Below.refl _ _⟩
            · have u0 : decide (v > 65536 - s) = false := decide_eq_false hn
              have u1 : decide (65536 - s < v) = false := decide_eq_false hn
              have HN := Lib.hid (show ∀ i, i < l + 1 → cnt xs i ≤ 65536 - sm xs i from fun i hi => by
                by_cases ei : i = l
                · subst ei; rw [← HV.out, SE.out]; omega
                · exact HC.out i (by omega))
              have hq2 := Lib.hid (show q + 2 = 2 * (l + 1) + 1 by omega)
              have q3 : (q : Int) ≤ 2000 := by omega
              have QM := Lib.hid (show q < m by omega)
              have v1 : v ≤ 65536 - s := by omega
              clear hq
              go_wp2
              go_round
              case rel => exact ⟨q + 2, l + 1, hq2.out, by omega, by go_num, by rw [HS.out]; exact congrArg (Value.int .i64) (by omega), by rw [HS.out]; omega, by rw [HS.out]; omega, HN.out⟩
              case measure => have := QM.out; simp [intOf]; omega
          · obtain rfl : l = j := by omega
            have t0 : decide ((q : Int) < m) = false := decide_eq_false (by omega)
            have t9 : decide (q < m) = false := decide_eq_false (by omega)
            have CL := Lib.hid HC.out
            clear HC HLONG hq
            have HLN := Lib.hid (fun i (hi : i ≤ l) => exN_len (l := xs) i fun a ha => CN.out a (by omega))
            have HSM := Lib.hid (fun i (hi : i ≤ l) => sm_mono (l := xs) (k := l) CN.out i hi)
            have s4 : ((exN xs l).length : Int) ≤ 65536 := by rw [HLN.out l (Nat.le_refl _)]; exact s1
            clear s0 s1
            go_wp2
            go_loopw [7, 8] (fun a i wr => ∃ q j : Nat, q = 2 * j ∧ j ≤ l ∧ i = .int .i64 q ∧ wr.ownsRow w.heap.size 3 1 a (exN xs j).length (flatI (exN xs j)) ∧ Below w.heap.size w wr) (fun _ i _ => (m + 2 - intOf i).toNat)
            case atStart => exact ⟨0, 0, rfl, Nat.zero_le _, rfl, World.ownsRow_nil _ _ _ _, Below.refl _ _⟩
            case round =>
              obtain ⟨q, j, hq, hj, rfl, ow, bel⟩ := hrel
              have OW := Lib.hid ow; clear ow
              have BL := Lib.hid bel; clear bel
              by_cases hlt : j < l
              · have t0 : decide ((q : Int) < m) = true := decide_eq_true (by omega)
                have t9 : decide (q < m) = true := decide_eq_true (by omega)
                have q0 : (q : Int) < m := by omega
                have q1 : (q : Int) + 1 < m := by omega
                have q2 : (q : Int) + 2 ≤ m := by omega
                obtain ⟨b, o, rfl, g0⟩ := CY.out q (by omega)
                obtain ⟨b', o', hA, g1⟩ := CY.out (q + 1) (by omega)
                cases hA
                have HV := Lib.hid (show xs.getD (q + 1) 0 = cnt xs j by rw [hq]; rfl)
                have HP := Lib.hid (show xs.getD q 0 = pck xs j by rw [hq]; rfl)
                have HX := Lib.hid (show exN xs (j + 1) = exN xs j ++ List.replicate (cnt xs j).toNat (pck xs j) from rfl)
                rw [← HV.out, ← HP.out] at HX
                have v0 : 0 ≤ xs.getD (q + 1) 0 := by rw [HV.out]; exact CN.out j hlt
                have h65 : ((exN xs j).length : Int) + xs.getD (q + 1) 0 ≤ 65536 := by
                  have e1 := HLN.out (j + 1) (by omega)
                  have e2 := HLN.out j (by omega)
                  have e3 := HSM.out (j + 1) (by omega)
                  have e4 := HLN.out l (Nat.le_refl _)
                  have e5 : sm xs (j + 1) = sm xs j + cnt xs j := rfl
                  rw [HV.out]; omega
                obtain ⟨v, hv⟩ := Int.eq_ofNat_of_zero_le v0
                obtain ⟨p, hp⟩ : ∃ p, xs.getD q 0 = p := ⟨_, rfl⟩
                rw [hv] at g1 HX h65
                rw [hp] at g0 HX
                rw [Int.toNat_natCast] at HX
                clear hv hp v0 HV HP
                obtain ⟨L, hL⟩ : ∃ L, exN xs j = L := ⟨_, rfl⟩
                rw [hL] at OW h65 HX
                clear hL
                have hq3 := Lib.hid (show q + 2 = 2 * (j + 1) by omega)
                obtain ⟨qa, hqa⟩ : ∃ qa, q + 1 = qa := ⟨_, rfl⟩
                have e9 : (q : Int) + 1 = (qa : Int) := by omega
                have e8 : (qa : Int) < m := by omega
                rw [hqa] at g1
                clear hqa hq
                have BL0 := Lib.hid BL.out.size
                go_wp2
                go_loopw [7, 9] (fun a i wy => ∃ n : Nat, n ≤ v ∧ i = .int .i64 n ∧ wy.ownsRow w.heap.size 3 1 a (L.length + n) (flatI (L ++ List.replicate n p)) ∧ Below w.heap.size w wy) (fun _ i _ => (v - intOf i).toNat)
                case atStart => exact ⟨0, Nat.zero_le _, rfl, by rw [List.replicate_zero, List.append_nil]; exact OW.out, BL.out⟩
                case round =>
                  obtain ⟨n, hn, rfl, ow, bel⟩ := hrel
                  have OY := Lib.hid ow; clear ow
                  have k1 := (bel.cell (p := ⟨b, o + qa, none⟩) (cell_lt g1)).trans g1
                  have k0 := (bel.cell (p := ⟨b, o + q, none⟩) (cell_lt g0)).trans g0
                  have hsz := bel.size
                  by_cases hln : n < v
                  · have i0 : decide ((n : Int) < v) = true := decide_eq_true (by omega)
                    have n1 : (n : Int) < v := by omega
                    have v65 : (v : Int) ≤ 65536 := by omega
                    go_wp2_with (at_builtin; refine app1 rfl (.tmp 58) (.tmp 63) rfl _ w.heap.size (L.length + n) _ (L ++ List.replicate n p) p rfl rfl OY.out (by omega) hsz ?_; intro v1 w1 h1 b1)
                    go_roundw
                    case rel => exact ⟨n + 1, by omega, by go_num, by rw [show L.length + (n + 1) = L.length + n + 1 by omega, List.replicate_succ', ← List.append_assoc]; exact h1, bel.trans b1⟩
                    case measure => simp [intOf]; omega
                  · obtain rfl : n = v := by omega
                    have i0 : decide ((n : Int) < n) = false := decide_eq_false (by omega)
                    have BY := Lib.hid bel; clear bel
                    go_wp2
                    go_roundw
                    case rel => exact ⟨q + 2, j + 1, hq3.out, by omega, by go_num, by rw [HX.out, List.length_append, List.length_replicate]; exact OY.out, BY.out⟩
                    case measure => simp [intOf]; omega
              · obtain rfl : j = l := by omega
                have t0 : decide ((q : Int) < m) = false := decide_eq_false (by omega)
                have t9 : decide (q < m) = false := decide_eq_false (by omega)
                have HE := Lib.hid (HOK.out CN.out CL.out)
                go_wp2
                go_ret2
                exact HGOOD.out HE.out _ _ ⟨⟨_, rfl, OW.out⟩, BL.out⟩
  · have HP := Lib.hid (show ∀ e w', ExPost xs w e w' ↔ e = .returned (.tuple #[.slice none 0 0, .int .i64 2]) ∧ Below w.heap.size w w' from fun e w' => by unfold ExPost; rw [fcE_odd (show xs.length % 2 ≠ 0 by omega), if_neg (by decide)])
    have z2 : ((m : Int) % 2 != 0) = true := by rw [show (m : Int) % 2 = 1 by omega]; rfl
    clear hl hrd hb
    go_enter Try.func30, Try.ntmps30
    go_wp2
    go_ret2
    exact (HP.out _ _).2 ⟨rfl, Below.refl _ _⟩
end Pk
end Go.Proofs.Ytnoggggbghkgkaa
