/- New, Copy, Pairs, Range, Next, DeleteRange, Move and Same of leapfrogref05: contracts of the translated code. Conditions: at most 1000 pairs with increasing keys; the bounds of each number's kind. -/
import Derived.Test.YthinaablldnikaaOmG
import Derived.StillTailTactics
import Derived.IntWalk
namespace Go.Proofs.Ythinaablldnikaa
open Go.RowKit Go.Sort
set_option linter.unusedVariables false
set_option linter.unusedSimpArgs false
namespace Om
/-- the map of the first pairs -/
def nwL (ps : List Pr) : List Pr := setA [] ps
theorem nwL_asc (ps : List Pr) : Asc (nwL ps) := setA_asc ps Asc.nil
theorem nwL_len (ps : List Pr) : (nwL ps).length ≤ ps.length := by have := setA_len_le ps []; simpa [nwL] using this
theorem nwL_snoc (ps : List Pr) (x : Pr) : nwL (ps ++ [x]) = setL (nwL ps) x := by simp [nwL, setA, List.foldl_append]
/-- whether the first n keys are distinct -/
def okN (ps : List Pr) : Nat → Bool
  | 0 => true
  | n + 1 => okN ps n && (getL (nwL (ps.take n)) (ps.getD n (0, 0)).1).isNone
theorem okN_mono {ps : List Pr} : ∀ {n m : Nat}, m ≤ n → okN ps n = true → okN ps m = true
  | 0, m, h, hn => by obtain rfl : m = 0 := by omega
                      exact hn
  | n + 1, m, h, hn => by
    by_cases e : m = n + 1
    · subst e; exact hn
    · rw [okN, Bool.and_eq_true] at hn
      exact okN_mono (by omega) hn.1
theorem okN_no {ps : List Pr} {k n : Nat} {x : Pr} (hk : k < n) (hx : ps[k]? = some x) (h : getL (nwL (ps.take k)) x.1 ≠ none) : okN ps n = false := by
  rw [← Bool.not_eq_true]
  intro h'
  have := okN_mono (m := k + 1) (by omega) h'
  rw [okN, Bool.and_eq_true, List.getD_eq_getElem?_getD, hx] at this
  exact h (by simpa using this.2)
theorem okN_step {ps : List Pr} {k : Nat} {x : Pr} (hx : ps[k]? = some x) (ho : okN ps k = true) (h : getL (nwL (ps.take k)) x.1 = none) : okN ps (k + 1) = true := by
  rw [okN, ho, List.getD_eq_getElem?_getD, hx]
  simp [h]
def NPost (w : World) (ps : List Pr) (e : Ending) (w' : World) : Prop :=
  if okN ps ps.length = true then ∃ bm v, e = .returned (.tuple #[.pointer (some ⟨bm, 0, none⟩), .int .i64 0]) ∧ MapAt w' bm v (nwL ps) ∧ w.heap.size ≤ bm ∧ Fresh w.heap.size v ∧ Below w.heap.size w w'
  else e = .returned (.tuple #[.pointer none, .int .i64 9]) ∧ Below w.heap.size w w'
set_option maxRecDepth 100000 in
set_option maxHeartbeats 1000000 in
theorem newR_any (A : Option Addr) (n c : Nat) (ps : List Pr) (w : World) (hn : ps.length = n) (hs : n ≤ 1000) (hr : Rd w A ps) :
    Calls Try.prog 13 #[.slice A n c] w (NPost w ps) := by
  have HR := Lib.hid hr; clear hr
  have HN := Lib.hid hn; clear hn
  have hs1 : (n : Int) ≤ 1000 := by omega
  go_enter Try.func13, Try.ntmps13
  go_wp2
  go_loopw [5] (fun i wr => ∃ (k : Nat) (v : Value), k ≤ n ∧ i = .int .i64 k ∧ okN ps k = true ∧ MapAt wr w.heap.size v (nwL (ps.take k)) ∧ Fresh (w.heap.size + 1) v ∧ Below w.heap.size w wr) (fun i _ => n - (intOf i).toNat)
  case atStart =>
    refine ⟨0, .slice none 0 0, Nat.zero_le _, rfl, rfl, ⟨by simp, by simp, World.ownsRow_nil _ _ _ _, by simp [Value.ownBlock]⟩, fun k hk => by simp [Value.ownBlock] at hk, bel_alloc (Below.refl _ _) _⟩
  case round =>
    obtain ⟨k, v, hk, rfl, ho, hm, hf, bel⟩ := hrel
    have hbs : w.heap.size < wr.heap.size := hm.lt
    have HM := Lib.hid hm; clear hm
    have HF := Lib.hid hf; clear hf
    have HO := Lib.hid ho; clear ho
    have hlen : (nwL (ps.take k)).length ≤ 1000 := by have := nwL_len (ps.take k); rw [List.length_take] at this; omega
    by_cases hlt : k < n
    · have u0 : decide ((k : Int) < n) = true := decide_eq_true (by omega)
      have hki : (k : Int) < n := by omega
      obtain ⟨x, hx, hmem⟩ := getElem?_lt HN.out hlt
      have HX := Lib.hid hx; clear hx hmem
      obtain ⟨b, o, rfl, c0, c1⟩ := (HR.out.below bel) k x HX.out
      cases hg : getL (nwL (ps.take k)) x.1 with
      | none =>
        have CP := Lib.hid (place_no w.heap.size v _ x.1 wr HM.out hlen (getL_none.1 hg))
        have HK := Lib.hid (okN_step HX.out HO.out hg)
        have HS := Lib.hid (show nwL (ps.take (k + 1)) = setL (nwL (ps.take k)) x by rw [take_succ' HX.out, nwL_snoc])
        have CS := Lib.hid (set_any w.heap.size v _ x wr HM.out hlen)
        clear hg
        go_wp2_with fail
        refine CP.out.mono ?_
        rintro r w1 ⟨rfl, rfl⟩
        go_wp2_with fail
        refine CS.out.mono ?_
        rintro r w1 ⟨v', rfl, hm2, hf2, ho2⟩
        have HM2 := Lib.hid hm2; clear hm2
        have HF2 := Lib.hid hf2; clear hf2
        have b2 := ho2.below (B := w.heap.size) (Nat.le_refl _) (Nat.le_of_lt hbs)
        clear ho2
        go_wp2
        go_roundw
        case rel => exact ⟨k + 1, v', by omega, by go_num, HK.out, by rw [HS.out]; exact HM2.out, fun q hq => by have := HF2.out q hq; omega, bel.trans b2⟩
        case measure => simp [intOf]; omega
      | some u =>
        obtain ⟨i, hi⟩ := getL_at (nwL_asc _) hg
        have CP := Lib.hid (place_at w.heap.size v _ x.1 u i wr HM.out (nwL_asc _) hlen hi)
        have HK := Lib.hid (okN_no (n := ps.length) (by have := HN.out; omega) HX.out (by rw [hg]; simp))
        have HP := Lib.hid (show ∀ e w', NPost w ps e w' ↔ (e = .returned (.tuple #[.pointer none, .int .i64 9]) ∧ Below w.heap.size w w') from fun e w' => by unfold NPost; rw [HK.out, if_neg (by decide)])
        have hi0 : (0 : Int) ≤ i := by omega
        have hi1 : i ≤ 1000 := by have := (List.getElem?_eq_some_iff.1 hi).1; omega
        clear hg hi
        go_wp2_with fail
        refine CP.out.mono ?_
        rintro r w1 ⟨rfl, rfl⟩
        go_wp2
        go_ret2
        exact (HP.out _ _).2 ⟨rfl, bel⟩
    · obtain rfl : k = n := by omega
      have u0 : decide ((k : Int) < k) = false := decide_eq_false (by omega)
      have ht : ps.take k = ps := List.take_of_length_le (by have := HN.out; omega)
      rw [ht] at HM
      have HP := Lib.hid (show ∀ e w', NPost w ps e w' ↔ (∃ bm v, e = .returned (.tuple #[.pointer (some ⟨bm, 0, none⟩), .int .i64 0]) ∧ MapAt w' bm v (nwL ps) ∧ w.heap.size ≤ bm ∧ Fresh w.heap.size v ∧ Below w.heap.size w w') from fun e w' => by unfold NPost; rw [HN.out, HO.out, if_pos rfl])
      go_wp2
      go_ret2
      exact (HP.out _ _).2 ⟨_, v, rfl, HM.out, Nat.le_refl _, fun q hq => by have := HF.out q hq; omega, bel⟩
/-! ### Copy and Pairs -/
theorem copyR_nil (w : World) : Calls Try.prog 50 #[.pointer none] w fun e w' => e = .returned (.pointer none) ∧ w = w' := by
  go_enter Try.func50, Try.ntmps50
  go_wp2
  go_ret
  exact ⟨rfl, rfl⟩
/-- a new map with the pairs l -/
def CpPost (w : World) (l : List Pr) (e : Ending) (w' : World) : Prop :=
  ∃ bm v, e = .returned (.pointer (some ⟨bm, 0, none⟩)) ∧ MapAt w' bm v l ∧ w.heap.size ≤ bm ∧ Fresh w.heap.size v ∧ Below w.heap.size w w'
set_option maxHeartbeats 1000000 in
theorem copyR_any (bm : Nat) (v : Value) (l : List Pr) (w : World) (hm : MapAt w bm v l) (hs : l.length ≤ 1000) :
    Calls Try.prog 50 #[.pointer (some ⟨bm, 0, none⟩)] w (CpPost w l) := by
  obtain ⟨A, c, rfl, hc, rd, hz⟩ := hm.rd
  have HM := Lib.hid hm; clear hm
  have HR := Lib.hid rd; clear rd
  have HZ := Lib.hid hz; clear hz
  have m0 := (HM.out.below (bel_alloc (Below.refl _ w) (.cells #[] 45))).1
  go_enter Try.func50, Try.ntmps50
  go_wp2_with (at_builtin; refine appAll rfl (.tmp 5) (.tmp 9) rfl w A l.length c l rfl rfl rfl (by omega) HR.out HZ.out ?_; intro v1 w1 h1 b1; obtain ⟨_, A', c', e', _⟩ := row_form h1; subst e'; have H1 := Lib.hid h1; clear h1)
  go_ret
  have hne : ∀ k, (Value.slice A' l.length c').ownBlock = some k → k ≠ w1.heap.size := fun k hk => by have := (H1.out.lt k hk).2; omega
  refine ⟨w1.heap.size, _, rfl, ⟨by simp, by simp, row_base (H1.out.alloc _) (Nat.zero_le _), fun e => hne _ e rfl⟩, b1.size, row_fresh H1.out, bel_alloc b1 _⟩
theorem pairsR_nil (w : World) : Calls Try.prog 17 #[.pointer none] w fun e w' => e = .returned (.slice none 0 0) ∧ w = w' := by
  go_enter Try.func17, Try.ntmps17
  go_wp2
  go_ret
  exact ⟨rfl, rfl⟩
/-- a new row with the pairs l -/
def RwPost (w : World) (l : List Pr) (e : Ending) (w' : World) : Prop :=
  ∃ v, e = .returned v ∧ w'.ownsRow w.heap.size 45 2 v l.length (flat l) ∧ Below w.heap.size w w'
set_option maxHeartbeats 1000000 in
theorem pairsR_any (bm : Nat) (v : Value) (l : List Pr) (w : World) (hm : MapAt w bm v l) (hs : l.length ≤ 1000) :
    Calls Try.prog 17 #[.pointer (some ⟨bm, 0, none⟩)] w (RwPost w l) := by
  obtain ⟨A, c, rfl, hc, rd, hz⟩ := hm.rd
  have HM := Lib.hid hm; clear hm
  have HR := Lib.hid rd; clear rd
  have HZ := Lib.hid hz; clear hz
  have m0 := (HM.out.below (bel_alloc (Below.refl _ w) (.cells #[] 45))).1
  go_enter Try.func17, Try.ntmps17
  go_wp2_with (at_builtin; refine appAll rfl (.tmp 5) (.tmp 9) rfl w A l.length c l rfl rfl rfl (by omega) HR.out HZ.out ?_; intro v1 w1 h1 b1; have H1 := Lib.hid h1; clear h1)
  go_ret
  exact ⟨v1, rfl, H1.out, b1⟩
end Om
end Go.Proofs.Ythinaablldnikaa
