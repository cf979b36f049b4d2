/- The library's slices.Reverse at sections and at waits, on a row of the caller's own: contracts of the translated code. Conditions: those of each lemma. Written by tools/mk11rev.py. -/
import Derived.Test.YtbnchajkfceaoaaEvO
import Derived.BigRegion
namespace Go.Proofs.Ytbnchajkfceaoaa
open Go.RowKit Go.Sort
set_option linter.unusedVariables false
set_option linter.unusedSimpArgs false
namespace Ev
/-- a list of which k elements at each end have changed places -/
def revK (xs : List I) (k : Nat) : List I := (List.range xs.length).map fun i => if i < k ∨ xs.length ≤ i + k then xs.getD (xs.length - 1 - i) i0 else xs.getD i i0
theorem revK_len (xs : List I) (k : Nat) : (revK xs k).length = xs.length := by simp [revK]
theorem revK_get (xs : List I) (k i : Nat) (h : i < xs.length) : (revK xs k)[i]? = some (if i < k ∨ xs.length ≤ i + k then xs.getD (xs.length - 1 - i) i0 else xs.getD i i0) := by
  unfold revK
  rw [List.getElem?_map, List.getElem?_range h]; rfl
theorem revK_zero (xs : List I) : revK xs 0 = xs := by
  apply List.ext_getElem?
  intro i
  by_cases h : i < xs.length
  · rw [revK_get xs 0 i h, if_neg (by omega), getD_getI h, List.getElem?_eq_getElem h]
  · rw [List.getElem?_eq_none (by rw [revK_len]; omega), List.getElem?_eq_none (by omega)]
theorem revK_done {xs : List I} {k : Nat} (h : xs.length ≤ 2 * k + 1) : revK xs k = xs.reverse := by
  apply List.ext_getElem?
  intro i
  by_cases hi : i < xs.length
  · rw [revK_get xs k i hi, List.getElem?_reverse hi]
    by_cases h1 : i < k ∨ xs.length ≤ i + k
    · rw [if_pos h1, getD_getI (by omega), List.getElem?_eq_getElem (by omega)]
    · rw [if_neg h1]
      have e : xs.length - 1 - i = i := by omega
      rw [e, getD_getI hi, List.getElem?_eq_getElem hi]
  · rw [List.getElem?_eq_none (by rw [revK_len]; omega), List.getElem?_eq_none (by rw [List.length_reverse]; omega)]
theorem revK_step {xs : List I} {k J : Nat} (h : k + J + 1 = xs.length) (hk : k < J) : revK xs (k + 1) = ((revK xs k).set k (xs.getD J i0)).set J (xs.getD k i0) := by
  apply List.ext_getElem?
  intro i
  by_cases hi : i < xs.length
  · rw [revK_get xs (k + 1) i hi]
    by_cases hJ : i = J
    · subst hJ
      rw [List.getElem?_set_self (by rw [List.length_set, revK_len]; omega), if_pos (by omega)]
      rw [show xs.length - 1 - i = k by omega]
    · rw [List.getElem?_set_ne (by omega)]
      by_cases hk' : i = k
      · subst hk'
        rw [List.getElem?_set_self (by rw [revK_len]; omega), if_pos (by omega)]
        rw [show xs.length - 1 - i = J by omega]
      · rw [List.getElem?_set_ne (by omega), revK_get xs k i hi]
        by_cases h1 : i < k ∨ xs.length ≤ i + k
        · rw [if_pos h1, if_pos (by omega)]
        · rw [if_neg h1, if_neg (by omega)]
  · rw [List.getElem?_eq_none (by rw [revK_len]; omega), List.getElem?_eq_none (by rw [List.length_set, List.length_set, revK_len]; omega)]
theorem revK_k {xs : List I} {k J : Nat} (h : k + J + 1 = xs.length) (hk : k < J) : (revK xs k).getD k i0 = xs.getD k i0 ∧ (revK xs k).getD J i0 = xs.getD J i0 := by
  constructor
  · rw [List.getD_eq_getElem?_getD, revK_get xs k k (by omega), if_neg (by omega)]; rfl
  · rw [List.getD_eq_getElem?_getD, revK_get xs k J (by omega), if_neg (by omega)]; rfl
theorem set4_len {α : Type} (L : List α) (q : Nat) (a b c d : α) : ((((L.set q a).set (q + 1) b).set (q + 2) c).set (q + 3) d).length = L.length := by simp
theorem Kd.flat_set (K : Kd I) (hsz : K.sz = 4) {a b c d : Value} (l : List I) (i : Nat) (y : I) (he : K.enc y = [a, b, c, d]) : ((((K.flat l).set (i * 4) a).set (i * 4 + 1) b).set (i * 4 + 2) c).set (i * 4 + 3) d = K.flat (l.set i y) := by
  have hl := K.flat_len l
  rw [hsz] at hl
  by_cases hi : i < l.length
  · apply List.ext_getElem?
    intro m
    have hm : m = m / 4 * 4 + m % 4 := by omega
    have hr : m % 4 < K.sz := by rw [hsz]; omega
    have hg : ∀ L : List I, (K.flat L)[m]? = (L[m / 4]?).bind fun x => (K.enc x)[m % 4]? := fun L => by
      have := K.flat_get L (m / 4) (m % 4) hr
      rw [hsz] at this
      rw [← hm] at this
      exact this
    rw [hg (l.set i y)]
    by_cases he' : m / 4 = i
    · rw [he', List.getElem?_set_self hi]
      show _ = (K.enc y)[m % 4]?
      rw [he]
      have hlt : i * 4 + 3 < (K.flat l).length := by rw [hl]; omega
      rcases (by omega : m = i * 4 ∨ m = i * 4 + 1 ∨ m = i * 4 + 2 ∨ m = i * 4 + 3) with e | e | e | e
      · rw [show m % 4 = 0 by omega, e, List.getElem?_set_ne (by omega), List.getElem?_set_ne (by omega), List.getElem?_set_ne (by omega), List.getElem?_set_self (by omega)]; rfl
      · rw [show m % 4 = 1 by omega, e, List.getElem?_set_ne (by omega), List.getElem?_set_ne (by omega), List.getElem?_set_self (by rw [List.length_set]; omega)]; rfl
      · rw [show m % 4 = 2 by omega, e, List.getElem?_set_ne (by omega), List.getElem?_set_self (by rw [List.length_set, List.length_set]; omega)]; rfl
      · rw [show m % 4 = 3 by omega, e, List.getElem?_set_self (by rw [List.length_set, List.length_set, List.length_set]; omega)]; rfl
    · rw [List.getElem?_set_ne (by omega), List.getElem?_set_ne (by omega), List.getElem?_set_ne (by omega), List.getElem?_set_ne (by omega), List.getElem?_set_ne (fun e => he' e.symm), hg l]
  · have e : ∀ (q : Nat) (u : Value) (L : List Value), L.length = l.length * 4 → i * 4 ≤ q → L.set q u = L := fun q u L h h2 => List.set_eq_of_length_le (by omega)
    rw [e _ _ (K.flat l) hl (by omega), e _ _ _ hl (by omega), e _ _ _ hl (by omega), e _ _ _ hl (by omega), List.set_eq_of_length_le (by omega)]
def set4 (W : World) (g q : Nat) (y : I) : World := (((W.setCell ⟨g, q * 4, none⟩ (.int .i64 y.t)).setCell ⟨g, q * 4 + 1, none⟩ (.int .u64 y.v)).setCell ⟨g, q * 4 + 2, none⟩ (.int .i64 y.a)).setCell ⟨g, q * 4 + 3, none⟩ (.int .i64 y.b)
theorem set4_eq (W : World) (g q : Nat) (y : I) : (((W.setCell ⟨g, q * 4, none⟩ (.int .i64 y.t)).setCell ⟨g, q * 4 + 1, none⟩ (.int .u64 y.v)).setCell ⟨g, q * 4 + 2, none⟩ (.int .i64 y.a)).setCell ⟨g, q * 4 + 3, none⟩ (.int .i64 y.b) = set4 W g q y := rfl
theorem set4_cell {W : World} {g q J : Nat} {y : I} (h : q ≠ J) {j : Nat} (hj : j < 4) {v : Value} (hc : W.cell? ⟨g, J * 4 + j, none⟩ = some v) : (set4 W g q y).cell? ⟨g, J * 4 + j, none⟩ = some v := by
  unfold set4
  rw [World.cell?_setCell_other _ _ _ _ (by simp <;> omega), World.cell?_setCell_other _ _ _ _ (by simp <;> omega), World.cell?_setCell_other _ _ _ _ (by simp <;> omega), World.cell?_setCell_other _ _ _ _ (by simp <;> omega)]
  exact hc
theorem set4_own (K : Kd I) (hsz : K.sz = 4) {W : World} {base g n cap q : Nat} {l : List I} {y : I} (he : K.enc y = [.int .i64 y.t, .int .u64 y.v, .int .i64 y.a, .int .i64 y.b]) (h : W.ownsRow base K.E K.sz (.slice (some ⟨g, 0, none⟩) n cap) n (K.flat l)) :
    (set4 W g q y).ownsRow base K.E K.sz (.slice (some ⟨g, 0, none⟩) n cap) n (K.flat (l.set q y)) := by
  unfold set4
  rw [← K.flat_set hsz l q y he]
  exact ((((h.stored _ _).1.stored _ _).1.stored _ _).1.stored _ _).1
theorem set4_other {W : World} {g q k : Nat} {y : I} (h : k ≠ g) : (set4 W g q y).heap[k]? = W.heap[k]? := by
  unfold set4
  exact other4 h
theorem set4_below {W w : World} {n g q : Nat} {y : I} (h : Below n w W) (hg : n ≤ g) : Below n w (set4 W g q y) :=
  (((h.setCell (p := ⟨g, q * 4, none⟩) hg _).setCell (p := ⟨g, q * 4 + 1, none⟩) hg _).setCell (p := ⟨g, q * 4 + 2, none⟩) hg _).setCell (p := ⟨g, q * 4 + 3, none⟩) hg _
theorem set4_size {W : World} {g q : Nat} {y : I} : (set4 W g q y).heap.size = W.heap.size := by unfold set4; simp

set_option maxRecDepth 100000 in
set_option maxHeartbeats 2000000 in
theorem revS_any (v : Value) (base : Nat) (xs : List I) (w : World) (hx : xs.length ≤ 100000) (hown : w.ownsRow base KS.E KS.sz v xs.length (KS.flat xs)) :
    Calls Try.prog 53 #[v] w fun e w' => e = .returned (.tuple #[]) ∧ w'.ownsRow base KS.E KS.sz v xs.length (KS.flat xs.reverse) ∧ Below base w w' ∧ (∀ k, v.ownBlock ≠ some k → w'.heap[k]? = w.heap[k]?) ∧ w'.heap.size = w.heap.size := by
  rcases hown.2 with ⟨hv, h0⟩ | ⟨g, cap, cur, hv, hb, hg, hnc, hcm, hcs, htake⟩
  · subst hv
    obtain rfl : xs = [] := List.eq_nil_of_length_eq_zero h0
    have HO := Lib.hid hown
    have HP : ∀ w', w' = w → (w'.ownsRow base KS.E KS.sz (.slice none 0 0) ([] : List I).length (KS.flat ([] : List I).reverse) ∧ Below base w w' ∧ (∀ k, (Value.slice none 0 0).ownBlock ≠ some k → w'.heap[k]? = w.heap[k]?) ∧ w'.heap.size = w.heap.size) := fun w' e => by subst e; exact ⟨HO.out, Below.refl _ _, fun _ _ => rfl, rfl⟩
    have HP := Lib.hid HP
    clear hown h0 hx
    go_enter Try.func53, Try.ntmps53
    go_wp2
    go_loop [2, 3] (fun i j => i = .int .i64 0 ∧ j = .int .i64 (-1)) (fun i j => 0)
    case atStart => exact ⟨rfl, by go_num⟩
    case round =>
      obtain ⟨rfl, rfl⟩ := hrel
      go_wp2
      go_end0
      exact ⟨rfl, HP.out _ rfl⟩
  · subst hv
    have hfz : ∀ (W : World) (l : List I), W.ownsRow base KS.E KS.sz (.slice (some ⟨g, 0, none⟩) xs.length cap) xs.length (KS.flat l) → ∀ j, W.frozen? ⟨g, j, none⟩ = false := fun W l h j => h.frozenAt j
    have HO := Lib.hid hown
    have HB := Lib.hid hb
    obtain ⟨n, hn⟩ : ∃ n, xs.length = n := ⟨_, rfl⟩
    have HN := Lib.hid hn
    have HP := Lib.hid (show ∀ w', w'.ownsRow base KS.E KS.sz (.slice (some ⟨g, 0, none⟩) n cap) n (KS.flat xs.reverse) → Below base w w' → (∀ k, k ≠ g → w'.heap[k]? = w.heap[k]?) → w'.heap.size = w.heap.size → (w'.ownsRow base KS.E KS.sz (.slice (some ⟨g, 0, none⟩) n cap) n (KS.flat xs.reverse) ∧ Below base w w' ∧ (∀ k, (Value.slice (some ⟨g, 0, none⟩) n cap).ownBlock ≠ some k → w'.heap[k]? = w.heap[k]?) ∧ w'.heap.size = w.heap.size) from fun w' a1 a2 a3 a4 => ⟨a1, a2, fun k hk => a3 k (fun e => hk (by rw [e]; rfl)), a4⟩)
    rw [hn] at HO hfz hx ⊢
    clear hown hb hg hnc hcm hcs htake hn
    by_cases hn0 : n = 0
    · have HX := Lib.hid (show xs.reverse = xs by rw [List.eq_nil_of_length_eq_zero (HN.out.trans hn0)]; rfl)
      subst hn0
      go_enter Try.func53, Try.ntmps53
      go_wp2
      go_loop [2, 3] (fun i j => i = .int .i64 0 ∧ j = .int .i64 (-1)) (fun i j => 0)
      case atStart => exact ⟨rfl, by go_num⟩
      case round =>
        obtain ⟨rfl, rfl⟩ := hrel
        go_wp2
        go_end0
        exact ⟨rfl, HP.out _ (by rw [HX.out]; exact HO.out) (Below.refl _ _) (fun _ _ => rfl) rfl⟩
    · obtain ⟨m, rfl⟩ : ∃ m, n = m + 1 := ⟨n - 1, by omega⟩
      have q0 : ((m : Int) + 1 - 1) = (m : Int) := by omega
      go_enter Try.func53, Try.ntmps53
      go_wp2
      go_loopw [2, 3] (fun i j wr => ∃ k J : Nat, i = .int .i64 k ∧ j = .int .i64 ((J : Int) - 1) ∧ k + J = m + 1 ∧ k ≤ J + 1 ∧ wr.ownsRow base KS.E KS.sz (.slice (some ⟨g, 0, none⟩) (m + 1) cap) (m + 1) (KS.flat (revK xs k)) ∧ Below base w wr ∧ (∀ k, k ≠ g → wr.heap[k]? = w.heap[k]?) ∧ wr.heap.size = w.heap.size) (fun i _ _ => m + 2 - (intOf i).toNat)
      case atStart => exact ⟨0, m + 1, rfl, by go_num, by omega, by omega, by rw [revK_zero]; exact HO.out, Below.refl _ _, fun _ _ => rfl, rfl⟩
      case round =>
        obtain ⟨k, J, rfl, rfl, hkJ, hk1, ow, bel, hoth, hsz⟩ := hrel
        obtain ⟨wq, rfl⟩ : ∃ wq : World, wq = wr := ⟨_, rfl⟩
        have OW := Lib.hid ow
        have OT := Lib.hid hoth
        have SZ := Lib.hid hsz
        have BE := Lib.hid bel
        clear ow hoth hsz bel
        by_cases hlt : (k : Int) < (J : Int) - 1
        · obtain ⟨J, rfl⟩ : ∃ J', J = J' + 1 := ⟨J - 1, by omega⟩
          have hlen : k + J + 1 = xs.length := by have := HN.out; omega
          have hkJ2 : k < J := by omega
          have HS := Lib.hid (revK_step hlen hkJ2)
          obtain ⟨hgk, hgJ⟩ := revK_k hlen hkJ2
          have hrd := KS.row_get OW.out
          obtain ⟨_, _, eA, x0, x1, x2, x3⟩ := KS.at_ hrd (show k < (revK xs k).length by rw [revK_len]; omega)
          cases eA
          obtain ⟨_, _, eA, y0, y1, y2, y3⟩ := KS.at_ hrd (show J < (revK xs k).length by rw [revK_len]; omega)
          cases eA
          rw [hgk] at x0 x1 x2 x3
          rw [hgJ] at y0 y1 y2 y3
          simp only [Nat.zero_add] at x0 x1 x2 x3 y0 y1 y2 y3
          clear hrd hgk hgJ
          generalize xs.getD k i0 = x at *
          generalize xs.getD J i0 = y at *
          have hne : k ≠ J := by omega
          have z0 := set4_cell (y := y) hne (j := 0) (by omega) y0
          have z1 := set4_cell (y := y) hne (j := 1) (by omega) y1
          have z2 := set4_cell (y := y) hne (j := 2) (by omega) y2
          have z3 := set4_cell (y := y) hne (j := 3) (by omega) y3
          simp only [set4, Nat.add_zero] at z0 z1 z2 z3
          have fz := hfz wq _ OW.out
          have OW2 := Lib.hid (set4_own KS rfl (q := J) (y := x) rfl (set4_own KS rfl (q := k) (y := y) rfl OW.out))
          rw [← HS.out] at OW2
          have d0 : decide ((k : Int) < (J : Int)) = true := decide_eq_true (by omega)
          have q1 : ((J : Int) + 1 - 1) = (J : Int) := by omega
          have p1 : (k : Int) < (m : Int) + 1 := by omega
          have p2 : (J : Int) < (m : Int) + 1 := by omega
          have p3 : (J : Int) ≤ 100000 := by omega
          clear hlen hne HS
          go_wp2
          go_region
          go_wp2
          go_roundw
          case rel =>
            refine ⟨k + 1, J, by go_num, by go_num, by omega, by omega, ?_⟩
            rw [set4_eq, set4_eq]
            have FIN := And.intro OW2.out (And.intro (set4_below (q := J) (y := x) (set4_below (q := k) (y := y) BE.out HB.out) HB.out) (And.intro (fun q (hq : q ≠ g) => (set4_other (W := set4 wq g k y) (q := J) (y := x) hq).trans ((set4_other (W := wq) (q := k) (y := y) hq).trans (OT.out q hq))) ((set4_size (W := set4 wq g k y) (g := g) (q := J) (y := x)).trans ((set4_size (W := wq) (g := g) (q := k) (y := y)).trans SZ.out))))
            clear OW2
            generalize set4 (set4 wq g k y) g J x = W8 at *
            exact ⟨FIN.1.drew, bel_draw FIN.2.1, FIN.2.2.1, FIN.2.2.2⟩
          case measure => simp [intOf]; omega
        · have d0 := decide_eq_false hlt
          have HF := Lib.hid (show revK xs k = xs.reverse from revK_done (by have := HN.out; omega))
          go_wp2
          go_end0
          exact ⟨rfl, HP.out _ (by rw [← HF.out]; exact OW.out) BE.out OT.out SZ.out⟩

set_option maxRecDepth 100000 in
set_option maxHeartbeats 2000000 in
theorem revW_any (v : Value) (base : Nat) (xs : List I) (w : World) (hx : xs.length ≤ 100000) (hown : w.ownsRow base KW.E KW.sz v xs.length (KW.flat xs)) :
    Calls Try.prog 54 #[v] w fun e w' => e = .returned (.tuple #[]) ∧ w'.ownsRow base KW.E KW.sz v xs.length (KW.flat xs.reverse) ∧ Below base w w' ∧ (∀ k, v.ownBlock ≠ some k → w'.heap[k]? = w.heap[k]?) ∧ w'.heap.size = w.heap.size := by
  rcases hown.2 with ⟨hv, h0⟩ | ⟨g, cap, cur, hv, hb, hg, hnc, hcm, hcs, htake⟩
  · subst hv
    obtain rfl : xs = [] := List.eq_nil_of_length_eq_zero h0
    have HO := Lib.hid hown
    have HP : ∀ w', w' = w → (w'.ownsRow base KW.E KW.sz (.slice none 0 0) ([] : List I).length (KW.flat ([] : List I).reverse) ∧ Below base w w' ∧ (∀ k, (Value.slice none 0 0).ownBlock ≠ some k → w'.heap[k]? = w.heap[k]?) ∧ w'.heap.size = w.heap.size) := fun w' e => by subst e; exact ⟨HO.out, Below.refl _ _, fun _ _ => rfl, rfl⟩
    have HP := Lib.hid HP
    clear hown h0 hx
    go_enter Try.func54, Try.ntmps54
    go_wp2
    go_loop [2, 3] (fun i j => i = .int .i64 0 ∧ j = .int .i64 (-1)) (fun i j => 0)
    case atStart => exact ⟨rfl, by go_num⟩
    case round =>
      obtain ⟨rfl, rfl⟩ := hrel
      go_wp2
      go_end0
      exact ⟨rfl, HP.out _ rfl⟩
  · subst hv
    have hfz : ∀ (W : World) (l : List I), W.ownsRow base KW.E KW.sz (.slice (some ⟨g, 0, none⟩) xs.length cap) xs.length (KW.flat l) → ∀ j, W.frozen? ⟨g, j, none⟩ = false := fun W l h j => h.frozenAt j
    have HO := Lib.hid hown
    have HB := Lib.hid hb
    obtain ⟨n, hn⟩ : ∃ n, xs.length = n := ⟨_, rfl⟩
    have HN := Lib.hid hn
    have HP := Lib.hid (show ∀ w', w'.ownsRow base KW.E KW.sz (.slice (some ⟨g, 0, none⟩) n cap) n (KW.flat xs.reverse) → Below base w w' → (∀ k, k ≠ g → w'.heap[k]? = w.heap[k]?) → w'.heap.size = w.heap.size → (w'.ownsRow base KW.E KW.sz (.slice (some ⟨g, 0, none⟩) n cap) n (KW.flat xs.reverse) ∧ Below base w w' ∧ (∀ k, (Value.slice (some ⟨g, 0, none⟩) n cap).ownBlock ≠ some k → w'.heap[k]? = w.heap[k]?) ∧ w'.heap.size = w.heap.size) from fun w' a1 a2 a3 a4 => ⟨a1, a2, fun k hk => a3 k (fun e => hk (by rw [e]; rfl)), a4⟩)
    rw [hn] at HO hfz hx ⊢
    clear hown hb hg hnc hcm hcs htake hn
    by_cases hn0 : n = 0
    · have HX := Lib.hid (show xs.reverse = xs by rw [List.eq_nil_of_length_eq_zero (HN.out.trans hn0)]; rfl)
      subst hn0
      go_enter Try.func54, Try.ntmps54
      go_wp2
      go_loop [2, 3] (fun i j => i = .int .i64 0 ∧ j = .int .i64 (-1)) (fun i j => 0)
      case atStart => exact ⟨rfl, by go_num⟩
      case round =>
        obtain ⟨rfl, rfl⟩ := hrel
        go_wp2
        go_end0
        exact ⟨rfl, HP.out _ (by rw [HX.out]; exact HO.out) (Below.refl _ _) (fun _ _ => rfl) rfl⟩
    · obtain ⟨m, rfl⟩ : ∃ m, n = m + 1 := ⟨n - 1, by omega⟩
      have q0 : ((m : Int) + 1 - 1) = (m : Int) := by omega
      go_enter Try.func54, Try.ntmps54
      go_wp2
      go_loopw [2, 3] (fun i j wr => ∃ k J : Nat, i = .int .i64 k ∧ j = .int .i64 ((J : Int) - 1) ∧ k + J = m + 1 ∧ k ≤ J + 1 ∧ wr.ownsRow base KW.E KW.sz (.slice (some ⟨g, 0, none⟩) (m + 1) cap) (m + 1) (KW.flat (revK xs k)) ∧ Below base w wr ∧ (∀ k, k ≠ g → wr.heap[k]? = w.heap[k]?) ∧ wr.heap.size = w.heap.size) (fun i _ _ => m + 2 - (intOf i).toNat)
      case atStart => exact ⟨0, m + 1, rfl, by go_num, by omega, by omega, by rw [revK_zero]; exact HO.out, Below.refl _ _, fun _ _ => rfl, rfl⟩
      case round =>
        obtain ⟨k, J, rfl, rfl, hkJ, hk1, ow, bel, hoth, hsz⟩ := hrel
        obtain ⟨wq, rfl⟩ : ∃ wq : World, wq = wr := ⟨_, rfl⟩
        have OW := Lib.hid ow
        have OT := Lib.hid hoth
        have SZ := Lib.hid hsz
        have BE := Lib.hid bel
        clear ow hoth hsz bel
        by_cases hlt : (k : Int) < (J : Int) - 1
        · obtain ⟨J, rfl⟩ : ∃ J', J = J' + 1 := ⟨J - 1, by omega⟩
          have hlen : k + J + 1 = xs.length := by have := HN.out; omega
          have hkJ2 : k < J := by omega
          have HS := Lib.hid (revK_step hlen hkJ2)
          obtain ⟨hgk, hgJ⟩ := revK_k hlen hkJ2
          have hrd := KW.row_get OW.out
          obtain ⟨_, _, eA, x0, x1, x2, x3⟩ := KW.at_ hrd (show k < (revK xs k).length by rw [revK_len]; omega)
          cases eA
          obtain ⟨_, _, eA, y0, y1, y2, y3⟩ := KW.at_ hrd (show J < (revK xs k).length by rw [revK_len]; omega)
          cases eA
          rw [hgk] at x0 x1 x2 x3
          rw [hgJ] at y0 y1 y2 y3
          simp only [Nat.zero_add] at x0 x1 x2 x3 y0 y1 y2 y3
          clear hrd hgk hgJ
          generalize xs.getD k i0 = x at *
          generalize xs.getD J i0 = y at *
          have hne : k ≠ J := by omega
          have z0 := set4_cell (y := y) hne (j := 0) (by omega) y0
          have z1 := set4_cell (y := y) hne (j := 1) (by omega) y1
          have z2 := set4_cell (y := y) hne (j := 2) (by omega) y2
          have z3 := set4_cell (y := y) hne (j := 3) (by omega) y3
          simp only [set4, Nat.add_zero] at z0 z1 z2 z3
          have fz := hfz wq _ OW.out
          have OW2 := Lib.hid (set4_own KW rfl (q := J) (y := x) rfl (set4_own KW rfl (q := k) (y := y) rfl OW.out))
          rw [← HS.out] at OW2
          have d0 : decide ((k : Int) < (J : Int)) = true := decide_eq_true (by omega)
          have q1 : ((J : Int) + 1 - 1) = (J : Int) := by omega
          have p1 : (k : Int) < (m : Int) + 1 := by omega
          have p2 : (J : Int) < (m : Int) + 1 := by omega
          have p3 : (J : Int) ≤ 100000 := by omega
          clear hlen hne HS
          go_wp2
          go_region
          go_wp2
          go_roundw
          case rel =>
            refine ⟨k + 1, J, by go_num, by go_num, by omega, by omega, ?_⟩
            rw [set4_eq, set4_eq]
            have FIN := And.intro OW2.out (And.intro (set4_below (q := J) (y := x) (set4_below (q := k) (y := y) BE.out HB.out) HB.out) (And.intro (fun q (hq : q ≠ g) => (set4_other (W := set4 wq g k y) (q := J) (y := x) hq).trans ((set4_other (W := wq) (q := k) (y := y) hq).trans (OT.out q hq))) ((set4_size (W := set4 wq g k y) (g := g) (q := J) (y := x)).trans ((set4_size (W := wq) (g := g) (q := k) (y := y)).trans SZ.out))))
            clear OW2
            generalize set4 (set4 wq g k y) g J x = W8 at *
            exact ⟨FIN.1.drew, bel_draw FIN.2.1, FIN.2.2.1, FIN.2.2.2⟩
          case measure => simp [intOf]; omega
        · have d0 := decide_eq_false hlt
          have HF := Lib.hid (show revK xs k = xs.reverse from revK_done (by have := HN.out; omega))
          go_wp2
          go_end0
          exact ⟨rfl, HP.out _ (by rw [← HF.out]; exact OW.out) BE.out OT.out SZ.out⟩
end Ev
end Go.Proofs.Ytbnchajkfceaoaa
