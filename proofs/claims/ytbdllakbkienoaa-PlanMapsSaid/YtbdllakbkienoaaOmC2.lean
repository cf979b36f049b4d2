/- span.Shift, and Move of package omap: contracts of the translated code. Conditions: at most 1000 pairs with increasing keys; the bounds of each number's kind. -/
import Derived.Test.YtbdllakbkienoaaOmCc
namespace Go.Proofs.Ytbdllakbkienoaa
open Go.RowKit Go.Sort Go.Lib
set_option linter.unusedVariables false
set_option linter.unusedSimpArgs false
namespace Om
def sfT (a b e : Int) : Value := .tuple #[.agg #[.int .u64 a, .int .u64 b], .int .i64 e]
theorem shift_bad (lo hi d : Int) (w : World) (ll : 0 ≤ lo) (lh : lo ≤ 18446744073709551615) (hl : 0 ≤ hi) (hh : hi ≤ 18446744073709551615) (dl : 0 ≤ d) (dh : d ≤ 18446744073709551615) (h : hi < lo) :
    Calls Try.prog 39 #[.agg #[.int .u64 lo, .int .u64 hi], .int .u64 d] w fun e w' => e = .returned (sfT 0 0 13) ∧ Below w.heap.size w w' := by
  have b0 : Below w.heap.size w ((w.alloc (.cells #[.int .u64 lo, .int .u64 hi] 25)).alloc (.cells #[.int .u64 0, .int .u64 0] 25)) := bel_alloc (bel_alloc (Below.refl _ _) _) _
  have CK := fun W => Lib.hid (checkS_any lo hi W)
  rw [show rgE lo hi = 13 from if_neg (by omega)] at CK
  go_enter Try.func39, Try.ntmps39
  go_wp2_with fail
  refine (CK _).out.mono ?_
  rintro r w2 ⟨rfl, b2⟩
  have bw2 := bel_trans b0 b2
  have hz1 := b2.size
  simp at hz1
  have e0 : w2.cell? ⟨w.heap.size, 0, none⟩ = some (.int .u64 lo) := by rw [b2.cell (p := ⟨w.heap.size, 0, none⟩) (by simp <;> omega)]; simp
  have e1 : w2.cell? ⟨w.heap.size, 1, none⟩ = some (.int .u64 hi) := by rw [b2.cell (p := ⟨w.heap.size, 1, none⟩) (by simp <;> omega)]; simp
  have c0 : w2.cell? ⟨w.heap.size + 1, 0, none⟩ = some (.int .u64 0) := by rw [b2.cell (p := ⟨w.heap.size + 1, 0, none⟩) (by simp)]; simp
  have c1 : w2.cell? ⟨w.heap.size + 1, 1, none⟩ = some (.int .u64 0) := by rw [b2.cell (p := ⟨w.heap.size + 1, 1, none⟩) (by simp)]; simp
  have f0 : w2.frozen? ⟨w.heap.size + 1, 0, none⟩ = false := by rw [b2.frozen (p := ⟨w.heap.size + 1, 0, none⟩) (by simp)]; simp
  have f1 : w2.frozen? ⟨w.heap.size + 1, 1, none⟩ = false := by rw [b2.frozen (p := ⟨w.heap.size + 1, 1, none⟩) (by simp)]; simp
  have H2 := Lib.hid (res_cells w w2 bw2 c0 c1)
  go_wp2
  obtain ⟨g0, g1, b3⟩ := H2.out 0 0
  generalize (w2.setCell ⟨w.heap.size + 1, 0, none⟩ (.int .u64 0)).setCell ⟨w.heap.size + 1, 1, none⟩ (.int .u64 0) = w3 at *
  exact bodyPost_ret (v := sfT 0 0 13) (by simp [results, Try.results39, go_sem, g0, g1, sfT]) rfl ⟨rfl, b3⟩
theorem shift_over (lo hi d : Int) (w : World) (ll : 0 ≤ lo) (lh : lo ≤ 18446744073709551615) (hl : 0 ≤ hi) (hh : hi ≤ 18446744073709551615) (dl : 0 ≤ d) (dh : d ≤ 18446744073709551615) (h : lo ≤ hi) (h2 : 18446744073709551615 < hi + d) :
    Calls Try.prog 39 #[.agg #[.int .u64 lo, .int .u64 hi], .int .u64 d] w fun e w' => e = .returned (sfT 0 0 12) ∧ Below w.heap.size w w' := by
  have b0 : Below w.heap.size w ((w.alloc (.cells #[.int .u64 lo, .int .u64 hi] 25)).alloc (.cells #[.int .u64 0, .int .u64 0] 25)) := bel_alloc (bel_alloc (Below.refl _ _) _) _
  have CK := fun W => Lib.hid (checkS_any lo hi W)
  rw [show rgE lo hi = 0 from if_pos h] at CK
  have t2 : decide (18446744073709551615 - hi < d) = true := decide_eq_true (by omega)
  go_enter Try.func39, Try.ntmps39
  go_wp2_with fail
  refine (CK _).out.mono ?_
  rintro r w2 ⟨rfl, b2⟩
  have bw2 := bel_trans b0 b2
  have hz1 := b2.size
  simp at hz1
  have e0 : w2.cell? ⟨w.heap.size, 0, none⟩ = some (.int .u64 lo) := by rw [b2.cell (p := ⟨w.heap.size, 0, none⟩) (by simp <;> omega)]; simp
  have e1 : w2.cell? ⟨w.heap.size, 1, none⟩ = some (.int .u64 hi) := by rw [b2.cell (p := ⟨w.heap.size, 1, none⟩) (by simp <;> omega)]; simp
  have c0 : w2.cell? ⟨w.heap.size + 1, 0, none⟩ = some (.int .u64 0) := by rw [b2.cell (p := ⟨w.heap.size + 1, 0, none⟩) (by simp)]; simp
  have c1 : w2.cell? ⟨w.heap.size + 1, 1, none⟩ = some (.int .u64 0) := by rw [b2.cell (p := ⟨w.heap.size + 1, 1, none⟩) (by simp)]; simp
  have f0 : w2.frozen? ⟨w.heap.size + 1, 0, none⟩ = false := by rw [b2.frozen (p := ⟨w.heap.size + 1, 0, none⟩) (by simp)]; simp
  have f1 : w2.frozen? ⟨w.heap.size + 1, 1, none⟩ = false := by rw [b2.frozen (p := ⟨w.heap.size + 1, 1, none⟩) (by simp)]; simp
  have H2 := Lib.hid (res_cells w w2 bw2 c0 c1)
  go_wp2
  obtain ⟨g0, g1, b3⟩ := H2.out 0 0
  generalize (w2.setCell ⟨w.heap.size + 1, 0, none⟩ (.int .u64 0)).setCell ⟨w.heap.size + 1, 1, none⟩ (.int .u64 0) = w3 at *
  exact bodyPost_ret (v := sfT 0 0 12) (by simp [results, Try.results39, go_sem, g0, g1, sfT]) rfl ⟨rfl, b3⟩
theorem shift_ok (lo hi d : Int) (w : World) (ll : 0 ≤ lo) (lh : lo ≤ 18446744073709551615) (hl : 0 ≤ hi) (hh : hi ≤ 18446744073709551615) (dl : 0 ≤ d) (dh : d ≤ 18446744073709551615) (h : lo ≤ hi) (h2 : hi + d ≤ 18446744073709551615) :
    Calls Try.prog 39 #[.agg #[.int .u64 lo, .int .u64 hi], .int .u64 d] w fun e w' => e = .returned (sfT (lo + d) (hi + d) 0) ∧ Below w.heap.size w w' := by
  have b0 : Below w.heap.size w ((w.alloc (.cells #[.int .u64 lo, .int .u64 hi] 25)).alloc (.cells #[.int .u64 0, .int .u64 0] 25)) := bel_alloc (bel_alloc (Below.refl _ _) _) _
  have CK := fun W => Lib.hid (checkS_any lo hi W)
  rw [show rgE lo hi = 0 from if_pos h] at CK
  have t2 : decide (18446744073709551615 - hi < d) = false := decide_eq_false (by omega)
  have hs1 : lo + d ≤ 18446744073709551615 := by omega
  go_enter Try.func39, Try.ntmps39
  go_wp2_with fail
  refine (CK _).out.mono ?_
  rintro r w2 ⟨rfl, b2⟩
  have bw2 := bel_trans b0 b2
  have hz1 := b2.size
  simp at hz1
  have e0 : w2.cell? ⟨w.heap.size, 0, none⟩ = some (.int .u64 lo) := by rw [b2.cell (p := ⟨w.heap.size, 0, none⟩) (by simp <;> omega)]; simp
  have e1 : w2.cell? ⟨w.heap.size, 1, none⟩ = some (.int .u64 hi) := by rw [b2.cell (p := ⟨w.heap.size, 1, none⟩) (by simp <;> omega)]; simp
  have c0 : w2.cell? ⟨w.heap.size + 1, 0, none⟩ = some (.int .u64 0) := by rw [b2.cell (p := ⟨w.heap.size + 1, 0, none⟩) (by simp)]; simp
  have c1 : w2.cell? ⟨w.heap.size + 1, 1, none⟩ = some (.int .u64 0) := by rw [b2.cell (p := ⟨w.heap.size + 1, 1, none⟩) (by simp)]; simp
  have f0 : w2.frozen? ⟨w.heap.size + 1, 0, none⟩ = false := by rw [b2.frozen (p := ⟨w.heap.size + 1, 0, none⟩) (by simp)]; simp
  have f1 : w2.frozen? ⟨w.heap.size + 1, 1, none⟩ = false := by rw [b2.frozen (p := ⟨w.heap.size + 1, 1, none⟩) (by simp)]; simp
  have H2 := Lib.hid (res_cells w w2 bw2 c0 c1)
  go_wp2
  obtain ⟨g0, g1, b3⟩ := H2.out (lo + d) (hi + d)
  generalize (w2.setCell ⟨w.heap.size + 1, 0, none⟩ (.int .u64 (lo + d))).setCell ⟨w.heap.size + 1, 1, none⟩ (.int .u64 (hi + d)) = w3 at *
  exact bodyPost_ret (v := sfT (lo + d) (hi + d) 0) (by simp [results, Try.results39, go_sem, g0, g1, sfT]) rfl ⟨rfl, b3⟩
theorem row_rd {w : World} {B n : Nat} {v : Value} {l : List Pr} (h : w.ownsRow B 43 2 v n (flat l)) : l.length = n ∧ ∃ A c, v = .slice A n c ∧ n ≤ c ∧ Rd w A l ∧ (A = none → c = 0) := by
  obtain ⟨hl, A, c, e, hc, rd, _⟩ := row_form h
  refine ⟨hl, A, c, e, hc, rd, fun hn => ?_⟩
  subst e hn
  rcases h.2 with ⟨e, _⟩ | ⟨g, cap, cur, e, _⟩
  · injection e
  · cases e
/-- the pairs of a row after k keys were raised -/
def upK (l : List Pr) (d : Int) (k : Nat) : List Pr := shL (l.take k) d ++ l.drop k
theorem upK_len (l : List Pr) (d : Int) (k : Nat) : (upK l d k).length = l.length := by simp [upK, shL]; omega
theorem upK_at {l : List Pr} {d : Int} {k : Nat} {x : Pr} (h : l[k]? = some x) : (upK l d k)[k]? = some x := by
  have hk := (List.getElem?_eq_some_iff.1 h).1
  have hl : (shL (l.take k) d).length = k := by simp [shL]; omega
  rw [upK, List.getElem?_append_right (by omega), hl, Nat.sub_self, List.getElem?_drop, Nat.add_zero, h]
theorem upK_succ {l : List Pr} {d : Int} {k : Nat} {x : Pr} (h : l[k]? = some x) : upK l d (k + 1) = (upK l d k).set k (x.1 + d, x.2) := by
  have hk := (List.getElem?_eq_some_iff.1 h).1
  have hl : (shL (l.take k) d).length = k := by simp [shL]; omega
  rw [upK, upK, List.set_append, if_neg (by omega), hl, Nat.sub_self, List.drop_eq_getElem_cons hk, List.set_cons_zero, take_succ' h]
  simp [shL]
theorem upK_all {l : List Pr} {d : Int} {k : Nat} (h : l.length ≤ k) : upK l d k = shL l d := by
  rw [upK, List.take_of_length_le h, List.drop_eq_nil_of_le h, List.append_nil]
/-- one key of a row changed in its place -/
theorem set_key {W : World} {B g n c k : Nat} {l : List Pr} {u y : Int} (z : Int) (hr : W.ownsRow B 43 2 (.slice (some ⟨g, 0, none⟩) n c) n (flat l)) (hx : l[k]? = some (u, y)) :
    W.cell? ⟨g, k * 2, none⟩ = some (.int .u64 u) ∧ W.frozen? ⟨g, k * 2, none⟩ = false ∧ (W.setCell ⟨g, k * 2, none⟩ (.int .u64 z)).ownsRow B 43 2 (.slice (some ⟨g, 0, none⟩) n c) n (flat (l.set k (z, y))) := by
  have ho := own_of_row hr
  have hn : l.length = n := by have := hr.1; rw [flat_len] at this; omega
  obtain ⟨c0, c1, f0, f1⟩ := ho k _ hx
  simp only [Nat.zero_add] at c0 c1 f0 f1
  have hc' := World.cell?_setCell_same W ⟨g, k * 2, none⟩ (.int .u64 z) c0
  refine ⟨c0, f0, row_again hr (fun cur h => ⟨_, heap_setCell_same W g _ cur _ _ h, by simp⟩) (fun j p hj => ?_) (by rw [List.length_set, hn])⟩
  rw [List.getElem?_set] at hj
  rw [World.frozen?_setCell, World.frozen?_setCell]
  simp only [Nat.zero_add]
  by_cases e : k = j
  · subst e
    rw [if_pos rfl, if_pos (List.getElem?_eq_some_iff.1 hx).1] at hj
    cases hj
    refine ⟨hc', ?_, f0, f1⟩
    rw [World.cell?_setCell_other _ _ _ _ (by simp)]; exact c1
  · rw [if_neg e] at hj
    obtain ⟨d0, d1, e0, e1⟩ := ho j p hj
    simp only [Nat.zero_add] at d0 d1 e0 e1
    refine ⟨?_, ?_, e0, e1⟩
    · rw [World.cell?_setCell_other _ _ _ _ (by simp <;> omega)]; exact d0
    · rw [World.cell?_setCell_other _ _ _ _ (by simp <;> omega)]; exact d1
theorem bel_drew (w : World) : Below w.heap.size w w.drew := ⟨rfl, rfl, rfl, Nat.le_refl _, fun _ _ => rfl⟩
theorem Cut.nilcap {n c a b n' c' : Nat} {A A' : Option Addr} (h : Cut A n c a b A' n' c') : A' = none → c' = 0 := by
  intro e
  cases h with
  | nil => rfl
  | tip => cases e
  | mid => cases e
theorem moC_nil (lo hi d : Int) (w : World) : Calls Try.prog 33 #[.pointer none, .agg #[.int .u64 lo, .int .u64 hi], .int .u64 d] w fun e w' => e = .returned (.tuple #[.int .i64 0, .int .i64 1]) ∧ Below w.heap.size w w' := by
  go_enter Try.func33, Try.ntmps33
  go_wp2
  go_ret2
  exact ⟨rfl, bel_alloc (Below.refl _ _) _⟩
set_option maxRecDepth 100000 in
set_option maxHeartbeats 4000000 in
theorem moC_bad (bm : Nat) (v : Value) (l : List Pr) (lo hi d : Int) (w : World) (hm : MapAt w bm v l) (ll : 0 ≤ lo) (lh : lo ≤ 18446744073709551615) (hl : 0 ≤ hi) (hh : hi ≤ 18446744073709551615) (dl : 0 ≤ d) (dh : d ≤ 18446744073709551615) (hbad : moE lo hi d ≠ 0) :
    Calls Try.prog 33 #[.pointer (some ⟨bm, 0, none⟩), .agg #[.int .u64 lo, .int .u64 hi], .int .u64 d] w (Opn w bm v (moL l lo hi d) (moT l lo hi d)) := by
  have HM := Lib.hid hm; clear hm
  have b0 : Below w.heap.size w (w.alloc (.cells #[.int .u64 lo, .int .u64 hi] 25)) := bel_alloc (Below.refl _ _) _
  have HL := Lib.hid (show moL l lo hi d = l by unfold moL; rw [if_neg hbad])
  have HT := Lib.hid (show moT l lo hi d = .tuple #[.int .i64 0, .int .i64 (moE lo hi d)] by unfold moT; rw [if_neg hbad])
  by_cases h2 : d = 0
  · have HE := Lib.hid (show moE lo hi d = 13 from if_pos (.inr h2))
    have t1 : (d == 0) = true := by simp [h2]
    clear h2 hbad
    go_enter Try.func33, Try.ntmps33
    go_wp2
    go_ret2
    rw [HL.out]
    exact ⟨v, by rw [HT.out, HE.out]; rfl, HM.out.below b0, Nx.refl _ _, Chg.of_below b0⟩
  have t1 : (d == 0) = false := by simp [h2]
  by_cases h1 : hi < lo
  · have HE := Lib.hid (show moE lo hi d = 13 from if_pos (.inl h1))
    have CS := fun W => Lib.hid (shift_bad lo hi d W ll lh hl hh dl dh h1)
    unfold sfT at CS
    clear h2 h1 hbad
    go_enter Try.func33, Try.ntmps33
    go_wp2_with fail
    refine (CS _).out.mono ?_
    rintro r w1 ⟨rfl, b1⟩
    have bw := bel_trans b0 b1
    go_wp2
    go_ret2
    rw [HL.out]
    exact ⟨v, by rw [HT.out, HE.out]; rfl, HM.out.below (bel_alloc bw _), Nx.refl _ _, Chg.of_below (bel_alloc bw _)⟩
  by_cases h3 : 18446744073709551615 < hi + d
  · have HE := Lib.hid (show moE lo hi d = 12 by unfold moE; rw [if_neg (by omega), if_pos h3])
    have CS := fun W => Lib.hid (shift_over lo hi d W ll lh hl hh dl dh (by omega) h3)
    unfold sfT at CS
    clear h2 h1 h3 hbad
    go_enter Try.func33, Try.ntmps33
    go_wp2_with fail
    refine (CS _).out.mono ?_
    rintro r w1 ⟨rfl, b1⟩
    have bw := bel_trans b0 b1
    go_wp2
    go_ret2
    rw [HL.out]
    exact ⟨v, by rw [HT.out, HE.out]; rfl, HM.out.below (bel_alloc bw _), Nx.refl _ _, Chg.of_below (bel_alloc bw _)⟩
  · exact absurd (by unfold moE; rw [if_neg (by omega), if_neg h3]) hbad
theorem ob_eq (A : Option Addr) (n c n' c' : Nat) : (Value.slice A n c).ownBlock = (Value.slice A n' c').ownBlock := by cases A <;> rfl
theorem Opn.after {w W w' : World} {bm : Nat} {v v3 : Value} {l : List Pr} {r r' : Value} {e e' : Ending} (hc : Chg bm v w W) (hv : v.ownBlock = v3.ownBlock) (h : Opn W bm v3 l r e w') (he : e' = .returned r') : Opn w bm v l r' e' w' := by
  obtain ⟨v', _, hm, hn, hc2⟩ := h
  have hn0 : Nx w v v' := fun k hk => by
    rcases hn k hk with h | h
    · exact .inl (hv.trans h)
    · have := hc.size; exact .inr (by omega)
  refine ⟨v', he, hm, hn0, ⟨hc2.os.trans hc.os, hc2.tape.trans hc.tape, hc2.output.trans hc.output, Nat.le_trans hc.size hc2.size, fun k hk hb hv' => ?_⟩⟩
  exact (hc2.block k (by have := hc.size; omega) hb (fun e => hv' (hv.trans e))).trans (hc.block k hk hb hv')
theorem row_slice3 {w : World} {B n : Nat} {v : Value} {xs : List Value} (h : w.ownsRow B 43 2 v n xs) : ∃ A m c, v = .slice A m c := by
  obtain ⟨A, c, e⟩ := row_slice h
  exact ⟨A, n, c, e⟩
theorem mv_sum {l : List Pr} (hd : Bd l) {lo hi d : Int} (dl : 0 ≤ d) (hsum : hi + d ≤ 18446744073709551615) {x : Pr} (hx : x ∈ inL l lo hi) : 0 ≤ x.1 ∧ x.1 + d ≤ 18446744073709551615 ∧ 0 ≤ x.2 ∧ x.2 ≤ 18446744073709551615 := by
  obtain ⟨h1, h2, h3⟩ := in_mem hx
  obtain ⟨q0, q1, q2, q3⟩ := hd x h1
  exact ⟨q0, by omega, q2, q3⟩
set_option maxRecDepth 100000 in
set_option maxHeartbeats 1000000 in
theorem moC_ok (bm n c : Nat) (A : Option Addr) (l : List Pr) (lo hi d : Int) (w : World) (hm : MapAt w bm (.slice A n c) l) (hn : l.length = n) (ha : Asc l) (hs : n ≤ 1000) (hd : Bd l) (ll : 0 ≤ lo) (lh : lo ≤ 18446744073709551615) (hl : 0 ≤ hi) (hh : hi ≤ 18446744073709551615) (dl : 0 < d) (dh : d ≤ 18446744073709551615) (hle : lo ≤ hi) (hsum : hi + d ≤ 18446744073709551615) :
    Calls Try.prog 33 #[.pointer (some ⟨bm, 0, none⟩), .agg #[.int .u64 lo, .int .u64 hi], .int .u64 d] w (Opn w bm (.slice A n c) (mvL l lo hi d) (.tuple #[.int .i64 ((inL l lo hi).length : Int), .int .i64 0])) := by
  have b0 : Below w.heap.size w (w.alloc (.cells #[.int .u64 lo, .int .u64 hi] 25)) := bel_alloc (Below.refl _ _) _
  have CS := fun W => Lib.hid (shift_ok lo hi d W ll lh hl hh (by omega) dh hle hsum)
  unfold sfT at CS
  have CT := fun W h => Lib.hid (take_any bm n c A l lo hi W h hn ha hs hle)
  have HM := Lib.hid hm
  have hbm := hm.lt
  have HRL := Lib.hid hm.row_lt
  have t1 : (d == 0) = false := by simp; omega
  have hio := in_out_len l lo hi
  have hor : Asc (outL l lo hi) := ha.filter _
  have him : Asc (shL (inL l lo hi) d) := shL_asc (ha.filter _) d
  have HMV := Lib.hid (mv_cut ha (d := d) hle)
  have hcn : n ≤ c := by
    rcases hm.2.2.1.2 with ⟨e, h⟩ | ⟨g, cap, cur, e, _, _, hnc, hcm, _⟩
    · injection e with e1 e2 e3; omega
    · injection e with e1 e2 e3; omega
  have HSUM := Lib.hid (fun x (hx : x ∈ inL l lo hi) => mv_sum hd (by omega) hsum hx)
  have HBR := Lib.hid (show Bd (outL l lo hi) from fun x hx => hd x (List.mem_filter.1 hx).1)
  have hab : lowN (outL l lo hi) (lo + d) ≤ lowN (outL l lo hi) (hi + d + 1) := lowN_mono _ (by omega)
  have hbn : lowN (outL l lo hi) (hi + d + 1) ≤ (outL l lo hi).length := lowN_le _ _
  have CW := fun W (h : MapAt W bm (.slice A (outL l lo hi).length c) (outL l lo hi)) => Lib.hid (within_any bm _ (outL l lo hi) (lo + d) (hi + d) W h hor (by omega))
  unfold wT at CW
  rw [hn] at hio
  have HO := Lib.hid hor
  have HI := Lib.hid him
  clear hm hn ha hd hor him
  generalize hI : inL l lo hi = I at *
  generalize hOO : outL l lo hi = r at *
  have HII := Lib.hid hI
  have HOO := Lib.hid hOO
  clear hI hOO
  go_enter Try.func33, Try.ntmps33
  go_wp2_with fail
  refine (CS _).out.mono ?_
  rintro r1 w1 ⟨rfl, b1⟩
  have bw := bel_trans b0 b1
  have hlt1 : w.heap.size < w1.heap.size := by have := b1.size; simp at this; omega
  have e0 : w1.cell? ⟨w.heap.size, 0, none⟩ = some (.int .u64 lo) := by rw [b1.cell (p := ⟨w.heap.size, 0, none⟩) (by simp)]; simp
  have e1 : w1.cell? ⟨w.heap.size, 1, none⟩ = some (.int .u64 hi) := by rw [b1.cell (p := ⟨w.heap.size, 1, none⟩) (by simp)]; simp
  have bw2 := bel_alloc bw (.cells #[.int .u64 (lo + d), .int .u64 (hi + d)] 25)
  clear b0 b1
  go_wp2_with fail
  refine (CT _ (HM.out.below bw2)).out.mono ?_
  intro r2 w3 hT
  obtain ⟨q, rfl, hq, hm3, hc3⟩ := hT
  rw [HII.out] at hq
  rw [HOO.out] at hm3
  have hW2 : (w1.alloc (.cells #[.int .u64 (lo + d), .int .u64 (hi + d)] 25)).heap.size = w1.heap.size + 1 := by simp
  rw [hW2] at hq
  obtain ⟨hql, A9, c9, rfl, hc9, rd9, hz9⟩ := row_rd hq
  have x0 : w3.cell? ⟨w1.heap.size, 0, none⟩ = some (.int .u64 (lo + d)) := (World.cell?_of_block (a := ⟨w1.heap.size, 0, none⟩) (hc3.block w1.heap.size (by simp) (by omega) (fun e => by have := HRL.out _ e; omega))).trans (by simp)
  have x1 : w3.cell? ⟨w1.heap.size, 1, none⟩ = some (.int .u64 (hi + d)) := (World.cell?_of_block (a := ⟨w1.heap.size, 1, none⟩) (hc3.block w1.heap.size (by simp) (by omega) (fun e => by have := HRL.out _ e; omega))).trans (by simp)
  have HC3 := Lib.hid ((Chg.of_below (bm := bm) (v := .slice A n c) bw2).trans hc3 (Nx.refl _ _))
  have HM3 := Lib.hid hm3
  have HQ := Lib.hid hq
  have HZ9 := Lib.hid hz9
  have hs3 : w1.heap.size + 1 ≤ w3.heap.size := by have := hc3.size; omega
  clear hm3 hq hz9 rd9 hc3 bw2 bw e0 e1 hW2
  have hli : (I.length : Int) ≤ 1000 := by omega
  obtain ⟨m9, hm9⟩ : ∃ m, I.length = m := ⟨_, rfl⟩
  have HI9 := Lib.hid hm9
  rw [hm9] at HQ hli hio hc9 ⊢
  clear hm9 hql
  go_wp2
  go_loopw [32] (fun i wr => ∃ k : Nat, k ≤ m9 ∧ i = .int .i64 k ∧ wr.ownsRow (w1.heap.size + 1) 43 2 (.slice A9 m9 c9) m9 (flat (upK I d k)) ∧ w3.grownBy wr (Value.slice A9 m9 c9).ownBlock) (fun i _ => m9 - (intOf i).toNat)
  case atStart => exact ⟨0, Nat.zero_le _, rfl, by have h := HQ.out; simpa [upK, shL] using h, grown_refl _ _⟩
  case round =>
    clear HQ
    obtain ⟨k, hk, rfl, hrow, hgr⟩ := hrel
    by_cases hlt : k < m9
    · have u0 : decide ((k : Int) < m9) = true := decide_eq_true (by omega)
      have hki : (k : Int) < m9 := by omega
      obtain ⟨x, hx, hmem⟩ := getElem?_lt HI9.out hlt
      obtain ⟨p0, p1, p2, p3⟩ := HSUM.out x hmem
      have hxu := upK_at (d := d) hx
      have HU := Lib.hid (upK_succ (d := d) hx)
      obtain ⟨g9, c9', e9⟩ := row_some hrow (fun e => by injection e; omega)
      injection e9 with e91 e92 e93
      subst e91
      obtain ⟨c0, f0, hrow2⟩ := set_key (x.1 + d) hrow hxu
      have HR2 := Lib.hid hrow2
      have HG := Lib.hid hgr
      clear hrow hrow2 hgr hx hmem hxu
      go_wp2
      go_roundw
      case rel => exact ⟨k + 1, by omega, by go_num, by rw [HU.out]; exact HR2.out, HG.out.trans (grown_setCell _ _ _ _)⟩
      case measure => simp [intOf]; omega
    · obtain rfl : k = m9 := by omega
      have u0 : decide ((k : Int) < k) = false := decide_eq_false (by omega)
      rw [upK_all (Nat.le_of_eq HI9.out)] at hrow
      have hblk : ∀ b, b < w1.heap.size + 1 → some b ≠ (Value.slice A9 k c9).ownBlock := fun b hb e => by have := (hrow.lt b e.symm).1; omega
      have hmr : MapAt wr bm (.slice A r.length c) r := HM3.out.keep (hgr.block bm (by omega) (hblk bm (by omega))) fun b hb => hgr.block b (by have := HM3.out.row_lt b hb; omega) (hblk b (by have := HRL.out b ((ob_eq A n c r.length c).trans hb); omega))
      have x0 := (World.cell?_of_block (a := ⟨w1.heap.size, 0, none⟩) (hgr.block w1.heap.size (by omega) (hblk _ (by omega)))).trans x0
      have x1 := (World.cell?_of_block (a := ⟨w1.heap.size, 1, none⟩) (hgr.block w1.heap.size (by omega) (hblk _ (by omega)))).trans x1
      have HCr := Lib.hid (show Chg bm (.slice A n c) w wr from ⟨hgr.os.trans HC3.out.os, hgr.tape.trans HC3.out.tape, hgr.output.trans HC3.out.output, Nat.le_trans HC3.out.size hgr.size, fun b hb h1 h2 => (hgr.block b (by omega) (hblk b (by omega))).trans (HC3.out.block b hb h1 h2)⟩)
      have HMR := Lib.hid hmr
      have HRW := Lib.hid hrow
      have hqb : ∀ b, (Value.slice A r.length c).ownBlock = some b → b < w.heap.size := fun b hb => HRL.out b ((ob_eq A n c r.length c).trans hb)
      have HQB := Lib.hid hqb
      clear hgr hblk hmr hrow HM3 HC3 HRL
      obtain ⟨A', n', c', hcut⟩ := Cut.of HMR.out rfl hab hbn
      have HCUTN := Lib.hid hcut.nilcap
      have HCUT := Lib.hid (fun W (h : Rd W A r) => hcut.rd rfl h)
      have UN := fun W (h : Below wr.heap.size wr W) => Lib.hid (united_any A9 A' k c9 n' c' (shL I d) ((r.take (lowN r (hi + d + 1))).drop (lowN r (lo + d))) W (by simp [shL]; exact HI9.out) (HCUT.out W (by obtain ⟨A0, c0, e, _, rd, _⟩ := (HMR.out.below h).rd; injection e with e1 e2 e3; subst e1; exact rd)).2.1 (by omega)
        (by have h3 := (HCUT.out W (by obtain ⟨A0, c0, e, _, rd, _⟩ := (HMR.out.below h).rd; injection e with e1 e2 e3; subst e1; exact rd)).2.1; rw [← h3, List.length_drop, List.length_take]; omega) hc9
        (HCUT.out W (by obtain ⟨A0, c0, e, _, rd, _⟩ := (HMR.out.below h).rd; injection e with e1 e2 e3; subst e1; exact rd)).2.2
        (by obtain ⟨_, A0, c0, e, _, rd, _⟩ := row_rd (row_below HRW.out h); injection e with e1 e2 e3; subst e1; exact rd)
        (HCUT.out W (by obtain ⟨A0, c0, e, _, rd, _⟩ := (HMR.out.below h).rd; injection e with e1 e2 e3; subst e1; exact rd)).1 HZ9.out HCUTN.out
        (fun x hx => by obtain ⟨y, hy, rfl⟩ := List.mem_map.1 hx; obtain ⟨s0, s1, s2, s3⟩ := HSUM.out y hy; exact ⟨by show 0 ≤ y.1 + d; omega, s1, s2, s3⟩)
        (fun x hx => HBR.out x (List.mem_of_mem_take (List.mem_of_mem_drop hx))))
      have hul := uniL_len (shL I d) ((r.take (lowN r (hi + d + 1))).drop (lowN r (lo + d)))
      have hmid : ((r.take (lowN r (hi + d + 1))).drop (lowN r (lo + d))).length = lowN r (hi + d + 1) - lowN r (lo + d) := by rw [List.length_drop, List.length_take]; omega
      have hsh : (shL I d).length = k := by simp [shL]; exact HI9.out
      rw [hmid, hsh] at hul
      generalize hU : uniL (shL I d) ((r.take (lowN r (hi + d + 1))).drop (lowN r (lo + d))) = U at *
      generalize lowN r (lo + d) = fr at *
      generalize lowN r (hi + d + 1) = to at *
      have RP := fun W (h : Below wr.heap.size wr W) (g6 c6 : Nat) (hu : W.ownsRow wr.heap.size 43 2 (.slice (some ⟨g6, 0, none⟩) U.length c6) U.length (flat U)) => Lib.hid (replace_any 0 r.length c fr to g6 U.length c6 A r U W (HMR.out.below h).2.2.1 (row_base hu (Nat.zero_le _)) (fun e => by have h1 := HMR.out.row_lt _ e; have h2 := (hu.lt g6 rfl).1; omega) hab hbn (by omega) (by omega) (by omega) (Nat.zero_le _))
      have z0 : (fr : Int) ≤ to := by omega
      have z2 : (to : Int) ≤ r.length := by omega
      have z3 : (to : Int) ≤ c := by omega
      have z4 : to ≤ c := by omega
      clear hU hmid hsh hul HCUT HCUTN
      generalize hnr : r.length = nr at *
      clear hnr
      cases hcut with
      | nil h1 h2 h3 h4 h5 =>
        subst h1 h2 h3 h4 h5
        go_wp2_with fail
        refine (CW wr HMR.out).out.mono ?_
        rintro r5 w5 ⟨rfl, b5⟩
        have m5 := (HMR.out.below b5).1
        have HMV2 := Lib.hid HMV.out
        go_wp2_with fail
        go_region_law (first | (go_simp; go_at_call 64; refine (UN _ (bel_trans b5 (bel_drew _))).out.mono ?_; rintro r6 w6 ⟨g6, c6, rfl, hu, b6⟩; have b56 := bel_trans (bel_trans b5 (bel_drew _)) b6; have m6 := (HMR.out.below b56).1; have RP6 := RP w6 b56 g6 c6 (row_base hu (by have := (bel_trans b5 (bel_drew _)).size; exact this)); have B56 := Lib.hid b56; clear hu b6 b56) | (go_simp; go_at_call 63; refine RP6.out.mono ?_; rintro r7 w7 ⟨v7, rfl, hr7, hg7, hv7⟩; obtain ⟨A7, n7, c7, e7⟩ := row_slice3 hr7; obtain ⟨k1, k2, k3, k4, k5⟩ := (HMR.out.below B56.out).store hg7 hr7 hv7; have K := Lib.hid (show Opn _ bm _ _ (.tuple #[]) (.returned (.tuple #[])) _ from ⟨_, rfl, k3, k4, k5⟩); subst e7; clear k3 k4 k5 hr7 hg7 hv7))
        all_goals
          go_wp2
          go_ret2
          rw [HMV2.out]
          exact K.out.after (HCr.out.trans (Chg.of_below B56.out) (Nx.refl _ _)) (ob_eq _ _ _ _ _) (by rw [HI9.out]; rfl)
      | tip g h1 h2 h3 h4 =>
        subst h1 h2 h3 h4
        go_wp2_with fail
        refine (CW wr HMR.out).out.mono ?_
        rintro r5 w5 ⟨rfl, b5⟩
        have m5 := (HMR.out.below b5).1
        have HMV2 := Lib.hid HMV.out
        go_wp2_with fail
        go_region_law (first | (go_simp; go_at_call 64; refine (UN _ (bel_trans b5 (bel_drew _))).out.mono ?_; rintro r6 w6 ⟨g6, c6, rfl, hu, b6⟩; have b56 := bel_trans (bel_trans b5 (bel_drew _)) b6; have m6 := (HMR.out.below b56).1; have RP6 := RP w6 b56 g6 c6 (row_base hu (by have := (bel_trans b5 (bel_drew _)).size; exact this)); have B56 := Lib.hid b56; clear hu b6 b56) | (go_simp; go_at_call 63; refine RP6.out.mono ?_; rintro r7 w7 ⟨v7, rfl, hr7, hg7, hv7⟩; obtain ⟨A7, n7, c7, e7⟩ := row_slice3 hr7; obtain ⟨k1, k2, k3, k4, k5⟩ := (HMR.out.below B56.out).store hg7 hr7 hv7; have K := Lib.hid (show Opn _ bm _ _ (.tuple #[]) (.returned (.tuple #[])) _ from ⟨_, rfl, k3, k4, k5⟩); subst e7; clear k3 k4 k5 hr7 hg7 hv7))
        all_goals
          go_wp2
          go_ret2
          rw [HMV2.out]
          exact K.out.after (HCr.out.trans (Chg.of_below B56.out) (Nx.refl _ _)) (ob_eq _ _ _ _ _) (by rw [HI9.out]; rfl)
      | mid g h1 h2 h3 h4 h5 =>
        subst h1
        go_wp2_with fail
        refine (CW wr HMR.out).out.mono ?_
        rintro r5 w5 ⟨rfl, b5⟩
        have m5 := (HMR.out.below b5).1
        have HMV2 := Lib.hid HMV.out
        go_wp2_with fail
        go_region_law (first | (go_simp; go_at_call 64; refine (UN _ (bel_trans b5 (bel_drew _))).out.mono ?_; rintro r6 w6 ⟨g6, c6, rfl, hu, b6⟩; have b56 := bel_trans (bel_trans b5 (bel_drew _)) b6; have m6 := (HMR.out.below b56).1; have RP6 := RP w6 b56 g6 c6 (row_base hu (by have := (bel_trans b5 (bel_drew _)).size; exact this)); have B56 := Lib.hid b56; clear hu b6 b56) | (go_simp; go_at_call 63; refine RP6.out.mono ?_; rintro r7 w7 ⟨v7, rfl, hr7, hg7, hv7⟩; obtain ⟨A7, n7, c7, e7⟩ := row_slice3 hr7; obtain ⟨k1, k2, k3, k4, k5⟩ := (HMR.out.below B56.out).store hg7 hr7 hv7; have K := Lib.hid (show Opn _ bm _ _ (.tuple #[]) (.returned (.tuple #[])) _ from ⟨_, rfl, k3, k4, k5⟩); subst e7; clear k3 k4 k5 hr7 hg7 hv7))
        all_goals
          go_wp2
          go_ret2
          rw [HMV2.out]
          exact K.out.after (HCr.out.trans (Chg.of_below B56.out) (Nx.refl _ _)) (ob_eq _ _ _ _ _) (by rw [HI9.out]; rfl)
theorem moC_any (bm : Nat) (v : Value) (l : List Pr) (lo hi d : Int) (w : World) (hm : MapAt w bm v l) (ha : Asc l) (hs : l.length ≤ 1000) (hd : Bd l) (ll : 0 ≤ lo) (lh : lo ≤ 18446744073709551615) (hl : 0 ≤ hi) (hh : hi ≤ 18446744073709551615) (dl : 0 ≤ d) (dh : d ≤ 18446744073709551615) :
    Calls Try.prog 33 #[.pointer (some ⟨bm, 0, none⟩), .agg #[.int .u64 lo, .int .u64 hi], .int .u64 d] w (Opn w bm v (moL l lo hi d) (moT l lo hi d)) := by
  by_cases hE : moE lo hi d = 0
  · have h1 : ¬ (hi < lo ∨ d = 0) := fun h => by unfold moE at hE; rw [if_pos h] at hE; cases hE
    have h2 : ¬ (18446744073709551615 < hi + d) := fun h => by unfold moE at hE; rw [if_neg h1, if_pos h] at hE; cases hE
    rw [show moL l lo hi d = mvL l lo hi d by unfold moL; rw [if_pos hE], show moT l lo hi d = .tuple #[.int .i64 ((inL l lo hi).length : Int), .int .i64 0] by unfold moT; rw [if_pos hE, hE]]
    obtain ⟨A, c, rfl, _⟩ := hm.rd
    exact moC_ok bm l.length c A l lo hi d w hm rfl ha hs hd ll lh hl hh (by omega) dh (by omega) (by omega)
  · exact moC_bad bm v l lo hi d w hm ll lh hl hh dl dh hE
end Om
end Go.Proofs.Ytbdllakbkienoaa
