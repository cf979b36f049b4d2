/- united of package omap: contract of the translated code. Conditions: at most 1000 pairs with increasing keys in each list; the bounds of each number's kind. -/
import Derived.Test.YtbdllakbkienoaaOmCb
import Derived.RegionTactic
import Derived.BigRegion
namespace Go.Proofs.Ytbdllakbkienoaa
open Go.RowKit Go.Sort Go.Lib
set_option linter.unusedVariables false
set_option linter.unusedSimpArgs false
namespace Om
/-- a new row that is not nil -/
def UniPost (w : World) (l : List Pr) (e : Ending) (w' : World) : Prop :=
  ∃ g c, e = .returned (.slice (some ⟨g, 0, none⟩) l.length c) ∧ w'.ownsRow w.heap.size 43 2 (.slice (some ⟨g, 0, none⟩) l.length c) l.length (flat l) ∧ RowKit.Below w.heap.size w w'
theorem row_some {w : World} {B n : Nat} {v : Value} {l : List Pr} (h : w.ownsRow B 43 2 v n (flat l)) (hv : v ≠ .slice none 0 0) : ∃ g c, v = .slice (some ⟨g, 0, none⟩) n c := by
  rcases h.2 with ⟨e, _⟩ | ⟨g, cap, cur, e, _⟩
  · exact absurd e hv
  · exact ⟨g, cap, e⟩
/-- 'out = append(out, y)': what lies in other blocks is as it was -/
theorem app3 {ops : Array Oper} {rest : List Oper} {o : Oper} {a : Act} {Q : Exit → Act → World → Prop} (hgd : o.guard = none) (s x : Operand)
    (ho : o.op = .call { callee := .builtin .append, args := #[s, x], argTypes := #[22, 22] }) (w : World) (base n g c : Nat) (ys : List Pr) (y : Pr)
    (hs : a.eval s = .slice (some ⟨g, 0, none⟩) n c) (hx : a.eval x = .slice (some ⟨w.heap.size, 0, none⟩) 1 1) (hown : w.ownsRow base 43 2 (.slice (some ⟨g, 0, none⟩) n c) n (flat ys)) (hn : (n + 1) * 16 ≤ 140737488355328) (hb : base ≤ w.heap.size)
    (h : ∀ g' c' w', w'.ownsRow base 43 2 (.slice (some ⟨g', 0, none⟩) (n + 1) c') (n + 1) (flat (ys ++ [y])) → RowKit.Below base w w' → (∀ b q, b < w.heap.size → b ≠ g → w'.cell? ⟨b, q, none⟩ = w.cell? ⟨b, q, none⟩) → wpList Try.prog ops Q rest (a.put o.dst (.slice (some ⟨g', 0, none⟩) (n + 1) c')) w') :
    wpList Try.prog ops Q (o :: rest) a (w.alloc (.cells #[.int .u64 y.1, .int .u64 y.2] 43)) := by
  obtain ⟨i0, hi, hz0, hz1, hz2⟩ := info_parts info
  refine wpList_append_own_at _ hgd s x 22 ho base 43 i0 _ 2 16 Try.underlying22 hi hz0 hz1 hz2 rfl (by omega) _ n (flat ys) hs (hown.alloc _) ⟨w.heap.size, 0, none⟩ 1 1 [.int .u64 y.1, .int .u64 y.2] hx rfl ?_ ?_ (by unfold maxLen; omega) (by omega) (by simp; omega) ?_
  · intro j u hj
    rw [addr_lit, Nat.zero_add, World.cell?_alloc_new]
    simpa using hj
  · intro u hu
    simp at hu
    rcases hu with rfl | rfl <;> rfl
  · intro v' w' h1 h2 hnil hat
    rw [show flat ys ++ [.int .u64 y.1, .int .u64 y.2] = flat (ys ++ [y]) by rw [flat_append, flat_one]] at h1
    obtain ⟨g', c', rfl⟩ := row_some h1 (fun e => by have := (hnil.1 e).2; omega)
    refine h g' c' w' h1 (((RowKit.Below.refl _ _).alloc hb _).grown h2 (by simp; omega) fun k hk => (hown.lt k hk).1) fun b q hbl hbg => ?_
    exact (World.cell?_of_block (a := ⟨b, q, none⟩) (h2.block b (by simp; omega) (fun e => hbg (by injection e)))).trans (World.cell?_alloc_lt w _ _ hbl)
/-- 'append(out, xs...)' onto a row of the call's own -/
theorem appL {ops : Array Oper} {rest : List Oper} {o : Oper} {a : Act} {Q : Exit → Act → World → Prop} (hgd : o.guard = none) (s x : Operand)
    (ho : o.op = .call { callee := .builtin .append, args := #[s, x], argTypes := #[22, 22] }) (w : World) (base n g c : Nat) (ys : List Pr) (A : Option Addr) (m d : Nat) (l : List Pr)
    (hs : a.eval s = .slice (some ⟨g, 0, none⟩) n c) (hx : a.eval x = .slice A m d) (hl : l.length = m) (hr : Rd w A l) (hz : A = none → d = 0) (hown : w.ownsRow base 43 2 (.slice (some ⟨g, 0, none⟩) n c) n (flat ys)) (hn : (n + m) * 16 ≤ 140737488355328) (hb : base ≤ w.heap.size)
    (h : ∀ g' c' w', w'.ownsRow base 43 2 (.slice (some ⟨g', 0, none⟩) (n + m) c') (n + m) (flat (ys ++ l)) → RowKit.Below base w w' → wpList Try.prog ops Q rest (a.put o.dst (.slice (some ⟨g', 0, none⟩) (n + m) c')) w') :
    wpList Try.prog ops Q (o :: rest) a w := by
  obtain ⟨i0, hi, hz0, hz1, hz2⟩ := info_parts info
  cases A with
  | none =>
    have hl0 : l = [] := by
      cases l with
      | nil => rfl
      | cons x l => obtain ⟨b, o, e, _⟩ := hr 0 x rfl; cases e
    subst hl0
    obtain rfl : m = 0 := by simpa using hl.symm
    obtain rfl := hz rfl
    refine wpList_append_own_none hgd s x 22 ho base 43 i0 2 Try.underlying22 hi _ n (flat ys) hs hown hx ?_
    exact h g c w (by rw [List.append_nil]; exact hown) (RowKit.Below.refl _ _)
  | some ad =>
    refine wpList_append_own_at _ hgd s x 22 ho base 43 i0 _ 2 16 Try.underlying22 hi hz0 hz1 hz2 rfl (by omega) _ n (flat ys) hs hown ad m d (flat l) hx (by rw [flat_len, hl]) hr.flat_cells (flat_one_cell l) (by unfold maxLen; omega) (by omega) hb ?_
    intro v' w' h1 h2 hnil hat
    rw [← flat_append] at h1
    obtain ⟨g', c', rfl⟩ := row_some h1 (fun e => by have := (hnil.1 e).1; cases this)
    exact h g' c' w' h1 ((RowKit.Below.refl _ _).grown h2 hb fun k hk => (hown.lt k hk).1)
theorem tail_rd {w : World} {b o : Nat} {x : Pr} {t : List Pr} (h : Rd w (some ⟨b, o, none⟩) (x :: t)) : Rd w (some ⟨b, o + 2, none⟩) t := fun k y hk => by
  obtain ⟨b', o', e, c0, c1⟩ := h (k + 1) y (by simpa using hk)
  cases e
  exact ⟨b, o + 2, rfl, by rw [show o + 2 + k * 2 = o + (k + 1) * 2 by omega]; exact c0, by rw [show o + 2 + k * 2 + 1 = o + (k + 1) * 2 + 1 by omega]; exact c1⟩
def Sl (w : World) (v : Value) (s l : List Pr) : Prop := ∃ (B : Option Addr) (d : Nat), v = .slice B s.length d ∧ Rd w B s ∧ s.length ≤ d ∧ (B = none → d = 0) ∧ (∀ x, x ∈ s → x ∈ l)
theorem Sl.tip {w : World} {b o m : Nat} {x : Pr} {t l : List Pr} (i : ∀ z, z ∈ x :: t → z ∈ l) (hm : t.length = m) (h0 : m = 0) : Sl w (.slice (some ⟨b, o, none⟩) m 0) t l := by
  subst h0
  obtain rfl : t = [] := List.eq_nil_of_length_eq_zero hm
  exact ⟨_, _, rfl, rd_nil _ _, Nat.le_refl _, (fun e => (by cases e)), fun z hz => i z (by simp [hz])⟩
theorem Sl.next {w : World} {b o d : Nat} {x : Pr} {t l : List Pr} (h : Rd w (some ⟨b, o, none⟩) (x :: t)) (i : ∀ z, z ∈ x :: t → z ∈ l) (hd : t.length + 1 ≤ d) : Sl w (.slice (some ⟨b, o + 2, none⟩) t.length (d - 1)) t l :=
  ⟨_, _, rfl, tail_rd h, by omega, (fun e => (by cases e)), fun z hz => i z (by simp [hz])⟩
theorem Sl.same {w : World} {B : Option Addr} {n d : Nat} {s l : List Pr} (h : Rd w B s) (hn : s.length = n) (i : ∀ z, z ∈ s → z ∈ l) (hd : n ≤ d) (z : B = none → d = 0) : Sl w (.slice B n d) s l := by subst hn; exact ⟨_, _, rfl, h, hd, z, i⟩
set_option maxRecDepth 100000 in
set_option maxHeartbeats 8000000 in
theorem united_any (A1 A2 : Option Addr) (n1 c1 n2 c2 : Nat) (l1 l2 : List Pr) (w : World) (hn1 : l1.length = n1) (hn2 : l2.length = n2) (hs1 : n1 ≤ 1000) (hs2 : n2 ≤ 1000) (hc1 : n1 ≤ c1) (hc2 : n2 ≤ c2) (hr1 : Rd w A1 l1) (hr2 : Rd w A2 l2) (hz1 : A1 = none → c1 = 0) (hz2 : A2 = none → c2 = 0) (hd1 : Bd l1) (hd2 : Bd l2) :
    Calls Try.prog 64 #[.slice A1 n1 c1, .slice A2 n2 c2] w (UniPost w (uniL l1 l2)) := by
  obtain ⟨i0, hi, hz0, hz3, hz4⟩ := info_parts info
  have HD1 := Lib.hid hd1
  have HD2 := Lib.hid hd2
  have S1 := Lib.hid (Sl.same hr1 hn1 (fun z h => h) hc1 hz1)
  have S2 := Lib.hid (Sl.same hr2 hn2 (fun z h => h) hc2 hz2)
  have HN := Lib.hid (And.intro hn1 hn2)
  have hi1 : (n1 : Int) ≤ 1000 := by omega
  have hi2 : (n2 : Int) ≤ 1000 := by omega
  clear hr1 hr2 hn1 hn2 hd1 hd2 hz1 hz2
  go_enter Try.func64, Try.ntmps64
  go_wp2_with (at_make; refine wpList_make_own _ rfl _ _ 22 rfl w.heap.size 43 i0 _ 2 Try.underlying22 hi hz0 hz3 _ _ _ (n1 + n2) rfl rfl (by omega) (by rw [hz4]; omega) (by unfold maxLen; omega) (Nat.le_refl _) ?_; intro w1 hown hgr)
  have b1 : RowKit.Below w.heap.size w w1 := (RowKit.Below.refl _ w).grown hgr (Nat.le_refl _) (by intro k hk; cases hk)
  have OW := Lib.hid hown
  have B1 := Lib.hid b1
  clear hown hgr b1
  go_loopw [0, 1, 5] (fun f s al wr => ∃ (s1 s2 ys : List Pr) (g q : Nat), Sl w f s1 l1 ∧ Sl w s s2 l2 ∧ al = .slice (some ⟨g, 0, none⟩) ys.length q ∧ wr.ownsRow w.heap.size 43 2 al ys.length (flat ys) ∧ ys ++ uniL s1 s2 = uniL l1 l2 ∧ ys.length + s1.length + s2.length ≤ n1 + n2 ∧ RowKit.Below w.heap.size w wr) (fun f s _ _ => (match f with | .slice _ n _ => n | _ => 0) + (match s with | .slice _ n _ => n | _ => 0))
  case atStart => exact ⟨l1, l2, [], w.heap.size, n1 + n2, S1.out, S2.out, rfl, OW.out, rfl, by rw [HN.out.1, HN.out.2]; simp, B1.out⟩
  case round =>
    clear S1 S2 OW B1
    obtain ⟨s1, s2, ys, g, q, hS1, hS2, rfl, hown, heq, hlen, bel⟩ := hrel
    obtain ⟨B1, d1, rfl, r1, hd1, z1, i1⟩ := hS1
    obtain ⟨B2, d2, rfl, r2, hd2, z2, i2⟩ := hS2
    have R1 := Lib.hid r1
    have R2 := Lib.hid r2
    have I1 := Lib.hid i1
    have I2 := Lib.hid i2
    have Z1 := Lib.hid z1
    have Z2 := Lib.hid z2
    have OW := Lib.hid hown
    have HE := Lib.hid heq
    have BL := Lib.hid bel
    have hsz := bel.size
    clear r1 r2 i1 i2 z1 z2 hown heq bel
    cases s1 with
    | nil =>
      have HU := Lib.hid (show (ys ++ []) ++ s2 = uniL l1 l2 by rw [← HE.out, uniL_nil, List.append_nil])
      have HUL := Lib.hid (show (uniL l1 l2).length = ys.length + 0 + s2.length by rw [← HU.out]; simp)
      simp only [List.length_nil] at hd1 hlen ⊢
      have u1 : decide ((0 : Int) < 0) = false := by decide
      obtain ⟨m2, hm2⟩ : ∃ m, s2.length = m := ⟨_, rfl⟩
      obtain ⟨ky, hky⟩ : ∃ m, ys.length = m := ⟨_, rfl⟩
      have HM2 := Lib.hid hm2
      have HKY := Lib.hid hky
      rw [hm2] at hd2 hlen HUL ⊢
      rw [hky] at hlen OW HUL ⊢
      clear hm2 hky
      go_wp2_with (first
        | (refine appL rfl (.tmp 50) (.tmp 51) rfl wr w.heap.size ky g q ys B1 0 d1 [] rfl rfl rfl (R1.out.below BL.out) Z1.out OW.out (by omega) hsz ?_; intro g3 q3 w3 h3 b3; have H3 := Lib.hid h3; have B3 := Lib.hid (BL.out.trans b3); have hsz3 := Nat.le_trans hsz b3.size; clear h3 b3)
        | (refine appL rfl (.tmp 52) (.tmp 53) rfl w3 w.heap.size (ky + 0) g3 q3 (ys ++ []) B2 m2 d2 s2 rfl rfl HM2.out (R2.out.below B3.out) Z2.out H3.out (by omega) hsz3 ?_; intro g4 q4 w4 h4 b4; have H4 := Lib.hid h4; have B4 := Lib.hid (B3.out.trans b4); clear h4 b4))
      go_ret
      exact ⟨g4, q4, by rw [HUL.out]; rfl, by rw [HUL.out, ← HU.out]; exact H4.out, B4.out⟩
    | cons x t1 =>
      cases s2 with
      | nil =>
        have HU := Lib.hid (show (ys ++ (x :: t1)) ++ [] = uniL l1 l2 by rw [← HE.out, uniL_nil', List.append_nil])
        have HUL := Lib.hid (show (uniL l1 l2).length = ys.length + (x :: t1).length + 0 by rw [← HU.out]; simp)
        obtain ⟨m1, hm1⟩ : ∃ m, (x :: t1).length = m := ⟨_, rfl⟩
        obtain ⟨ky, hky⟩ : ∃ m, ys.length = m := ⟨_, rfl⟩
        have HM1 := Lib.hid hm1
        have HKY := Lib.hid hky
        have hm0 : 0 < m1 := by rw [← hm1]; simp
        have u1 : decide ((0 : Int) < (m1 : Int)) = true := decide_eq_true (by omega)
        rw [hm1] at hd1 hlen HUL ⊢
        rw [hky] at hlen OW HUL ⊢
        simp only [List.length_nil] at hlen hd2 ⊢
        clear hm1 hky
        go_wp2_with (first
          | (refine appL rfl (.tmp 50) (.tmp 51) rfl wr w.heap.size ky g q ys B1 m1 d1 (x :: t1) rfl rfl HM1.out (R1.out.below BL.out) Z1.out OW.out (by omega) hsz ?_; intro g3 q3 w3 h3 b3; have H3 := Lib.hid h3; have B3 := Lib.hid (BL.out.trans b3); have hsz3 := Nat.le_trans hsz b3.size; clear h3 b3)
          | (refine appL rfl (.tmp 52) (.tmp 53) rfl w3 w.heap.size (ky + m1) g3 q3 (ys ++ (x :: t1)) B2 0 d2 [] rfl rfl rfl (R2.out.below B3.out) Z2.out H3.out (by omega) hsz3 ?_; intro g4 q4 w4 h4 b4; have H4 := Lib.hid h4; have B4 := Lib.hid (B3.out.trans b4); clear h4 b4))
        go_ret
        exact ⟨g4, q4, by rw [HUL.out]; rfl, by rw [HUL.out, ← HU.out]; exact H4.out, B4.out⟩
      | cons y t2 =>
        obtain ⟨b1, o1, rfl, g0, g1⟩ := (R1.out.below BL.out) 0 x rfl
        obtain ⟨b2, o2, rfl, g2, g3⟩ := (R2.out.below BL.out) 0 y rfl
        obtain ⟨p0, p1, p2, p3⟩ := HD1.out x (I1.out x (by simp))
        obtain ⟨p4, p5, p6, p7⟩ := HD2.out y (I2.out y (by simp))
        simp only [List.length_cons] at hd1 hd2 hlen ⊢
        have u1 : decide ((0 : Int) < ((t1.length : Int) + 1)) = true := decide_eq_true (by omega)
        have u2 : decide ((0 : Int) < ((t2.length : Int) + 1)) = true := decide_eq_true (by omega)
        simp only [Nat.zero_mul, Nat.add_zero] at g0 g1 g2 g3
        have u3 : (0 : Int) < ((t1.length : Int) + 1) := by omega
        have u4 : (0 : Int) < ((t2.length : Int) + 1) := by omega
        have l1' : b1 < wr.heap.size := World.block_lt_of_cell? wr _ g0
        have l2' : b2 < wr.heap.size := World.block_lt_of_cell? wr _ g2
        have l3' : b1 < wr.heap.size + 1 := by omega
        have l4' : b2 < wr.heap.size + 1 := by omega
        have hgl := (OW.out.lt g rfl).2
        obtain ⟨m1, hm1⟩ : ∃ m, t1.length = m := ⟨_, rfl⟩
        obtain ⟨m2, hm2⟩ : ∃ m, t2.length = m := ⟨_, rfl⟩
        obtain ⟨ky, hky⟩ : ∃ m, ys.length = m := ⟨_, rfl⟩
        have HM1 := Lib.hid hm1
        have HM2 := Lib.hid hm2
        have HKY := Lib.hid hky
        rw [hm1] at hd1 hlen u1 u3 ⊢
        rw [hm2] at hd2 hlen u2 u4 ⊢
        rw [hky] at hlen OW ⊢
        clear hm1 hm2 hky
        go_wp2
        go_region
        clear g0 g1 g2 g3 l1' l2' l3' l4'
        · have bel2 : RowKit.Below wr.heap.size wr (((wr.alloc (.cells #[.int .u64 x.1, .int .u64 x.2] 43)).alloc (.cells #[.int .u64 y.1, .int .u64 y.2] 43)).drew) := below_drewN (bel_alloc (bel_alloc (RowKit.Below.refl _ _) _) _) 1
          have ca0 : (((wr.alloc (.cells #[.int .u64 x.1, .int .u64 x.2] 43)).alloc (.cells #[.int .u64 y.1, .int .u64 y.2] 43)).drew).cell? ⟨wr.heap.size, 0, none⟩ = some (.int .u64 x.1) := by simp
          have ca1 : (((wr.alloc (.cells #[.int .u64 x.1, .int .u64 x.2] 43)).alloc (.cells #[.int .u64 y.1, .int .u64 y.2] 43)).drew).cell? ⟨wr.heap.size, 1, none⟩ = some (.int .u64 x.2) := by simp
          have cb0 : (((wr.alloc (.cells #[.int .u64 x.1, .int .u64 x.2] 43)).alloc (.cells #[.int .u64 y.1, .int .u64 y.2] 43)).drew).cell? ⟨(wr.heap.size + 1), 0, none⟩ = some (.int .u64 y.1) := by simp
          have cb1 : (((wr.alloc (.cells #[.int .u64 x.1, .int .u64 x.2] 43)).alloc (.cells #[.int .u64 y.1, .int .u64 y.2] 43)).drew).cell? ⟨(wr.heap.size + 1), 1, none⟩ = some (.int .u64 y.2) := by simp
          have hw2 : wr.heap.size + 1 < (((wr.alloc (.cells #[.int .u64 x.1, .int .u64 x.2] 43)).alloc (.cells #[.int .u64 y.1, .int .u64 y.2] 43)).drew).heap.size := by simp
          generalize ((wr.alloc (.cells #[.int .u64 x.1, .int .u64 x.2] 43)).alloc (.cells #[.int .u64 y.1, .int .u64 y.2] 43)).drew = w2 at *
          have OW2 := Lib.hid (row_below OW.out bel2)
          have BL2 := Lib.hid (BL.out.trans (bel2.mono hsz))
          have hsz2 := Nat.le_trans hsz bel2.size
          clear bel2 OW
          rcases Int.lt_trichotomy x.1 y.1 with hxy | hxy | hxy
          · have hq0 : decide (x.1 ≤ y.1) = true := decide_eq_true (by omega)
            have hq1 : decide (y.1 ≤ x.1) = false := decide_eq_false (by omega)
            have HU := Lib.hid (uniL_lt (s := t1) (t := t2) hxy)
            clear hxy
            by_cases k1 : d1 = 1
            · go_wp2_with (at_builtin; refine app3 rfl (.tmp 33) (.tmp 35) rfl w2 w.heap.size ky g q ys x rfl rfl OW2.out (by omega) hsz2 ?_; intro g4 q4 w3 h3 b3 k3; have H3 := Lib.hid h3; have B3 := Lib.hid (BL2.out.trans b3); have ca0 := (k3 wr.heap.size 0 (by omega) (by omega)).trans ca0; have cb0 := (k3 (wr.heap.size + 1) 0 (by omega) (by omega)).trans cb0; clear h3 b3 k3)
              go_roundw
              case rel => exact ⟨t1, y :: t2, ys ++ [x], g4, q4, Sl.tip I1.out HM1.out (by omega), Sl.same R2.out (by rw [List.length_cons, HM2.out]) I2.out hd2 Z2.out, by rw [List.length_append, HKY.out]; rfl, by rw [List.length_append, HKY.out]; exact H3.out, by rw [List.append_assoc, ← HE.out, HU.out]; rfl, by rw [List.length_append, HKY.out]; simp only [List.length_cons, List.length_nil, HM1.out, HM2.out]; omega, B3.out⟩
              case measure => simp <;> omega
            · go_wp2_with (at_builtin; refine app3 rfl (.tmp 33) (.tmp 35) rfl w2 w.heap.size ky g q ys x rfl rfl OW2.out (by omega) hsz2 ?_; intro g4 q4 w3 h3 b3 k3; have H3 := Lib.hid h3; have B3 := Lib.hid (BL2.out.trans b3); have ca0 := (k3 wr.heap.size 0 (by omega) (by omega)).trans ca0; have cb0 := (k3 (wr.heap.size + 1) 0 (by omega) (by omega)).trans cb0; clear h3 b3 k3)
              go_roundw
              case rel => exact ⟨t1, y :: t2, ys ++ [x], g4, q4, (by have := Sl.next R1.out I1.out (d := d1) (by rw [HM1.out]; exact hd1); rw [HM1.out] at this; exact this), Sl.same R2.out (by rw [List.length_cons, HM2.out]) I2.out hd2 Z2.out, by rw [List.length_append, HKY.out]; rfl, by rw [List.length_append, HKY.out]; exact H3.out, by rw [List.append_assoc, ← HE.out, HU.out]; rfl, by rw [List.length_append, HKY.out]; simp only [List.length_cons, List.length_nil, HM1.out, HM2.out]; omega, B3.out⟩
              case measure => simp <;> omega
          · have hq0 : decide (x.1 ≤ y.1) = true := decide_eq_true (by omega)
            have hq1 : decide (y.1 ≤ x.1) = true := decide_eq_true (by omega)
            have HU := Lib.hid (uniL_eq (s := t1) (t := t2) hxy)
            clear hxy
            by_cases k1 : d1 = 1
            · by_cases k2 : d2 = 1
              · go_wp2_with (at_builtin; refine app3 rfl (.tmp 33) (.tmp 35) rfl w2 w.heap.size ky g q ys x rfl rfl OW2.out (by omega) hsz2 ?_; intro g4 q4 w3 h3 b3 k3; have H3 := Lib.hid h3; have B3 := Lib.hid (BL2.out.trans b3); have ca0 := (k3 wr.heap.size 0 (by omega) (by omega)).trans ca0; have cb0 := (k3 (wr.heap.size + 1) 0 (by omega) (by omega)).trans cb0; clear h3 b3 k3)
                go_roundw
                case rel => exact ⟨t1, t2, ys ++ [x], g4, q4, Sl.tip I1.out HM1.out (by omega), Sl.tip I2.out HM2.out (by omega), by rw [List.length_append, HKY.out]; rfl, by rw [List.length_append, HKY.out]; exact H3.out, by rw [List.append_assoc, ← HE.out, HU.out]; rfl, by rw [List.length_append, HKY.out]; simp only [List.length_cons, List.length_nil, HM1.out, HM2.out]; omega, B3.out⟩
                case measure => simp <;> omega
              · go_wp2_with (at_builtin; refine app3 rfl (.tmp 33) (.tmp 35) rfl w2 w.heap.size ky g q ys x rfl rfl OW2.out (by omega) hsz2 ?_; intro g4 q4 w3 h3 b3 k3; have H3 := Lib.hid h3; have B3 := Lib.hid (BL2.out.trans b3); have ca0 := (k3 wr.heap.size 0 (by omega) (by omega)).trans ca0; have cb0 := (k3 (wr.heap.size + 1) 0 (by omega) (by omega)).trans cb0; clear h3 b3 k3)
                go_roundw
                case rel => exact ⟨t1, t2, ys ++ [x], g4, q4, Sl.tip I1.out HM1.out (by omega), (by have := Sl.next R2.out I2.out (d := d2) (by rw [HM2.out]; exact hd2); rw [HM2.out] at this; exact this), by rw [List.length_append, HKY.out]; rfl, by rw [List.length_append, HKY.out]; exact H3.out, by rw [List.append_assoc, ← HE.out, HU.out]; rfl, by rw [List.length_append, HKY.out]; simp only [List.length_cons, List.length_nil, HM1.out, HM2.out]; omega, B3.out⟩
                case measure => simp <;> omega
            · by_cases k2 : d2 = 1
              · go_wp2_with (at_builtin; refine app3 rfl (.tmp 33) (.tmp 35) rfl w2 w.heap.size ky g q ys x rfl rfl OW2.out (by omega) hsz2 ?_; intro g4 q4 w3 h3 b3 k3; have H3 := Lib.hid h3; have B3 := Lib.hid (BL2.out.trans b3); have ca0 := (k3 wr.heap.size 0 (by omega) (by omega)).trans ca0; have cb0 := (k3 (wr.heap.size + 1) 0 (by omega) (by omega)).trans cb0; clear h3 b3 k3)
                go_roundw
                case rel => exact ⟨t1, t2, ys ++ [x], g4, q4, (by have := Sl.next R1.out I1.out (d := d1) (by rw [HM1.out]; exact hd1); rw [HM1.out] at this; exact this), Sl.tip I2.out HM2.out (by omega), by rw [List.length_append, HKY.out]; rfl, by rw [List.length_append, HKY.out]; exact H3.out, by rw [List.append_assoc, ← HE.out, HU.out]; rfl, by rw [List.length_append, HKY.out]; simp only [List.length_cons, List.length_nil, HM1.out, HM2.out]; omega, B3.out⟩
                case measure => simp <;> omega
              · go_wp2_with (at_builtin; refine app3 rfl (.tmp 33) (.tmp 35) rfl w2 w.heap.size ky g q ys x rfl rfl OW2.out (by omega) hsz2 ?_; intro g4 q4 w3 h3 b3 k3; have H3 := Lib.hid h3; have B3 := Lib.hid (BL2.out.trans b3); have ca0 := (k3 wr.heap.size 0 (by omega) (by omega)).trans ca0; have cb0 := (k3 (wr.heap.size + 1) 0 (by omega) (by omega)).trans cb0; clear h3 b3 k3)
                go_roundw
                case rel => exact ⟨t1, t2, ys ++ [x], g4, q4, (by have := Sl.next R1.out I1.out (d := d1) (by rw [HM1.out]; exact hd1); rw [HM1.out] at this; exact this), (by have := Sl.next R2.out I2.out (d := d2) (by rw [HM2.out]; exact hd2); rw [HM2.out] at this; exact this), by rw [List.length_append, HKY.out]; rfl, by rw [List.length_append, HKY.out]; exact H3.out, by rw [List.append_assoc, ← HE.out, HU.out]; rfl, by rw [List.length_append, HKY.out]; simp only [List.length_cons, List.length_nil, HM1.out, HM2.out]; omega, B3.out⟩
                case measure => simp <;> omega
          · have hq0 : decide (x.1 ≤ y.1) = false := decide_eq_false (by omega)
            have hq1 : decide (y.1 ≤ x.1) = true := decide_eq_true (by omega)
            have HU := Lib.hid (uniL_gt (s := t1) (t := t2) hxy)
            clear hxy
            by_cases k2 : d2 = 1
            · go_wp2_with (at_builtin; refine app3 rfl (.tmp 39) (.tmp 41) rfl w2 w.heap.size ky g q ys y rfl rfl OW2.out (by omega) hsz2 ?_; intro g4 q4 w3 h3 b3 k3; have H3 := Lib.hid h3; have B3 := Lib.hid (BL2.out.trans b3); have ca0 := (k3 wr.heap.size 0 (by omega) (by omega)).trans ca0; have cb0 := (k3 (wr.heap.size + 1) 0 (by omega) (by omega)).trans cb0; clear h3 b3 k3)
              go_roundw
              case rel => exact ⟨x :: t1, t2, ys ++ [y], g4, q4, Sl.same R1.out (by rw [List.length_cons, HM1.out]) I1.out hd1 Z1.out, Sl.tip I2.out HM2.out (by omega), by rw [List.length_append, HKY.out]; rfl, by rw [List.length_append, HKY.out]; exact H3.out, by rw [List.append_assoc, ← HE.out, HU.out]; rfl, by rw [List.length_append, HKY.out]; simp only [List.length_cons, List.length_nil, HM1.out, HM2.out]; omega, B3.out⟩
              case measure => simp <;> omega
            · go_wp2_with (at_builtin; refine app3 rfl (.tmp 39) (.tmp 41) rfl w2 w.heap.size ky g q ys y rfl rfl OW2.out (by omega) hsz2 ?_; intro g4 q4 w3 h3 b3 k3; have H3 := Lib.hid h3; have B3 := Lib.hid (BL2.out.trans b3); have ca0 := (k3 wr.heap.size 0 (by omega) (by omega)).trans ca0; have cb0 := (k3 (wr.heap.size + 1) 0 (by omega) (by omega)).trans cb0; clear h3 b3 k3)
              go_roundw
              case rel => exact ⟨x :: t1, t2, ys ++ [y], g4, q4, Sl.same R1.out (by rw [List.length_cons, HM1.out]) I1.out hd1 Z1.out, (by have := Sl.next R2.out I2.out (d := d2) (by rw [HM2.out]; exact hd2); rw [HM2.out] at this; exact this), by rw [List.length_append, HKY.out]; rfl, by rw [List.length_append, HKY.out]; exact H3.out, by rw [List.append_assoc, ← HE.out, HU.out]; rfl, by rw [List.length_append, HKY.out]; simp only [List.length_cons, List.length_nil, HM1.out, HM2.out]; omega, B3.out⟩
              case measure => simp <;> omega
        · have bel2 : RowKit.Below wr.heap.size wr (((wr.alloc (.cells #[.int .u64 y.1, .int .u64 y.2] 43)).alloc (.cells #[.int .u64 x.1, .int .u64 x.2] 43)).drew) := below_drewN (bel_alloc (bel_alloc (RowKit.Below.refl _ _) _) _) 1
          have ca0 : (((wr.alloc (.cells #[.int .u64 y.1, .int .u64 y.2] 43)).alloc (.cells #[.int .u64 x.1, .int .u64 x.2] 43)).drew).cell? ⟨(wr.heap.size + 1), 0, none⟩ = some (.int .u64 x.1) := by simp
          have ca1 : (((wr.alloc (.cells #[.int .u64 y.1, .int .u64 y.2] 43)).alloc (.cells #[.int .u64 x.1, .int .u64 x.2] 43)).drew).cell? ⟨(wr.heap.size + 1), 1, none⟩ = some (.int .u64 x.2) := by simp
          have cb0 : (((wr.alloc (.cells #[.int .u64 y.1, .int .u64 y.2] 43)).alloc (.cells #[.int .u64 x.1, .int .u64 x.2] 43)).drew).cell? ⟨wr.heap.size, 0, none⟩ = some (.int .u64 y.1) := by simp
          have cb1 : (((wr.alloc (.cells #[.int .u64 y.1, .int .u64 y.2] 43)).alloc (.cells #[.int .u64 x.1, .int .u64 x.2] 43)).drew).cell? ⟨wr.heap.size, 1, none⟩ = some (.int .u64 y.2) := by simp
          have hw2 : wr.heap.size + 1 < (((wr.alloc (.cells #[.int .u64 y.1, .int .u64 y.2] 43)).alloc (.cells #[.int .u64 x.1, .int .u64 x.2] 43)).drew).heap.size := by simp
          generalize ((wr.alloc (.cells #[.int .u64 y.1, .int .u64 y.2] 43)).alloc (.cells #[.int .u64 x.1, .int .u64 x.2] 43)).drew = w2 at *
          have OW2 := Lib.hid (row_below OW.out bel2)
          have BL2 := Lib.hid (BL.out.trans (bel2.mono hsz))
          have hsz2 := Nat.le_trans hsz bel2.size
          clear bel2 OW
          rcases Int.lt_trichotomy x.1 y.1 with hxy | hxy | hxy
          · have hq0 : decide (x.1 ≤ y.1) = true := decide_eq_true (by omega)
            have hq1 : decide (y.1 ≤ x.1) = false := decide_eq_false (by omega)
            have HU := Lib.hid (uniL_lt (s := t1) (t := t2) hxy)
            clear hxy
            by_cases k1 : d1 = 1
            · go_wp2_with (at_builtin; refine app3 rfl (.tmp 33) (.tmp 35) rfl w2 w.heap.size ky g q ys x rfl rfl OW2.out (by omega) hsz2 ?_; intro g4 q4 w3 h3 b3 k3; have H3 := Lib.hid h3; have B3 := Lib.hid (BL2.out.trans b3); have ca0 := (k3 (wr.heap.size + 1) 0 (by omega) (by omega)).trans ca0; have cb0 := (k3 wr.heap.size 0 (by omega) (by omega)).trans cb0; clear h3 b3 k3)
              go_roundw
              case rel => exact ⟨t1, y :: t2, ys ++ [x], g4, q4, Sl.tip I1.out HM1.out (by omega), Sl.same R2.out (by rw [List.length_cons, HM2.out]) I2.out hd2 Z2.out, by rw [List.length_append, HKY.out]; rfl, by rw [List.length_append, HKY.out]; exact H3.out, by rw [List.append_assoc, ← HE.out, HU.out]; rfl, by rw [List.length_append, HKY.out]; simp only [List.length_cons, List.length_nil, HM1.out, HM2.out]; omega, B3.out⟩
              case measure => simp <;> omega
            · go_wp2_with (at_builtin; refine app3 rfl (.tmp 33) (.tmp 35) rfl w2 w.heap.size ky g q ys x rfl rfl OW2.out (by omega) hsz2 ?_; intro g4 q4 w3 h3 b3 k3; have H3 := Lib.hid h3; have B3 := Lib.hid (BL2.out.trans b3); have ca0 := (k3 (wr.heap.size + 1) 0 (by omega) (by omega)).trans ca0; have cb0 := (k3 wr.heap.size 0 (by omega) (by omega)).trans cb0; clear h3 b3 k3)
              go_roundw
              case rel => exact ⟨t1, y :: t2, ys ++ [x], g4, q4, (by have := Sl.next R1.out I1.out (d := d1) (by rw [HM1.out]; exact hd1); rw [HM1.out] at this; exact this), Sl.same R2.out (by rw [List.length_cons, HM2.out]) I2.out hd2 Z2.out, by rw [List.length_append, HKY.out]; rfl, by rw [List.length_append, HKY.out]; exact H3.out, by rw [List.append_assoc, ← HE.out, HU.out]; rfl, by rw [List.length_append, HKY.out]; simp only [List.length_cons, List.length_nil, HM1.out, HM2.out]; omega, B3.out⟩
              case measure => simp <;> omega
          · have hq0 : decide (x.1 ≤ y.1) = true := decide_eq_true (by omega)
            have hq1 : decide (y.1 ≤ x.1) = true := decide_eq_true (by omega)
            have HU := Lib.hid (uniL_eq (s := t1) (t := t2) hxy)
            clear hxy
            by_cases k1 : d1 = 1
            · by_cases k2 : d2 = 1
              · go_wp2_with (at_builtin; refine app3 rfl (.tmp 33) (.tmp 35) rfl w2 w.heap.size ky g q ys x rfl rfl OW2.out (by omega) hsz2 ?_; intro g4 q4 w3 h3 b3 k3; have H3 := Lib.hid h3; have B3 := Lib.hid (BL2.out.trans b3); have ca0 := (k3 (wr.heap.size + 1) 0 (by omega) (by omega)).trans ca0; have cb0 := (k3 wr.heap.size 0 (by omega) (by omega)).trans cb0; clear h3 b3 k3)
                go_roundw
                case rel => exact ⟨t1, t2, ys ++ [x], g4, q4, Sl.tip I1.out HM1.out (by omega), Sl.tip I2.out HM2.out (by omega), by rw [List.length_append, HKY.out]; rfl, by rw [List.length_append, HKY.out]; exact H3.out, by rw [List.append_assoc, ← HE.out, HU.out]; rfl, by rw [List.length_append, HKY.out]; simp only [List.length_cons, List.length_nil, HM1.out, HM2.out]; omega, B3.out⟩
                case measure => simp <;> omega
              · go_wp2_with (at_builtin; refine app3 rfl (.tmp 33) (.tmp 35) rfl w2 w.heap.size ky g q ys x rfl rfl OW2.out (by omega) hsz2 ?_; intro g4 q4 w3 h3 b3 k3; have H3 := Lib.hid h3; have B3 := Lib.hid (BL2.out.trans b3); have ca0 := (k3 (wr.heap.size + 1) 0 (by omega) (by omega)).trans ca0; have cb0 := (k3 wr.heap.size 0 (by omega) (by omega)).trans cb0; clear h3 b3 k3)
                go_roundw
                case rel => exact ⟨t1, t2, ys ++ [x], g4, q4, Sl.tip I1.out HM1.out (by omega), (by have := Sl.next R2.out I2.out (d := d2) (by rw [HM2.out]; exact hd2); rw [HM2.out] at this; exact this), by rw [List.length_append, HKY.out]; rfl, by rw [List.length_append, HKY.out]; exact H3.out, by rw [List.append_assoc, ← HE.out, HU.out]; rfl, by rw [List.length_append, HKY.out]; simp only [List.length_cons, List.length_nil, HM1.out, HM2.out]; omega, B3.out⟩
                case measure => simp <;> omega
            · by_cases k2 : d2 = 1
              · go_wp2_with (at_builtin; refine app3 rfl (.tmp 33) (.tmp 35) rfl w2 w.heap.size ky g q ys x rfl rfl OW2.out (by omega) hsz2 ?_; intro g4 q4 w3 h3 b3 k3; have H3 := Lib.hid h3; have B3 := Lib.hid (BL2.out.trans b3); have ca0 := (k3 (wr.heap.size + 1) 0 (by omega) (by omega)).trans ca0; have cb0 := (k3 wr.heap.size 0 (by omega) (by omega)).trans cb0; clear h3 b3 k3)
                go_roundw
                case rel => exact ⟨t1, t2, ys ++ [x], g4, q4, (by have := Sl.next R1.out I1.out (d := d1) (by rw [HM1.out]; exact hd1); rw [HM1.out] at this; exact this), Sl.tip I2.out HM2.out (by omega), by rw [List.length_append, HKY.out]; rfl, by rw [List.length_append, HKY.out]; exact H3.out, by rw [List.append_assoc, ← HE.out, HU.out]; rfl, by rw [List.length_append, HKY.out]; simp only [List.length_cons, List.length_nil, HM1.out, HM2.out]; omega, B3.out⟩
                case measure => simp <;> omega
              · go_wp2_with (at_builtin; refine app3 rfl (.tmp 33) (.tmp 35) rfl w2 w.heap.size ky g q ys x rfl rfl OW2.out (by omega) hsz2 ?_; intro g4 q4 w3 h3 b3 k3; have H3 := Lib.hid h3; have B3 := Lib.hid (BL2.out.trans b3); have ca0 := (k3 (wr.heap.size + 1) 0 (by omega) (by omega)).trans ca0; have cb0 := (k3 wr.heap.size 0 (by omega) (by omega)).trans cb0; clear h3 b3 k3)
                go_roundw
                case rel => exact ⟨t1, t2, ys ++ [x], g4, q4, (by have := Sl.next R1.out I1.out (d := d1) (by rw [HM1.out]; exact hd1); rw [HM1.out] at this; exact this), (by have := Sl.next R2.out I2.out (d := d2) (by rw [HM2.out]; exact hd2); rw [HM2.out] at this; exact this), by rw [List.length_append, HKY.out]; rfl, by rw [List.length_append, HKY.out]; exact H3.out, by rw [List.append_assoc, ← HE.out, HU.out]; rfl, by rw [List.length_append, HKY.out]; simp only [List.length_cons, List.length_nil, HM1.out, HM2.out]; omega, B3.out⟩
                case measure => simp <;> omega
          · have hq0 : decide (x.1 ≤ y.1) = false := decide_eq_false (by omega)
            have hq1 : decide (y.1 ≤ x.1) = true := decide_eq_true (by omega)
            have HU := Lib.hid (uniL_gt (s := t1) (t := t2) hxy)
            clear hxy
            by_cases k2 : d2 = 1
            · go_wp2_with (at_builtin; refine app3 rfl (.tmp 39) (.tmp 41) rfl w2 w.heap.size ky g q ys y rfl rfl OW2.out (by omega) hsz2 ?_; intro g4 q4 w3 h3 b3 k3; have H3 := Lib.hid h3; have B3 := Lib.hid (BL2.out.trans b3); have ca0 := (k3 (wr.heap.size + 1) 0 (by omega) (by omega)).trans ca0; have cb0 := (k3 wr.heap.size 0 (by omega) (by omega)).trans cb0; clear h3 b3 k3)
              go_roundw
              case rel => exact ⟨x :: t1, t2, ys ++ [y], g4, q4, Sl.same R1.out (by rw [List.length_cons, HM1.out]) I1.out hd1 Z1.out, Sl.tip I2.out HM2.out (by omega), by rw [List.length_append, HKY.out]; rfl, by rw [List.length_append, HKY.out]; exact H3.out, by rw [List.append_assoc, ← HE.out, HU.out]; rfl, by rw [List.length_append, HKY.out]; simp only [List.length_cons, List.length_nil, HM1.out, HM2.out]; omega, B3.out⟩
              case measure => simp <;> omega
            · go_wp2_with (at_builtin; refine app3 rfl (.tmp 39) (.tmp 41) rfl w2 w.heap.size ky g q ys y rfl rfl OW2.out (by omega) hsz2 ?_; intro g4 q4 w3 h3 b3 k3; have H3 := Lib.hid h3; have B3 := Lib.hid (BL2.out.trans b3); have ca0 := (k3 (wr.heap.size + 1) 0 (by omega) (by omega)).trans ca0; have cb0 := (k3 wr.heap.size 0 (by omega) (by omega)).trans cb0; clear h3 b3 k3)
              go_roundw
              case rel => exact ⟨x :: t1, t2, ys ++ [y], g4, q4, Sl.same R1.out (by rw [List.length_cons, HM1.out]) I1.out hd1 Z1.out, (by have := Sl.next R2.out I2.out (d := d2) (by rw [HM2.out]; exact hd2); rw [HM2.out] at this; exact this), by rw [List.length_append, HKY.out]; rfl, by rw [List.length_append, HKY.out]; exact H3.out, by rw [List.append_assoc, ← HE.out, HU.out]; rfl, by rw [List.length_append, HKY.out]; simp only [List.length_cons, List.length_nil, HM1.out, HM2.out]; omega, B3.out⟩
              case measure => simp <;> omega
end Om
end Go.Proofs.Ytbdllakbkienoaa
