/- begin of leapfroglaw14: contract of the translated code. Conditions: at most 40 towers. (Written by tools/mkps11.py.) -/
import Derived.Test.YtcipjjchclpgnaaPsJ
namespace Go.Proofs.Ytcipjjchclpgnaa
open Go.RowKit Go.Sort
set_option linter.unusedVariables false
set_option linter.unusedSimpArgs false
set_option maxRecDepth 100000
namespace Po
open Wd
open Ly (Ge tot pP pK pW pk Cf LyAt KI)
open Dm (addr_lit info_parts spot_none RdK flatU infoU bel_alloc bel_trans own_keep below_drewN)
theorem filt_range (k : Nat) : ∀ (m s : Nat), (List.range' s m).filter (fun x => decide (k < x)) = if s ≤ k + 1 ∧ k + 1 < s + m then (k + 1) :: (List.range' s m).filter (fun x => decide (k + 1 < x)) else (List.range' s m).filter (fun x => decide (k + 1 < x))
  | 0, s => by
    rw [if_neg (by omega)]; rfl
  | m + 1, s => by
    rw [List.range'_succ, List.filter_cons, List.filter_cons, filt_range k m (s + 1)]
    by_cases h1 : k + 1 = s
    · have a1 : decide (k < s) = true := decide_eq_true (by omega)
      have a2 : decide (k + 1 < s) = false := decide_eq_false (by omega)
      have a3 : ¬ (s + 1 ≤ k + 1 ∧ k + 1 < s + 1 + m) := by omega
      have a4 : s ≤ k + 1 ∧ k + 1 < s + (m + 1) := by omega
      rw [a1, a2, if_neg a3, if_pos a4, if_pos rfl, if_neg (by simp), h1]
    · by_cases h2 : k + 1 < s
      · have a1 : decide (k < s) = true := decide_eq_true (by omega)
        have a2 : decide (k + 1 < s) = true := decide_eq_true (by omega)
        have a3 : ¬ (s + 1 ≤ k + 1 ∧ k + 1 < s + 1 + m) := by omega
        have a4 : ¬ (s ≤ k + 1 ∧ k + 1 < s + (m + 1)) := by omega
        rw [a1, a2, if_neg a3, if_neg a4]
      · have a1 : decide (k < s) = false := decide_eq_false (by omega)
        have a2 : decide (k + 1 < s) = false := decide_eq_false (by omega)
        rw [a1, a2]
        by_cases h3 : k + 1 < s + (m + 1)
        · rw [if_pos (show s + 1 ≤ k + 1 ∧ k + 1 < s + 1 + m by omega), if_pos (show s ≤ k + 1 ∧ k + 1 < s + (m + 1) by omega), if_neg (by simp), if_neg (by simp)]
        · rw [if_neg (show ¬ (s + 1 ≤ k + 1 ∧ k + 1 < s + 1 + m) by omega), if_neg (show ¬ (s ≤ k + 1 ∧ k + 1 < s + (m + 1)) by omega), if_neg (by simp)]
/-- the towers above k of the height h -/
def fl (g : Ge) (k h : Nat) : List Nat := (stk0 g h).filter (fun x => decide (k < x))
theorem fl_top (g : Ge) {h : Nat} (hh : h < 6) : fl g (tot g.t 6) h = [] := by
  unfold fl
  rw [List.filter_eq_nil_iff]
  intro x hx
  obtain ⟨h1, h2⟩ := (mem_range g).1 hx
  have := Ly.tot_le g.t hh
  simp; omega
theorem fl_zero (g : Ge) (h : Nat) : fl g 0 h = stk0 g h := by
  unfold fl
  rw [List.filter_eq_self]
  intro x hx
  obtain ⟨h1, h2⟩ := (mem_range g).1 hx
  simp; omega
theorem fl_step (g : Ge) {k : Nat} (hk : k < tot g.t 6) (h : Nat) (hh : h < 6) : fl g k h = if h = htG g (k + 1) then (k + 1) :: fl g (k + 1) h else fl g (k + 1) h := by
  obtain ⟨j, j1, j2, j3⟩ := exists_h g.t 6 k hk
  have hj := ht_of g j1 j2 j3
  unfold fl
  rw [show stk0 g h = List.range' (1 + tot g.t h) (g.t h) from rfl, filt_range k, hj]
  by_cases e : h = j
  · subst e
    rw [if_pos (by omega), if_pos rfl]
  · rw [if_neg e, if_neg]
    intro ⟨q1, q2⟩
    exact e ((ht_of g hh (by omega) (by omega)).symm.trans hj)
theorem fl_set (g : Ge) {k : Nat} (hk : k < tot g.t 6) (h6 : htG g (k + 1) < 6) : ∀ u, u < 6 → set (fun h => nums (fl g (k + 1) h).reverse) (htG g (k + 1)) (nums (fl g (k + 1) (htG g (k + 1))).reverse ++ [((k + 1 : Nat) : Int)]) u = nums (fl g k u).reverse := fun u hu => by
  by_cases e : u = htG g (k + 1)
  · subst e
    rw [set_same, fl_step g hk _ hu, if_pos rfl]
    simp [nums]
  · rw [set_other e, fl_step g hk _ hu, if_neg e]
theorem RM.start {K : Kc} (ok : K.g.ok) (hpp : pP K.g ≤ 1000000) : RM K (pm0 ⟨Ly.ini K.g, []⟩) (fun _ => none) (stk0 K.g) (fun _ => 0) 0 (fun _ => 0) (fun _ => []) (fun _ => 0) (fun _ => 0) :=
  ⟨AlB.made ok hpp, ini_bd K.g ok, fun t r h => (by cases h), fun t ht m hm => (by cases hm), fun t ht => List.nodup_nil, fun t u ht hu m hm => (by cases hm), fun t ht => ⟨Int.le_refl _, Int.le_refl _⟩⟩
theorem Rb.start {W : World} {bl ta : Nat} {T : TypeId} : Rb (W.alloc (.cells #[.pointer (some ⟨bl, 0, none⟩), .pointer (some ⟨ta + 1, 0, none⟩), .pointer none, .pointer none, .pointer none, .pointer none, .pointer none, .pointer none, .pointer none, .pointer none, .pointer none, .pointer none, .pointer none, .pointer none, .int .i64 0, .int .i64 0, .int .i64 0, .int .i64 0, .int .i64 0, .int .i64 0, .slice none 0 0, .slice none 0 0, .slice none 0 0, .slice none 0 0, .slice none 0 0, .slice none 0 0, .slice none 0 0, .slice none 0 0, .slice none 0 0, .slice none 0 0, .slice none 0 0, .slice none 0 0, .int .i64 0, .int .i64 0, .int .i64 0, .int .i64 0, .int .i64 0, .int .i64 0, .int .i64 0, .int .i64 0, .int .i64 0, .int .i64 0, .int .i64 0, .int .i64 0, .int .i64 0, .int .i64 0, .int .i64 0, .int .i64 0, .int .i64 0, .int .i64 0] T)) W.heap.size bl (ta + 1) (fun _ => none) (fun _ => none) (fun _ => 0) (fun _ => .slice none 0 0) (fun _ => .slice none 0 0) (fun _ => 0) (fun _ => 0) (fun _ => 0) := by
  have six : ∀ {P : Nat → Prop}, P 0 → P 1 → P 2 → P 3 → P 4 → P 5 → ∀ t, t < 6 → P t := fun h0 h1 h2 h3 h4 h5 t ht => by
    match t, ht with
    | 0, _ => exact h0
    | 1, _ => exact h1
    | 2, _ => exact h2
    | 3, _ => exact h3
    | 4, _ => exact h4
    | 5, _ => exact h5
  have c : ∀ i, (W.alloc (.cells #[.pointer (some ⟨bl, 0, none⟩), .pointer (some ⟨ta + 1, 0, none⟩), .pointer none, .pointer none, .pointer none, .pointer none, .pointer none, .pointer none, .pointer none, .pointer none, .pointer none, .pointer none, .pointer none, .pointer none, .int .i64 0, .int .i64 0, .int .i64 0, .int .i64 0, .int .i64 0, .int .i64 0, .slice none 0 0, .slice none 0 0, .slice none 0 0, .slice none 0 0, .slice none 0 0, .slice none 0 0, .slice none 0 0, .slice none 0 0, .slice none 0 0, .slice none 0 0, .slice none 0 0, .slice none 0 0, .int .i64 0, .int .i64 0, .int .i64 0, .int .i64 0, .int .i64 0, .int .i64 0, .int .i64 0, .int .i64 0, .int .i64 0, .int .i64 0, .int .i64 0, .int .i64 0, .int .i64 0, .int .i64 0, .int .i64 0, .int .i64 0, .int .i64 0, .int .i64 0] T)).cell? ⟨W.heap.size, i, none⟩ = (#[.pointer (some ⟨bl, 0, none⟩), .pointer (some ⟨ta + 1, 0, none⟩), .pointer none, .pointer none, .pointer none, .pointer none, .pointer none, .pointer none, .pointer none, .pointer none, .pointer none, .pointer none, .pointer none, .pointer none, .int .i64 0, .int .i64 0, .int .i64 0, .int .i64 0, .int .i64 0, .int .i64 0, .slice none 0 0, .slice none 0 0, .slice none 0 0, .slice none 0 0, .slice none 0 0, .slice none 0 0, .slice none 0 0, .slice none 0 0, .slice none 0 0, .slice none 0 0, .slice none 0 0, .slice none 0 0, .int .i64 0, .int .i64 0, .int .i64 0, .int .i64 0, .int .i64 0, .int .i64 0, .int .i64 0, .int .i64 0, .int .i64 0, .int .i64 0, .int .i64 0, .int .i64 0, .int .i64 0, .int .i64 0, .int .i64 0, .int .i64 0, .int .i64 0, .int .i64 0] : Array Value)[i]? := fun i => World.cell?_alloc_new _ _ _ _
  refine ⟨c 0, c 1, six (c 2) (c 3) (c 4) (c 5) (c 6) (c 7), six (c 8) (c 9) (c 10) (c 11) (c 12) (c 13), six (c 14) (c 15) (c 16) (c 17) (c 18) (c 19), six (c 20) (c 21) (c 22) (c 23) (c 24) (c 25), six (c 26) (c 27) (c 28) (c 29) (c 30) (c 31), six (c 32) (c 33) (c 34) (c 35) (c 36) (c 37), six (c 38) (c 39) (c 40) (c 41) (c 42) (c 43), six (c 44) (c 45) (c 46) (c 47) (c 48) (c 49), fun j => froz_heap (heap_alloc_new W _)⟩
/-- a run that has begun -/
def BgP (t : Nat → Int) (w : World) (e : Ending) (w' : World) : Prop :=
  ∃ K b c sk, e = .returned (.pointer (some ⟨b, 0, none⟩)) ∧ K.g = g0 t ∧ RI K b w' c (pm0 ⟨Ly.ini K.g, []⟩) (fun _ => none) (fun _ => 0) (stk0 K.g) (fun _ => 0) 0 (fun _ => 0) (fun _ => .slice none 0 0) sk (fun _ => []) (fun _ => 0) (fun _ => 0) ∧ (∀ i, i < w.heap.size → c i = 0) ∧ Below w.heap.size w w'
set_option maxHeartbeats 2000000 in
theorem begin_any {t : Nat → Int} (hF : FewT t) (w : World) : Calls Try.prog 23 #[.agg (six t)] w (BgP t w) := by
  have ok := g0_ok hF
  have hn := g0_n hF
  have hW := g0_pW hF
  have C1 := fun W => Lib.hid (config_any t W)
  have C2 := fun W => Lib.hid (newL hF W)
  obtain ⟨g, hg⟩ : ∃ g, g = g0 t := ⟨_, rfl⟩
  have hpP : pP g = 7 := by rw [hg]; rfl
  rw [← hg] at ok hn hW C2
  have HG := Lib.hid hg
  have HOK := Lib.hid ok
  have HN := Lib.hid hn
  have HW := Lib.hid hW
  have HPP := Lib.hid hpP
  obtain ⟨W0, hW0⟩ : ∃ W, W = w.alloc (.cells #[.int .i64 (t 0), .int .i64 (t 1), .int .i64 (t 2), .int .i64 (t 3), .int .i64 (t 4), .int .i64 (t 5)] 29) := ⟨_, rfl⟩
  have HB0 := Lib.hid (show Below w.heap.size w W0 by rw [hW0]; exact bel_new (Below.refl _ _) _)
  have HW0 := Lib.hid hW0
  clear hg ok hn hW hpP hF hW0
  unfold six
  go_enter Try.func23, Try.ntmps23
  go_wp2_with fail
  refine (C1 _).out.mono ?_
  rintro r1 W1 ⟨rfl, hb1⟩
  have HB1 := Lib.hid (HB0.out.trans ((show Below W0.heap.size W0 W1 by rw [HW0.out]; exact hb1).mono HB0.out.size))
  clear hb1
  go_wp2_with fail
  refine (C2 _).out.mono ?_
  rintro r1 W2 ⟨bl, f, rfl, hl, hb2⟩
  have CI := Lib.hid (Ly.initial_any hl HOK.out)
  have HB2 := Lib.hid (HB1.out.trans (hb2.mono HB1.out.size))
  have HL := Lib.hid hl
  clear hb2 hl
  go_wp2_with fail
  refine CI.out.mono ?_
  rintro r1 W3 ⟨rfl, hrow, hb3⟩
  have CM := Lib.hid (newM HOK.out HW.out.1 (by have := HW.out.2; omega) hrow)
  have HB3 := Lib.hid hb3
  clear hb3 hrow
  go_wp2_with fail
  refine CM.out.mono ?_
  rintro r1 W4 ⟨bm, p, rfl, hm, hbm, hp, hb4⟩
  have HB4 := Lib.hid (HB3.out.trans (hb4.mono HB3.out.size))
  have CP := Lib.hid (new_any hm (HL.out.below HB4.out) HOK.out HW.out.1 (by have := HW.out.2; omega) (Ly.ini_len g))
  have HBM := Lib.hid (Nat.le_trans HB3.out.size hbm)
  have HBP := Lib.hid (Nat.le_trans HB3.out.size hp)
  have HM := Lib.hid hm
  clear hm hbm hp hb4
  go_wp2_with fail
  refine CP.out.mono ?_
  rintro r1 W5 ⟨ta, hta, rfl, hpa, hb5⟩
  obtain ⟨c, hsa, hlow⟩ := SA.made HOK.out HL.out HB4.out HM.out HBM.out HBP.out hb5 hpa hta (fun _ => 0)
  have HSA := Lib.hid hsa
  have HB5 := Lib.hid (HB2.out.trans ((HB4.out.trans (hb5.mono HB4.out.size)).mono HB2.out.size))
  have HLOW := Lib.hid (fun i (hi : i < w.heap.size) => hlow i (Nat.lt_of_lt_of_le hi HB2.out.size))
  clear hsa hpa hta hlow hb5 CP CM CI C1 C2
  go_wp2_with fail
  have CW := Lib.hid (Ly.towers_any (HSA.out.below (bel_new (Below.refl W5.heap.size W5) (.cells #[.pointer (some ⟨bl, 0, none⟩), .pointer (some ⟨ta + 1, 0, none⟩), .pointer none, .pointer none, .pointer none, .pointer none, .pointer none, .pointer none, .pointer none, .pointer none, .pointer none, .pointer none, .pointer none, .pointer none, .int .i64 0, .int .i64 0, .int .i64 0, .int .i64 0, .int .i64 0, .int .i64 0, .slice none 0 0, .slice none 0 0, .slice none 0 0, .slice none 0 0, .slice none 0 0, .slice none 0 0, .slice none 0 0, .slice none 0 0, .slice none 0 0, .slice none 0 0, .slice none 0 0, .slice none 0 0, .int .i64 0, .int .i64 0, .int .i64 0, .int .i64 0, .int .i64 0, .int .i64 0, .int .i64 0, .int .i64 0, .int .i64 0, .int .i64 0, .int .i64 0, .int .i64 0, .int .i64 0, .int .i64 0, .int .i64 0, .int .i64 0, .int .i64 0, .int .i64 0] 74))).ly.at)
  have hrb := Rb.start (W := W5) (bl := bl) (ta := ta) (T := 74)
  have hb6 : Below W5.heap.size W5 (W5.alloc (.cells #[.pointer (some ⟨bl, 0, none⟩), .pointer (some ⟨ta + 1, 0, none⟩), .pointer none, .pointer none, .pointer none, .pointer none, .pointer none, .pointer none, .pointer none, .pointer none, .pointer none, .pointer none, .pointer none, .pointer none, .int .i64 0, .int .i64 0, .int .i64 0, .int .i64 0, .int .i64 0, .int .i64 0, .slice none 0 0, .slice none 0 0, .slice none 0 0, .slice none 0 0, .slice none 0 0, .slice none 0 0, .slice none 0 0, .slice none 0 0, .slice none 0 0, .slice none 0 0, .slice none 0 0, .slice none 0 0, .int .i64 0, .int .i64 0, .int .i64 0, .int .i64 0, .int .i64 0, .int .i64 0, .int .i64 0, .int .i64 0, .int .i64 0, .int .i64 0, .int .i64 0, .int .i64 0, .int .i64 0, .int .i64 0, .int .i64 0, .int .i64 0, .int .i64 0, .int .i64 0] 74)) := bel_new (Below.refl _ _) _
  have hsz : (W5.alloc (.cells #[.pointer (some ⟨bl, 0, none⟩), .pointer (some ⟨ta + 1, 0, none⟩), .pointer none, .pointer none, .pointer none, .pointer none, .pointer none, .pointer none, .pointer none, .pointer none, .pointer none, .pointer none, .pointer none, .pointer none, .int .i64 0, .int .i64 0, .int .i64 0, .int .i64 0, .int .i64 0, .int .i64 0, .slice none 0 0, .slice none 0 0, .slice none 0 0, .slice none 0 0, .slice none 0 0, .slice none 0 0, .slice none 0 0, .slice none 0 0, .slice none 0 0, .slice none 0 0, .slice none 0 0, .slice none 0 0, .int .i64 0, .int .i64 0, .int .i64 0, .int .i64 0, .int .i64 0, .int .i64 0, .int .i64 0, .int .i64 0, .int .i64 0, .int .i64 0, .int .i64 0, .int .i64 0, .int .i64 0, .int .i64 0, .int .i64 0, .int .i64 0, .int .i64 0, .int .i64 0] 74)).heap.size = W5.heap.size + 1 := World.size_alloc _ _
  generalize W5.alloc (.cells #[.pointer (some ⟨bl, 0, none⟩), .pointer (some ⟨ta + 1, 0, none⟩), .pointer none, .pointer none, .pointer none, .pointer none, .pointer none, .pointer none, .pointer none, .pointer none, .pointer none, .pointer none, .pointer none, .pointer none, .int .i64 0, .int .i64 0, .int .i64 0, .int .i64 0, .int .i64 0, .int .i64 0, .slice none 0 0, .slice none 0 0, .slice none 0 0, .slice none 0 0, .slice none 0 0, .slice none 0 0, .slice none 0 0, .slice none 0 0, .slice none 0 0, .slice none 0 0, .slice none 0 0, .slice none 0 0, .int .i64 0, .int .i64 0, .int .i64 0, .int .i64 0, .int .i64 0, .int .i64 0, .int .i64 0, .int .i64 0, .int .i64 0, .int .i64 0, .int .i64 0, .int .i64 0, .int .i64 0, .int .i64 0, .int .i64 0, .int .i64 0, .int .i64 0, .int .i64 0] 74) = W6 at CW hrb hb6 hsz ⊢
  obtain ⟨b, hb⟩ : ∃ b, b = W5.heap.size := ⟨_, rfl⟩
  rw [← hb] at hrb hb6 ⊢
  have h8 : Fc (fun _ => False) W5 c W6 (up c b 8) := by rw [hb]; exact Fc.of_below_up (by rw [← hb]; exact hb6)
  have hRW : RW ⟨ta + 1, bm, bl, ta, f, [], g⟩ b W6 (up c b 8) (pm0 ⟨Ly.ini g, []⟩) (fun _ => none) (fun _ => 0) (fun _ => none) (fun _ => none) (fun _ => 0) (fun _ => .slice none 0 0) (fun _ => .slice none 0 0) (fun h => nums (fl g (tot g.t 6) h).reverse) (fun _ => nums []) (fun _ => 0) (fun _ => 0) (fun _ => 0) :=
    ⟨HSA.out.fc h8 (fun i _ e => e), hrb, up_ge (Nat.le_refl _), fun u hu => by rw [fl_top g hu]; exact Ro.nil .., fun u hu => Ro.nil ..⟩
  have HRW := Lib.hid hRW
  have hs5 := HB5.out.size
  have HLOW6 := Lib.hid (show ∀ i, i < w.heap.size → up c b 8 i = 0 from fun i hi => (up_lt (by omega)).trans (HLOW.out i hi))
  have HB6 := Lib.hid (HB5.out.trans ((show Below W5.heap.size W5 W6 by rw [← hb]; exact hb6).mono HB5.out.size))
  generalize up c b 8 = c6 at hRW HRW HLOW6
  have l0 := hRW.rb.y
  have hnn := HN.out
  have d0 : decide (((tot g.t 6 : Nat) : Int) < 0) = false := decide_eq_false (by omega)
  have d1 : decide ((240 : Int) < ((tot g.t 6 : Nat) : Int)) = false := decide_eq_false (by omega)
  have d1' : decide (240 < tot g.t 6) = false := decide_eq_false (by omega)
  clear hRW hrb hb6 hsz h8 hs5 hb
  refine CW.out.mono ?_
  rintro r1 W7 ⟨rfl, e⟩
  obtain rfl := e.symm
  go_wp2_with fail
  refine CW.out.mono ?_
  rintro r1 W7 ⟨rfl, e⟩
  obtain rfl := e.symm
  go_wp2_with fail
  go_loopw [9] (fun vt wr => ∃ (k : Nat) (c' : Nat → Nat) (sk : Nat → Value), vt = .int .i64 (k : Int) ∧ k ≤ tot g.t 6 ∧ RW ⟨ta + 1, bm, bl, ta, f, [], g⟩ b wr c' (pm0 ⟨Ly.ini g, []⟩) (fun _ => none) (fun _ => 0) (fun _ => none) (fun _ => none) (fun _ => 0) (fun _ => .slice none 0 0) sk (fun h => nums (fl g k h).reverse) (fun _ => nums []) (fun _ => 0) (fun _ => 0) (fun _ => 0) ∧ (∀ i, i < w.heap.size → c' i = 0) ∧ Below w.heap.size w wr) (fun i _ => (intOf i).toNat)
  case atStart => exact ⟨_, _, _, rfl, Nat.le_refl _, HRW.out, HLOW6.out, HB6.out⟩
  case round =>
    obtain ⟨k, c', sk, rfl, hk, hR, hlow, bel⟩ := hrel
    clear HRW HLOW6 HB6 l0
    cases k with
    | zero =>
      have d2 : decide ((1 : Int) ≤ ((0 : Nat) : Int)) = false := by decide
      have hfin : RI ⟨ta + 1, bm, bl, ta, f, [], g⟩ b wr c' (pm0 ⟨Ly.ini g, []⟩) (fun _ => none) (fun _ => 0) (stk0 g) (fun _ => 0) 0 (fun _ => 0) (fun _ => .slice none 0 0) sk (fun _ => []) (fun _ => 0) (fun _ => 0) :=
        hR.run (X' := fun _ => none) (RM.start (K := ⟨ta + 1, bm, bl, ta, f, [], g⟩) HOK.out (by show pP g ≤ 1000000; rw [HPP.out]; omega)) hR.sa rfl rfl (by funext h; rw [fl_zero]) rfl rfl rfl rfl
      have HFIN := Lib.hid hfin
      have HLOWE := Lib.hid hlow
      have HBE := Lib.hid bel
      clear hR hfin hlow bel
      go_wp2
      go_ret
      exact ⟨_, b, c', sk, rfl, HG.out, HFIN.out, HLOWE.out, HBE.out⟩
    | succ k =>
      obtain ⟨j, j1, j2, j3⟩ := exists_h g.t 6 k (by omega)
      have hj := ht_of g j1 j2 j3
      have CHt := Ly.height_any hR.sa.ly.at HOK.out ((k + 1 : Nat) : Int)
      unfold Ly.hgE at CHt
      rw [show Ly.pk g.t ((k + 1 : Nat) : Int) 6 = j from hj, if_pos j1] at CHt
      have l0 := hR.rb.y
      obtain ⟨HH, hHH⟩ : ∃ HH, HH = ((j + 1 : Nat) : Int) := ⟨_, rfl⟩
      obtain ⟨T1, hT1⟩ : ∃ T1, T1 = ((k + 1 : Nat) : Int) := ⟨_, rfl⟩
      rw [← hHH, ← hT1] at CHt
      rw [← hT1]
      replace CHt := Lib.hid CHt
      have d2 : decide ((1 : Int) ≤ T1) = true := decide_eq_true (by omega)
      have e1 : decide (HH < 1) = false := decide_eq_false (by omega)
      have e6 : decide (6 < HH) = false := decide_eq_false (by omega)
      have w1 : IntKind.i64.wrap (HH - 1) = (j : Int) := by rw [show HH - 1 = (j : Int) by omega]; exact IntWalk.i64_in _ (by omega)
      have w1' : wrap64 (HH - 1) = (j : Int) := by rw [show HH - 1 = (j : Int) by omega]; exact IntWalk.wrap64_in _ (by omega)
      have w2 : IntKind.i64.wrap (T1 - 1) = (k : Int) := by rw [show T1 - 1 = (k : Int) by omega]; exact IntWalk.i64_in _ (by omega)
      have w2' : wrap64 (T1 - 1) = (k : Int) := by rw [show T1 - 1 = (k : Int) by omega]; exact IntWalk.wrap64_in _ (by omega)
      have j6 : (j : Int) < 6 := by omega
      have j0 : (0 : Int) ≤ (j : Int) := by omega
      obtain ⟨AS, CP, hsk, _, _⟩ := (hR.sr j j1).form
      obtain ⟨LN, hLN⟩ : ∃ LN, LN = (nums (fl g (k + 1) j).reverse).length := ⟨_, rfl⟩
      rw [← hLN] at hsk
      have hll : LN ≤ 2000 := by
        rw [hLN]
        have h1 := List.length_filter_le (fun x => decide (k + 1 < x)) (stk0 g j)
        have h2 : (stk0 g j).length = g.t j := by unfold stk0; simp
        have h3 := Ly.tot_le g.t j1
        have h4 := HN.out
        simp only [nums, List.length_map, List.length_reverse, fl]
        omega
      have HR := Lib.hid hR
      have HSK := Lib.hid hsk
      have HLNE := Lib.hid hLN
      have HLL := Lib.hid hll
      have HJ1 := Lib.hid j1
      have HJ := Lib.hid hj
      have HTE := Lib.hid hT1
      have HK := Lib.hid hk
      have HLOWE := Lib.hid hlow
      have HBE := Lib.hid bel
      clear hR hsk hLN hll j1 j2 j3 hj hHH hT1 hlow bel hk
      go_wp2_with fail
      refine CHt.out.mono ?_
      rintro r1 W8 ⟨rfl, hb8⟩
      have R5 := HR.out.below hb8
      have B5 := HBE.out.trans (hb8.mono HBE.out.size)
      have p26 := R5.rb.sk j HJ1.out
      rw [HSK.out] at p26
      obtain ⟨W9, hW9⟩ : ∃ W : World, W = (W8.alloc (.cells #[.int .i64 T1] 3)).drew := ⟨_, rfl⟩
      have B9 : Below W8.heap.size W8 W9 := by rw [hW9]; exact bel_drew (bel_new (Below.refl _ _) _)
      have R6 := R5.below B9
      have HC6 := Lib.hid (show W9.cell? ⟨W8.heap.size, 0, none⟩ = some (.int .i64 T1) by rw [hW9]; exact World.cell?_alloc_new _ _ _ _)
      have HRO6 := Lib.hid (show Ro W9 c' (10 + j) (.slice AS LN CP) (nums (fl g (k + 1) j).reverse) by have := R6.sr j HJ1.out; rw [HSK.out] at this; exact this)
      have q26 := R6.rb.sk j HJ1.out
      have q26f := R6.rb.fz (26 + j)
      have q26l : (W8.alloc (.cells #[.int .i64 T1] 3)).cell? ⟨b, 26 + j, none⟩ = some (sk j) := (R5.below (bel_new (Below.refl _ _) _)).rb.sk j HJ1.out
      rw [HSK.out] at q26 q26l
      have hb8' : ∀ (W7 : World) (c2 : Nat → Nat), Fc (fun i => i = 10 + j) W9 c' W7 c2 → W7.heap[b]? = W9.heap[b]? := fun _ _ hf => hf.keep R6.rb.lt (by rw [R6.cb]; omega)
      have HB8 := Lib.hid hb8'
      have HR6 := Lib.hid R6
      have HB9 := Lib.hid (B5.trans (B9.mono B5.size))
      have HW9 := Lib.hid hW9
      clear R5 R6 B5 B9 hb8 hb8' hW9 l0
      go_wp2_with fail
      go_region_law ((refine stepR rfl (.tmp 91) (.tmp 93) rfl _ c' (10 + j) W8.heap.size _ (nums (fl g (k + 1) j).reverse) T1 (by rfl) (by rfl) (by rw [← HW9.out]; exact HC6.out) (by rw [← HW9.out]; exact HRO6.out) (by rw [← HLNE.out]; exact HLL.out) ?_; rw [← HW9.out, ← HLNE.out]; intro g7 o7 m7 W7 ro7 f67; have kb := HB8.out _ _ f67; have s26 := (World.cell?_of_block (a := ⟨b, 26 + j, none⟩) kb).trans q26; have s26f := (World.frozen?_of_block (a := ⟨b, 26 + j, none⟩) kb).trans q26f))
      all_goals
        have hlow2 := f67.low HB9.out.size HLOWE.out
        have hbel2 := HB9.out.trans (f67.below HB9.out.size HLOWE.out (by omega))
        have R8 := HR6.out.app_sk HJ1.out ro7 f67
        have hf8 : Fc (fun i => i = 8) W7 (up c' W9.heap.size (10 + j)) (W7.setCell ⟨b, 26 + j, none⟩ (.slice (some ⟨g7, o7, none⟩) (LN + 1) m7)) (up c' W9.heap.size (10 + j)) := (Fc.id _ _ _).set _ _ fun _ => (f67.co _ HR6.out.rb.lt).trans HR6.out.cb
        have hbel3 := hbel2.trans (hf8.below hbel2.size hlow2 (by omega))
        have HR8 := Lib.hid R8
        have HLOW8 := Lib.hid hlow2
        have HBL8 := Lib.hid hbel3
        clear R8 hlow2 hbel2 hbel3 hf8 ro7 f67 kb
        go_wp2_with fail
        go_roundw
        case rel =>
          exact ⟨k, _, _, by go_num, by have := HK.out; omega, ⟨HR8.out.sa, HR8.out.rb, HR8.out.cb, fun u hu => by
            have h1 := HR8.out.sr u hu
            have h2 := fl_set g (k := k) (by have := HK.out; omega) (by rw [HJ.out]; exact HJ1.out) u hu
            rw [HJ.out] at h2
            rw [← h2, ← HTE.out]; exact h1, HR8.out.mr⟩, HLOW8.out, HBL8.out⟩
        case measure => have hte := HTE.out; simp [intOf]; omega
end Po
end Go.Proofs.Ytcipjjchclpgnaa
