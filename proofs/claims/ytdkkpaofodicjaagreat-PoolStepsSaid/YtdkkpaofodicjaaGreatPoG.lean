/- Gen and Give of leapfrogref14: contracts of the translated code. Conditions: the bounds of each number's kind. (Made ahead in round 13; written by tools/mk14g.py.) -/
import Derived.Test.YtdkkpaofodicjaaGreatPoS
namespace Go.Proofs.YtdkkpaofodicjaaGreat
open Go.RowKit Go.Sort
set_option linter.unusedVariables false
set_option linter.unusedSimpArgs false
set_option maxRecDepth 100000
namespace Po
open Wd
variable {w : World} {x bm bl ta ga na n : Nat} {S : Pm}
theorem genR_any (h : PR w x bm bl ta ga na n S) (t : Int) (hn : n ≤ 1024) : Calls Tryz.prog 26 #[.pointer (some ⟨x, 0, none⟩), .int .i64 t] w fun e w' => e = .returned (.tuple #[.int .i64 (gnV n S t), .int .i64 (gnE n t)]) ∧ w' = w := by
  have c4 := h.c4
  unfold gnE gnV
  by_cases h1 : t < 1
  · rw [if_neg (by omega), if_neg (by omega)]
    have t1 : decide (t < 1) = true := decide_eq_true h1
    clear h h1
    go_enter Tryz.func26, Tryz.ntmps26
    go_wp2
    go_ret2
    exact ⟨rfl, rfl⟩
  have t1 : decide (t < 1) = false := decide_eq_false h1
  obtain ⟨u, rfl⟩ := Int.eq_ofNat_of_zero_le (show 0 ≤ t by omega)
  by_cases h2 : n < u
  · rw [if_neg (by omega), if_neg (by omega)]
    have t2 : decide (((n + 1 : Nat) : Int) ≤ (u : Int)) = true := decide_eq_true (by omega)
    have t2' : decide (n + 1 ≤ u) = true := decide_eq_true (by omega)
    have t2n : decide ((n : Int) + 1 ≤ (u : Int)) = true := decide_eq_true (by omega)
    clear h h1 h2
    go_enter Tryz.func26, Tryz.ntmps26
    go_wp2
    go_ret2
    exact ⟨rfl, rfl⟩
  · rw [if_pos (by omega), if_pos (by omega)]
    have t2 : decide (((n + 1 : Nat) : Int) ≤ (u : Int)) = false := decide_eq_false (by omega)
    have t2' : decide (n + 1 ≤ u) = false := decide_eq_false (by omega)
    have t2n : decide ((n : Int) + 1 ≤ (u : Int)) = false := decide_eq_false (by omega)
    have cu := (h.q u (by omega)).1
    have x1 : (u : Int) < ((n + 1 : Nat) : Int) := by omega
    have x2 : u < n + 1 := by omega
    have hz : 0 ≤ (u : Int) := by omega
    rw [Int.toNat_natCast]
    clear h h1 h2
    go_enter Tryz.func26, Tryz.ntmps26
    go_wp2
    go_ret2
    exact ⟨rfl, rfl⟩
/-- the heights of the towers, in the layout at bl -/
structure HR (w : World) (bl hb ho n : Nat) (ht : Nat → Nat) : Prop where
  c : ∃ k, w.cell? ⟨bl, 26, none⟩ = some (.slice (some ⟨hb, ho, none⟩) n k)
  r : ∀ t, 1 ≤ t → t ≤ n → w.cell? ⟨hb, ho + (t - 1), none⟩ = some (.int .i64 ((ht t + 1 : Nat) : Int))
def GvP (x bm bl ta ga na n : Nat) (ht : Nat → Nat) (S : Pm) (t u : Int) (w : World) (e : Ending) (w' : World) : Prop :=
  (gvE n S t u ≠ 0 ∧ e = .returned (.tuple #[.pointer none, .int .i64 (gvE n S t u)]) ∧ w' = w) ∨
  (gvE n S t u = 0 ∧ ∃ a v : Nat, t = (a : Int) ∧ u = (v : Int) ∧ a < 64 ∧ 1 ≤ v ∧ v ≤ n ∧ S.tk v = true ∧ S.gv v = false ∧ e = .returned (.tuple #[.pointer (some ⟨w.heap.size, 0, none⟩), .int .i64 0]) ∧
    OR w' w.heap.size x ⟨a, ht v, v, 0, 4, 0, 0, 0, 0, 0⟩ ∧ PR w' x bm bl ta ga na n ⟨S.M, S.tk, set S.gv v true, S.gn⟩ ∧ Fr (fun i => i = ga) w w')
set_option maxHeartbeats 2000000 in
theorem giveR_any (h : PR w x bm bl ta ga na n S) {hb ho : Nat} {ht : Nat → Nat} (hr : 0 < n → HR w bl hb ho n ht) (d : 0 < n → bl ≠ ga ∧ hb ≠ ga) (t u : Int) (hn : n ≤ 1024) : Calls Tryz.prog 17 #[.pointer (some ⟨x, 0, none⟩), .int .i64 t, .int .i64 u] w (GvP x bm bl ta ga na n ht S t u w) := by
  unfold GvP
  have CT := thread_any t w
  have c2 := h.c2
  by_cases h1 : 0 ≤ t ∧ t < 64
  · rw [decide_eq_true h1] at CT
    replace CT := Lib.hid CT
    by_cases h3 : u < 1
    · have e : gvE n S t u = 3 := by unfold gvE; rw [if_pos h1, if_neg (by omega)]
      rw [e]
      have t3 : decide (u < 1) = true := decide_eq_true h3
      clear h h1 h3 e hr
      go_enter Tryz.func17, Tryz.ntmps17
      go_wp2_with fail
      refine CT.out.mono ?_
      rintro r w1 ⟨rfl, rfl⟩
      go_wp2
      go_ret2
      exact .inl ⟨by decide, rfl, rfl⟩
    have t3 : decide (u < 1) = false := decide_eq_false h3
    obtain ⟨v, rfl⟩ := Int.eq_ofNat_of_zero_le (show 0 ≤ u by omega)
    by_cases h4 : n < v
    · have e : gvE n S t (v : Int) = 3 := by unfold gvE; rw [if_pos h1, if_neg (by omega)]
      rw [e]
      have t2 : decide (((n + 1 : Nat) : Int) ≤ (v : Int)) = true := decide_eq_true (by omega)
      have t2' : decide (n + 1 ≤ v) = true := decide_eq_true (by omega)
      have t2n : decide ((n : Int) + 1 ≤ (v : Int)) = true := decide_eq_true (by omega)
      clear h h1 h3 h4 e hr
      go_enter Tryz.func17, Tryz.ntmps17
      go_wp2_with fail
      refine CT.out.mono ?_
      rintro r w1 ⟨rfl, rfl⟩
      go_wp2
      go_ret2
      exact .inl ⟨by decide, rfl, rfl⟩
    have t2 : decide (((n + 1 : Nat) : Int) ≤ (v : Int)) = false := decide_eq_false (by omega)
    have t2' : decide (n + 1 ≤ v) = false := decide_eq_false (by omega)
    have t2n : decide ((n : Int) + 1 ≤ (v : Int)) = false := decide_eq_false (by omega)
    have x1 : (v : Int) < ((n + 1 : Nat) : Int) := by omega
    have x2 : v < n + 1 := by omega
    have hz : 0 ≤ (v : Int) := by omega
    replace hr := hr (by omega)
    replace d := d (by omega)
    have cv := (h.t v (by omega)).1
    have cg := (h.g v (by omega)).1
    have cgf := (h.g v (by omega)).2
    have c3 := h.c3
    have he : gvE n S t (v : Int) = if S.tk v = true ∧ S.gv v = false then 0 else 8 := by unfold gvE; rw [if_pos h1, if_pos (by omega), Int.toNat_natCast]
    rw [he]
    obtain ⟨bt, hbt⟩ : ∃ b, S.tk v = b := ⟨_, rfl⟩
    obtain ⟨bg, hbg⟩ : ∃ b, S.gv v = b := ⟨_, rfl⟩
    rw [hbt] at cv
    rw [hbg] at cg
    cases bt
    · rw [if_neg (by rw [hbt]; simp)]
      clear h h1 h3 h4 he hr hbt hbg cgf
      go_enter Tryz.func17, Tryz.ntmps17
      go_wp2_with fail
      refine CT.out.mono ?_
      rintro r w1 ⟨rfl, rfl⟩
      go_wp2
      go_ret2
      exact .inl ⟨by decide, rfl, rfl⟩
    cases bg
    · rw [if_pos ⟨hbt, hbg⟩]
      obtain ⟨kk, c26⟩ := hr.c
      have ch := hr.r v (by omega) (by omega)
      obtain ⟨a, rfl⟩ := Int.eq_ofNat_of_zero_le h1.1
      have c1 := h.c1
      have e1 : IntKind.i64.wrap ((v : Int) - 1) = ((v - 1 : Nat) : Int) := by rw [show ((v - 1 : Nat) : Int) = (v : Int) - 1 by omega]; exact IntWalk.i64_in _ (by omega)
      have e1' : wrap64 ((v : Int) - 1) = ((v - 1 : Nat) : Int) := by rw [show ((v - 1 : Nat) : Int) = (v : Int) - 1 by omega]; exact IntWalk.wrap64_in _ (by omega)
      have y1 : ((v - 1 : Nat) : Int) < (n : Int) := by omega
      have y2 : v - 1 < n := by omega
      obtain ⟨W, hW⟩ : ∃ W, W = w.setCell ⟨ga, v, none⟩ (.bool true) := ⟨_, rfl⟩
      have hg : PR W x bm bl ta ga na n ⟨S.M, S.tk, set S.gv v true, S.gn⟩ := by rw [hW]; exact h.set_gv (t := v) (by omega) true
      have g1 : (w.setCell ⟨ga, v, none⟩ (.bool true)).cell? ⟨x, 1, none⟩ = some (.pointer (some ⟨bl, 0, none⟩)) := (blkc h.d5).trans c1
      have g2 : (w.setCell ⟨ga, v, none⟩ (.bool true)).cell? ⟨bl, 26, none⟩ = some (.slice (some ⟨hb, ho, none⟩) n kk) := (blkc d.1).trans c26
      have g3 : (w.setCell ⟨ga, v, none⟩ (.bool true)).cell? ⟨hb, ho + (v - 1), none⟩ = some (.int .i64 ((ht v + 1 : Nat) : Int)) := (blkc d.2).trans ch
      have HW := Lib.hid hW
      have HG := Lib.hid hg
      have H1 := Lib.hid h1
      have H3 := Lib.hid h3
      have H4 := Lib.hid h4
      have HT := Lib.hid hbt
      have HV := Lib.hid hbg
      have hsz : (w.setCell ⟨ga, v, none⟩ (.bool true)).heap.size = w.heap.size := by simp
      clear h h1 h3 h4 he hr hbt hbg hg hW
      go_enter Tryz.func17, Tryz.ntmps17
      go_wp2_with fail
      refine CT.out.mono ?_
      rintro r w1 ⟨rfl, e⟩
      obtain rfl := e.symm
      go_wp2
      go_ret2
      have h3 := H3.out
      have h4 := H4.out
      have h1 := H1.out
      have hW := HW.out
      have hp := HG.out
      subst hW
      have bw := bel_new (Below.refl (w.setCell ⟨ga, v, none⟩ (.bool true)).heap.size (w.setCell ⟨ga, v, none⟩ (.bool true))) (.cells #[.pointer (some ⟨x, 0, none⟩), .int .i64 (a : Int), .int .i64 ((ht v : Int) + 1), .int .i64 (v : Int), .int .i64 0, .int .u8 4, .int .u64 0, .int .u64 0, .int .i64 0, .int .i64 0, .int .i64 0] 130)
      have lt := hp.lt
      have ho : OR ((w.setCell ⟨ga, v, none⟩ (.bool true)).alloc (.cells #[.pointer (some ⟨x, 0, none⟩), .int .i64 (a : Int), .int .i64 ((ht v : Int) + 1), .int .i64 (v : Int), .int .i64 0, .int .u8 4, .int .u64 0, .int .u64 0, .int .i64 0, .int .i64 0, .int .i64 0] 130)) (w.setCell ⟨ga, v, none⟩ (.bool true)).heap.size x ⟨a, ht v, v, 0, 4, 0, 0, 0, 0, 0⟩ :=
        ⟨by rw [World.cell?_alloc_new]; rfl, by rw [World.cell?_alloc_new]; rfl, by rw [World.cell?_alloc_new]; rfl, by rw [World.cell?_alloc_new]; rfl, by rw [World.cell?_alloc_new]; rfl, by rw [World.cell?_alloc_new]; rfl, by rw [World.cell?_alloc_new]; rfl, by rw [World.cell?_alloc_new]; rfl, by rw [World.cell?_alloc_new]; rfl, by rw [World.cell?_alloc_new]; rfl, by rw [World.cell?_alloc_new]; rfl, fun j hj => World.frozen?_alloc_new _ _ _ _⟩
      rw [hsz] at ho
      exact .inr ⟨by first | trivial | rfl, a, v, rfl, rfl, by omega, by omega, by omega, HT.out, HV.out, rfl, ho, hp.keep (M := S.M) (fun i hi => bw.block i (by rcases hi with e | e | e | e <;> omega)), Fr.trans (Fr.set (S := fun i => i = ga) (Fr.id _ w) _ _ rfl) (Fr.of_below (S := fun i => i = ga) bw) fun _ _ e => e⟩
    · rw [if_neg (by rw [hbg]; simp)]
      clear h h1 h3 h4 he hr hbt hbg cgf
      go_enter Tryz.func17, Tryz.ntmps17
      go_wp2_with fail
      refine CT.out.mono ?_
      rintro r w1 ⟨rfl, rfl⟩
      go_wp2
      go_ret2
      exact .inl ⟨by decide, rfl, rfl⟩
  · have e : gvE n S t u = 2 := if_neg h1
    rw [e]
    rw [decide_eq_false h1] at CT
    replace CT := Lib.hid CT
    clear h h1 e hr
    go_enter Tryz.func17, Tryz.ntmps17
    go_wp2_with fail
    refine CT.out.mono ?_
    rintro r w1 ⟨rfl, rfl⟩
    go_wp2
    go_ret2
    exact .inl ⟨by decide, rfl, rfl⟩
end Po
end Go.Proofs.YtdkkpaofodicjaaGreat
